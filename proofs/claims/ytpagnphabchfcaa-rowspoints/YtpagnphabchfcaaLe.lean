/- Less, by plain data. -/
import Derived.Test.YtpagnphabchfcaaSa
namespace Go.Proofs.Ytpagnphabchfcaa
open Go.Shelf Go.RowKit
set_option maxRecDepth 100000
instance (priority := 20000) rwBEq : BEq Rw := instBEqOfDecidableEq
instance (priority := 20000) rwLaw : LawfulBEq Rw := inferInstanceAs (@LawfulBEq Rw instBEqOfDecidableEq)
/-- Of rising rows those that the other rising ones do not take away. -/
def lessL : List Rw → List Rw → List Rw
  | [], _ => []
  | x :: a, r => match r.dropWhile (fun y => decide (cmpR y x = -1)) with
    | [] => x :: lessL a []
    | y :: r' => if y = x then lessL a r' else x :: lessL a (y :: r')
theorem lessL_drop {x y : Rw} {a r : List Rw} (h : cmpR y x = -1) : lessL (x :: a) (y :: r) = lessL (x :: a) r := by
  unfold lessL
  rw [List.dropWhile_cons_of_pos (by simpa using h)]
theorem lessL_nil (x : Rw) (a : List Rw) : lessL (x :: a) [] = x :: lessL a [] := by
  conv => lhs; unfold lessL
  rfl
theorem lessL_eq (x : Rw) (a r : List Rw) : lessL (x :: a) (x :: r) = lessL a r := by
  conv => lhs; unfold lessL
  have h0 : ¬ cmpR x x = -1 := by have := (ordR.eq x x).2 rfl; omega
  rw [List.dropWhile_cons_of_neg (by simpa using h0)]
  simp
theorem lessL_ne {x y : Rw} {a r : List Rw} (h1 : ¬ cmpR y x = -1) (h2 : ¬ y = x) : lessL (x :: a) (y :: r) = x :: lessL a (y :: r) := by
  conv => lhs; unfold lessL
  rw [List.dropWhile_cons_of_neg (by simpa using h1)]
  simp [h2]
theorem rise_head {x : Rw} {l : List Rw} (h : Rise (x :: l)) : ∀ y ∈ l, cmpR y x ≠ -1 := (List.pairwise_cons.1 h).1
theorem lessL_count (z : Rw) : ∀ (a r : List Rw), Rise a → Rise r → (lessL a r).count z = a.count z - r.count z
  | [], r, _, _ => by simp [lessL]
  | x :: a, [], ha, hr => by
    rw [lessL_nil, List.count_cons, List.count_cons, lessL_count z a [] (List.pairwise_cons.1 ha).2 hr]
    simp
  | x :: a, y :: r, ha, hr => by
    have ha' := (List.pairwise_cons.1 ha).2
    have hr' := (List.pairwise_cons.1 hr).2
    by_cases h1 : cmpR y x = -1
    · rw [lessL_drop h1, lessL_count z (x :: a) r ha hr', List.count_cons (a := z) (b := y)]
      by_cases hz : y = z
      · subst hz
        have h0 : (x :: a).count y = 0 := by
          rw [List.count_eq_zero]
          intro hm
          rcases List.mem_cons.1 hm with e | hm
          · rw [e] at h1; have := (ordR.eq x x).2 rfl; omega
          · exact rise_head ha y hm h1
        rw [h0]; simp
      · simp [hz]
    · by_cases h2 : y = x
      · subst h2
        rw [lessL_eq, lessL_count z a r ha' hr', List.count_cons, List.count_cons]
        omega
      · rw [lessL_ne h1 h2, List.count_cons, lessL_count z a (y :: r) ha' hr, List.count_cons (a := z) (b := x)]
        by_cases hz : x = z
        · subst hz
          have h0 : (y :: r).count x = 0 := by
            rw [List.count_eq_zero]
            intro hm
            have t := ordR.three x y
            have n := ordR.neg x y
            rcases List.mem_cons.1 hm with e | hm
            · exact h2 e.symm
            · have h3 := rise_head hr x hm
              have : cmpR x y = 0 := by omega
              exact h2 ((ordR.eq _ _).1 this).symm
          rw [h0]; simp
        · simp [hz]
  termination_by a r => a.length + r.length
theorem lessL_sub : ∀ (a r : List Rw), (lessL a r).Sublist a
  | [], r => by simp [lessL]
  | x :: a, [] => by rw [lessL_nil]; exact (lessL_sub a []).cons_cons x
  | x :: a, y :: r => by
    by_cases h1 : cmpR y x = -1
    · rw [lessL_drop h1]; exact lessL_sub (x :: a) r
    · by_cases h2 : y = x
      · subst h2
        rw [lessL_eq]; exact (lessL_sub a r).cons _
      · rw [lessL_ne h1 h2]; exact (lessL_sub a (y :: r)).cons_cons x
  termination_by a r => a.length + r.length
theorem lessL_rise {a r : List Rw} (h : Rise a) : Rise (lessL a r) := h.sublist (lessL_sub a r)
/-- What is in the one alone. -/
def lessR (a b : List Rw) : List Rw := lessL (sortR a) (sortR b)
theorem lessR_count (z : Rw) (a b : List Rw) : (lessR a b).count z = a.count z - b.count z := by
  unfold lessR
  rw [lessL_count z _ _ (sortR_rise a) (sortR_rise b), (sortR_perm a).count_eq, (sortR_perm b).count_eq]
end Go.Proofs.Ytpagnphabchfcaa
