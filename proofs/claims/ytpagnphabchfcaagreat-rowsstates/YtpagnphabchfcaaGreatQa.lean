/- What the document's rows answer, plain. -/
import Derived.Test.YtpagnphabchfcaaGreatGd
namespace Go.Proofs.YtpagnphabchfcaaGreat
set_option maxRecDepth 100000
theorem not_before {x y z : Rw} (h1 : cmpR z y ≠ -1) (h2 : cmpR x z ≠ -1) : cmpR x y ≠ -1 := fun h => by
  have t := ordR.three z y
  rcases t with t | t | t
  · exact h1 t
  · rw [(ordR.eq z y).1 t] at h2
    exact h2 h
  · have n := ordR.neg z y
    exact h2 (ordR.trans x y z h (by omega))
theorem rise_insert {os : List Rw} {x : Rw} {n : Nat} (h : Rise os) (h1 : ∀ y ∈ os.drop n, cmpR x y = -1) (h2 : ∀ y, os[n - 1]? = some y → 0 < n → cmpR x y ≠ -1) (hn : n ≤ os.length) : Rise (os.take n ++ x :: os.drop n) := by
  have h3 : ∀ y ∈ os.take n, cmpR x y ≠ -1 := fun y hy => by
    obtain ⟨k, hk⟩ := List.mem_iff_getElem?.1 hy
    have hkl := (List.getElem?_eq_some_iff.1 hk).1
    rw [List.length_take] at hkl
    have hk' : os[k]? = some y := by rw [List.getElem?_take_of_lt (by omega)] at hk; exact hk
    have hz := List.getElem?_eq_getElem (l := os) (i := n - 1) (by omega)
    have q2 := h2 _ hz (by omega)
    by_cases e : k = n - 1
    · subst e
      rw [hk'] at hz
      cases hz
      exact q2
    · have q1 := List.pairwise_iff_getElem.1 h k (n - 1) (by omega) (by omega) (by omega)
      rw [List.getElem?_eq_getElem (by omega)] at hk'
      cases hk'
      exact not_before q1 q2
  unfold Rise
  rw [List.pairwise_append]
  refine ⟨h.sublist (List.take_sublist _ _), List.pairwise_cons.2 ⟨fun y hy => ?_, h.sublist (List.drop_sublist _ _)⟩, fun y hy z hz => ?_⟩
  · have := h1 y hy
    have n := ordR.neg x y
    omega
  · rcases List.mem_cons.1 hz with rfl | hz
    · exact h3 y hy
    · have e : os = os.take n ++ os.drop n := (List.take_append_drop n os).symm
      unfold Rise at h
      rw [e, List.pairwise_append] at h
      exact h.2.2 y hy z hz
theorem perm_insert {os l : List Rw} {x : Rw} {n : Nat} (h : os.Perm l) : (os.take n ++ x :: os.drop n).Perm (l ++ [x]) := by
  refine List.perm_middle.trans ?_
  rw [List.take_append_drop]
  exact (List.Perm.cons x h).trans (List.perm_append_singleton x l).symm
/-- Of rows those that others do not take away, each taking one. -/
def lessE : List Rw → List Rw → List Rw
  | [], _ => []
  | x :: a, r => if x ∈ r then lessE a (r.erase x) else x :: lessE a r
theorem lessE_count (z : Rw) : ∀ (a r : List Rw), (lessE a r).count z = a.count z - r.count z
  | [], r => by simp [lessE]
  | x :: a, r => by
    unfold lessE
    split
    · rename_i h
      rw [lessE_count z a _, List.count_cons]
      by_cases e : x = z
      · subst e
        have := List.one_le_count_iff.2 h
        rw [List.count_erase_self]
        simp
        omega
      · rw [List.count_erase_of_ne (fun q => e q.symm)]
        simp [e]
    · rename_i h
      rw [List.count_cons, lessE_count z a r, List.count_cons]
      by_cases e : x = z
      · subst e
        rw [List.count_eq_zero.2 h]
        simp
      · simp [e]
theorem lessE_sub : ∀ (a r : List Rw), (lessE a r).Sublist a
  | [], r => by simp [lessE]
  | x :: a, r => by
    unfold lessE
    split
    · exact (lessE_sub a _).cons x
    · exact (lessE_sub a r).cons_cons x
theorem lessE_eq (a b : List Rw) : lessE (sortR a) (sortR b) = lessR a b := by
  refine rise_unique ((sortR_rise a).sublist (lessE_sub _ _)) (lessL_rise (sortR_rise a)) (List.perm_iff_count.2 fun z => ?_)
  rw [lessE_count, (sortR_perm a).count_eq, (sortR_perm b).count_eq]
  exact (lessR_count z a b).symm
/-- Values that rise. -/
def StrictT (A : List Vt) : Prop := A.Pairwise fun a b => cmpT a b = -1
theorem strictT_unique {A B : List Vt} (ha : StrictT A) (hb : StrictT B) (h : ∀ v, v ∈ A ↔ v ∈ B) : A = B := by
  have nd : ∀ {C : List Vt}, StrictT C → C.Nodup := fun {C} hc => hc.imp fun {a b} q e => by subst e; rw [(ordT.eq a a).2 rfl] at q; omega
  refine List.Perm.eq_of_pairwise (fun a b _ _ h1 h2 => ?_) ha hb ((List.perm_ext_iff_of_nodup (nd ha) (nd hb)).2 h)
  have := ordT.neg a b
  omega
def RiseI (A : List Int) : Prop := A.Pairwise fun a b => a < b
theorem riseI_unique {A B : List Int} (ha : RiseI A) (hb : RiseI B) (h : ∀ v, v ∈ A ↔ v ∈ B) : A = B := by
  have nd : ∀ {C : List Int}, RiseI C → C.Nodup := fun {C} hc => hc.imp fun {a b} q e => by omega
  refine List.Perm.eq_of_pairwise (fun a b _ _ h1 h2 => ?_) ha hb ((List.perm_ext_iff_of_nodup (nd ha) (nd hb)).2 h)
  omega
end Go.Proofs.YtpagnphabchfcaaGreat
