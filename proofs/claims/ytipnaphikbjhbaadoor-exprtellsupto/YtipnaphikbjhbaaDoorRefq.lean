/- The reference's Parse. -/
import Derived.Test.YtipnaphikbjhbaaDoorRefp
namespace Go.Proofs.YtipnaphikbjhbaaDoor
open Go.RowKit Go.Lib Go.Joins

theorem parse20 (s : ByteArray) (w : World) (hs : s.size ≤ 1000) (hg : Good w) :
    Calls Tryd.prog 64 #[.string s] w fun e w' => e = .returned (.tuple #[V (rprsV (bs s)).1 (rprsV (bs s)).2.1 (str (rprsV (bs s)).2.2.1), .int .i64 ((rprsV (bs s)).2.2.2 : Nat)]) ∧ Below w.heap.size w w' := by
  have c35 := fun w1 h => unquote28 s w1 (by omega) h
  have c36 := fun w1 => number36 s w1 hs
  have hg2 : ∀ W, Below w.heap.size w W → Good W := fun W h => hg.below h
  have hul := unq_len (bs s)
  rw [bs_length] at hul
  by_cases hc : (unq (bs s)).2.2 = 0 ∧ (unq (bs s)).2.1 = (bs s).length
  · have hcand : candV (bs s) = (2, 0, (unq (bs s)).1) := by unfold candV; rw [if_pos hc]
    have c10 := fun w1 h => print10 2 0 (str (unq (bs s)).1) w1 (by rw [str_size]; omega) (by unfold inI64; omega) h
    rw [bs_str] at c10
    unfold rprsV
    rw [hcand]
    rw [hc.1, hc.2, bs_length] at c35
    simp only
    generalize (unq (bs s)).1 = x at *
    cases hpe : prV 2 0 x with
    | mk p er =>
      rw [hpe] at c10
      by_cases hyes : p = bs s ∧ er = 0
      · obtain ⟨hp, rfl⟩ := hyes
        rw [hp] at c10 ⊢
        simp only [str_bs] at c10
        simp only [if_true]
        exact parse20_ty s (str x) w hg2 c35 c10
      · have hno : ¬ ((p, er) = (bs s, 0)) := fun e => hyes (by simpa using e)
        rw [if_neg hno]
        by_cases he : er = 0
        · subst he
          exact parse20_tn s (str x) (str p) w hg2 c35 c10 (ne_list fun e => hyes ⟨str_eq.1 e, rfl⟩)
        · exact parse20_te s (str x) (str p) er w hg2 c35 c10 (by simpa using he) (by omega)
  · have hcand : candV (bs s) = (1, numV (bs s), []) := by unfold candV; rw [if_neg hc]
    have c10 := fun w1 h => print10 1 (numV (bs s)) ⟨#[]⟩ w1 (by decide) (numF_in _ _) h
    have hpr : prV 1 (numV (bs s)) (bs ⟨#[]⟩) = (itoa (numV (bs s)), 0) := by
      rw [prV_yes (by rw [rightV_int]; rfl), printV_int]
    rw [hpr] at c10
    unfold rprsV
    rw [hcand]
    rw [show bs ⟨#[]⟩ = [] from rfl] at hpr
    simp only [hpr]
    generalize numV (bs s) = n at *
    generalize hu : (unq (bs s)).1 = u at *
    by_cases hyes : itoa n = bs s
    · rw [hyes] at c10 ⊢
      simp only [str_bs] at c10
      simp only [if_true]
      by_cases h1 : (unq (bs s)).2.2 = 0
      · have h2 : ¬ (unq (bs s)).2.1 = s.size := fun e => hc ⟨h1, e⟩
        exact parse20_nyl s (str u) _ _ n w hg2 c35 c36 c10 (by rw [h1]; rfl) (by simpa using fun e => h2 (by omega)) (by omega)
      · exact parse20_nye s (str u) _ _ n w hg2 c35 c36 c10 (by simpa using h1) (by omega)
    · have hno : ¬ ((itoa n, 0) = (bs s, 0)) := fun e => hyes (by simpa using e)
      rw [if_neg hno]
      have hnd : ((str (itoa n)).toList == s.toList) = false := ne_list fun e => hyes (str_eq.1 e)
      by_cases h1 : (unq (bs s)).2.2 = 0
      · have h2 : ¬ (unq (bs s)).2.1 = s.size := fun e => hc ⟨h1, e⟩
        exact parse20_nnl s (str u) _ _ n (str (itoa n)) w hg2 c35 c36 c10 hnd (by rw [h1]; rfl) (by simpa using fun e => h2 (by omega)) (by omega)
      · exact parse20_nne s (str u) _ _ n (str (itoa n)) w hg2 c35 c36 c10 hnd (by simpa using h1) (by omega)
end Go.Proofs.YtipnaphikbjhbaaDoor
