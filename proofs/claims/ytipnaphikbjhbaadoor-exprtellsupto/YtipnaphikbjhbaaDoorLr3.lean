/- The reference's next, whole. -/
import Derived.Test.YtipnaphikbjhbaaDoorLr2
namespace Go.Proofs.YtipnaphikbjhbaaDoor
open Go.RowKit Go.Lib Go.Joins
set_option maxRecDepth 100000

theorem clr_yes {x : Q4} (h : x.2.2.2 ≠ 0) : clr x = x := if_neg h
theorem clr_zero {x : Q4} (h : x.2.2.2 = 0) : clr x = (0, [], 0, 0) := if_pos h
theorem clr_word (d : Bs) (hd : d ≠ []) : clr (wordT d) = wordT d := by
  unfold clr wordT
  split
  · rfl
  · rw [if_neg]
    intro h
    exact hd (List.eq_nil_of_length_eq_zero h)
theorem clr_quo (l : Bs) : clr (quoT l) = quoT l := by
  unfold clr quoT
  split
  · rename_i h0
    rw [if_neg]
    intro h
    simp only at h
    unfold unq at h0 h
    split at h0
    · simp at h0
    · split at h0
      · rename_i hb
        simp only [hb, if_true] at h
        split at h0
        · simp at h0
        · rename_i x k hs
          rw [hs] at h
          simp only at h h0
          split at h0
          · rename_i hr
            rw [if_pos hr] at h
            simp at h
          · simp at h0
      · simp at h0
  · rfl
theorem letter_else {b : UInt8} (h : ltrI (b.toNat : Int) = true) : b ≠ 45 ∧ digI (b.toNat : Int) = false ∧ b ≠ 39 := by
  refine ⟨fun e => ?_, ?_, fun e => ?_⟩
  · rw [e] at h; exact absurd h (by decide)
  · simp only [ltrI, Bool.or_eq_true, Bool.and_eq_true, decide_eq_true_eq] at h
    simp only [digI, Bool.and_eq_false_iff, decide_eq_false_iff_not]
    omega
  · rw [e] at h; exact absurd h (by decide)
/-- The token that a text begins with, of the reference. -/
theorem rnext18 (s : ByteArray) (b : UInt8) (t : Bs) (hs : s.size ≤ 1000) (ht : bs s = b :: t) (w : World) (hg : Good w) :
    Calls Tryd.prog 57 #[.string s] w (BegPost w (clr (begB (bs s)))) := by
  rw [ht, begB_cons]
  cases hl : ltrI (b.toNat : Int)
  · by_cases h45 : b = 45
    · rw [if_pos h45, clr_num _ (by rw [Nat.add_comm, List.take_succ_cons]; simp)]
      exact rnext18_num s b t hs ht w hg hl (.inr h45)
    · rw [if_neg h45]
      cases hd : digI (b.toNat : Int)
      · rw [if_neg (by simp), if_neg (by simp)]
        by_cases h39 : b = 39
        · rw [if_pos h39, clr_quo, ← ht]
          subst h39
          exact rnext18_quo s t hs ht w hg
        · rw [if_neg h39, ← ht]
          exact rnext18_sgn s b t ht w h45 hd hl h39
      · rw [if_pos rfl, runP_yes hd, clr_num _ (by rw [List.take_succ_cons]; simp), Nat.add_comm]
        exact rnext18_num s b t hs ht w hg hl (.inl hd)
  · obtain ⟨h1, h2, h3⟩ := letter_else hl
    have hgo : goI (b.toNat : Int) = true := by simp [goI, hl]
    rw [if_neg h1, h2, if_neg (by simp), if_pos rfl, clr_word _ (by rw [runP_yes hgo, List.take_succ_cons]; simp), ← ht]
    exact rnext18_word s b t hs ht w hl

end Go.Proofs.YtipnaphikbjhbaaDoor
