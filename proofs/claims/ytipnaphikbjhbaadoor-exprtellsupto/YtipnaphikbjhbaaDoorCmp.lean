/- Which of two texts comes first: word.Compare and the reference's. -/
import Derived.Test.YtipnaphikbjhbaaDoorRefs2
namespace Go.Proofs.YtipnaphikbjhbaaDoor
open Go.RowKit Go.Lib

theorem cmp23 (a b : ByteArray) (w : World) :
    Calls Tryd.prog 37 #[.string a, .string b] w fun e w' => e = .returned (.int .i64 (Lib.compareBytes (bs a) (bs b))) ∧ w' = w := by
  have c := Tryd.strings_Compare a b w
  go_enter Tryd.func37, Tryd.ntmps37
  go_wp2_with (go_at_call 55; refine c.mono ?_; rintro e w1 ⟨rfl, rfl⟩)
  go_ret
  exact ⟨rfl, rfl⟩

theorem less_cases : ∀ a b : Bs, (Op.bytesLess a b = true ∧ Lib.compareBytes a b = -1) ∨ (Op.bytesLess a b = false ∧ Op.bytesLess b a = true ∧ Lib.compareBytes a b = 1) ∨ (Op.bytesLess a b = false ∧ Op.bytesLess b a = false ∧ Lib.compareBytes a b = 0)
  | [], [] => .inr (.inr ⟨rfl, rfl, rfl⟩)
  | [], _ :: _ => .inl ⟨rfl, rfl⟩
  | _ :: _, [] => .inr (.inl ⟨rfl, rfl, rfl⟩)
  | x :: a, y :: b => by
    have ih := less_cases a b
    by_cases h1 : x < y
    · exact .inl ⟨by simp [Op.bytesLess, h1], by simp [Lib.compareBytes, h1]⟩
    · by_cases h2 : y < x
      · have hne : ¬ (x = y) := fun e => by subst e; exact h1 h2
        exact .inr (.inl ⟨by simp [Op.bytesLess, h1, hne], by simp [Op.bytesLess, h2], by simp [Lib.compareBytes, h1, h2]⟩)
      · obtain rfl : x = y := UInt8.le_antisymm (UInt8.not_lt.1 h2) (UInt8.not_lt.1 h1)
        simpa [Op.bytesLess, Lib.compareBytes, h1] using ih

theorem cmp_self : ∀ a : Bs, Lib.compareBytes a a = 0
  | [] => rfl
  | x :: a => by
    unfold Lib.compareBytes
    rw [if_neg (UInt8.lt_irrefl x), if_neg (UInt8.lt_irrefl x), cmp_self a]
theorem cmp_zero : ∀ a b : Bs, Lib.compareBytes a b = 0 → a = b
  | [], [], _ => rfl
  | [], _ :: _, h => by simp [Lib.compareBytes] at h
  | _ :: _, [], h => by simp [Lib.compareBytes] at h
  | x :: a, y :: b, h => by
    unfold Lib.compareBytes at h
    split at h
    · simp at h
    · split at h
      · simp at h
      · rename_i h1 h2
        rw [UInt8.le_antisymm (UInt8.not_lt.1 h2) (UInt8.not_lt.1 h1), cmp_zero a b h]

set_option maxRecDepth 100000 in
set_option maxHeartbeats 2000000 in
theorem cmp24 (a b : ByteArray) (w : World) :
    Calls Tryd.prog 38 #[.string a, .string b] w fun e w' => e = .returned (.int .i64 (Lib.compareBytes (bs a) (bs b))) ∧ w' = w := by
  have ea : a.toList = bs a := toList_data a
  have eb : b.toList = bs b := toList_data b
  rcases less_cases (bs a) (bs b) with ⟨h1, h2⟩ | ⟨h1, h2, h3⟩ | ⟨h1, h2, h3⟩
  · rw [h2]
    go_enter Tryd.func38, Tryd.ntmps38
    go_wp2
    go_ret
    exact ⟨rfl, rfl⟩
  · have hne : (a.data == b.data) = false := by
      rw [beq_eq_false_iff_ne]
      intro e
      have : bs a = bs b := by unfold bs; rw [e]
      rw [this, cmp_self] at h3
      simp at h3
    rw [h3]
    go_enter Tryd.func38, Tryd.ntmps38
    go_wp2
    go_ret
    exact ⟨rfl, rfl⟩
  · have heq : (a.data == b.data) = true := by
      rw [beq_iff_eq]
      exact Array.toList_inj.1 (cmp_zero _ _ h3)
    rw [h3]
    go_enter Tryd.func38, Tryd.ntmps38
    go_wp2
    go_ret
    exact ⟨rfl, rfl⟩

end Go.Proofs.YtipnaphikbjhbaaDoor
