/- The document's Compare, Values, Same, SameRows, SameAt. -/
import Derived.Test.YtpagnphabchfcaaRb
namespace Go.Proofs.Ytpagnphabchfcaa
open Go.RowKit Go.Shelf
set_option maxRecDepth 100000
theorem less_cases : ∀ a b : List UInt8, (Op.bytesLess a b = true ∧ Lib.compareBytes a b = -1) ∨ (Op.bytesLess a b = false ∧ Op.bytesLess b a = true ∧ Lib.compareBytes a b = 1) ∨ (Op.bytesLess a b = false ∧ Op.bytesLess b a = false ∧ Lib.compareBytes a b = 0)
  | [], [] => .inr (.inr ⟨rfl, rfl, rfl⟩)
  | [], _ :: _ => .inl ⟨rfl, rfl⟩
  | _ :: _, [] => .inr (.inl ⟨rfl, rfl, rfl⟩)
  | x :: a, y :: b => by
    have ih := less_cases a b
    by_cases h1 : x < y
    · exact .inl ⟨by simp [Op.bytesLess, h1], by simp [Lib.compareBytes, h1]⟩
    · by_cases h2 : y < x
      · have hne : ¬ (x = y) := fun e => by subst e; exact h1 h2
        exact .inr (.inl ⟨by simp [Op.bytesLess, h1, hne], by simp [Op.bytesLess, h2], by simp [Lib.compareBytes, h1, h2]⟩)
      · obtain rfl : x = y := UInt8.le_antisymm (UInt8.not_lt.1 h2) (UInt8.not_lt.1 h1)
        simpa [Op.bytesLess, Lib.compareBytes, h1] using ih
set_option maxHeartbeats 2000000 in
theorem cmp63 (a b : ByteArray) (w : World) : Calls Try.prog 63 #[.string a, .string b] w fun e w' => e = .returned (.int .i64 (cmpS a b)) ∧ w' = w := by
  have ea : a.toList = bs a := Lib.toList_data a
  have eb : b.toList = bs b := Lib.toList_data b
  unfold cmpS
  rcases less_cases (bs a) (bs b) with ⟨h1, h2⟩ | ⟨h1, h2, h3⟩ | ⟨h1, h2, h3⟩
  · rw [h2]
    go_enter Try.func63, Try.ntmps63
    go_wp2
    go_ret
    exact ⟨rfl, rfl⟩
  · have hne : (bs a == bs b) = false := by
      rw [beq_eq_false_iff_ne]
      intro e
      have := (ordB.eq _ _).2 e
      omega
    rw [h3]
    go_enter Try.func63, Try.ntmps63
    go_wp2
    go_ret
    exact ⟨rfl, rfl⟩
  · have heq : (bs a == bs b) = true := by rw [beq_iff_eq]; exact (ordB.eq _ _).1 h3
    rw [h3]
    go_enter Try.func63, Try.ntmps63
    go_wp2
    go_ret
    exact ⟨rfl, rfl⟩
theorem ints43 (x y : Int) (w : World) : Calls Try.prog 43 #[.int .i64 x, .int .i64 y] w fun e w' => e = .returned (.int .i64 (Lib.compareInt x y)) ∧ w' = w := by
  unfold Lib.compareInt
  by_cases h1 : x < y
  · simp only [h1, if_true]
    go_enter Try.func43, Try.ntmps43
    go_wp2
    go_ret
    exact ⟨rfl, rfl⟩
  · by_cases h2 : y < x
    · simp only [h1, h2, if_true, if_false]
      go_enter Try.func43, Try.ntmps43
      go_wp2
      go_ret
      exact ⟨rfl, rfl⟩
    · simp only [h1, h2, if_false]
      go_enter Try.func43, Try.ntmps43
      go_wp2
      go_ret
      exact ⟨rfl, rfl⟩
set_option maxHeartbeats 2000000 in
theorem cmp42 (x y : Vt) (w : World) : Calls Try.prog 42 #[V x, V y] w fun e w' => e = .returned (.int .i64 (cmpT x y)) ∧ Below w.heap.size w w' := by
  have hA : ∀ o o', Below w.heap.size w ((w.alloc o).alloc o') := fun o o' => bmore (al _ o) (al _ o')
  have hr : cmpT x y = if x.1 < y.1 then -1 else if y.1 < x.1 then 1 else if x.2.1 < y.2.1 then -1 else if y.2.1 < x.2.1 then 1 else cmpS x.2.2 y.2.2 := by
    simp only [cmpT, lexP, Lib.compareInt]
    repeat' split
    all_goals first | rfl | omega
  rw [hr]
  clear hr
  obtain ⟨k, n, s⟩ := x
  obtain ⟨k', n', s'⟩ := y
  simp only
  have c := cmp63 s s'
  by_cases h1 : k < k'
  · simp only [h1, if_true]
    go_enter Try.func42, Try.ntmps42
    go_wp2
    go_ret
    exact ⟨rfl, hA _ _⟩
  · by_cases h2 : k' < k
    · simp only [h1, h2, if_true, if_false]
      go_enter Try.func42, Try.ntmps42
      go_wp2
      go_ret
      exact ⟨rfl, hA _ _⟩
    · by_cases h3 : n < n'
      · simp only [h1, h2, h3, if_true, if_false]
        go_enter Try.func42, Try.ntmps42
        go_wp2
        go_ret
        exact ⟨rfl, hA _ _⟩
      · by_cases h4 : n' < n
        · simp only [h1, h2, h3, h4, if_true, if_false]
          go_enter Try.func42, Try.ntmps42
          go_wp2
          go_ret
          exact ⟨rfl, hA _ _⟩
        · simp only [h1, h2, h3, h4, if_false]
          go_enter Try.func42, Try.ntmps42
          go_wp2_with (go_at_call 63; refine (c _).mono ?_; rintro e w1 ⟨rfl, rfl⟩)
          go_ret
          exact ⟨rfl, hA _ _⟩
end Go.Proofs.Ytpagnphabchfcaa
