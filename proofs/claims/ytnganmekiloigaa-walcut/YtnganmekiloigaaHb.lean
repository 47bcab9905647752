/- What a log tells; small ones. -/
import Derived.Test.YtnganmekiloigaaHa
namespace Go.Proofs.Ytnganmekiloigaa
open Go.RowKit
set_option maxRecDepth 100000
variable {w w' : World} {B d s x : Nat} {D : Dk} {W : Wl} {G : List Nat}
theorem most33 (w : World) : Calls Try.prog 33 #[] w fun e w' => e = .returned (.int .i64 3648) ∧ w' = w := by
  go_enter Try.func33, Try.ntmps33
  go_wp2
  go_ret
  exact ⟨rfl, rfl⟩
theorem np_int (n : Nat) : ((n : Int) + 56).tdiv 57 = (((n + 56) / 57 : Nat) : Int) := by
  rw [show ((n : Int) + 56) = ((n + 56 : Nat) : Int) by omega]
  exact (Int.ofNat_tdiv _ _).symm
theorem pieces79 (a : Option Addr) (n c : Nat) (hn : n ≤ 1000000) (w : World) : Calls Try.prog 79 #[.slice a n c] w fun e w' => e = .returned (.int .i64 (((n + 56) / 57 : Nat) : Int)) ∧ w' = w := by
  have h1 := np_int n
  have h2 : (n : Int) + 57 - 1 = (n : Int) + 56 := by omega
  go_enter Try.func79, Try.ntmps79
  go_wp2
  go_ret
  refine ⟨?_, rfl⟩
  rw [← h1]
  rfl
/-- The log at x, on the disk at d. -/
theorem room80 {R : Nat} (h : Alone B w d s D G) (hx : Blk w x (wlC d W) 111) (hR : D.secs.length = 2 * R) (hR2 : R ≤ 64) : Calls Try.prog 80 #[.pointer (some ⟨x, 0, none⟩)] w fun e w' => e = .returned (.int .i64 (R : Int)) ∧ w' = w := by
  have c28 : Calls Try.prog 28 #[.pointer (some ⟨d, 0, none⟩)] w fun e w' => e = .returned (.int .i64 (D.secs.length : Int)) ∧ w' = w := by obtain ⟨wv, h1, _⟩ := h; exact size28 h1
  have y0 : w.cell? ⟨x, 0, none⟩ = some (.pointer (some ⟨d, 0, none⟩)) := hx.cell 0
  have h1 := half_int hR
  clear h hx
  generalize D.secs.length = n at *
  clear hR
  go_enter Try.func80, Try.ntmps80
  go_wp2_with (go_at_call 28; (refine c28.mono ?_; rintro e w1 ⟨rfl, rfl⟩))
  go_ret
  exact ⟨rfl, rfl⟩
theorem whole75 (hx : Blk w x (wlC d W) 111) : Calls Try.prog 75 #[.pointer (some ⟨x, 0, none⟩)] w fun e w' => e = .returned (.int .i64 (if W.br then 7 else 0)) ∧ w' = w := by
  have y5 : w.cell? ⟨x, 5, none⟩ = some (.bool W.br) := hx.cell 5
  clear hx
  cases hb : W.br
  · rw [hb] at y5
    go_enter Try.func75, Try.ntmps75
    go_wp2
    go_ret
    exact ⟨rfl, rfl⟩
  · rw [hb] at y5
    go_enter Try.func75, Try.ntmps75
    go_wp2
    go_ret
    exact ⟨rfl, rfl⟩
theorem whole75_nil (w : World) : Calls Try.prog 75 #[.pointer none] w fun e w' => e = .returned (.int .i64 1) ∧ w' = w := by
  go_enter Try.func75, Try.ntmps75
  go_wp2
  go_ret
  exact ⟨rfl, rfl⟩
theorem takes78_nil (v : Value) (w : World) : Calls Try.prog 78 #[.pointer none, v] w fun e w' => e = .returned (.int .i64 1) ∧ w' = w := by
  have k75 := whole75_nil w
  go_enter Try.func78, Try.ntmps78
  go_wp2_with (go_at_call 75; (refine k75.mono ?_; rintro e w1 ⟨rfl, rfl⟩))
  go_ret
  exact ⟨rfl, rfl⟩
/-- Why a record may be in no half. -/
def takesP (br : Bool) (n : Nat) : Int := if br then 7 else if n < 1 ∨ 3648 < n then 2 else 0
theorem takes78 (hx : Blk w x (wlC d W) 111) (a : Option Addr) (n c : Nat) : Calls Try.prog 78 #[.pointer (some ⟨x, 0, none⟩), .slice a n c] w fun e w' => e = .returned (.int .i64 (takesP W.br n)) ∧ w' = w := by
  have k75 := whole75 hx
  have k33 := most33 w
  clear hx
  unfold takesP
  cases hb : W.br
  · rw [hb] at k75
    simp only [Bool.false_eq_true, if_false] at k75 ⊢
    by_cases h1 : n < 1
    · have h1' : (n : Int) < 1 := by omega
      rw [if_pos (.inl h1)]
      go_enter Try.func78, Try.ntmps78
      go_wp2_with (go_at_call 75; (refine k75.mono ?_; rintro e w1 ⟨rfl, rfl⟩))
      go_ret
      exact ⟨rfl, rfl⟩
    · have h1' : ¬ (n : Int) < 1 := by omega
      by_cases h2 : 3648 < n
      · have h2' : (3648 : Int) < (n : Int) := by omega
        rw [if_pos (.inr h2)]
        go_enter Try.func78, Try.ntmps78
        go_wp2_with (first | (go_at_call 75; (refine k75.mono ?_; rintro e w1 ⟨rfl, rfl⟩)) | (go_at_call 33; (refine k33.mono ?_; rintro e w2 ⟨rfl, rfl⟩)))
        go_ret
        exact ⟨rfl, rfl⟩
      · have h2' : ¬ (3648 : Int) < (n : Int) := by omega
        rw [if_neg (by omega)]
        go_enter Try.func78, Try.ntmps78
        go_wp2_with (first | (go_at_call 75; (refine k75.mono ?_; rintro e w1 ⟨rfl, rfl⟩)) | (go_at_call 33; (refine k33.mono ?_; rintro e w2 ⟨rfl, rfl⟩)))
        go_ret
        exact ⟨rfl, rfl⟩
  · rw [hb] at k75
    simp only [if_true] at k75 ⊢
    go_enter Try.func78, Try.ntmps78
    go_wp2_with (go_at_call 75; (refine k75.mono ?_; rintro e w1 ⟨rfl, rfl⟩))
    go_ret
    exact ⟨rfl, rfl⟩
theorem len46 (hx : Blk w x (wlC d W) 111) : Calls Try.prog 46 #[.pointer (some ⟨x, 0, none⟩)] w fun e w' => e = .returned (.int .i64 (W.cnt : Int)) ∧ w' = w := by
  have y : w.cell? ⟨x, 3, none⟩ = some (.int .i64 (W.cnt : Int)) := hx.cell 3
  clear hx
  go_enter Try.func46, Try.ntmps46
  go_wp2
  go_ret
  exact ⟨rfl, rfl⟩
theorem half43 (hx : Blk w x (wlC d W) 111) : Calls Try.prog 43 #[.pointer (some ⟨x, 0, none⟩)] w fun e w' => e = .returned (.int .i64 (W.half : Int)) ∧ w' = w := by
  have y : w.cell? ⟨x, 1, none⟩ = some (.int .i64 (W.half : Int)) := hx.cell 1
  clear hx
  go_enter Try.func43, Try.ntmps43
  go_wp2
  go_ret
  exact ⟨rfl, rfl⟩
theorem epoch48 (hx : Blk w x (wlC d W) 111) : Calls Try.prog 48 #[.pointer (some ⟨x, 0, none⟩)] w fun e w' => e = .returned (.int .i64 (W.e : Int)) ∧ w' = w := by
  have y : w.cell? ⟨x, 2, none⟩ = some (.int .i64 (W.e : Int)) := hx.cell 2
  clear hx
  go_enter Try.func48, Try.ntmps48
  go_wp2
  go_ret
  exact ⟨rfl, rfl⟩
theorem len46_nil (w : World) : Calls Try.prog 46 #[.pointer none] w fun e w' => e = .returned (.int .i64 0) ∧ w' = w := by
  go_enter Try.func46, Try.ntmps46
  go_wp2
  go_ret
  exact ⟨rfl, rfl⟩
theorem left47_nil (w : World) : Calls Try.prog 47 #[.pointer none] w fun e w' => e = .returned (.int .i64 0) ∧ w' = w := by
  go_enter Try.func47, Try.ntmps47
  go_wp2
  go_ret
  exact ⟨rfl, rfl⟩
theorem half43_nil (w : World) : Calls Try.prog 43 #[.pointer none] w fun e w' => e = .returned (.int .i64 0) ∧ w' = w := by
  go_enter Try.func43, Try.ntmps43
  go_wp2
  go_ret
  exact ⟨rfl, rfl⟩
theorem epoch48_nil (w : World) : Calls Try.prog 48 #[.pointer none] w fun e w' => e = .returned (.int .i64 0) ∧ w' = w := by
  go_enter Try.func48, Try.ntmps48
  go_wp2
  go_ret
  exact ⟨rfl, rfl⟩
theorem broken49_nil (w : World) : Calls Try.prog 49 #[.pointer none] w fun e w' => e = .returned (.bool false) ∧ w' = w := by
  go_enter Try.func49, Try.ntmps49
  go_wp2
  go_ret
  exact ⟨rfl, rfl⟩
theorem flush39_nil (w : World) : Calls Try.prog 39 #[.pointer none] w fun e w' => e = .returned (.int .i64 1) ∧ w' = w := by
  have k75 := whole75_nil w
  go_enter Try.func39, Try.ntmps39
  go_wp2_with (go_at_call 75; (refine k75.mono ?_; rintro e w1 ⟨rfl, rfl⟩))
  go_ret
  exact ⟨rfl, rfl⟩
theorem append42_nil (a : Option Addr) (n c : Nat) (w : World) : Calls Try.prog 42 #[.pointer none, .slice a n c] w fun e w' => e = .returned (.tuple #[.int .i64 0, .int .i64 1]) ∧ Below w.heap.size w w' := by
  have k78 := fun W => takes78_nil (.slice a n c) W
  go_enter Try.func42, Try.ntmps42
  go_wp2_with (go_at_call 78; (refine (k78 _).mono ?_; rintro e w1 ⟨rfl, rfl⟩))
  refine bodyPost_ret (v := .tuple #[.int .i64 0, .int .i64 1]) (by simp [results, Try.results42]) rfl ⟨rfl, bmore (al _ _) (al _ _)⟩
theorem switch41_nil (a : Option Addr) (n c : Nat) (w : World) : Calls Try.prog 41 #[.pointer none, .slice a n c] w fun e w' => e = .returned (.int .i64 1) ∧ Below w.heap.size w w' := by
  have k78 := fun W => takes78_nil (.slice a n c) W
  go_enter Try.func41, Try.ntmps41
  go_wp2_with (go_at_call 78; (refine (k78 _).mono ?_; rintro e w1 ⟨rfl, rfl⟩))
  go_ret
  exact ⟨rfl, bmore (al _ _) (al _ _)⟩
end Go.Proofs.Ytnganmekiloigaa
