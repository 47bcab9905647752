/- value.distance; value.Digits at two numbers of one digit. -/
import Derived.Test.YtolggmmlaohpdaaDoorVal
namespace Go.Proofs.YtolggmmlaohpdaaDoor
open Go.RowKit Go.Lib

theorem dist_minus9 (w : World) : Calls Tryd.prog 33 #[.int .i64 (-9)] w fun e w' => e = .returned (.int .u64 9) ∧ w' = w := by
  go_enter Tryd.func33, Tryd.ntmps33
  go_wp2
  go_ret
  exact ⟨by show Ending.returned (.int .u64 _) = _; congr 2, rfl⟩
theorem dist_7 (w : World) : Calls Tryd.prog 33 #[.int .i64 7] w fun e w' => e = .returned (.int .u64 7) ∧ w' = w := by
  go_enter Tryd.func33, Tryd.ntmps33
  go_wp2
  go_ret
  exact ⟨by show Ending.returned (.int .u64 _) = _; congr 2, rfl⟩

theorem conv2 (W : World) (b : Nat) (c0 c1 : UInt8) (h0 : W.cell? ⟨b, 18, none⟩ = some (.int .u8 (c0.toNat : Int))) (h1 : W.cell? ⟨b, 19, none⟩ = some (.int .u8 (c1.toNat : Int))) :
    (convert 37 9 (.slice (some ⟨b, 18, none⟩) 2 2)).run Tryd.prog W = .ok (.string (str [c0, c1])) W := by
  rw [← strOf_eq]
  refine run_convert_bytes_arg W 37 5 Tryd.underlying37 Tryd.underlying5 b 18 2 2 _ (by simp) ?_ 9 Tryd.underlying9
  intro i hi
  match i, hi with
  | 0, _ => simpa using h0
  | 1, _ => simpa using h1
theorem conv1 (W : World) (b : Nat) (c1 : UInt8) (h1 : W.cell? ⟨b, 19, none⟩ = some (.int .u8 (c1.toNat : Int))) :
    (convert 37 9 (.slice (some ⟨b, 19, none⟩) 1 1)).run Tryd.prog W = .ok (.string (str [c1])) W := by
  rw [← strOf_eq]
  refine run_convert_bytes_arg W 37 5 Tryd.underlying37 Tryd.underlying5 b 19 1 1 _ (by simp) ?_ 9 Tryd.underlying9
  intro i hi
  match i, hi with
  | 0, _ => simpa using h1

set_option maxRecDepth 100000 in
set_option maxHeartbeats 2000000 in
theorem digits_minus9 (w : World) : Calls Tryd.prog 16 #[.int .i64 (-9)] w fun e w' => e = .returned (.string ⟨#[45, 57]⟩) ∧ Below w.heap.size w w' := by
  go_enter Tryd.func16, Tryd.ntmps16
  go_wp2_with (go_at_call 33; refine (dist_minus9 _).mono ?_; rintro e w1 ⟨rfl, rfl⟩)
  refine wp_loop_rounds 1 ?_
  rw [rounds_succ]
  go_wp2
  rw [conv2 _ _ 45 57 (by simp) (by simp)]
  go_wp2
  go_ret
  exact ⟨rfl, (Below.refl _ _).alloc (Nat.le_refl _) _⟩

set_option maxRecDepth 100000 in
set_option maxHeartbeats 2000000 in
theorem digits_7 (w : World) : Calls Tryd.prog 16 #[.int .i64 7] w fun e w' => e = .returned (.string ⟨#[55]⟩) ∧ Below w.heap.size w w' := by
  go_enter Tryd.func16, Tryd.ntmps16
  go_wp2_with (go_at_call 33; refine (dist_7 _).mono ?_; rintro e w1 ⟨rfl, rfl⟩)
  refine wp_loop_rounds 1 ?_
  rw [rounds_succ]
  go_wp2
  rw [conv1 _ _ 55 (by simp)]
  go_wp2
  go_ret
  exact ⟨rfl, (Below.refl _ _).alloc (Nat.le_refl _) _⟩

end Go.Proofs.YtolggmmlaohpdaaDoor
