/- A nil disk answers so; disks that there are not. -/
import Derived.Test.YtffkpomnbanaoaaRr
namespace Go.Proofs.Ytffkpomnbanaoaa
open Go.RowKit
set_option maxRecDepth 100000
variable {W : World}

theorem none56 : Calls Try.prog 56 #[.pointer none] W fun e w' => e = .returned (.int .i64 1) ∧ w' = W := by
  go_enter Try.func56, Try.ntmps56
  go_wp2
  go_ret
  exact ⟨rfl, rfl⟩
theorem none53 (i : Int) : Calls Try.prog 53 #[.pointer none, .int .i64 i] W fun e w' => e = .returned (.int .i64 1) ∧ w' = W := by
  have c56 := none56 (W := W)
  go_enter Try.func53, Try.ntmps53
  go_wp2_with (go_at_call 56; (refine c56.mono ?_; rintro e w1 ⟨rfl, rfl⟩))
  go_ret
  exact ⟨rfl, rfl⟩
theorem none23 (i : Int) : Calls Try.prog 23 #[.pointer none, .int .i64 i] W fun e w' => e = .returned (.tuple #[]) ∧ w' = W := by
  have c56 := none56 (W := W)
  go_enter Try.func23, Try.ntmps23
  go_wp2_with (go_at_call 56; (refine c56.mono ?_; rintro e w1 ⟨rfl, rfl⟩))
  refine bodyPost_ret (results_none rfl _ _ _) rfl ?_
  exact ⟨rfl, rfl⟩
theorem none19 (i : Int) : Calls Try.prog 19 #[.pointer none, .int .i64 i] W fun e w' => e = .returned (.tuple #[.slice none 0 0, .int .i64 1]) ∧ w' = W := by
  have c53 := none53 (W := W) i
  go_enter Try.func19, Try.ntmps19
  go_wp2_with (go_at_call 53; (refine c53.mono ?_; rintro e w1 ⟨rfl, rfl⟩))
  go_ret2
  exact ⟨rfl, rfl⟩
theorem none22 (i : Int) : Calls Try.prog 22 #[.pointer none, .int .i64 i, .slice none 0 0] W fun e w' => e = .returned (.int .i64 1) ∧ w' = W := by
  have c53 := none53 (W := W) i
  go_enter Try.func22, Try.ntmps22
  go_wp2_with (go_at_call 53; (refine c53.mono ?_; rintro e w1 ⟨rfl, rfl⟩))
  go_ret
  exact ⟨rfl, rfl⟩
theorem none24 : Calls Try.prog 24 #[.pointer none] W fun e w' => e = .returned (.int .i64 1) ∧ w' = W := by
  have c56 := none56 (W := W)
  go_enter Try.func24, Try.ntmps24
  go_wp2_with (go_at_call 56; (refine c56.mono ?_; rintro e w1 ⟨rfl, rfl⟩))
  go_ret
  exact ⟨rfl, rfl⟩
theorem none28 : Calls Try.prog 28 #[.pointer none] W fun e w' => e = .returned (.int .i64 0) ∧ w' = W := by
  go_enter Try.func28, Try.ntmps28
  go_wp2
  go_ret
  exact ⟨rfl, rfl⟩
theorem none20 : Calls Try.prog 20 #[.pointer none] W fun e w' => e = .returned (.bool false) ∧ w' = W := by
  go_enter Try.func20, Try.ntmps20
  go_wp2
  go_ret
  exact ⟨rfl, rfl⟩
theorem none21 : Calls Try.prog 21 #[.pointer none] W fun e w' => e = .returned (.int .i64 0) ∧ w' = W := by
  go_enter Try.func21, Try.ntmps21
  go_wp2
  go_ret
  exact ⟨rfl, rfl⟩
theorem none25 : Calls Try.prog 25 #[.pointer none] W fun e w' => e = .returned (.pointer none) ∧ w' = W := by
  go_enter Try.func25, Try.ntmps25
  go_wp2
  go_ret
  exact ⟨rfl, rfl⟩
theorem none29 (n : Int) (hn : n < 1 ∨ 128 < n) : Calls Try.prog 29 #[.int .i64 n] W fun e w' => e = .returned (.pointer none) ∧ w' = W := by
  by_cases h1 : n < 1
  · clear hn
    go_enter Try.func29, Try.ntmps29
    go_wp2
    go_ret
    exact ⟨rfl, rfl⟩
  · have h2 : 128 < n := by omega
    clear hn
    go_enter Try.func29, Try.ntmps29
    go_wp2
    go_ret
    exact ⟨rfl, rfl⟩
end Go.Proofs.Ytffkpomnbanaoaa
