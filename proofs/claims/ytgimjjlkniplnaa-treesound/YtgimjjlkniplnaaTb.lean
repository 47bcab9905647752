/- Halves. -/
import Derived.Test.YtgimjjlkniplnaaBk
namespace Go.Proofs.Ytgimjjlkniplnaa
open Go.RowKit Go.Shelf
set_option maxRecDepth 100000
def hlv : Nat → Nat
  | 0 => 0
  | 1 => 0
  | n + 2 => hlv ((n + 2) / 2) + 1
theorem hlv_step {m : Nat} (h : 1 < m) : hlv m = hlv (m / 2) + 1 := by
  match m, h with
  | q + 2, _ => rw [hlv]
theorem hlv_small {m : Nat} (h : ¬ 1 < m) : hlv m = 0 := by
  match m, h with
  | 0, _ => simp [hlv]
  | 1, _ => simp [hlv]
  | q + 2, h => omega
theorem hlv_pow : ∀ (n k : Nat), 2 ^ k ≤ n → k ≤ hlv n
  | 0, k, h => by have := Nat.two_pow_pos k; omega
  | 1, k, h => by
    cases k with
    | zero => exact Nat.zero_le _
    | succ k => rw [Nat.pow_succ] at h; have := Nat.two_pow_pos k; omega
  | n + 2, k, h => by
    unfold hlv
    cases k with
    | zero => exact Nat.zero_le _
    | succ k =>
      rw [Nat.pow_succ] at h
      have := hlv_pow ((n + 2) / 2) k (by omega)
      omega
set_option maxHeartbeats 400000 in
theorem halves27 (n : Nat) (hn : n ≤ 1000) (W : World) : Calls Try.prog 27 #[.int .i64 (n : Int)] W fun e w' => e = .returned (.int .i64 (hlv n : Int)) ∧ W = w' := by
  go_enter Try.func27, Try.ntmps27
  go_wp2_with fail
  go_loopw [0, 3] (fun a b wr => ∃ m k : Nat, a = .int .i64 (m : Int) ∧ b = .int .i64 (k : Int) ∧ Hid (m ≤ 1000 ∧ k ≤ 1000 ∧ k + m ≤ 1000 + 1 ∧ k + hlv m = hlv n ∧ wr = W)) (fun a _ _ => (intOf a).toNat)
  case atStart => exact ⟨n, 0, rfl, rfl, hn, by omega, by omega, by omega, rfl⟩
  case round =>
    obtain ⟨m, k, rfl, rfl, hr⟩ := hrel
    obtain ⟨h1, h2, h3, h4, h5⟩ := hr.out
    have HW : Hid _ := h5
    by_cases h : 1 < m
    · have hi : (1 : Int) < (m : Int) := by omega
      have w1 : wrap64 ((k : Int) + 1) = (k : Int) + 1 := IntWalk.wrap64_in _ (by omega)
      have hd : (m : Int).tdiv 2 = ((m / 2 : Nat) : Int) := by rw [Int.tdiv_eq_ediv_of_nonneg (by omega)]; omega
      have w2 : wrap64 ((m / 2 : Nat) : Int) = ((m / 2 : Nat) : Int) := IntWalk.wrap64_in _ (by omega)
      have HE : Hid (k + 1 + hlv (m / 2) = hlv n) := by
        show _ = _
        have := hlv_step h
        omega
      clear h4 h5 hr
      go_wp2
      go_roundw
      case rel => exact ⟨m / 2, k + 1, by first | rfl | simp, by simp, by omega, by omega, by omega, HE.out, HW.out⟩
      case measure => simp only [intOf]; omega
    · have hi : ¬ ((1 : Int) < (m : Int)) := by omega
      have HE : Hid (hlv n = k) := by
        show _ = _
        have := hlv_small h
        omega
      clear h4 h5 hr
      go_wp2
      go_ret
      refine ⟨?_, HW.out.symm⟩
      rw [show hlv n = k from HE.out]
      rfl
end Go.Proofs.Ytgimjjlkniplnaa
