/- The document's Write of every sector and bytes; land, Flush, Crash. -/
import Derived.Test.YtnganmekiloigaaRx
namespace Go.Proofs.Ytnganmekiloigaa
open Go.RowKit
set_option maxRecDepth 100000
variable {W : World} {r : Nat} {lv xv : Value} {D : Dk}

set_option maxHeartbeats 2000000 in
theorem rwrite60 (h : RD W r lv xv D) (i : Int) (v : Value) (l : Bs) (hv : SB W v l) (hvf : ∀ a n c, v = .slice (some a) n c → 0 < l.length → a.block ≠ r) (hw : D.wait.length ≤ 1000) :
    Calls Try.prog 60 #[.pointer (some ⟨r, 0, none⟩), .int .i64 i, v] W fun e w' => e = .returned (.int .i64 (D.write i l).1) ∧ RLeft W r lv xv (D.write i l).2 w' := by
  obtain ⟨va, vc, hve, _⟩ := hv.form
  obtain ⟨L, hx, hL⟩ := h.dx
  have x4 := hx.c4
  have x0 := hx.c0
  obtain ⟨lg, lc, rfl, hlS, hlg, hlr⟩ := h.secs
  have hS := RLeft.same h (Keep.refl _ W)
  unfold Dk.write Dk.reach
  by_cases ho : D.off = true
  · rw [ho] at x4
    simp only [ho, if_true]
    subst hve
    clear h hx hL hv hvf hlS
    rw [if_neg (by decide)]
    go_enter Try.func60, Try.ntmps60
    go_wp2
    go_ret
    exact ⟨rfl, hS⟩
  · have ho' : D.off = false := by simpa using ho
    rw [ho'] at x4
    simp only [ho', Bool.false_eq_true, if_false]
    by_cases hr : 0 ≤ i ∧ i < D.secs.length
    · rw [if_pos hr, if_pos rfl]
      obtain ⟨k, rfl⟩ : ∃ k : Nat, i = (k : Int) := ⟨i.toNat, by omega⟩
      by_cases hn : l.length ≤ 64
      · rw [if_pos hn]
        cases hsp : D.spend.1
        · rw [if_neg (by simp)]
          have c87 := rspend87 h
          rw [hsp] at c87
          subst hve
          have hr1 := hr.2
          have hi1 : ¬ ((k : Int) < 0) := by omega
          have hi2 : ¬ ((D.secs.length : Int) ≤ (k : Int)) := by omega
          have hn' : ¬ ((64 : Int) < (l.length : Int)) := by omega
          clear h hx hL hv hvf hlS hsp hS
          go_enter Try.func60, Try.ntmps60
          go_wp2_with (go_at_call 87; (refine c87.mono ?_; rintro e w2 ⟨rfl, hp2, hk2⟩))
          go_ret
          exact ⟨rfl, RLeft.same hp2 hk2⟩
        · rw [if_pos rfl]
          have := rwrite60_yes h k v l (by omega) hv hvf hn hw ho' hsp
          simpa using this
      · rw [if_neg hn]
        subst hve
        have hi1 : ¬ ((k : Int) < 0) := by omega
        have hi2 : ¬ ((D.secs.length : Int) ≤ (k : Int)) := by omega
        have hn' : (64 : Int) < (l.length : Int) := by omega
        clear h hx hL hv hvf hlS
        go_enter Try.func60, Try.ntmps60
        go_wp2
        go_ret
        exact ⟨rfl, hS⟩
    · rw [if_neg hr, if_neg (by decide)]
      subst hve
      clear h hx hL hv hvf hlS
      by_cases h0 : i < 0
      · go_enter Try.func60, Try.ntmps60
        go_wp2
        go_ret
        exact ⟨rfl, hS⟩
      · have h1 : (D.secs.length : Int) ≤ i := by omega
        go_enter Try.func60, Try.ntmps60
        go_wp2
        go_ret
        exact ⟨rfl, hS⟩
end Go.Proofs.Ytnganmekiloigaa
