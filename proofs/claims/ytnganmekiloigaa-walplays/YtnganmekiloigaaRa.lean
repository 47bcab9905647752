/- The document's Flush, Crash. -/
import Derived.Test.YtnganmekiloigaaRz
namespace Go.Proofs.Ytnganmekiloigaa
open Go.RowKit
set_option maxRecDepth 100000
variable {W : World} {r : Nat} {lv xv : Value} {D : Dk}

theorem rleft_land {w' w2 : World} {D' : Dk} {lv' : Value} (h : RD w' r lv' (.slice none 0 0) D') (hk2 : Keep (fun k => k = r) W w2) (hk : Keep (fun k => k = r) w2 w') (hl : ∀ k, lv'.ownBlock = some k → W.heap.size ≤ k) : RLeft W r lv xv D' w' := by
  refine ⟨_, _, h, hk2.trans hk (fun _ _ h => h), fun k hk => ?_⟩
  rcases hk with hk | hk | hk
  · exact .inl (.inl hk)
  · exact .inr (hl k hk)
  · cases hk

set_option maxHeartbeats 1000000 in
theorem rflush61 (h : RD W r lv xv D) (hpos : 0 < D.secs.length) (hsl : D.secs.length ≤ 128) (hw : D.wait.length ≤ 1000) :
    Calls Try.prog 61 #[.pointer (some ⟨r, 0, none⟩)] W fun e w' => e = .returned (.int .i64 D.flush.1) ∧ RLeft W r lv xv D.flush.2 w' := by
  obtain ⟨L, hx, hL⟩ := h.dx
  have x4 := hx.c4
  have hS := RLeft.same h (Keep.refl _ W)
  have c87 := rspend87 h
  unfold Dk.flush
  by_cases ho : D.off = true
  · rw [if_pos ho]
    rw [ho] at x4
    clear c87 hx h
    go_enter Try.func61, Try.ntmps61
    go_wp2
    go_ret
    exact ⟨rfl, hS⟩
  · rw [if_neg ho]
    have ho' : D.off = false := by simpa using ho
    rw [ho'] at x4
    cases hsp : D.spend.1
    · rw [hsp] at c87
      rw [if_neg (by simp)]
      clear hx h hS
      go_enter Try.func61, Try.ntmps61
      go_wp2_with (go_at_call 87; (refine c87.mono ?_; rintro e w2 ⟨rfl, hp2, hk2⟩))
      go_ret
      exact ⟨rfl, RLeft.same hp2 hk2⟩
    · rw [hsp] at c87
      obtain ⟨q1, q2, q3⟩ := spend_secs D
      rw [if_pos rfl, show land (fun _ => true) 0 D.wait D.secs = land (fun _ => true) 0 D.spend.2.wait D.spend.2.secs by rw [q1, q2]]
      rw [← q1] at hpos hsl
      rw [← q2] at hw
      generalize D.spend.2 = D1 at *
      have HC : Hid (∀ w2 : World, RD w2 r lv xv D1 → Calls Try.prog 88 #[.pointer (some ⟨r, 0, none⟩), .slice none 0 0, .bool true] w2 fun e w' => e = .returned (.tuple #[]) ∧ ∃ lv', RD w' r lv' (.slice none 0 0) { D1 with secs := land (fun _ => true) 0 D1.wait D1.secs, wait := [] } ∧ Keep (fun k => k = r) w2 w' ∧ ∀ k, lv'.ownBlock = some k → w2.heap.size ≤ k) := fun w2 hp2 => by
        have := land88 hp2 hpos hsl hw (.slice none 0 0) [] (.inl ⟨none, 0, rfl, rfl⟩) (fun a n c e => by cases e) true
        simpa using this
      generalize ({ D1 with secs := land (fun _ => true) 0 D1.wait D1.secs, wait := [] } : Dk) = Df at *
      clear hx h hS hpos hsl hw
      go_enter Try.func61, Try.ntmps61
      go_wp2_with (first
        | (go_at_call 87; (refine c87.mono ?_; rintro e w2 ⟨rfl, hp2, hk2⟩))
        | (go_at_call 88; (refine (HC.out _ hp2).mono ?_; rintro e w3 ⟨rfl, lv', hp3, hk3, hl3⟩)))
      go_ret
      exact ⟨rfl, rleft_land hp3 hk2 hk3 (fun k hk => Nat.le_trans hk2.size (hl3 k hk))⟩

set_option maxHeartbeats 1000000 in
theorem rcrash63 (h : RD W r lv xv D) (hpos : 0 < D.secs.length) (hsl : D.secs.length ≤ 128) (hw : D.wait.length ≤ 1000) (v : Value) (kl : List Bool) (hv : KB W v kl) (hvf : ∀ a n c, v = .slice (some a) n c → 0 < kl.length → a.block ≠ r) :
    Calls Try.prog 63 #[.pointer (some ⟨r, 0, none⟩), v] W fun e w' => e = .returned (.tuple #[]) ∧ RLeft W r lv xv (D.crash kl) w' := by
  have c88 := land88 h hpos hsl hw v kl hv hvf false
  simp only [Bool.false_or] at c88
  obtain ⟨ka, kc, rfl, _⟩ := hv.form
  have HE : Hid (∀ (w3 w' : World) (lv' : Value), RD w3 r lv' (.slice none 0 0) { D with secs := land (fun k => kl.getD k false) 0 D.wait D.secs, wait := [] } → Keep (fun k => k = r) W w3 → (∀ k, lv'.ownBlock = some k → W.heap.size ≤ k) → w' = (w3.setCell ⟨r, 4, none⟩ (.bool false)).setCell ⟨r, 2, none⟩ (.bool false) → RLeft W r lv xv (D.crash kl) w') := fun w3 w' lv' h3 hk hl e => by
    subst e
    obtain ⟨L, hx, _⟩ := h3.dx
    have hR := h3.turn (W' := (w3.setCell ⟨r, 4, none⟩ (.bool false)).setCell ⟨r, 2, none⟩ (.bool false)) (D' := D.crash kl) ((kr w3 r 4 _).kr 2 _) ((hx.set4 _).set2 _) (fun e => by cases e) rfl rfl ⟨h3.ok.secs, fun x hx => absurd (show x ∈ ([] : List (Nat × Bs)) from hx) (by simp), ⟨Int.le_refl 0, by show (0 : Int) ≤ 9223372036854775807; omega⟩⟩
    exact rleft_land hR hk ((kr w3 r 4 _).kr 2 _) hl
  generalize D.crash kl = Dc at *
  generalize ({ D with secs := land (fun k => kl.getD k false) 0 D.wait D.secs, wait := [] } : Dk) = Df at *
  clear hv hvf h
  generalize kl.length = KN at *
  go_enter Try.func63, Try.ntmps63
  go_wp2_with (go_at_call 88; (refine c88.mono ?_; rintro e w3 ⟨rfl, lv', hp3, hk3, hl3⟩; obtain ⟨L3, hx3, _⟩ := id hp3.dx; have y2 := hx3.c2; have y4 := hx3.c4; have e2 := hx3.z2; have e4 := hx3.z4))
  go_end0
  exact ⟨rfl, HE.out _ _ _ hp3 hk3 hl3 rfl⟩
end Go.Proofs.Ytnganmekiloigaa
