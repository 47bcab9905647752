/- The law TxnRises. -/
import Derived.Test.YtjgdcdeekpeenaaMu
import Derived.Test.YtjgdcdeekpeenaaAr
namespace Go.Proofs.Ytjgdcdeekpeenaa
open Go.RowKit Go.Shelf
set_option maxRecDepth 100000
theorem wrt_high (M : Mg) (id : Int) (x : Ky) : (M.wrt id x).high = M.high := by unfold Mg.wrt; split <;> rfl
theorem fin_high (M : Mg) (id : Int) : (M.fin id).high = M.high := by unfold Mg.fin; split <;> rfl
theorem bgn_clock (M : Mg) (id : Int) : (M.bgn id).clock = M.clock := by unfold Mg.bgn; split <;> rfl
theorem cmt_clock (M : Mg) (id : Int) (l : List (Ky × Int)) : (M.cmt id l).clock = M.clock := by unfold Mg.cmt; split <;> rfl
set_option maxHeartbeats 2000000 in
theorem txnRises4 {w : World} {v : Value} {xs : List Dd} (hx : InD w v xs) : Calls Try.prog 4 #[v] w fun e w' => e = .returned (.bool true) ∧ Below w.heap.size w w' := by
  obtain ⟨av, cv, rfl, hx⟩ := hx
  have k12 := new12 0 w
  rw [show at0 0 = 0 by decide] at k12
  have HX : Hid _ := hx
  obtain ⟨N, hN⟩ : ∃ N, xs.length = N := ⟨_, rfl⟩
  rw [hN]
  have HN : Hid (xs.length = N) := hN
  clear hx hN
  go_enter Try.func4, Try.ntmps4
  go_wp2_with (first
    | (go_at_call 12; (with_reducible refine k12.mono ?_); rintro e w1 ⟨⟨m, wm, s0, k0⟩, rfl, hM1, hB1⟩; have HM1 : Hid (MM w1 w.heap.size ⟨m, wm, s0, k0⟩ (Mg.new 0)) := hM1; have HB1 : Hid (Below w.heap.size w w1) := hB1; have k10 := live10 w1; clear hM1 hB1)
    | (go_at_call 10; (with_reducible refine k10.mono ?_); rintro e w2 ⟨rfl, hB2⟩; have HM2 : Hid (MM w2 w.heap.size ⟨m, wm, s0, k0⟩ (Mg.new 0)) := HM1.out.below hB2; have HB2 : Hid (Below w.heap.size w w2) := bmore HB1.out hB2; clear hB2))
  go_loopw [4, 5] (fun f4 f5 wr => ∃ (k : Nat) (hi : Int) (s k' : Nat → Nat) (M : Mg), f4 = .int .i64 hi ∧ f5 = .int .i64 (k : Int) ∧ Hid (k ≤ N ∧ k ≤ 60) ∧ Hid (MM wr w.heap.size ⟨m, wm, s, k'⟩ M) ∧ Hid (Inv M k ∧ hi ≤ M.high) ∧ Hid (Below w.heap.size w wr)) (fun _ f5 _ => ((N : Int) - intOf f5).toNat)
  case atStart => exact ⟨0, -1, s0, k0, _, rfl, rfl, ⟨Nat.zero_le _, by omega⟩, HM2.out, ⟨Inv.new 0, by simp [Mg.new]⟩, HB2.out⟩
  case round =>
    obtain ⟨k, hi, s, k', M, rfl, rfl, hk, hM, hI, hB⟩ := hrel
    by_cases hkN : k < N ∧ k < 60
    · have b1 : (k : Int) < (N : Int) := by omega
      have b2 : (k : Int) < 60 := by omega
      have b3 : decide ((k : Int) < (N : Int)) = true := decide_eq_true b1
      have b4 : decide (k < N) = true := decide_eq_true (by omega)
      obtain ⟨x, hxk⟩ : ∃ x, xs[k]? = some x := ⟨_, List.getElem?_eq_getElem (by rw [HN.out]; omega)⟩
      obtain ⟨b, o, rfl, hb, hcell⟩ := HX.out (by rw [HN.out]; omega)
      obtain ⟨hxs, d0, d1, d2, d3⟩ := hcell k x hxk
      have c0 := (hB.out.cell (p := ⟨b, o + k * 4, none⟩) hb).trans d0
      have c1 := (hB.out.cell (p := ⟨b, o + k * 4 + 1, none⟩) hb).trans d1
      have c2 := (hB.out.cell (p := ⟨b, o + k * 4 + 2, none⟩) hb).trans d2
      have c3 := (hB.out.cell (p := ⟨b, o + k * 4 + 3, none⟩) hb).trans d3
      have h0k : (0 : Int) ≤ (k : Int) := by omega
      clear d0 d1 d2 d3 hcell hxk
      go_upto_region 10 with fail
      have bx := blk_new wr [.int .i64 x.kind, .int .i64 x.id, .string x.key, .int .i64 x.n] 32
      have hal := al wr (.cells #[.int .i64 x.kind, .int .i64 x.id, .string x.key, .int .i64 x.n] 32)
      have HM5 : Hid (MM (wr.alloc (.cells #[.int .i64 x.kind, .int .i64 x.id, .string x.key, .int .i64 x.n] 32)) w.heap.size ⟨m, wm, s, k'⟩ M) := hM.out.below hal
      have HB5 : Hid (Below w.heap.size w (wr.alloc (.cells #[.int .i64 x.kind, .int .i64 x.id, .string x.key, .int .i64 x.n] 32))) := hB.out.trans (hal.mono hB.out.size)
      change Blk (wr.alloc (.cells #[.int .i64 x.kind, .int .i64 x.id, .string x.key, .int .i64 x.n] 32)) _ _ _ at bx
      generalize wr.alloc (.cells #[.int .i64 x.kind, .int .i64 x.id, .string x.key, .int .i64 x.n] 32) = W5 at *
      have e1 : W5.cell? ⟨wr.heap.size, 1, none⟩ = some (.int .i64 x.id) := bx.cell 1
      have e2 : W5.cell? ⟨wr.heap.size, 2, none⟩ = some (.string x.key) := bx.cell 2
      have e3 : W5.cell? ⟨wr.heap.size, 3, none⟩ = some (.int .i64 x.n) := bx.cell 3
      have hzB : w.heap.size ≤ W5.heap.size := HB5.out.size
      have HZ : Hid (w.heap.size ≤ W5.heap.size) := hzB
      clear bx hal c0 c1 c2 c3 b1 b2 b3 b4 hzB
      obtain ⟨kd, id, key, n⟩ := x
      simp only at e1 e2 e3 hxs ⊢
      by_cases h0 : kd = 0
      · subst h0
        have k13 := begin13 HM5.out HZ.out id
        by_cases he : errB M id = 0
        · have hr : bgnR M id = hiB M := by simp [bgnR, he]
          rw [hr, he] at k13
          have hle := hiB_le hI.out.1.fit
          have H14 : Hid (∀ W s' k'', MM W w.heap.size ⟨m, wm, s', k''⟩ (M.bgn id) → Calls Try.prog 14 #[.pointer (some ⟨m, 0, none⟩)] W fun e w' => e = .returned (.int .i64 M.clock) ∧ Below W.heap.size W w') := fun W s' k'' h => by
            have := clock14 h
            rw [bgn_clock] at this
            exact this
          have HI2 : Hid (Inv (M.bgn id) (k + 1) ∧ hiB M ≤ (M.bgn id).high) := ⟨hI.out.1.bgn id, by simp [Mg.bgn, he, Mg.opn, Mg.rise]⟩
          have q1 : ¬ hiB M < hi := by have := hI.out.2; omega
          have q2 : ¬ hiB M < M.clock := by omega
          have q3 : decide (hiB M < hi) = false := decide_eq_false q1
          have q4 : decide (hiB M < M.clock) = false := decide_eq_false q2
          clear hr hle
          obtain ⟨M2, hM2⟩ : ∃ M2, M.bgn id = M2 := ⟨_, rfl⟩
          rw [hM2] at k13 H14 HI2
          clear hM2 he
          generalize hiB M = n1 at *
          generalize M.clock = n2 at *
          go_wp2_with (first
            | (go_at_call 13; (with_reducible refine k13.mono ?_); rintro e w6 ⟨rfl, s6, k6, hL6⟩; have HL6 : Hid _ := hL6; have k14 := H14.out _ s6 k6 hL6.1; clear hL6)
            | (go_at_call 14; (with_reducible refine k14.mono ?_); rintro e w7 ⟨rfl, hB7⟩))
          go_roundw
          case rel => exact ⟨k + 1, n1, s6, k6, M2, rfl, by simp, ⟨by omega, by omega⟩, HL6.out.1.below hB7, HI2.out, (HB5.out.trans HL6.out.2.b).trans (hB7.mono (Nat.le_trans HZ.out HL6.out.2.b.size))⟩
          case measure => simp only [intOf]; omega
        · have hb : M.bgn id = M := by simp [Mg.bgn, he]
          rw [hb] at k13
          generalize errB M id = n1 at *
          generalize bgnR M id = n2 at *
          go_wp2_with (go_at_call 13; (with_reducible refine k13.mono ?_); rintro e w6 ⟨rfl, s6, k6, hL6⟩; have HL6 : Hid _ := hL6; clear hL6)
          go_roundw
          case rel => exact ⟨k + 1, hi, s6, k6, M, rfl, by simp, ⟨by omega, by omega⟩, HL6.out.1, ⟨hI.out.1.mono (by omega), hI.out.2⟩, HB5.out.trans HL6.out.2.b⟩
          case measure => simp only [intOf]; omega
      by_cases h1 : kd = 1
      · subst h1
        have k15 : Calls Try.prog 15 #[.pointer (some ⟨m, 0, none⟩), .int .i64 id, .string key] W5 fun e w' => e = .returned (.int .i64 (errM M id)) ∧ Lft w.heap.size ⟨m, wm, s, k'⟩ (M.wrt id (bs key)) W5 w' := by
          have := write15 HM5.out HZ.out id (by have := hI.out.1.sn id; omega) key hxs
          exact this
        have HI2 : Hid (Inv (M.wrt id (bs key)) (k + 1) ∧ hi ≤ (M.wrt id (bs key)).high) := ⟨hI.out.1.wrt id _, by rw [wrt_high]; exact hI.out.2⟩
        generalize M.wrt id (bs key) = M2 at *
        generalize errM M id = n1 at *
        go_wp2_with (go_at_call 15; (with_reducible refine k15.mono ?_); rintro e w6 ⟨rfl, hL6⟩; have HL6 : Hid _ := hL6; clear hL6)
        go_roundw
        case rel => exact ⟨k + 1, hi, s, k', M2, rfl, by simp, ⟨by omega, by omega⟩, HL6.out.1, HI2.out, HB5.out.trans HL6.out.2.b⟩
        case measure => simp only [intOf]; omega
      by_cases h2 : kd = 2
      · subst h2
        have k16 : Calls Try.prog 16 #[.pointer (some ⟨m, 0, none⟩), .int .i64 id] W5 fun e w' => e = .returned (.tuple #[.int .i64 (cmtR M id), .int .i64 (errC M id)]) ∧ ∃ l, Hid (errC M id = 0 → Noted M.wr l (M.sn id).keys (hiC M)) ∧ Hid (Lft w.heap.size ⟨m, wm, s, k'⟩ (M.cmt id l) W5 w') := by
          have := commit16 HM5.out HZ.out hI.out.1.fit id (by have h1 := hI.out.1.sn id; have h2 := hI.out.1.wr; omega)
          exact this
        by_cases he : errC M id = 0
        · have hr : cmtR M id = hiC M := by simp [cmtR, he]
          have HE : Hid (errC M id = 0) := he
          rw [hr] at k16
          have H14 : Hid (∀ W l, MM W w.heap.size ⟨m, wm, s, k'⟩ (M.cmt id l) → Calls Try.prog 14 #[.pointer (some ⟨m, 0, none⟩)] W fun e w' => e = .returned (.int .i64 M.clock) ∧ Below W.heap.size W w') := fun W l h => by
            have := clock14 h
            rw [cmt_clock] at this
            exact this
          have HI2 : Hid (∀ l, (errC M id = 0 → Noted M.wr l (M.sn id).keys (hiC M)) → Inv (M.cmt id l) (k + 1) ∧ hiC M ≤ (M.cmt id l).high) := fun l hl => ⟨hI.out.1.cmt hk.out.2 id l hl, by simp [Mg.cmt, he, Mg.close, Mg.with, Mg.rise]⟩
          have q1 : ¬ hiC M ≤ hi := by have := hI.out.2; unfold hiC; omega
          have q2 : ¬ hiC M < M.clock := by unfold hiC; omega
          have q3 : decide (hiC M ≤ hi) = false := decide_eq_false q1
          have q4 : decide (hiC M < M.clock) = false := decide_eq_false q2
          have HK : Hid (∀ e w', (e = Ending.returned (.tuple #[.int .i64 (hiC M), .int .i64 (errC M id)]) ∧ ∃ l, Hid (errC M id = 0 → Noted M.wr l (M.sn id).keys (hiC M)) ∧ Hid (Lft w.heap.size ⟨m, wm, s, k'⟩ (M.cmt id l) W5 w')) → e = .returned (.tuple #[.int .i64 (hiC M), .int .i64 0]) ∧ ∃ l, Hid (Inv (M.cmt id l) (k + 1) ∧ hiC M ≤ (M.cmt id l).high) ∧ Hid (Lft w.heap.size ⟨m, wm, s, k'⟩ (M.cmt id l) W5 w')) := fun e w' h => by
            obtain ⟨rfl, l, h1, h2⟩ := h
            exact ⟨by rw [HE.out], l, HI2.out l h1.out, h2⟩
          have k16' := k16.mono HK.out
          clear hr k16 HK he
          generalize hhc : hiC M = n1 at *
          generalize M.clock = n2 at *
          clear hhc
          go_wp2_with (first
            | (go_at_call 16; (with_reducible refine k16'.mono ?_); rintro e w6 ⟨rfl, l, hI6, hL6⟩; have k14 := H14.out _ l hL6.out.1)
            | (go_at_call 14; (with_reducible refine k14.mono ?_); rintro e w7 ⟨rfl, hB7⟩))
          go_roundw
          case rel => exact ⟨k + 1, n1, s, k', M.cmt id l, rfl, by simp, ⟨by omega, by omega⟩, hL6.out.1.below hB7, hI6.out, (HB5.out.trans hL6.out.2.b).trans (hB7.mono (Nat.le_trans HZ.out hL6.out.2.b.size))⟩
          case measure => simp only [intOf]; omega
        · have hb : ∀ l, M.cmt id l = M := fun l => by simp [Mg.cmt, he]
          have k16' := k16.mono (R' := fun e w' => e = .returned (.tuple #[.int .i64 (cmtR M id), .int .i64 (errC M id)]) ∧ Hid (Lft w.heap.size ⟨m, wm, s, k'⟩ M W5 w')) (fun e w' h => by
            obtain ⟨rfl, l, _, h2⟩ := h
            rw [hb l] at h2
            exact ⟨rfl, h2⟩)
          clear k16 hb
          generalize errC M id = n1 at *
          generalize cmtR M id = n2 at *
          go_wp2_with (go_at_call 16; (with_reducible refine k16'.mono ?_); rintro e w6 ⟨rfl, hL6⟩)
          go_roundw
          case rel => exact ⟨k + 1, hi, s, k', M, rfl, by simp, ⟨by omega, by omega⟩, hL6.out.1, ⟨hI.out.1.mono (by omega), hI.out.2⟩, HB5.out.trans hL6.out.2.b⟩
          case measure => simp only [intOf]; omega
      by_cases h3 : kd = 3
      · subst h3
        have k17 : Calls Try.prog 17 #[.pointer (some ⟨m, 0, none⟩), .int .i64 id] W5 fun e w' => e = .returned (.int .i64 (errM M id)) ∧ Lft w.heap.size ⟨m, wm, s, k'⟩ (M.fin id) W5 w' := by
          have := end17 HM5.out HZ.out id
          exact this
        have HI2 : Hid (Inv (M.fin id) (k + 1) ∧ hi ≤ (M.fin id).high) := ⟨hI.out.1.fin id, by rw [fin_high]; exact hI.out.2⟩
        generalize M.fin id = M2 at *
        generalize errM M id = n1 at *
        go_wp2_with (go_at_call 17; (with_reducible refine k17.mono ?_); rintro e w6 ⟨rfl, hL6⟩; have HL6 : Hid _ := hL6; clear hL6)
        go_roundw
        case rel => exact ⟨k + 1, hi, s, k', M2, rfl, by simp, ⟨by omega, by omega⟩, HL6.out.1, HI2.out, HB5.out.trans HL6.out.2.b⟩
        case measure => simp only [intOf]; omega
      by_cases h4 : kd = 4
      · subst h4
        have k18 : Calls Try.prog 18 #[.pointer (some ⟨m, 0, none⟩), .int .i64 n] W5 fun e w' => e = .returned (.tuple #[]) ∧ Lft w.heap.size ⟨m, wm, s, k'⟩ (M.tick n) W5 w' := by
          have := tick18 HM5.out hI.out.1.fit n
          exact this
        have HI2 : Hid (Inv (M.tick n) (k + 1) ∧ hi ≤ (M.tick n).high) := ⟨hI.out.1.tick n, hI.out.2⟩
        generalize M.tick n = M2 at *
        go_wp2_with (go_at_call 18; (with_reducible refine k18.mono ?_); rintro e w6 ⟨rfl, hL6⟩; have HL6 : Hid _ := hL6; clear hL6)
        go_roundw
        case rel => exact ⟨k + 1, hi, s, k', M2, rfl, by simp, ⟨by omega, by omega⟩, HL6.out.1, HI2.out, HB5.out.trans HL6.out.2.b⟩
        case measure => simp only [intOf]; omega
      · go_wp2_with fail
        go_roundw
        case rel => exact ⟨k + 1, hi, s, k', M, rfl, by simp, ⟨by omega, by omega⟩, HM5.out, ⟨hI.out.1.mono (by omega), hI.out.2⟩, HB5.out⟩
        case measure => simp only [intOf]; omega
    · by_cases c1 : k < N
      · have b1 : (k : Int) < (N : Int) := by omega
        have b2 : ¬ (k : Int) < 60 := by omega
        have b3 : decide ((k : Int) < (N : Int)) = true := decide_eq_true b1
        have b4 : decide (k < N) = true := decide_eq_true c1
        have b5 : decide ((k : Int) < 60) = false := decide_eq_false b2
        go_wp2_with fail
        go_ret
        exact ⟨rfl, hB.out⟩
      · have b1 : ¬ (k : Int) < (N : Int) := by omega
        have b3 : decide ((k : Int) < (N : Int)) = false := decide_eq_false b1
        have b4 : decide (k < N) = false := decide_eq_false c1
        go_wp2_with fail
        go_ret
        exact ⟨rfl, hB.out⟩
end Go.Proofs.Ytjgdcdeekpeenaa
