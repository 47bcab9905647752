/- The law TxnFirst. -/
import Derived.Test.YtjgdcdeekpeenaaTe
namespace Go.Proofs.Ytjgdcdeekpeenaa
open Go.RowKit Go.Shelf
set_option maxRecDepth 100000
/-- The clock alone has gone on. -/
structure Ticked (M : Mg) (k : Nat) : Prop where
  c0 : 0 ≤ M.clock
  c1 : M.clock ≤ 4 * k
  h : M.high = 0
  op : ∀ i, M.op i = none
  wr : M.wr = []
theorem Ticked.fit {M : Mg} {k : Nat} (h : Ticked M k) (hk : k ≤ 20) : Fit M := ⟨h.c0, by have := h.c1; omega, by rw [h.h]; omega, by rw [h.h]; omega⟩
theorem Ticked.tick {M : Mg} {k : Nat} (h : Ticked M k) (hk : k ≤ 20) {n : Int} (hn : n ≤ 4) : Ticked (M.tick n) (k + 1) := by
  have h0 := h.c0
  have h1 := h.c1
  refine ⟨?_, ?_, h.h, h.op, h.wr⟩
  · show 0 ≤ tickC M.clock n
    unfold tickC
    omega
  · show tickC M.clock n ≤ _
    unfold tickC
    omega
theorem Ticked.mono {M : Mg} {k k' : Nat} (h : Ticked M k) (hk : k ≤ k') : Ticked M k' := ⟨h.c0, by have := h.c1; omega, h.h, h.op, h.wr⟩
/-- Both are open, and have written the key. -/
structure FirstI (M : Mg) (k : Nat) (c : Int) (x : Ky) : Prop where
  inv : Inv M k
  op0 : M.op 0 = some ⟨c, [x]⟩
  op1 : M.op 1 = some ⟨c, [x]⟩
  wr : M.wr = []
  cl : M.clock ≤ 80
  hi : M.high ≤ 80
theorem FirstI.bgn {M : Mg} {k : Nat} {c : Int} {x : Ky} (h : FirstI M k c x) {i : Nat} (hi : 2 ≤ i) : FirstI (M.bgn (i : Int)) (k + 1) c x := by
  refine ⟨h.inv.bgn _, ?_, ?_, ?_, ?_, ?_⟩
  · unfold Mg.bgn
    split
    · simp only [Mg.opn, Int.toNat_natCast, Mg.rise]
      rw [if_neg (by omega)]
      exact h.op0
    · exact h.op0
  · unfold Mg.bgn
    split
    · simp only [Mg.opn, Int.toNat_natCast, Mg.rise]
      rw [if_neg (by omega)]
      exact h.op1
    · exact h.op1
  · unfold Mg.bgn
    split <;> exact h.wr
  · unfold Mg.bgn
    split <;> exact h.cl
  · unfold Mg.bgn
    split
    · show hiB M ≤ _
      have := h.cl; have := h.hi
      unfold hiB
      omega
    · exact h.hi
theorem FirstI.wrt {M : Mg} {k : Nat} {c : Int} {x : Ky} (h : FirstI M k c x) {i : Nat} (hi : 2 ≤ i) (y : Ky) : FirstI (M.wrt (i : Int) y) (k + 1) c x := by
  refine ⟨h.inv.wrt _ _, ?_, ?_, ?_, ?_, ?_⟩
  · unfold Mg.wrt
    split
    · simp only [Mg.write, Mg.opn, Int.toNat_natCast]
      rw [if_neg (by omega)]
      exact h.op0
    · exact h.op0
  · unfold Mg.wrt
    split
    · simp only [Mg.write, Mg.opn, Int.toNat_natCast]
      rw [if_neg (by omega)]
      exact h.op1
    · exact h.op1
  · unfold Mg.wrt
    split <;> exact h.wr
  · unfold Mg.wrt
    split <;> exact h.cl
  · unfold Mg.wrt
    split <;> exact h.hi
theorem FirstI.mono {M : Mg} {k k' : Nat} {c : Int} {x : Ky} (h : FirstI M k c x) (hk : k ≤ k') : FirstI M k' c x := ⟨h.inv.mono hk, h.op0, h.op1, h.wr, h.cl, h.hi⟩
theorem FirstI.at {M : Mg} {k : Nat} {c : Int} {x : Ky} (h : FirstI M k c x) {i : Nat} (hi : i < 2) : M.op i = some ⟨c, [x]⟩ := by
  match i, hi with
  | 0, _ => exact h.op0
  | 1, _ => exact h.op1
/-- The first one commits, the other one clashes. -/
theorem FirstI.commit {M : Mg} {k : Nat} {c : Int} {x : Ky} (h : FirstI M k c x) {i j : Nat} (hi : i < 2) (hj : j < 2) (hij : i ≠ j) : errC M (i : Int) = 0 ∧ ∀ l, Noted M.wr l (M.sn (i : Int)).keys (hiC M) → errC (M.cmt (i : Int) l) (j : Int) = 13 ∧ errM (M.cmt (i : Int) l) (j : Int) = 0 ∧ errM (M.cmt (i : Int) l) (i : Int) = 7 := by
  have hsi := h.at hi
  have hsj := h.at hj
  have hc := (h.inv.keys i _ hsi).2.2
  have hh := h.hi
  have e0 : errC M (i : Int) = 0 := by
    have hcl : clash M ⟨c, [x]⟩ = false := by
      have h0 := (h.inv.keys i _ hsi).2.1
      simp only at h0
      simp [clash, wrAt, h.wr]
      exact h0
    have hm : ¬ M.high = 1073741824 := by omega
    simp [errC, err_yes (by omega) hsi, sn_of hsi, errT, hcl, hm]
  refine ⟨e0, fun l hl => ?_⟩
  rw [sn_of hsi] at hl
  have hcm : M.cmt (i : Int) l = ((M.rise (hiC M)).with l).close i := by simp [Mg.cmt, e0]
  have hopj : (M.cmt (i : Int) l).op j = some ⟨c, [x]⟩ := by
    rw [hcm]
    simp only [Mg.close, Mg.with, Mg.rise]
    rw [if_neg (Ne.symm hij)]
    exact hsj
  have hopi : (M.cmt (i : Int) l).op i = none := by rw [hcm]; simp [Mg.close]
  have hw : wrAt l x = hiC M := by rw [hl.at' x]; simp
  have hcl : clash (M.cmt (i : Int) l) ⟨c, [x]⟩ = true := by
    have hlt : c < wrAt l x := by rw [hw]; simp only at hc; unfold hiC; omega
    have e : (M.cmt (i : Int) l).wr = l := by rw [hcm]; rfl
    simp [clash, e, hlt]
  refine ⟨?_, err_yes (by omega) hopj, err_none (by omega) hopi⟩
  simp [errC, err_yes (by omega) hopj, sn_of hopj, errT, hcl]
/-- Begin of both, and their writes. -/
def F1 (M : Mg) : Mg := (M.rise (hiB M)).opn 0 ⟨hiB M, []⟩
def F2 (M : Mg) : Mg := ((F1 M).rise (hiB M)).opn 1 ⟨hiB M, []⟩
def F3 (M : Mg) (x : Ky) : Mg := (F2 M).write 0 ⟨hiB M, []⟩ x
def F4 (M : Mg) (x : Ky) : Mg := (F3 M x).write 1 ⟨hiB M, []⟩ x
theorem F1_hi {M : Mg} {k : Nat} (h : Ticked M k) : hiB M = M.clock ∧ hiB (F1 M) = hiB M := by
  have h0 := h.c0
  have e : hiB M = M.clock := by unfold hiB; rw [h.h]; omega
  refine ⟨e, ?_⟩
  have e1 : (F1 M).clock = M.clock := rfl
  have e2 : (F1 M).high = hiB M := rfl
  unfold hiB at *
  rw [e1, e2, e]
  omega
theorem F4_first {M : Mg} {k : Nat} (h : Ticked M k) (hk : k ≤ 20) (x : Ky) : FirstI (F4 M x) 1 (hiB M) x := by
  have h0 := h.c0
  have h1 := h.c1
  have e := (F1_hi h).1
  refine ⟨⟨⟨h.c0, by show M.clock ≤ _; omega, by show 0 ≤ hiB M; omega, by show hiB M ≤ _; omega⟩, fun i s q => ?_, by show M.wr.length ≤ _; rw [h.wr]; simp⟩, ?_, ?_, h.wr, by show M.clock ≤ _; omega, by show hiB M ≤ _; omega⟩
  · by_cases c1 : i = 1
    · simp only [F4, Mg.write, Mg.opn, c1, if_true, Option.some.injEq] at q
      subst q
      exact ⟨by simp, by simp only; omega, Int.le_refl _⟩
    · by_cases c0 : i = 0
      · simp [F4, F3, Mg.write, Mg.opn, c0] at q
        subst q
        exact ⟨by simp, by simp only; omega, Int.le_refl _⟩
      · simp [F4, F3, F2, F1, Mg.write, Mg.opn, Mg.rise, c0, c1, h.op] at q
  · simp [F4, F3, Mg.write, Mg.opn]
  · simp [F4, Mg.write, Mg.opn]
set_option maxHeartbeats 2000000 in
theorem txnFirst5 {w : World} {v : Value} {xs : List Dd} {key : ByteArray} (hx : InD w v xs) (hxz : ∀ x ∈ xs, x.key.size ≤ 140737488355328) (hkz : key.size ≤ maxLen) (tb : Bool) : Calls Try.prog 5 #[v, .string key, .bool tb] w fun e w' => e = .returned (.bool true) ∧ Below w.heap.size w w' := by
  obtain ⟨av, cv, rfl, hx⟩ := hx
  have k12 := new12 0 w
  rw [show at0 0 = 0 by decide] at k12
  have HX : Hid _ := hx
  have HXZ : Hid _ := hxz
  have HKZ : Hid _ := hkz
  obtain ⟨N, hN⟩ : ∃ N, xs.length = N := ⟨_, rfl⟩
  rw [hN]
  have HN : Hid (xs.length = N) := hN
  clear hx hN hxz hkz
  go_enter Try.func5, Try.ntmps5
  go_upto_region 4 with (first
    | (go_at_call 12; (with_reducible refine k12.mono ?_); rintro e w1 ⟨⟨m, wm, s0, k0⟩, rfl, hM1, hB1⟩; have HM1 : Hid (MM w1 w.heap.size ⟨m, wm, s0, k0⟩ (Mg.new 0)) := hM1; have HB1 : Hid (Below w.heap.size w w1) := hB1; have k10 := live10 w1; clear hM1 hB1)
    | (go_at_call 10; (with_reducible refine k10.mono ?_); rintro e w2 ⟨rfl, hB2⟩; have HM2 : Hid (MM w2 w.heap.size ⟨m, wm, s0, k0⟩ (Mg.new 0)) := HM1.out.below hB2; have HB2 : Hid (Below w.heap.size w w2) := bmore HB1.out hB2; clear hB2))
  clear k12 k10 HM1 HB1
  go_cut [8] from 16 (fun u8 wx => u8 = .int .i64 0 ∧ wx = w2)
  case first =>
    go_wp2_with fail
    go_meet
    case rel => exact ⟨rfl, rfl⟩
  case rest =>
    obtain ⟨rfl, rfl⟩ := hcut
    rename_i Ka ha Kb hb
    refine hb _ _ ?_
    go_cut [8] from 16 (fun u8 wx => ∃ M, Hid (Ticked M 20) ∧ Hid (MM wx w.heap.size ⟨m, wm, s0, k0⟩ M) ∧ Hid (Below w.heap.size w wx))
    case first =>
      go_wp2_with fail
      go_loopw [8] (fun f8 wr => ∃ (k : Nat) (M : Mg), f8 = .int .i64 (k : Int) ∧ Hid (k ≤ N ∧ k ≤ 20) ∧ Hid (MM wr w.heap.size ⟨m, wm, s0, k0⟩ M) ∧ Hid (Ticked M k) ∧ Hid (Below w.heap.size w wr)) (fun f8 _ => ((N : Int) - intOf f8).toNat)
      case atStart => exact ⟨0, _, rfl, ⟨Nat.zero_le _, by omega⟩, HM2.out, ⟨Int.le_refl _, Int.le_refl _, rfl, fun _ => rfl, rfl⟩, HB2.out⟩
      case round =>
        obtain ⟨k, M, rfl, hk, hM, hI, hB⟩ := hrel
        by_cases hkN : k < N ∧ k < 20
        · have b1 : (k : Int) < (N : Int) := by omega
          have b2 : (k : Int) < 20 := by omega
          have b3 : decide ((k : Int) < (N : Int)) = true := decide_eq_true b1
          have b4 : decide (k < N) = true := decide_eq_true (by omega)
          have h0k : (0 : Int) ≤ (k : Int) := by omega
          obtain ⟨x, hxk⟩ : ∃ x, xs[k]? = some x := ⟨_, List.getElem?_eq_getElem (by rw [HN.out]; omega)⟩
          obtain ⟨b, o, rfl, hb', hcell⟩ := HX.out (by rw [HN.out]; omega)
          have c3 := (hB.out.cell (p := ⟨b, o + k * 4 + 3, none⟩) hb').trans (hcell k x hxk).2.2.2.2
          clear hcell hxk
          obtain ⟨kd, id, ky, n⟩ := x
          simp only at c3
          have k18 : Calls Try.prog 18 #[.pointer (some ⟨m, 0, none⟩), .int .i64 (n.tmod 5)] wr fun e w' => e = .returned (.tuple #[]) ∧ Hid (Lft w.heap.size ⟨m, wm, s0, k0⟩ (M.tick (n.tmod 5)) wr w') := by
            have := tick18 hM.out (hI.out.fit hk.out.2) (n.tmod 5)
            exact this
          have HI2 : Hid (Ticked (M.tick (n.tmod 5)) (k + 1)) := hI.out.tick hk.out.2 (by have := Int.tmod_lt_of_pos n (show (0 : Int) < 5 by decide); omega)
          generalize M.tick (n.tmod 5) = M2 at *
          go_wp2_with (go_at_call 18; (with_reducible refine k18.mono ?_); rintro e w6 ⟨rfl, hL6⟩)
          go_roundw
          case rel => exact ⟨k + 1, M2, by simp, ⟨by omega, by omega⟩, hL6.out.1, HI2.out, hB.out.trans hL6.out.2.b⟩
          case measure => simp only [intOf]; omega
        · have HO : Hid (∃ M, Hid (Ticked M 20) ∧ Hid (MM wr w.heap.size ⟨m, wm, s0, k0⟩ M) ∧ Hid (Below w.heap.size w wr)) := ⟨M, hI.out.mono hk.out.2, hM, hB⟩
          by_cases c1 : k < N
          · have b1 : (k : Int) < (N : Int) := by omega
            have b2 : ¬ (k : Int) < 20 := by omega
            have b3 : decide ((k : Int) < (N : Int)) = true := decide_eq_true b1
            have b4 : decide (k < N) = true := decide_eq_true c1
            have b5 : decide ((k : Int) < 20) = false := decide_eq_false b2
            go_wp2_with fail
            go_meet
            case rel => exact HO.out
          · have b1 : ¬ (k : Int) < (N : Int) := by omega
            have b3 : decide ((k : Int) < (N : Int)) = false := decide_eq_false b1
            have b4 : decide (k < N) = false := decide_eq_false c1
            go_wp2_with fail
            go_meet
            case rel => exact HO.out
    case rest =>
      obtain ⟨M0, hT0, hM0, hB0⟩ := hcut
      clear hb HM2 HB2
      go_upto_if 41 with fail
      go_cut [9, 10] from 16 (fun u9 u10 wx => (∃ i j : Nat, u9 = .int .i64 (i : Int) ∧ u10 = .int .i64 (j : Int) ∧ Hid (i < 2 ∧ j < 2 ∧ i ≠ j)) ∧ wx = wc)
      case first =>
        cases tb
        · go_wp2_with fail
          go_meet
          case rel => exact ⟨⟨0, 1, rfl, rfl, by decide, by decide, by decide⟩, rfl⟩
        · go_wp2_with fail
          go_meet
          case rel => exact ⟨⟨1, 0, rfl, rfl, by decide, by decide, by decide⟩, rfl⟩
      case rest =>
        obtain ⟨⟨i, j, rfl, rfl, hij⟩, rfl⟩ := hcut
        obtain ⟨c, hc⟩ : ∃ c, hiB M0 = c := ⟨_, rfl⟩
        have HF4 : Hid (FirstI (F4 M0 (bs key)) 1 c (bs key)) := by
          have := F4_first hT0.out (Nat.le_refl _) (bs key)
          rw [hc] at this
          exact this
        have k13a : Calls Try.prog 13 #[.pointer (some ⟨m, 0, none⟩), .int .i64 0] wc fun e w' => e = .returned (.tuple #[.int .i64 c, .int .i64 0]) ∧ ∃ s k, Hid (Lft w.heap.size ⟨m, wm, s, k⟩ (F1 M0) wc w') := by
          refine (begin13_yes (i := 0) hM0.out hB0.out.size (by decide) (hT0.out.op 0)).mono ?_
          rintro e w' ⟨rfl, s', k', h⟩
          exact ⟨by rw [hc], _, _, h⟩
        have K13b : Hid (∀ W s k, MM W w.heap.size ⟨m, wm, s, k⟩ (F1 M0) → w.heap.size ≤ W.heap.size → Calls Try.prog 13 #[.pointer (some ⟨m, 0, none⟩), .int .i64 1] W fun e w' => e = .returned (.tuple #[.int .i64 c, .int .i64 0]) ∧ ∃ s k, Hid (Lft w.heap.size ⟨m, wm, s, k⟩ (F2 M0) W w')) := fun W s k h q => by
          refine (begin13_yes (i := 1) h q (by decide) (by simp [F1, Mg.opn, Mg.rise, hT0.out.op])).mono ?_
          rintro e w' ⟨rfl, s', k', h⟩
          rw [(F1_hi hT0.out).2] at h ⊢
          exact ⟨by rw [hc], _, _, h⟩
        have K15a : Hid (∀ W s k, MM W w.heap.size ⟨m, wm, s, k⟩ (F2 M0) → w.heap.size ≤ W.heap.size → Calls Try.prog 15 #[.pointer (some ⟨m, 0, none⟩), .int .i64 0, .string key] W fun e w' => e = .returned (.int .i64 0) ∧ Hid (Lft w.heap.size ⟨m, wm, s, k⟩ (F3 M0 (bs key)) W w')) := fun W s k h q => by
          have := write15_yes (i := 0) h q (by decide) (s := ⟨hiB M0, []⟩) (by simp [F2, F1, Mg.opn, Mg.rise]) (by simp) key HKZ.out
          exact this
        have K15b : Hid (∀ W s k, MM W w.heap.size ⟨m, wm, s, k⟩ (F3 M0 (bs key)) → w.heap.size ≤ W.heap.size → Calls Try.prog 15 #[.pointer (some ⟨m, 0, none⟩), .int .i64 1, .string key] W fun e w' => e = .returned (.int .i64 0) ∧ Hid (Lft w.heap.size ⟨m, wm, s, k⟩ (F4 M0 (bs key)) W w')) := fun W s k h q => by
          have := write15_yes (i := 1) h q (by decide) (s := ⟨hiB M0, []⟩) (by simp [F3, F2, Mg.write, Mg.opn]) (by simp) key HKZ.out
          exact this
        clear hc
        go_upto_region 15 with (first
          | (go_at_call 13; (with_reducible refine k13a.mono ?_); rintro e w4 ⟨rfl, s4, k4, hL4⟩; have HB4 : Hid (Below w.heap.size w w4) := hB0.out.trans hL4.out.2.b; have k13b := K13b.out _ _ _ hL4.out.1 HB4.out.size)
          | (go_at_call 13; (with_reducible refine k13b.mono ?_); rintro e w5 ⟨rfl, s5, k5, hL5⟩; have HB5 : Hid (Below w.heap.size w w5) := HB4.out.trans hL5.out.2.b; have k15a := K15a.out _ _ _ hL5.out.1 HB5.out.size)
          | (go_at_call 15; (with_reducible refine k15a.mono ?_); rintro e w6 ⟨rfl, hL6⟩; have HB6 : Hid (Below w.heap.size w w6) := HB5.out.trans hL6.out.2.b; have k15b := K15b.out _ _ _ hL6.out.1 HB6.out.size)
          | (go_at_call 15; (with_reducible refine k15b.mono ?_); rintro e w7 ⟨rfl, hL7⟩; have HB7 : Hid (Below w.heap.size w w7) := HB6.out.trans hL7.out.2.b))
        have HM7 : Hid (MM w7 w.heap.size ⟨m, wm, s5, k5⟩ (F4 M0 (bs key))) := hL7.out.1
        clear k13a k13b k15a k15b K13b K15a K15b hL4 hL5 hL6 hL7 HB4 HB5 HB6 hM0 hB0 hT0
        generalize F4 M0 (bs key) = M4 at *
        generalize bs key = kk at *
        go_cut [11] from 16 (fun u11 wx => u11 = .int .i64 0 ∧ wx = w7)
        case first =>
          go_wp2_with fail
          go_meet
          case rel => exact ⟨rfl, rfl⟩
        case rest =>
          obtain ⟨rfl, rfl⟩ := hcut
          rename_i Kc hc Kd hd
          refine hd _ _ ?_
          go_cut [11] from 16 (fun u11 wx => ∃ s k' M, Hid (FirstI M 41 c kk) ∧ Hid (MM wx w.heap.size ⟨m, wm, s, k'⟩ M) ∧ Hid (Below w.heap.size w wx))
          case first =>
            go_wp2_with fail
            go_loopw [11] (fun f11 wr => ∃ (k : Nat) (s k' : Nat → Nat) (M : Mg), f11 = .int .i64 (k : Int) ∧ Hid (k ≤ N ∧ k ≤ 20) ∧ Hid (MM wr w.heap.size ⟨m, wm, s, k'⟩ M) ∧ Hid (FirstI M (2 * k + 1) c kk) ∧ Hid (Below w.heap.size w wr)) (fun f11 _ => ((N : Int) - intOf f11).toNat)
            case atStart => exact ⟨0, s5, k5, M4, rfl, ⟨Nat.zero_le _, by omega⟩, HM7.out, HF4.out, HB7.out⟩
            case round =>
              obtain ⟨k, s, k', M, rfl, hk, hM, hI, hB⟩ := hrel
              by_cases hkN : k < N ∧ k < 20
              · have b1 : (k : Int) < (N : Int) := by omega
                have b2 : (k : Int) < 20 := by omega
                have b3 : decide ((k : Int) < (N : Int)) = true := decide_eq_true b1
                have b4 : decide (k < N) = true := decide_eq_true (by omega)
                have h0k : (0 : Int) ≤ (k : Int) := by omega
                obtain ⟨x, hxk⟩ : ∃ x, xs[k]? = some x := ⟨_, List.getElem?_eq_getElem (by rw [HN.out]; omega)⟩
                obtain ⟨b, o, rfl, hb', hcell⟩ := HX.out (by rw [HN.out]; omega)
                have hxz := HXZ.out x (List.mem_of_getElem? hxk)
                have HCell : Hid (∀ W, Below w.heap.size w W → W.cell? ⟨b, o + k * 4 + 1, none⟩ = some (.int .i64 x.id) ∧ W.cell? ⟨b, o + k * 4 + 2, none⟩ = some (.string x.key)) := fun W q => ⟨(q.cell (p := ⟨b, o + k * 4 + 1, none⟩) hb').trans (hcell k x hxk).2.2.1, (q.cell (p := ⟨b, o + k * 4 + 2, none⟩) hb').trans (hcell k x hxk).2.2.2.1⟩
                clear hcell hxk
                obtain ⟨kd, id, ky, n⟩ := x
                simp only at hxz HCell
                obtain ⟨c1, c2⟩ := HCell.out _ hB.out
                obtain ⟨ii, hi23, hid, hid2⟩ : ∃ i : Nat, (i = 2 ∨ i = 3) ∧ wrap64 (2 + bits BinOp.and IntKind.i64 id 1) = (i : Int) ∧ Hid (IntKind.i64.wrap (2 + bits BinOp.and IntKind.i64 id 1) = (i : Int)) := by
                  rcases and1 id with e | e
                  · exact ⟨2, .inl rfl, by rw [e]; kernel_rfl, by show _ = _; rw [e]; kernel_rfl⟩
                  · exact ⟨3, .inr rfl, by rw [e]; kernel_rfl, by show _ = _; rw [e]; kernel_rfl⟩
                have hi2 : 2 ≤ ii := by omega
                have hadd : ∀ W, (Op.stringOp .add ky { data := #[120] }).run Try.prog W = .ok (.string (ky ++ { data := #[120] })) W := fun W => run_string_add_sum W ky { data := #[120] } (by rw [show (ByteArray.mk #[120]).size = 1 from rfl]; omega)
                have k13 := begin13 hM.out hB.out.size (ii : Int)
                have HI2 : Hid (FirstI ((M.bgn (ii : Int)).wrt (ii : Int) (bs (ky ++ { data := #[120] }))) (2 * k + 1 + 1 + 1) c kk) := (hI.out.bgn hi2).wrt hi2 _
                have K15 : Hid (∀ W s' k'', MM W w.heap.size ⟨m, wm, s', k''⟩ (M.bgn (ii : Int)) → w.heap.size ≤ W.heap.size → Calls Try.prog 15 #[.pointer (some ⟨m, 0, none⟩), .int .i64 (ii : Int), .string (ky ++ { data := #[120] })] W fun e w' => e = .returned (.int .i64 (errM (M.bgn (ii : Int)) (ii : Int))) ∧ Hid (Lft w.heap.size ⟨m, wm, s', k''⟩ ((M.bgn (ii : Int)).wrt (ii : Int) (bs (ky ++ { data := #[120] }))) W w')) := fun W s' k'' h q => by
                  have := write15 h q (ii : Int) (by have := (hI.out.inv.bgn (ii : Int)).sn (ii : Int); omega) (ky ++ { data := #[120] }) (by rw [ByteArray.size_append, show (ByteArray.mk #[120]).size = 1 from rfl]; unfold maxLen; omega)
                  exact this
                generalize (M.bgn (ii : Int)).wrt (ii : Int) (bs (ky ++ { data := #[120] })) = M3 at *
                generalize errM (M.bgn (ii : Int)) (ii : Int) = n3 at *
                generalize M.bgn (ii : Int) = M2 at *
                generalize bgnR M (ii : Int) = n1 at *
                generalize errB M (ii : Int) = n2 at *
                generalize ky ++ { data := #[120] } = kx at *
                go_wp2_with (go_at_call 13; (with_reducible refine k13.mono ?_); rintro e w9 ⟨rfl, s9, k9, hL9⟩; have HL9 : Hid _ := hL9; have HB9 : Hid (Below w.heap.size w w9) := hB.out.trans hL9.2.b; clear hL9)
                have K0 : Below w.heap.size w w9.drew := HB9.out.drew
                have hS0 := HCell.out _ K0
                have k15 := K15.out w9.drew s9 k9 (HL9.out.1.below ((Below.refl _ _).drew)) HB9.out.size
                rw [← show IntKind.i64.wrap (2 + bits BinOp.and IntKind.i64 id 1) = (ii : Int) from hid2.out] at k15
                clear c1 c2 k13
                go_region_held3 (fun W => W.cell? ⟨b, o + k * 4 + 1, none⟩ = some (.int .i64 id) ∧ W.cell? ⟨b, o + k * 4 + 2, none⟩ = some (.string ky)) (first | exact hS0 | exact hS10) (first | (go_at_call 15; (with_reducible refine k15.mono ?_); rintro e w10 ⟨rfl, hL10⟩; have hB10 := K0.trans hL10.out.2.b; have hS10 := HCell.out _ hB10))
                go_wp2_with fail
                go_roundw
                case rel => exact ⟨k + 1, s9, k9, M3, by simp, ⟨by omega, by omega⟩, hL10.out.1, by have := HI2.out; rw [show 2 * (k + 1) + 1 = 2 * k + 1 + 1 + 1 by omega]; exact this, hB10⟩
                case measure => simp only [intOf]; omega
              · have HO : Hid (∃ s k' M, Hid (FirstI M 41 c kk) ∧ Hid (MM wr w.heap.size ⟨m, wm, s, k'⟩ M) ∧ Hid (Below w.heap.size w wr)) := ⟨s, k', M, hI.out.mono (by have := hk.out.2; omega), hM, hB⟩
                by_cases c1 : k < N
                · have b1 : (k : Int) < (N : Int) := by omega
                  have b2 : ¬ (k : Int) < 20 := by omega
                  have b3 : decide ((k : Int) < (N : Int)) = true := decide_eq_true b1
                  have b4 : decide (k < N) = true := decide_eq_true c1
                  have b5 : decide ((k : Int) < 20) = false := decide_eq_false b2
                  go_wp2_with fail
                  go_meet
                  case rel => exact HO.out
                · have b1 : ¬ (k : Int) < (N : Int) := by omega
                  have b3 : decide ((k : Int) < (N : Int)) = false := decide_eq_false b1
                  have b4 : decide (k < N) = false := decide_eq_false c1
                  go_wp2_with fail
                  go_meet
                  case rel => exact HO.out
          case rest =>
            obtain ⟨s, k', M, hI, hM, hB⟩ := hcut
            obtain ⟨hi2, hj2, hne⟩ := hij.out
            obtain ⟨e0, hcm⟩ := hI.out.commit hi2 hj2 hne
            have k16a : Calls Try.prog 16 #[.pointer (some ⟨m, 0, none⟩), .int .i64 (i : Int)] wc fun e w' => e = .returned (.tuple #[.int .i64 (cmtR M (i : Int)), .int .i64 0]) ∧ ∃ l, Hid (Noted M.wr l (M.sn (i : Int)).keys (hiC M)) ∧ Hid (Lft w.heap.size ⟨m, wm, s, k'⟩ (M.cmt (i : Int) l) wc w') := by
              have := commit16 hM.out hB.out.size hI.out.inv.fit (i : Int) (by have h1 := hI.out.inv.sn (i : Int); have h2 := hI.out.inv.wr; omega)
              rw [e0] at this
              refine this.mono ?_
              rintro e w' ⟨rfl, l, h1, h2⟩
              exact ⟨rfl, l, h1 rfl, h2⟩
            have K16b : Hid (∀ W l, Noted M.wr l (M.sn (i : Int)).keys (hiC M) → MM W w.heap.size ⟨m, wm, s, k'⟩ (M.cmt (i : Int) l) → w.heap.size ≤ W.heap.size → Calls Try.prog 16 #[.pointer (some ⟨m, 0, none⟩), .int .i64 (j : Int)] W fun e w' => e = .returned (.tuple #[.int .i64 0, .int .i64 13]) ∧ Hid (Lft w.heap.size ⟨m, wm, s, k'⟩ (M.cmt (i : Int) l) W w')) := fun W l hl h q => by
              have hi' := hI.out.inv.cmt (by omega) (i : Int) l (fun _ => hl)
              have := commit16 h q hi'.fit (j : Int) (by have h1 := hi'.sn (j : Int); have h2 := hi'.wr; omega)
              have h13 := (hcm l hl).1
              refine this.mono ?_
              rintro e w' ⟨rfl, l', _, h2⟩
              have e1 : cmtR (M.cmt (i : Int) l) (j : Int) = 0 := by simp [cmtR, h13]
              have e2 : (M.cmt (i : Int) l).cmt (j : Int) l' = M.cmt (i : Int) l := by
                rw [Mg.cmt, h13]
                rfl
              rw [e2] at h2
              rw [e1, h13]
              exact ⟨rfl, h2⟩
            have K19b : Hid (∀ W l, Noted M.wr l (M.sn (i : Int)).keys (hiC M) → MM W w.heap.size ⟨m, wm, s, k'⟩ (M.cmt (i : Int) l) → Calls Try.prog 19 #[.pointer (some ⟨m, 0, none⟩), .int .i64 (j : Int)] W fun e w' => e = .returned (.bool true) ∧ Below W.heap.size W w') := fun W l hl h => by
              have := open19 h (j : Int)
              rw [(hcm l hl).2.1] at this
              exact this
            have K19a : Hid (∀ W l, Noted M.wr l (M.sn (i : Int)).keys (hiC M) → MM W w.heap.size ⟨m, wm, s, k'⟩ (M.cmt (i : Int) l) → Calls Try.prog 19 #[.pointer (some ⟨m, 0, none⟩), .int .i64 (i : Int)] W fun e w' => e = .returned (.bool false) ∧ Below W.heap.size W w') := fun W l hl h => by
              have := open19 h (i : Int)
              rw [(hcm l hl).2.2] at this
              exact this
            clear hd e0 hcm hi2 hj2 HX HF4 HM7 HB7
            generalize cmtR M (i : Int) = n1 at *
            generalize hiC M = n2 at *
            generalize M.sn (i : Int) = sn at *
            have hneI : ¬ (i : Int) = (j : Int) := by omega
            have hneJ : ¬ (j : Int) = (i : Int) := by omega
            go_wp2_with (first
              | (go_at_call 16; (with_reducible refine k16a.mono ?_); rintro e w11 ⟨rfl, l, hl, hL11⟩; have HB11 : Hid (Below w.heap.size w w11) := hB.out.trans hL11.out.2.b; have k16b := K16b.out _ l hl.out hL11.out.1 HB11.out.size)
              | (go_at_call 16; (with_reducible refine k16b.mono ?_); rintro e w12 ⟨rfl, hL12⟩; have HB12 : Hid (Below w.heap.size w w12) := HB11.out.trans hL12.out.2.b; have k19b := K19b.out _ l hl.out hL12.out.1)
              | (go_at_call 19; (with_reducible refine k19b.mono ?_); rintro e w13 ⟨rfl, hB13⟩; have k19a := K19a.out _ l hl.out (hL12.out.1.below hB13))
              | (go_at_call 19; (with_reducible refine k19a.mono ?_); rintro e w14 ⟨rfl, hB14⟩))
            go_ret
            exact ⟨rfl, HB12.out.trans ((bmore hB13 hB14).mono HB12.out.size)⟩
end Go.Proofs.Ytjgdcdeekpeenaa
