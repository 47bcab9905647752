/- The law TxnForks. -/
import Derived.Test.YtjgdcdeekpeenaaTp
import Derived.Test.YtjgdcdeekpeenaaFa
import Derived.Test.YtjgdcdeekpeenaaFb
import Derived.Test.YtjgdcdeekpeenaaNl
namespace Go.Proofs.Ytjgdcdeekpeenaa
open Go.RowKit Go.Shelf
set_option maxRecDepth 100000
theorem Rel.keysAll {M : Mg} {R : Rf} {n : Nat} (q : Rel M R n) (hn : n ≤ 1000) : ∀ i, i < 4 → (R.l i).keys.length ≤ 1000 := fun i hi => by
  cases hs : M.op i with
  | none => rw [q.cl i hi hs]; exact Nat.zero_le _
  | some s => exact Nat.le_trans (q.keysLen hi hs) hn
set_option maxHeartbeats 4000000 in
theorem txnForks7 {w : World} {v u : Value} {xs ys : List Dd} (x : Int) (hx : InD w v xs) (hy : InD w u ys) : Calls Try.prog 7 #[.int .i64 x, v, u] w fun e w' => e = .returned (.bool true) ∧ Below w.heap.size w w' := by
  have k9 := play9 x hx
  obtain ⟨av, cv, rfl, _⟩ := hx
  obtain ⟨au, cu, rfl, hy⟩ := hy
  have HX : Hid _ := hy
  obtain ⟨N, hN⟩ : ∃ N, ys.length = N := ⟨_, rfl⟩
  rw [hN]
  have HN : Hid (ys.length = N) := hN
  clear hy hN
  go_enter Try.func7, Try.ntmps7
  go_wp2_with (first
    | (go_at_call 9; (with_reducible refine k9.mono ?_); rintro e w1 ⟨m, wm, r, s, k, M, R, rfl, hO1, hB1⟩; have HO1 : Hid (Bo w1 w.heap.size m wm s k M r R 60) := hO1; have HB1 : Hid (Below w.heap.size w w1) := hB1; have k10 := live10 w1; clear hO1 hB1)
    | (go_at_call 10; (with_reducible refine k10.mono ?_); rintro e w2 ⟨rfl, hB2⟩; have HO2 : Hid (Bo w2 w.heap.size m wm s k M r R 60) := HO1.out.below hB2; have HB2 : Hid (Below w.heap.size w w2) := bmore HB1.out hB2; have k20 : Calls Try.prog 20 #[.pointer (some ⟨m, 0, none⟩)] w2 fun e w' => ∃ a', e = .returned (.pointer (some ⟨a'.m, 0, none⟩)) ∧ MM w' w2.heap.size a' M ∧ Below w2.heap.size w2 w' := (by have := fork20 HO2.out.mm; exact this); clear hB2)
    | (go_at_call 20; (with_reducible refine k20.mono ?_); rintro e w3 ⟨⟨m3, wm3, s3, k3⟩, rfl, hM3, hB3⟩; have HM3 : Hid (MM w3 w2.heap.size ⟨m3, wm3, s3, k3⟩ M) := hM3; have HB3 : Hid (Below w2.heap.size w2 w3) := hB3; obtain ⟨K3, D3, hR3⟩ := (HO2.out.below hB3).rm; have k21 := rfork21 hR3 (HO2.out.rel.keysAll (by decide)) (by have := HO2.out.rel.len; omega); clear hM3 hB3 hR3)
    | (go_at_call 21; (with_reducible refine k21.mono ?_); rintro e w4 ⟨g, K4, D4, rfl, hR4, hg, hB4⟩; have HB4 : Hid (Below w2.heap.size w2 w4) := bmore HB3.out hB4; have HO4 : Hid (Bo w4 w2.heap.size m3 wm3 s3 k3 M g R 60) := ⟨HM3.out.below hB4, ⟨K4, D4, hR4⟩, HO2.out.rel, HO2.out.inv, Nat.le_trans HB3.out.size hg, HB4.out.size⟩; clear hR4 hg hB4))
  clear k9 k10 k20 k21 HM3 HB3 HB1 HO1
  go_loopw [12] (fun f12 wr => ∃ (j : Nat) (s' k' : Nat → Nat) (M' : Mg) (R' : Rf), f12 = .int .i64 (j : Int) ∧ Hid (j ≤ N ∧ j ≤ 20) ∧ Hid (Bo wr w2.heap.size m3 wm3 s' k' M' g R' (60 + j)) ∧ Hid (Below w2.heap.size w2 wr)) (fun f12 _ => ((N : Int) - intOf f12).toNat)
  case atStart => exact ⟨0, _, _, _, _, rfl, ⟨Nat.zero_le _, by omega⟩, HO4.out, HB4.out⟩
  case round =>
    obtain ⟨j, s', k', M', R', rfl, hk, hO, hB⟩ := hrel
    by_cases hkN : j < N ∧ j < 20
    · have b1 : (j : Int) < (N : Int) := by omega
      have b2 : (j : Int) < 20 := by omega
      have b3 : decide ((j : Int) < (N : Int)) = true := decide_eq_true b1
      have b4 : decide (j < N) = true := decide_eq_true (by omega)
      obtain ⟨x, hxk⟩ : ∃ x, ys[j]? = some x := ⟨_, List.getElem?_eq_getElem (by rw [HN.out]; omega)⟩
      obtain ⟨b, o, rfl, hb, hcell⟩ := HX.out (by rw [HN.out]; omega)
      obtain ⟨hxs, d0, d1, d2, d3⟩ := hcell j x hxk
      have HBw : Hid (Below w.heap.size w wr) := HB2.out.trans (hB.out.mono HB2.out.size)
      have c0 := (HBw.out.cell (p := ⟨b, o + j * 4, none⟩) hb).trans d0
      have c1 := (HBw.out.cell (p := ⟨b, o + j * 4 + 1, none⟩) hb).trans d1
      have c2 := (HBw.out.cell (p := ⟨b, o + j * 4 + 2, none⟩) hb).trans d2
      have c3 := (HBw.out.cell (p := ⟨b, o + j * 4 + 3, none⟩) hb).trans d3
      have h0k : (0 : Int) ≤ (j : Int) := by omega
      have k22 : Calls Try.prog 22 #[.pointer (some ⟨m3, 0, none⟩), .pointer (some ⟨g, 0, none⟩), .agg #[.int .i64 x.kind, .int .i64 x.id, .string x.key, .int .i64 x.n]] wr (DPost wr w2.heap.size m3 wm3 g (60 + j)) := do22 hO.out (by omega) x hxs
      clear d0 d1 d2 d3 hcell hxk
      go_wp2_with (go_at_call 22; (with_reducible refine k22.mono ?_); rintro e w5 ⟨rfl, s5, k5, M5, R5, hO5, hB5⟩; have HO5 : Hid (Bo w5 w2.heap.size m3 wm3 s5 k5 M5 g R5 (60 + (j + 1))) := hO5; have HB5 : Hid (Below w2.heap.size w2 w5) := hB.out.trans hB5; clear hO5 hB5)
      go_roundw
      case rel => exact ⟨j + 1, s5, k5, M5, R5, by simp, ⟨by omega, by omega⟩, HO5.out, HB5.out⟩
      case measure => simp only [intOf]; omega
    · have HS1 : Hid (∀ W, Below wr.heap.size wr W → Calls Try.prog 11 #[.pointer (some ⟨m, 0, none⟩), .pointer (some ⟨r, 0, none⟩)] W fun e w' => e = .returned (.bool true) ∧ Below W.heap.size W w') := fun W q => same11 (HO2.out.below (hB.out.trans (q.mono hB.out.size))) (by decide)
      have HS2 : Hid (∀ W, Below wr.heap.size wr W → Calls Try.prog 11 #[.pointer (some ⟨m3, 0, none⟩), .pointer (some ⟨g, 0, none⟩)] W fun e w' => e = .returned (.bool true) ∧ Below W.heap.size W w') := fun W q => same11 (hO.out.below q) (by have := hk.out.2; omega)
      have k11 := HS1.out wr (Below.refl _ _)
      have HBw : Hid (Below w.heap.size w wr) := HB2.out.trans (hB.out.mono HB2.out.size)
      by_cases c1 : j < N
      · have b1 : (j : Int) < (N : Int) := by omega
        have b2 : ¬ (j : Int) < 20 := by omega
        have b3 : decide ((j : Int) < (N : Int)) = true := decide_eq_true b1
        have b4 : decide (j < N) = true := decide_eq_true c1
        have b5 : decide ((j : Int) < 20) = false := decide_eq_false b2
        go_wp2_with (first
          | (go_at_call 18; (with_reducible refine (nil18 _).mono ?_); rintro e w9 ⟨rfl, rfl⟩)
          | (go_at_call 13; (with_reducible refine (nil13 _).mono ?_); rintro e w9 ⟨rfl, rfl⟩)
          | (go_at_call 16; (with_reducible refine (nil16 _).mono ?_); rintro e w9 ⟨rfl, rfl⟩)
          | (go_at_call 23; (with_reducible refine (nil23 _ _).mono ?_); rintro e w9 ⟨rfl, rfl⟩)
          | (go_at_call 24; (with_reducible refine (nil24 _).mono ?_); rintro e w9 ⟨rfl, rfl⟩)
          | (go_at_call 15; (with_reducible refine (nil15 _).mono ?_); rintro e w9 ⟨rfl, rfl⟩)
          | (go_at_call 25; (with_reducible refine (nil25 _).mono ?_); rintro e w9 ⟨rfl, rfl⟩)
          | (go_at_call 17; (with_reducible refine (nil17 _).mono ?_); rintro e w9 ⟨rfl, rfl⟩)
          | (go_at_call 14; (with_reducible refine (nil14 _).mono ?_); rintro e w9 ⟨rfl, rfl⟩)
          | (go_at_call 26; (with_reducible refine (nil26 _).mono ?_); rintro e w9 ⟨rfl, rfl⟩)
          | (go_at_call 19; (with_reducible refine (nil19 _).mono ?_); rintro e w9 ⟨rfl, rfl⟩)
          | (go_at_call 27; (with_reducible refine (nil27 _).mono ?_); rintro e w9 ⟨rfl, rfl⟩)
          | (go_at_call 20; (with_reducible refine (nil20 _).mono ?_); rintro e w9 ⟨rfl, rfl⟩)
          | (go_at_call 11; (with_reducible refine k11.mono ?_); rintro e w6 ⟨rfl, hB6⟩; have k11b := HS2.out w6 hB6)
          | (go_at_call 11; (with_reducible refine k11b.mono ?_); rintro e w7 ⟨rfl, hB7⟩))
        go_ret
        exact ⟨rfl, bmore (bmore HBw.out hB6) hB7⟩
      · have b1 : ¬ (j : Int) < (N : Int) := by omega
        have b3 : decide ((j : Int) < (N : Int)) = false := decide_eq_false b1
        have b4 : decide (j < N) = false := decide_eq_false c1
        go_wp2_with (first
          | (go_at_call 18; (with_reducible refine (nil18 _).mono ?_); rintro e w9 ⟨rfl, rfl⟩)
          | (go_at_call 13; (with_reducible refine (nil13 _).mono ?_); rintro e w9 ⟨rfl, rfl⟩)
          | (go_at_call 16; (with_reducible refine (nil16 _).mono ?_); rintro e w9 ⟨rfl, rfl⟩)
          | (go_at_call 23; (with_reducible refine (nil23 _ _).mono ?_); rintro e w9 ⟨rfl, rfl⟩)
          | (go_at_call 24; (with_reducible refine (nil24 _).mono ?_); rintro e w9 ⟨rfl, rfl⟩)
          | (go_at_call 15; (with_reducible refine (nil15 _).mono ?_); rintro e w9 ⟨rfl, rfl⟩)
          | (go_at_call 25; (with_reducible refine (nil25 _).mono ?_); rintro e w9 ⟨rfl, rfl⟩)
          | (go_at_call 17; (with_reducible refine (nil17 _).mono ?_); rintro e w9 ⟨rfl, rfl⟩)
          | (go_at_call 14; (with_reducible refine (nil14 _).mono ?_); rintro e w9 ⟨rfl, rfl⟩)
          | (go_at_call 26; (with_reducible refine (nil26 _).mono ?_); rintro e w9 ⟨rfl, rfl⟩)
          | (go_at_call 19; (with_reducible refine (nil19 _).mono ?_); rintro e w9 ⟨rfl, rfl⟩)
          | (go_at_call 27; (with_reducible refine (nil27 _).mono ?_); rintro e w9 ⟨rfl, rfl⟩)
          | (go_at_call 20; (with_reducible refine (nil20 _).mono ?_); rintro e w9 ⟨rfl, rfl⟩)
          | (go_at_call 11; (with_reducible refine k11.mono ?_); rintro e w6 ⟨rfl, hB6⟩; have k11b := HS2.out w6 hB6)
          | (go_at_call 11; (with_reducible refine k11b.mono ?_); rintro e w7 ⟨rfl, hB7⟩))
        go_ret
        exact ⟨rfl, bmore (bmore HBw.out hB6) hB7⟩
end Go.Proofs.Ytjgdcdeekpeenaa
