/- play; the law TxnPlays. -/
import Derived.Test.YtjgdcdeekpeenaaRn
import Derived.Test.YtjgdcdeekpeenaaRo
import Derived.Test.YtjgdcdeekpeenaaMv
namespace Go.Proofs.Ytjgdcdeekpeenaa
open Go.RowKit Go.Shelf
set_option maxRecDepth 100000
def PPost (w : World) (e : Ending) (w' : World) : Prop := ∃ m wm r s k M R, e = .returned (.tuple #[.pointer (some ⟨m, 0, none⟩), .pointer (some ⟨r, 0, none⟩), .bool true]) ∧ Bo w' w.heap.size m wm s k M r R 60 ∧ Below w.heap.size w w'
set_option maxHeartbeats 2000000 in
theorem play9 {w : World} {v : Value} {xs : List Dd} (x : Int) (hx : InD w v xs) : Calls Try.prog 9 #[.int .i64 x, v] w (PPost w) := by
  obtain ⟨av, cv, rfl, hx⟩ := hx
  have k12 := new12 x w
  have K28 : Hid (∀ W, Calls Try.prog 28 #[.int .i64 x] W fun e w' => ∃ r K D, e = .returned (.pointer (some ⟨r, 0, none⟩)) ∧ RM w' r K D (Rf.new (at0 x)) ∧ W.heap.size ≤ r ∧ Below W.heap.size W w') := fun W => rnew28 x W
  have HX : Hid _ := hx
  obtain ⟨N, hN⟩ : ∃ N, xs.length = N := ⟨_, rfl⟩
  rw [hN]
  have HN : Hid (xs.length = N) := hN
  clear hx hN
  go_enter Try.func9, Try.ntmps9
  go_wp2_with (first
    | (go_at_call 12; (with_reducible refine k12.mono ?_); rintro e w1 ⟨⟨m, wm, s0, k0⟩, rfl, hM1, hB1⟩; have HM1 : Hid (MM w1 w.heap.size ⟨m, wm, s0, k0⟩ (Mg.new (at0 x))) := hM1; have HB1 : Hid (Below w.heap.size w w1) := hB1; have k28 := K28.out w1; clear hM1 hB1)
    | (go_at_call 28; (with_reducible refine k28.mono ?_); rintro e w2 ⟨r, K0, D0, rfl, hR2, hr, hB2⟩; have HB2 : Hid (Below w.heap.size w w2) := bmore HB1.out hB2; have HO : Hid (Bo w2 w.heap.size m wm s0 k0 (Mg.new (at0 x)) r (Rf.new (at0 x)) 0) := ⟨HM1.out.below hB2, ⟨K0, D0, hR2⟩, Rel.new _, Inv.new x, Nat.le_trans HB1.out.size hr, HB2.out.size⟩; clear hR2 hr hB2))
  clear k12 k28 K28 HM1 HB1
  go_loopw [9] (fun f9 wr => ∃ (k : Nat) (s k' : Nat → Nat) (M : Mg) (R : Rf), f9 = .int .i64 (k : Int) ∧ Hid (k ≤ N ∧ k ≤ 60) ∧ Hid (Bo wr w.heap.size m wm s k' M r R k) ∧ Hid (Below w.heap.size w wr)) (fun f9 _ => ((N : Int) - intOf f9).toNat)
  case atStart => exact ⟨0, _, _, _, _, rfl, ⟨Nat.zero_le _, by omega⟩, HO.out, HB2.out⟩
  case round =>
    obtain ⟨k, s, k', M, R, rfl, hk, hO, hB⟩ := hrel
    by_cases hkN : k < N ∧ k < 60
    · have b1 : (k : Int) < (N : Int) := by omega
      have b2 : (k : Int) < 60 := by omega
      have b3 : decide ((k : Int) < (N : Int)) = true := decide_eq_true b1
      have b4 : decide (k < N) = true := decide_eq_true (by omega)
      obtain ⟨x, hxk⟩ : ∃ x, xs[k]? = some x := ⟨_, List.getElem?_eq_getElem (by rw [HN.out]; omega)⟩
      obtain ⟨b, o, rfl, hb, hcell⟩ := HX.out (by rw [HN.out]; omega)
      obtain ⟨hxs, d0, d1, d2, d3⟩ := hcell k x hxk
      have c0 := (hB.out.cell (p := ⟨b, o + k * 4, none⟩) hb).trans d0
      have c1 := (hB.out.cell (p := ⟨b, o + k * 4 + 1, none⟩) hb).trans d1
      have c2 := (hB.out.cell (p := ⟨b, o + k * 4 + 2, none⟩) hb).trans d2
      have c3 := (hB.out.cell (p := ⟨b, o + k * 4 + 3, none⟩) hb).trans d3
      have h0k : (0 : Int) ≤ (k : Int) := by omega
      have k22 : Calls Try.prog 22 #[.pointer (some ⟨m, 0, none⟩), .pointer (some ⟨r, 0, none⟩), .agg #[.int .i64 x.kind, .int .i64 x.id, .string x.key, .int .i64 x.n]] wr (DPost wr w.heap.size m wm r k) := do22 hO.out (by omega) x hxs
      clear d0 d1 d2 d3 hcell hxk
      go_wp2_with (go_at_call 22; (with_reducible refine k22.mono ?_); rintro e w3 ⟨rfl, s3, k3, M3, R3, hO3, hB3⟩; have HO3 : Hid _ := hO3; have HB3 : Hid (Below w.heap.size w w3) := hB.out.trans hB3; clear hO3 hB3)
      go_roundw
      case rel => exact ⟨k + 1, s3, k3, M3, R3, by simp, ⟨by omega, by omega⟩, HO3.out, HB3.out⟩
      case measure => simp only [intOf]; omega
    · have HP : Hid (Bo wr w.heap.size m wm s k' M r R 60 ∧ Below w.heap.size w wr) := ⟨hO.out.mono hk.out.2, hB.out⟩
      by_cases c1 : k < N
      · have b1 : (k : Int) < (N : Int) := by omega
        have b2 : ¬ (k : Int) < 60 := by omega
        have b3 : decide ((k : Int) < (N : Int)) = true := decide_eq_true b1
        have b4 : decide (k < N) = true := decide_eq_true c1
        have b5 : decide ((k : Int) < 60) = false := decide_eq_false b2
        go_wp2_with fail
        exact bodyPost_ret (v := .tuple #[.pointer (some ⟨m, 0, none⟩), .pointer (some ⟨r, 0, none⟩), .bool true]) (by simp [results, Try.results9, go_sem]) rfl ⟨m, wm, r, s, k', M, R, rfl, HP.out.1, HP.out.2⟩
      · have b1 : ¬ (k : Int) < (N : Int) := by omega
        have b3 : decide ((k : Int) < (N : Int)) = false := decide_eq_false b1
        have b4 : decide (k < N) = false := decide_eq_false c1
        go_wp2_with fail
        exact bodyPost_ret (v := .tuple #[.pointer (some ⟨m, 0, none⟩), .pointer (some ⟨r, 0, none⟩), .bool true]) (by simp [results, Try.results9, go_sem]) rfl ⟨m, wm, r, s, k', M, R, rfl, HP.out.1, HP.out.2⟩
set_option maxHeartbeats 1000000 in
theorem txnPlays3 {w : World} {v : Value} {xs : List Dd} (x : Int) (hx : InD w v xs) : Calls Try.prog 3 #[.int .i64 x, v] w fun e w' => e = .returned (.bool true) ∧ Below w.heap.size w w' := by
  have k9 := play9 x hx
  clear hx
  go_enter Try.func3, Try.ntmps3
  go_wp2_with (first
    | (go_at_call 9; (with_reducible refine k9.mono ?_); rintro e w1 ⟨m, wm, r, s, k, M, R, rfl, hO1, hB1⟩; have HO1 : Hid (Bo w1 w.heap.size m wm s k M r R 60) := hO1; have HB1 : Hid (Below w.heap.size w w1) := hB1; have k10 := live10 w1; clear hO1 hB1)
    | (go_at_call 10; (with_reducible refine k10.mono ?_); rintro e w2 ⟨rfl, hB2⟩; have k11 := same11 (HO1.out.below hB2) (by decide); have HB2 : Hid (Below w.heap.size w w2) := bmore HB1.out hB2; clear hB2)
    | (go_at_call 11; (with_reducible refine k11.mono ?_); rintro e w3 ⟨rfl, hB3⟩; have HB3 : Hid (Below w.heap.size w w3) := bmore HB2.out hB3; clear hB3))
  go_ret
  exact ⟨rfl, HB3.out⟩
end Go.Proofs.Ytjgdcdeekpeenaa
