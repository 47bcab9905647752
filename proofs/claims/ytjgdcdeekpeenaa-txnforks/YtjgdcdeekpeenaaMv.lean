/- live. -/
import Derived.Test.YtjgdcdeekpeenaaMl
namespace Go.Proofs.Ytjgdcdeekpeenaa
open Go.RowKit Go.Shelf
set_option maxRecDepth 100000
abbrev ka : Ky := [97]
def L1 : Mg := ((Mg.new 0).rise 0).opn 0 ⟨0, []⟩
def L2 : Mg := (L1.rise 0).opn 1 ⟨0, []⟩
def L3 : Mg := L2.write 0 ⟨0, []⟩ ka
def L4 : Mg := L3.write 1 ⟨0, []⟩ ka
def L5 (l : List (Ky × Int)) : Mg := ((L4.rise 1).with l).close 0
theorem L4_op0 : L4.op 0 = some ⟨0, [ka]⟩ := by simp [L4, L3, Mg.write, Mg.opn]
theorem L5_op1 (l : List (Ky × Int)) : (L5 l).op 1 = some ⟨0, [ka]⟩ := by simp [L5, L4, Mg.close, Mg.with, Mg.rise, Mg.write, Mg.opn]
theorem L5_op (l : List (Ky × Int)) (i : Nat) (h : i ≠ 1) : (L5 l).op i = none := by
  by_cases h0 : i = 0
  · simp [L5, Mg.close, h0]
  · simp [L5, L4, L3, L2, L1, Mg.close, Mg.with, Mg.rise, Mg.write, Mg.opn, Mg.new, h, h0]
theorem L5_old (l : List (Ky × Int)) : oldN (L5 l) 4 = (0, true) := by
  simp [oldN, L5_op l 0 (by decide), L5_op l 2 (by decide), L5_op l 3 (by decide), L5_op1]
theorem L4_err : errT L4 ⟨0, [ka]⟩ = 0 := by
  have : clash L4 ⟨0, [ka]⟩ = false := by simp [clash, wrAt, L4, L3, L2, L1, Mg.write, Mg.opn, Mg.rise, Mg.new]
  have hh : L4.high = 0 := rfl
  simp [errT, this, hh]
theorem L5_err {l : List (Ky × Int)} (h : Noted [] l [ka] 1) : errT (L5 l) ⟨0, [ka]⟩ = 13 := by
  have h1 : wrAt l ka = 1 := by rw [h.at' ka]; simp
  have : clash (L5 l) ⟨0, [ka]⟩ = true := by
    have e : (L5 l).wr = l := rfl
    simp [clash, e, h1]
  simp [errT, this]
set_option maxHeartbeats 1000000 in
theorem live10 (w : World) : Calls Try.prog 10 #[] w fun e w' => e = .returned (.bool true) ∧ Below w.heap.size w w' := by
  have k12 := new12 0 w
  rw [show at0 0 = 0 by decide] at k12
  have K13a : Hid (∀ W m wm s k, MM W w.heap.size ⟨m, wm, s, k⟩ (Mg.new 0) → w.heap.size ≤ W.heap.size → Calls Try.prog 13 #[.pointer (some ⟨m, 0, none⟩), .int .i64 0] W fun e w' => e = .returned (.tuple #[.int .i64 0, .int .i64 0]) ∧ ∃ s k, Hid (Lft w.heap.size ⟨m, wm, s, k⟩ L1 W w')) := fun W m wm s k h q => by
    refine (begin13_yes (i := 0) h q (by decide) rfl).mono ?_
    rintro e w' ⟨rfl, s', k', h⟩
    exact ⟨rfl, _, _, h⟩
  have K13b : Hid (∀ W m wm s k, MM W w.heap.size ⟨m, wm, s, k⟩ L1 → w.heap.size ≤ W.heap.size → Calls Try.prog 13 #[.pointer (some ⟨m, 0, none⟩), .int .i64 1] W fun e w' => e = .returned (.tuple #[.int .i64 0, .int .i64 0]) ∧ ∃ s k, Hid (Lft w.heap.size ⟨m, wm, s, k⟩ L2 W w')) := fun W m wm s k h q => by
    refine (begin13_yes (i := 1) h q (by decide) (by simp [L1, Mg.opn, Mg.rise, Mg.new])).mono ?_
    rintro e w' ⟨rfl, s', k', h⟩
    exact ⟨rfl, _, _, h⟩
  have K15a : Hid (∀ W m wm s k, MM W w.heap.size ⟨m, wm, s, k⟩ L2 → w.heap.size ≤ W.heap.size → Calls Try.prog 15 #[.pointer (some ⟨m, 0, none⟩), .int .i64 0, .string { data := #[97] }] W fun e w' => e = .returned (.int .i64 0) ∧ Hid (Lft w.heap.size ⟨m, wm, s, k⟩ L3 W w')) := fun W m wm s k h q => by
    have := write15_yes (i := 0) h q (by decide) (s := ⟨0, []⟩) (by simp [L2, L1, Mg.opn, Mg.rise]) (by simp) { data := #[97] } (by unfold maxLen; decide)
    exact this
  have K15b : Hid (∀ W m wm s k, MM W w.heap.size ⟨m, wm, s, k⟩ L3 → w.heap.size ≤ W.heap.size → Calls Try.prog 15 #[.pointer (some ⟨m, 0, none⟩), .int .i64 1, .string { data := #[97] }] W fun e w' => e = .returned (.int .i64 0) ∧ Hid (Lft w.heap.size ⟨m, wm, s, k⟩ L4 W w')) := fun W m wm s k h q => by
    have := write15_yes (i := 1) h q (by decide) (s := ⟨0, []⟩) (by simp [L3, L2, Mg.write, Mg.opn]) (by simp) { data := #[97] } (by unfold maxLen; decide)
    exact this
  have K16a : Hid (∀ W m wm s k, MM W w.heap.size ⟨m, wm, s, k⟩ L4 → w.heap.size ≤ W.heap.size → Calls Try.prog 16 #[.pointer (some ⟨m, 0, none⟩), .int .i64 0] W fun e w' => e = .returned (.tuple #[.int .i64 1, .int .i64 0]) ∧ ∃ l, Hid (Noted [] l [ka] 1) ∧ Hid (Lft w.heap.size ⟨m, wm, s, k⟩ (L5 l) W w')) := fun W m wm s k h q => by
    refine (commit16_yes (i := 0) h q ⟨by decide, by decide, by decide, by decide⟩ (by decide) L4_op0 L4_err (by decide)).mono ?_
    rintro e w' ⟨rfl, l, h1, h2⟩
    exact ⟨rfl, l, h1, h2⟩
  have K16b : Hid (∀ W m wm s k l, Noted [] l [ka] 1 → MM W w.heap.size ⟨m, wm, s, k⟩ (L5 l) → Calls Try.prog 16 #[.pointer (some ⟨m, 0, none⟩), .int .i64 1] W fun e w' => e = .returned (.tuple #[.int .i64 0, .int .i64 13]) ∧ Below W.heap.size W w') := fun W m wm s k l hl h => by
    have := commit16_err (i := 1) h (by decide) (L5_op1 l) (by rw [L5_err hl]; decide)
    rw [L5_err hl] at this
    exact this
  have K24 : Hid (∀ W m wm s k l, MM W w.heap.size ⟨m, wm, s, k⟩ (L5 l) → Calls Try.prog 24 #[.pointer (some ⟨m, 0, none⟩)] W fun e w' => e = .returned (.tuple #[.int .i64 0, .bool true]) ∧ Below W.heap.size W w') := fun W m wm s k l h => by
    have := oldest24 h
    rw [L5_old] at this
    exact this
  have K26 : Hid (∀ W m wm s k l, MM W w.heap.size ⟨m, wm, s, k⟩ (L5 l) → Calls Try.prog 26 #[.pointer (some ⟨m, 0, none⟩)] W fun e w' => e = .returned (.int .i64 1) ∧ Below W.heap.size W w') := fun W m wm s k l h => by
    have := high26 h
    exact this
  have K17 : Hid (∀ W m wm s k l, MM W w.heap.size ⟨m, wm, s, k⟩ (L5 l) → w.heap.size ≤ W.heap.size → Calls Try.prog 17 #[.pointer (some ⟨m, 0, none⟩), .int .i64 1] W fun e w' => e = .returned (.int .i64 0) ∧ Hid (Lft w.heap.size ⟨m, wm, s, k⟩ ((L5 l).close 1) W w')) := fun W m wm s k l h q => by
    have := end17_yes (i := 1) h (by decide) (L5_op1 l) q
    exact this
  go_enter Try.func10, Try.ntmps10
  go_wp2_with (first
    | (go_at_call 12; (with_reducible refine k12.mono ?_); rintro e w1 ⟨⟨m, wm, s0, k0⟩, rfl, hM1, hB1⟩; have k13a := K13a.out _ _ _ _ _ hM1 hB1.size; have HB1 : Hid (Below w.heap.size w w1) := hB1; clear hM1 hB1)
    | (go_at_call 13; (with_reducible refine k13a.mono ?_); rintro e w2 ⟨rfl, s2, k2, hL2⟩; have HB2 : Hid (Below w.heap.size w w2) := HB1.out.trans hL2.out.2.b; have k13b := K13b.out _ _ _ _ _ hL2.out.1 HB2.out.size)
    | (go_at_call 13; (with_reducible refine k13b.mono ?_); rintro e w3 ⟨rfl, s3, k3, hL3⟩; have HB3 : Hid (Below w.heap.size w w3) := HB2.out.trans hL3.out.2.b; have k15a := K15a.out _ _ _ _ _ hL3.out.1 HB3.out.size)
    | (go_at_call 15; (with_reducible refine k15a.mono ?_); rintro e w4 ⟨rfl, hL4⟩; have HB4 : Hid (Below w.heap.size w w4) := HB3.out.trans hL4.out.2.b; have k15b := K15b.out _ _ _ _ _ hL4.out.1 HB4.out.size)
    | (go_at_call 15; (with_reducible refine k15b.mono ?_); rintro e w5 ⟨rfl, hL5⟩; have HB5 : Hid (Below w.heap.size w w5) := HB4.out.trans hL5.out.2.b; have k16a := K16a.out _ _ _ _ _ hL5.out.1 HB5.out.size)
    | (go_at_call 16; (with_reducible refine k16a.mono ?_); rintro e w6 ⟨rfl, l, hl, hL6⟩; have HB6 : Hid (Below w.heap.size w w6) := HB5.out.trans hL6.out.2.b; have k16b := K16b.out _ _ _ _ _ l hl.out hL6.out.1)
    | (go_at_call 16; (with_reducible refine k16b.mono ?_); rintro e w7 ⟨rfl, hB7⟩; have HM7 : Hid _ := hL6.out.1.below hB7; have HB7 : Hid (Below w.heap.size w w7) := bmore HB6.out hB7; have k24 := K24.out _ _ _ _ _ l HM7.out)
    | (go_at_call 24; (with_reducible refine k24.mono ?_); rintro e w8 ⟨rfl, hB8⟩; have HM8 : Hid _ := HM7.out.below hB8; have HB8 : Hid (Below w.heap.size w w8) := bmore HB7.out hB8; have k26 := K26.out _ _ _ _ _ l HM8.out)
    | (go_at_call 26; (with_reducible refine k26.mono ?_); rintro e w9 ⟨rfl, hB9⟩; have HM9 : Hid _ := HM8.out.below hB9; have HB9 : Hid (Below w.heap.size w w9) := bmore HB8.out hB9; have k17 := K17.out _ _ _ _ _ l HM9.out HB9.out.size)
    | (go_at_call 17; (with_reducible refine k17.mono ?_); rintro e w10 ⟨rfl, hL10⟩))
  go_ret
  exact ⟨rfl, HB9.out.trans hL10.out.2.b⟩
end Go.Proofs.Ytjgdcdeekpeenaa
