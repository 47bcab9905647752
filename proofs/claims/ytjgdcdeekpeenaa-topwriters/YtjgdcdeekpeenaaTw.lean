/- The law TopWriters. -/
import Derived.Test.YtjgdcdeekpeenaaMc
import Derived.Test.YtjgdcdeekpeenaaAr
namespace Go.Proofs.Ytjgdcdeekpeenaa
open Go.RowKit Go.Shelf
set_option maxRecDepth 100000
abbrev kb : Ky := [107]
/-- How it stands in the midst of TopWriters. -/
structure Mid (M : Mg) (last : Int) (k : Nat) : Prop where
  c : M.clock = 0
  h0 : 0 ≤ M.high
  h1 : M.high ≤ k
  l1 : last ≤ M.high
  lw : (last = -1 ∧ wrAt M.wr kb = 0) ∨ (0 ≤ last ∧ wrAt M.wr kb = last)
  wl : M.wr.length ≤ k
  op : ∀ i s, M.op i = some s → s.keys = [kb] ∧ 0 ≤ s.since ∧ s.since ≤ M.high
theorem Mid.fit {M : Mg} {last : Int} {k : Nat} (h : Mid M last k) (hk : k ≤ 40) : Fit M := ⟨by rw [h.c]; omega, by rw [h.c]; omega, h.h0, by have := h.h1; omega⟩
theorem Mid.begin {M : Mg} {last : Int} {k : Nat} (h : Mid M last k) (i : Nat) : hiB M = M.high ∧ Mid (((M.rise (hiB M)).opn i ⟨hiB M, []⟩).write i ⟨hiB M, []⟩ kb) last (k + 1) := by
  have h0 := h.h0
  have e : hiB M = M.high := by unfold hiB; rw [h.c]; omega
  refine ⟨e, ?_⟩
  rw [e]
  refine ⟨h.c, h.h0, by have := h.h1; show M.high ≤ _; omega, h.l1, h.lw, by have := h.wl; show M.wr.length ≤ _; omega, fun j s q => ?_⟩
  by_cases c : j = i
  · simp only [Mg.write, Mg.opn, c, if_true, Option.some.injEq] at q
    subst q
    exact ⟨rfl, h.h0, Int.le_refl _⟩
  · simp only [Mg.write, Mg.opn, Mg.rise, c, if_false] at q
    exact h.op j s q
theorem Mid.close {M : Mg} {last : Int} {k : Nat} (h : Mid M last k) (i : Nat) : Mid (M.close i) last (k + 1) := by
  refine ⟨h.c, h.h0, by have := h.h1; show M.high ≤ _; omega, h.l1, h.lw, by have := h.wl; show M.wr.length ≤ _; omega, fun j s q => ?_⟩
  by_cases c : j = i
  · simp [Mg.close, c] at q
  · simp only [Mg.close, c, if_false] at q
    exact h.op j s q
theorem Mid.commit {M : Mg} {last : Int} {k : Nat} (h : Mid M last k) {i : Nat} {s : Sn} (hs : M.op i = some s) {l : List (Ky × Int)} (hl : Noted M.wr l s.keys (hiC M)) : hiC M = M.high + 1 ∧ Mid (((M.rise (hiC M)).with l).close i) (hiC M) (k + 1) := by
  have h0 := h.h0
  have e : hiC M = M.high + 1 := by unfold hiC; rw [h.c]; omega
  refine ⟨e, ?_⟩
  obtain ⟨hk, _, _⟩ := h.op i s hs
  have ha := hl.at' kb
  rw [hk] at ha hl
  simp only [List.mem_singleton, if_true] at ha
  have hln := hl.len
  simp only [List.length_singleton] at hln
  rw [e] at ha ⊢
  refine ⟨h.c, by show 0 ≤ M.high + 1; omega, by have := h.h1; show M.high + 1 ≤ _; omega, Int.le_refl _, .inr ⟨by omega, ha⟩, by have := h.wl; show l.length ≤ _; omega, fun j t q => ?_⟩
  by_cases c : j = i
  · simp [Mg.close, c] at q
  · simp only [Mg.close, Mg.with, Mg.rise, c, if_false] at q
    obtain ⟨q1, q2, q3⟩ := h.op j t q
    exact ⟨q1, q2, by show t.since ≤ M.high + 1; omega⟩
theorem Mid.test {M : Mg} {last : Int} {k : Nat} (h : Mid M last k) (hk : k < 40) {i : Nat} {s : Sn} (hs : M.op i = some s) : (last ≤ s.since ∧ errT M s = 0) ∨ (¬ last ≤ s.since ∧ errT M s = 13) := by
  obtain ⟨q1, q2, q3⟩ := h.op i s hs
  have h1 := h.h1
  have hc : clash M s = decide (s.since < wrAt M.wr kb) := by simp [clash, q1]
  have hm : ¬ M.high = 1073741824 := by omega
  by_cases e : last ≤ s.since
  · left
    refine ⟨e, ?_⟩
    have : ¬ s.since < wrAt M.wr kb := by rcases h.lw with ⟨_, r⟩ | ⟨_, r⟩ <;> rw [r] <;> omega
    simp [errT, hc, this, hm]
  · right
    refine ⟨e, ?_⟩
    have : s.since < wrAt M.wr kb := by rcases h.lw with ⟨_, r⟩ | ⟨_, r⟩ <;> rw [r] <;> omega
    simp [errT, hc, this]
set_option maxHeartbeats 2000000 in
theorem topWriters8 {w : World} {v : Value} {xs : List Nat} (hx : InU w v xs) : Calls Try.prog 8 #[v] w fun e w' => e = .returned (.bool true) ∧ Below w.heap.size w w' := by
  obtain ⟨av, cv, rfl, hx⟩ := hx
  have k12 := new12 0 w
  rw [show at0 0 = 0 by decide] at k12
  have HX : Hid _ := hx
  obtain ⟨N, hN⟩ : ∃ N, xs.length = N := ⟨_, rfl⟩
  rw [hN]
  have HN : Hid (xs.length = N) := hN
  clear hx hN
  go_enter Try.func8, Try.ntmps8
  go_wp2_with (go_at_call 12; (with_reducible refine k12.mono ?_); rintro e w1 ⟨⟨m, wm, s0, k0⟩, rfl, hM1, hB1⟩; have HM1 : Hid (MM w1 w.heap.size ⟨m, wm, s0, k0⟩ (Mg.new 0)) := hM1; have HB1 : Hid (Below w.heap.size w w1) := hB1; clear hM1 hB1)
  go_loopw [4, 5] (fun f4 f5 wr => ∃ (k : Nat) (last : Int) (s k' : Nat → Nat) (M : Mg), f4 = .int .i64 last ∧ f5 = .int .i64 (k : Int) ∧ Hid (k ≤ N ∧ k ≤ 40) ∧ Hid (MM wr w.heap.size ⟨m, wm, s, k'⟩ M) ∧ Hid (Mid M last k) ∧ Hid (Below w.heap.size w wr)) (fun _ f5 _ => ((N : Int) - intOf f5).toNat)
  case atStart => exact ⟨0, -1, s0, k0, _, rfl, rfl, ⟨Nat.zero_le _, by omega⟩, HM1.out, ⟨rfl, Int.le_refl _, Int.le_refl _, by simp [Mg.new], .inl ⟨rfl, rfl⟩, Nat.le_refl _, fun i s q => (by cases q)⟩, HB1.out⟩
  case round =>
    obtain ⟨k, last, s, k', M, rfl, rfl, hk, hM, hI, hB⟩ := hrel
    by_cases hkN : k < N ∧ k < 40
    · have b1 : (k : Int) < (N : Int) := by omega
      have b2 : (k : Int) < 40 := by omega
      have b3 : decide ((k : Int) < (N : Int)) = true := decide_eq_true b1
      have b4 : decide (k < N) = true := decide_eq_true (by omega)
      obtain ⟨x, hxk⟩ : ∃ x, xs[k]? = some x := ⟨_, List.getElem?_eq_getElem (by rw [HN.out]; omega)⟩
      obtain ⟨b, o, rfl, hb, hcell⟩ := HX.out (by rw [HN.out]; omega)
      obtain ⟨hx256, hc⟩ := hcell k x hxk
      have hc' : wr.cell? ⟨b, o + k, none⟩ = some (.int .u8 (x : Int)) := (hB.out.cell (p := ⟨b, o + k, none⟩) hb).trans hc
      have h0k : (0 : Int) ≤ (k : Int) := by omega
      go_upto_region 9 with fail
      rw [show (x : Int) % 4 = ((x % 4 : Nat) : Int) by omega]
      obtain ⟨j, hj⟩ : ∃ j, x % 4 = j := ⟨_, rfl⟩
      have hj4 : j < 4 := by omega
      rw [hj]
      clear hj hc hc' hcell hxk hx256 b1 b2 b3 b4 h0k
      have HBw : Hid (w.heap.size ≤ wr.heap.size) := hB.out.size
      cases hs : M.op j with
      | none =>
        have k19 : Calls Try.prog 19 #[.pointer (some ⟨m, 0, none⟩), .int .i64 (j : Int)] wr fun e w' => e = .returned (.bool false) ∧ Below wr.heap.size wr w' := by
          have := open19 hM.out (j : Int)
          rw [err_none hj4 hs] at this
          exact this
        have HK13 : Hid (∀ W, Below wr.heap.size wr W → Calls Try.prog 13 #[.pointer (some ⟨m, 0, none⟩), .int .i64 (j : Int)] W fun e w' => e = .returned (.tuple #[.int .i64 (hiB M), .int .i64 0]) ∧ ∃ s' k'', Hid (Lft w.heap.size ⟨m, wm, s', k''⟩ ((M.rise (hiB M)).opn j ⟨hiB M, []⟩) W w')) := fun W q => by
          refine (begin13_yes (hM.out.below q) (Nat.le_trans HBw.out q.size) hj4 hs).mono ?_
          rintro e w' ⟨rfl, s', k'', h⟩
          exact ⟨rfl, _, _, h⟩
        have HK15 : Hid (∀ W s' k'', MM W w.heap.size ⟨m, wm, s', k''⟩ ((M.rise (hiB M)).opn j ⟨hiB M, []⟩) → w.heap.size ≤ W.heap.size → Calls Try.prog 15 #[.pointer (some ⟨m, 0, none⟩), .int .i64 (j : Int), .string { data := #[107] }] W fun e w' => e = .returned (.int .i64 0) ∧ Hid (Lft w.heap.size ⟨m, wm, s', k''⟩ (((M.rise (hiB M)).opn j ⟨hiB M, []⟩).write j ⟨hiB M, []⟩ kb) W w')) := fun W s' k'' h q => by
          have := write15_yes h q hj4 (s := ⟨hiB M, []⟩) (by simp [Mg.opn]) (by simp) { data := #[107] } (by unfold maxLen; decide)
          exact this
        have HI : Hid _ := (hI.out.begin j).2
        clear hs
        go_wp2_with (first
          | (go_at_call 19; (with_reducible refine k19.mono ?_); rintro e w2 ⟨rfl, hB2⟩)
          | (go_at_call 13; (with_reducible refine (HK13.out _ hB2).mono ?_); rintro e w3 ⟨rfl, s3, k3, hL3⟩; have hz3 : w.heap.size ≤ w3.heap.size := Nat.le_trans (Nat.le_trans HBw.out hB2.size) hL3.out.2.b.size; have k15 := HK15.out _ s3 k3 hL3.out.1 hz3)
          | (go_at_call 15; (with_reducible refine k15.mono ?_); rintro e w4 ⟨rfl, hL4⟩))
        go_roundw
        case rel => exact ⟨k + 1, last, s3, k3, _, rfl, by simp, ⟨by omega, by omega⟩, hL4.out.1, HI.out, hB.out.trans ((hB2.mono HBw.out).trans (hL3.out.2.b.trans hL4.out.2.b))⟩
        case measure => simp only [intOf]; omega
      | some sn =>
        have hfit := hI.out.fit hk.out.2
        have htest := hI.out.test hkN.2 hs
        have k19 : Calls Try.prog 19 #[.pointer (some ⟨m, 0, none⟩), .int .i64 (j : Int)] wr fun e w' => e = .returned (.bool true) ∧ Below wr.heap.size wr w' := by
          have := open19 hM.out (j : Int)
          rw [err_yes hj4 hs] at this
          exact this
        have HK23 : Hid (∀ W, Below wr.heap.size wr W → Calls Try.prog 23 #[.pointer (some ⟨m, 0, none⟩), .int .i64 (j : Int)] W fun e w' => e = .returned (.tuple #[.int .i64 sn.since, .bool true]) ∧ Below W.heap.size W w') := fun W q => since23_yes (hM.out.below q) hj4 hs
        rcases htest with ⟨hls, het⟩ | ⟨hls, het⟩
        · have HK16 : Hid (∀ W, Below wr.heap.size wr W → Calls Try.prog 16 #[.pointer (some ⟨m, 0, none⟩), .int .i64 (j : Int)] W fun e w' => e = .returned (.tuple #[.int .i64 (hiC M), .int .i64 0]) ∧ ∃ l, Hid (Noted M.wr l sn.keys (hiC M)) ∧ Hid (Lft w.heap.size ⟨m, wm, s, k'⟩ (((M.rise (hiC M)).with l).close j) W w')) := fun W q => by
            refine (commit16_yes (hM.out.below q) (Nat.le_trans HBw.out q.size) hfit hj4 hs het (by have h1 := hI.out.wl; have h2 := (hI.out.op j sn hs).1; rw [h2]; simp only [List.length_singleton]; omega)).mono ?_
            rintro e w' ⟨rfl, l, h1, h2⟩
            exact ⟨rfl, l, h1, h2⟩
          have HI : Hid (∀ l, Noted M.wr l sn.keys (hiC M) → Mid (((M.rise (hiC M)).with l).close j) (hiC M) (k + 1)) := fun l h => (hI.out.commit hs h).2
          clear hs het hfit
          go_wp2_with (first
            | (go_at_call 19; (with_reducible refine k19.mono ?_); rintro e w2 ⟨rfl, hB2⟩; have k23 := HK23.out _ hB2)
            | (go_at_call 23; (with_reducible refine k23.mono ?_); rintro e w3 ⟨rfl, hB3⟩; have k16 := HK16.out _ (bmore hB2 hB3))
            | (go_at_call 16; (with_reducible refine k16.mono ?_); rintro e w4 ⟨rfl, l, hl, hL4⟩))
          go_roundw
          case rel => exact ⟨k + 1, hiC M, s, k', _, rfl, by simp, ⟨by omega, by omega⟩, hL4.out.1, HI.out l hl.out, hB.out.trans (((bmore hB2 hB3).mono HBw.out).trans hL4.out.2.b)⟩
          case measure => simp only [intOf]; omega
        · have HK16 : Hid (∀ W, Below wr.heap.size wr W → Calls Try.prog 16 #[.pointer (some ⟨m, 0, none⟩), .int .i64 (j : Int)] W fun e w' => e = .returned (.tuple #[.int .i64 0, .int .i64 13]) ∧ Below W.heap.size W w') := fun W q => by
            have := commit16_err (hM.out.below q) hj4 hs (by rw [het]; decide)
            rw [het] at this
            exact this
          have HK17 : Hid (∀ W, Below wr.heap.size wr W → Calls Try.prog 17 #[.pointer (some ⟨m, 0, none⟩), .int .i64 (j : Int)] W fun e w' => e = .returned (.int .i64 0) ∧ Hid (Lft w.heap.size ⟨m, wm, s, k'⟩ (M.close j) W w')) := fun W q => end17_yes (hM.out.below q) hj4 hs (Nat.le_trans HBw.out q.size)
          clear hs het hfit
          go_wp2_with (first
            | (go_at_call 19; (with_reducible refine k19.mono ?_); rintro e w2 ⟨rfl, hB2⟩; have k23 := HK23.out _ hB2)
            | (go_at_call 23; (with_reducible refine k23.mono ?_); rintro e w3 ⟨rfl, hB3⟩; have k16 := HK16.out _ (bmore hB2 hB3))
            | (go_at_call 16; (with_reducible refine k16.mono ?_); rintro e w4 ⟨rfl, hB4⟩; have k17 := HK17.out _ (bmore (bmore hB2 hB3) hB4))
            | (go_at_call 17; (with_reducible refine k17.mono ?_); rintro e w5 ⟨rfl, hL5⟩))
          go_roundw
          case rel => exact ⟨k + 1, last, s, k', _, rfl, by simp, ⟨by omega, by omega⟩, hL5.out.1, hI.out.close j, hB.out.trans (((bmore (bmore hB2 hB3) hB4).mono HBw.out).trans hL5.out.2.b)⟩
          case measure => simp only [intOf]; omega
    · have k26 : Calls Try.prog 26 #[.pointer (some ⟨m, 0, none⟩)] wr fun e w' => e = .returned (.int .i64 M.high) ∧ Below wr.heap.size wr w' := by
        have := high26 hM.out
        exact this
      have hl1 := hI.out.l1
      have HBw : Hid (w.heap.size ≤ wr.heap.size) := hB.out.size
      by_cases c1 : k < N
      · have b1 : (k : Int) < (N : Int) := by omega
        have b2 : ¬ (k : Int) < 40 := by omega
        have b3 : decide ((k : Int) < (N : Int)) = true := decide_eq_true b1
        have b4 : decide (k < N) = true := decide_eq_true c1
        have b5 : decide ((k : Int) < 40) = false := decide_eq_false b2
        go_wp2_with (go_at_call 26; (with_reducible refine k26.mono ?_); rintro e w2 ⟨rfl, hB2⟩)
        go_ret
        exact ⟨by simp, hB.out.trans (hB2.mono HBw.out)⟩
      · have b1 : ¬ (k : Int) < (N : Int) := by omega
        have b3 : decide ((k : Int) < (N : Int)) = false := decide_eq_false b1
        have b4 : decide (k < N) = false := decide_eq_false c1
        go_wp2_with (go_at_call 26; (with_reducible refine k26.mono ?_); rintro e w2 ⟨rfl, hB2⟩)
        go_ret
        exact ⟨by simp, hB.out.trans (hB2.mono HBw.out)⟩
end Go.Proofs.Ytjgdcdeekpeenaa
