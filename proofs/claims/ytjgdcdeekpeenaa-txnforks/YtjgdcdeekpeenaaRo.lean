/- Both tell the same. -/
import Derived.Test.YtjgdcdeekpeenaaRm
import Derived.Test.YtjgdcdeekpeenaaMl
namespace Go.Proofs.Ytjgdcdeekpeenaa
open Go.RowKit Go.Shelf
set_option maxRecDepth 100000
def sinceM (M : Mg) (id : Int) : Int := if errM M id = 0 then (M.sn id).since else 0
theorem since23 {w : World} {B : Nat} {a : At} {M : Mg} (h : MM w B a M) (id : Int) : Calls Try.prog 23 #[.pointer (some ⟨a.m, 0, none⟩), .int .i64 id] w fun e w' => e = .returned (.tuple #[.int .i64 (sinceM M id), .bool (decide (errM M id = 0))]) ∧ Below w.heap.size w w' := by
  by_cases c : errM M id = 0
  · obtain ⟨i, s, hi, rfl, hs⟩ := errM_zero c
    have := since23_yes h hi hs
    rw [sinceM, if_pos c, sn_of hs, decide_eq_true c]
    exact this
  · have := since23_no h id c
    rw [sinceM, if_neg c, decide_eq_false c]
    exact this
theorem Rel.since {M : Mg} {R : Rf} {n : Nat} (q : Rel M R n) (id : Int) : sinceR R id = sinceM M id := by
  unfold sinceR sinceM
  rw [q.err]
  by_cases c : errM M id = 0
  · rw [if_pos c, if_pos c]
    obtain ⟨i, s, hi, rfl, hs⟩ := errM_zero c
    rw [sn_of hs, Int.toNat_natCast]
    exact (q.yes i s hi hs).since
  · rw [if_neg c, if_neg c]
theorem wroteBoth {B m wm r n : Nat} {s k : Nat → Nat} {M : Mg} {R : Rf} (q : Rel M R n) (hI : Inv M n) (hn : n ≤ 100) (id : Int) : ∃ L : List ByteArray, L.length ≤ 1000 ∧ ∀ W, Bo W B m wm s k M r R n → Calls Try.prog 27 #[.pointer (some ⟨m, 0, none⟩), .int .i64 id] W (WPost W L) ∧ Calls Try.prog 33 #[.pointer (some ⟨r, 0, none⟩), .int .i64 id] W (WPost W L) := by
  by_cases c : errM M id = 0
  · obtain ⟨i, s', hi, rfl, hs⟩ := errM_zero c
    obtain ⟨h1, h2, l, h3, h4, h5⟩ := q.yes i s' hi hs
    refine ⟨l.map ofL, by rw [List.length_map]; omega, fun W h => ?_⟩
    obtain ⟨K, D, hR⟩ := h.rm
    have k1 := writes27_yes h.mm hi hs (by have := (hI.keys i s' hs).1; omega) h3
    have k2 := rwrites33_yes hR hi h1 (by rw [h4, List.length_map]; omega)
    rw [h4] at k2
    exact ⟨k1, k2⟩
  · refine ⟨[], Nat.zero_le _, fun W h => ?_⟩
    obtain ⟨K, D, hR⟩ := h.rm
    exact ⟨writes27_no h.mm id c, rwrites33_no hR id (by rw [q.err]; exact c)⟩
set_option maxHeartbeats 2000000 in
theorem same11 {w : World} {B m wm r n : Nat} {s k : Nat → Nat} {M : Mg} {R : Rf} (h : Bo w B m wm s k M r R n) (hn : n ≤ 100) : Calls Try.prog 11 #[.pointer (some ⟨m, 0, none⟩), .pointer (some ⟨r, 0, none⟩)] w fun e w' => e = .returned (.bool true) ∧ Below w.heap.size w w' := by
  have HO : Hid (∀ W, Below w.heap.size w W → Bo W B m wm s k M r R n) := fun W q => h.below q
  have K23 : Hid (∀ W id, Below w.heap.size w W → Calls Try.prog 23 #[.pointer (some ⟨m, 0, none⟩), .int .i64 id] W fun e w' => e = .returned (.tuple #[.int .i64 (sinceM M id), .bool (decide (errM M id = 0))]) ∧ Below W.heap.size W w') := fun W id q => by
    have := since23 (h.below q).mm id
    exact this
  have K29 : Hid (∀ W id, Below w.heap.size w W → Calls Try.prog 29 #[.pointer (some ⟨r, 0, none⟩), .int .i64 id] W fun e w' => e = .returned (.tuple #[.int .i64 (sinceM M id), .bool (decide (errM M id = 0))]) ∧ Below W.heap.size W w') := fun W id q => by
    obtain ⟨K, D, hR⟩ := (h.below q).rm
    rw [← h.rel.since, ← h.rel.err]
    exact rsince29 hR id
  have K19 : Hid (∀ W id, Below w.heap.size w W → Calls Try.prog 19 #[.pointer (some ⟨m, 0, none⟩), .int .i64 id] W fun e w' => e = .returned (.bool (decide (errM M id = 0))) ∧ Below W.heap.size W w') := fun W id q => by
    have := open19 (h.below q).mm id
    exact this
  have K30 : Hid (∀ W id, Below w.heap.size w W → Calls Try.prog 30 #[.pointer (some ⟨r, 0, none⟩), .int .i64 id] W fun e w' => e = .returned (.bool (decide (errM M id = 0))) ∧ Below W.heap.size W w') := fun W id q => by
    obtain ⟨K, D, hR⟩ := (h.below q).rm
    rw [← h.rel.err]
    exact ropen30 hR id
  have K25 : Hid (∀ W id, Below w.heap.size w W → Calls Try.prog 25 #[.pointer (some ⟨m, 0, none⟩), .int .i64 id] W fun e w' => e = .returned (.int .i64 (errC M id)) ∧ Below W.heap.size W w') := fun W id q => by
    have := test25 (h.below q).mm id
    exact this
  have K31 : Hid (∀ W id, Below w.heap.size w W → Calls Try.prog 31 #[.pointer (some ⟨r, 0, none⟩), .int .i64 id] W fun e w' => e = .returned (.int .i64 (errC M id)) ∧ Below W.heap.size W w') := fun W id q => by
    obtain ⟨K, D, hR⟩ := (h.below q).rm
    exact rtest31' hR h.rel h.inv hn id
  have KW : Hid (∀ id, ∃ L : List ByteArray, L.length ≤ 1000 ∧ ∀ W, Below w.heap.size w W → Calls Try.prog 27 #[.pointer (some ⟨m, 0, none⟩), .int .i64 id] W (WPost W L) ∧ Calls Try.prog 33 #[.pointer (some ⟨r, 0, none⟩), .int .i64 id] W (WPost W L)) := fun id => by
    obtain ⟨L, h1, h2⟩ := wroteBoth (B := B) (m := m) (wm := wm) (r := r) (s := s) (k := k) h.rel h.inv hn id
    exact ⟨L, h1, fun W q => h2 W (h.below q)⟩
  have K24 : Hid (∀ W, Below w.heap.size w W → Calls Try.prog 24 #[.pointer (some ⟨m, 0, none⟩)] W fun e w' => e = .returned (.tuple #[.int .i64 (oldN M 4).1, .bool (oldN M 4).2]) ∧ Below W.heap.size W w') := fun W q => by
    have := oldest24 (h.below q).mm
    exact this
  have K34 : Hid (∀ W, Below w.heap.size w W → Calls Try.prog 34 #[.pointer (some ⟨r, 0, none⟩)] W fun e w' => e = .returned (.tuple #[.int .i64 (oldN M 4).1, .bool (oldN M 4).2]) ∧ Below W.heap.size W w') := fun W q => by
    obtain ⟨K, D, hR⟩ := (h.below q).rm
    rw [← h.rel.old 4 (Nat.le_refl _)]
    exact roldest34 hR
  have K14 : Hid (∀ W, Below w.heap.size w W → Calls Try.prog 14 #[.pointer (some ⟨m, 0, none⟩)] W fun e w' => e = .returned (.int .i64 M.clock) ∧ Below W.heap.size W w') := fun W q => by
    have := clock14 (h.below q).mm
    exact this
  have K35 : Hid (∀ W, Below w.heap.size w W → Calls Try.prog 35 #[.pointer (some ⟨r, 0, none⟩)] W fun e w' => e = .returned (.int .i64 M.clock) ∧ Below W.heap.size W w') := fun W q => by
    obtain ⟨K, D, hR⟩ := (h.below q).rm
    rw [← h.rel.clock]
    exact rclock35 hR
  have K26 : Hid (∀ W, Below w.heap.size w W → Calls Try.prog 26 #[.pointer (some ⟨m, 0, none⟩)] W fun e w' => e = .returned (.int .i64 M.high) ∧ Below W.heap.size W w') := fun W q => by
    have := high26 (h.below q).mm
    exact this
  have K36 : Hid (∀ W, Below w.heap.size w W → Calls Try.prog 36 #[.pointer (some ⟨r, 0, none⟩)] W fun e w' => e = .returned (.int .i64 M.high) ∧ Below W.heap.size W w') := fun W q => by
    obtain ⟨K, D, hR⟩ := (h.below q).rm
    rw [← h.rel.high]
    exact rhigh36 hR
  generalize oldN M 4 = od at *
  obtain ⟨od1, od2⟩ := od
  simp only at K24 K34
  generalize M.clock = cl at *
  generalize M.high = hg at *
  clear h HO
  go_enter Try.func11, Try.ntmps11
  go_wp2_with fail
  go_loopw [5] (fun f5 wr => ∃ (j : Int), f5 = .int .i64 j ∧ Hid (-1 ≤ j ∧ j ≤ 5) ∧ Hid (Below w.heap.size w wr)) (fun f5 _ => ((5 : Int) - intOf f5).toNat)
  case atStart => exact ⟨-1, rfl, ⟨by omega, by omega⟩, Below.refl _ _⟩
  case round =>
    obtain ⟨j, rfl, hj, hB⟩ := hrel
    by_cases hj4 : j ≤ 4
    · have hj0 := hj.out.1
      have k23 := K23.out _ j hB.out
      replace K29 : Hid (∀ W, Below w.heap.size w W → Calls Try.prog 29 #[.pointer (some ⟨r, 0, none⟩), .int .i64 j] W fun e w' => e = .returned (.tuple #[.int .i64 (sinceM M j), .bool (decide (errM M j = 0))]) ∧ Below W.heap.size W w') := fun W q => K29.out W j q
      replace K19 : Hid (∀ W, Below w.heap.size w W → Calls Try.prog 19 #[.pointer (some ⟨m, 0, none⟩), .int .i64 j] W fun e w' => e = .returned (.bool (decide (errM M j = 0))) ∧ Below W.heap.size W w') := fun W q => K19.out W j q
      replace K30 : Hid (∀ W, Below w.heap.size w W → Calls Try.prog 30 #[.pointer (some ⟨r, 0, none⟩), .int .i64 j] W fun e w' => e = .returned (.bool (decide (errM M j = 0))) ∧ Below W.heap.size W w') := fun W q => K30.out W j q
      replace K25 : Hid (∀ W, Below w.heap.size w W → Calls Try.prog 25 #[.pointer (some ⟨m, 0, none⟩), .int .i64 j] W fun e w' => e = .returned (.int .i64 (errC M j)) ∧ Below W.heap.size W w') := fun W q => K25.out W j q
      replace K31 : Hid (∀ W, Below w.heap.size w W → Calls Try.prog 31 #[.pointer (some ⟨r, 0, none⟩), .int .i64 j] W fun e w' => e = .returned (.int .i64 (errC M j)) ∧ Below W.heap.size W w') := fun W q => K31.out W j q
      obtain ⟨L, hLl, hKW⟩ := KW.out j
      have K27 : Hid (∀ W, Below w.heap.size w W → Calls Try.prog 27 #[.pointer (some ⟨m, 0, none⟩), .int .i64 j] W (WPost W L)) := fun W q => (hKW W q).1
      have K33 : Hid (∀ W, Below w.heap.size w W → Calls Try.prog 33 #[.pointer (some ⟨r, 0, none⟩), .int .i64 j] W (WPost W L)) := fun W q => (hKW W q).2
      have K32 : Hid (∀ W a b, LV ET W a L → LV ET W b L → Calls Try.prog 32 #[a, b] W fun e w' => e = .returned (.bool true) ∧ Below W.heap.size W w') := fun W a b ha hb => texts32 ha hb hLl
      clear hKW KW hLl
      generalize sinceM M j = n1 at *
      generalize decide (errM M j = 0) = b1 at *
      generalize errC M j = n2 at *
      go_wp2_with (first
        | (go_at_call 23; (with_reducible refine k23.mono ?_); rintro e w1 ⟨rfl, g1⟩; have B1 := bmore hB.out g1; have k29 := K29.out _ B1)
        | (go_at_call 29; (with_reducible refine k29.mono ?_); rintro e w2 ⟨rfl, g2⟩; have B2 := bmore B1 g2; have k19 := K19.out _ B2)
        | (go_at_call 19; (with_reducible refine k19.mono ?_); rintro e w3 ⟨rfl, g3⟩; have B3 := bmore B2 g3; have k30 := K30.out _ B3)
        | (go_at_call 30; (with_reducible refine k30.mono ?_); rintro e w4 ⟨rfl, g4⟩; have B4 := bmore B3 g4; have k25 := K25.out _ B4)
        | (go_at_call 25; (with_reducible refine k25.mono ?_); rintro e w5 ⟨rfl, g5⟩; have B5 := bmore B4 g5; have k31 := K31.out _ B5)
        | (go_at_call 31; (with_reducible refine k31.mono ?_); rintro e w6 ⟨rfl, g6⟩; have B6 := bmore B5 g6; have k27 := K27.out _ B6)
        | (go_at_call 27; (with_reducible refine k27.mono ?_); rintro e w7 ⟨va, rfl, l7, g7⟩; have B7 := bmore B6 g7; have k33 := K33.out _ B7)
        | (go_at_call 33; (with_reducible refine k33.mono ?_); rintro e w8 ⟨vb, rfl, l8, g8⟩; have B8 := bmore B7 g8; have k32 := K32.out _ _ _ (l7.below g8) l8)
        | (go_at_call 32; (with_reducible refine k32.mono ?_); rintro e w9 ⟨rfl, g9⟩; have B9 := bmore B8 g9))
      go_roundw
      case rel => exact ⟨j + 1, by simp, ⟨by omega, by omega⟩, B9⟩
      case measure => simp only [intOf]; omega
    · go_wp2_with (first
        | (go_at_call 24; (with_reducible refine (K24.out _ hB.out).mono ?_); rintro e w1 ⟨rfl, g1⟩; have B1 := bmore hB.out g1; have k34 := K34.out _ B1)
        | (go_at_call 34; (with_reducible refine k34.mono ?_); rintro e w2 ⟨rfl, g2⟩; have B2 := bmore B1 g2; have k14 := K14.out _ B2)
        | (go_at_call 14; (with_reducible refine k14.mono ?_); rintro e w3 ⟨rfl, g3⟩; have B3 := bmore B2 g3; have k35 := K35.out _ B3)
        | (go_at_call 35; (with_reducible refine k35.mono ?_); rintro e w4 ⟨rfl, g4⟩; have B4 := bmore B3 g4; have k26 := K26.out _ B4)
        | (go_at_call 26; (with_reducible refine k26.mono ?_); rintro e w5 ⟨rfl, g5⟩; have B5 := bmore B4 g5; have k36 := K36.out _ B5)
        | (go_at_call 36; (with_reducible refine k36.mono ?_); rintro e w6 ⟨rfl, g6⟩; have B6 := bmore B5 g6))
      go_ret
      exact ⟨rfl, B6⟩
end Go.Proofs.Ytjgdcdeekpeenaa
