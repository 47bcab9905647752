/- maps.Clone; Fork. -/
import Derived.Test.YtjgdcdeekpeenaaMu
import Derived.Shelf.SlMaps.Clone
namespace Go.Proofs
open Go.Shelf
def Try.clone39_ren : Go.Shelf.Ren := ⟨fun | 5 => 39 | 7 => 50 | n => n, fun | 4 => 4 | 20 => 20 | 23 => 57 | 25 => 9 | 3 => 3 | n => n, fun | n => n⟩
theorem Try.clone39 : Go.Proofs.SlLaysW.n5 Try.prog Try.clone39_ren := {
  mixed := by kernel_rfl
  f5 := ⟨Try.f39.name, by decide, Try.func39.trans (congrArg some (by kernel_rfl))⟩
  f7 := Try.func50.trans (congrArg some (by kernel_rfl))
  t4 := Try.underlying4
  a4 := Try.isAgg4
  z4 := Try.sizeOf4
  v4 := Try.zeroValue4
  t20 := Try.underlying20
  a20 := Try.isAgg20
  z20 := Try.sizeOf20
  v20 := Try.zeroValue20
  t23 := Try.underlying57
  a23 := Try.isAgg57
  z23 := Try.sizeOf57
  v23 := Try.zeroValue57 }
def Try.clone40_ren : Go.Shelf.Ren := ⟨fun | 5 => 40 | 7 => 50 | n => n, fun | 4 => 4 | 20 => 20 | 23 => 62 | 25 => 9 | 3 => 67 | n => n, fun | n => n⟩
theorem Try.clone40 : Go.Proofs.SlLaysW.n5 Try.prog Try.clone40_ren := {
  mixed := by kernel_rfl
  f5 := ⟨Try.f40.name, by decide, Try.func40.trans (congrArg some (by kernel_rfl))⟩
  f7 := Try.func50.trans (congrArg some (by kernel_rfl))
  t4 := Try.underlying4
  a4 := Try.isAgg4
  z4 := Try.sizeOf4
  v4 := Try.zeroValue4
  t20 := Try.underlying20
  a20 := Try.isAgg20
  z20 := Try.sizeOf20
  v20 := Try.zeroValue20
  t23 := Try.underlying62
  a23 := Try.isAgg62
  z23 := Try.sizeOf62
  v23 := Try.zeroValue62 }
end Go.Proofs
namespace Go.Proofs.Ytjgdcdeekpeenaa
open Go.RowKit Go.Shelf
set_option maxRecDepth 100000
def CPost (n : Nat) (D : DataW Value) (w : World) (e : Ending) (w' : World) : Prop := e = .returned (.map (some w.heap.size)) ∧ w'.ownsMap Try.prog 9 heldR w.heap.size n D ∧ Below w.heap.size w w'
theorem clone39 {w : World} {m n : Nat} {D : DataW Value} (h : w.ownsMap Try.prog 9 heldR m n D) : Calls Try.prog 39 #[.map (some m)] w (CPost n D w) := by
  have hcon := AnyW.maps_Clone_owns Try.clone39 9 heldR m n D w h
  change Calls Try.prog 39 _ _ _ at hcon
  refine hcon.mono ?_
  rintro e w1 ⟨rfl, h1, _, B1⟩
  exact ⟨rfl, h1, B1⟩
theorem clone40 {w : World} {m n : Nat} {D : DataW Value} (h : w.ownsMap Try.prog 9 heldR m n D) : Calls Try.prog 40 #[.map (some m)] w (CPost n D w) := by
  have hcon := AnyW.maps_Clone_owns Try.clone40 9 heldR m n D w h
  change Calls Try.prog 40 _ _ _ at hcon
  refine hcon.mono ?_
  rintro e w1 ⟨rfl, h1, _, B1⟩
  exact ⟨rfl, h1, B1⟩
def ptrO (a : At) (M : Mg) (i : Nat) : Option Addr := match M.op i with
  | none => none
  | some _ => some ⟨a.s i, 0, none⟩
theorem ptrV_eq (a : At) (M : Mg) (i : Nat) : ptrV a M i = .pointer (ptrO a M i) := by
  cases h : M.op i <;> simp [ptrV, ptrO, h]
theorem ptrO_none {a : At} {M : Mg} {i : Nat} (h : M.op i = none) : ptrO a M i = none := by simp [ptrO, h]
theorem ptrO_some {a : At} {M : Mg} {i : Nat} {s : Sn} (h : M.op i = some s) : ptrO a M i = some ⟨a.s i, 0, none⟩ := by simp [ptrO, h]
theorem idx59_0 (p0 p1 p2 p3 : Option Addr) (w : World) : (Instr.index 59 (.agg #[.pointer p0, .pointer p1, .pointer p2, .pointer p3]) (.int .i64 0)).run Try.prog w = .ok (.pointer p0) w := by kernel_rfl
theorem idx59_1 (p0 p1 p2 p3 : Option Addr) (w : World) : (Instr.index 59 (.agg #[.pointer p0, .pointer p1, .pointer p2, .pointer p3]) (.int .i64 1)).run Try.prog w = .ok (.pointer p1) w := by kernel_rfl
theorem idx59_2 (p0 p1 p2 p3 : Option Addr) (w : World) : (Instr.index 59 (.agg #[.pointer p0, .pointer p1, .pointer p2, .pointer p3]) (.int .i64 2)).run Try.prog w = .ok (.pointer p2) w := by kernel_rfl
theorem idx59_3 (p0 p1 p2 p3 : Option Addr) (w : World) : (Instr.index 59 (.agg #[.pointer p0, .pointer p1, .pointer p2, .pointer p3]) (.int .i64 3)).run Try.prog w = .ok (.pointer p3) w := by kernel_rfl
/-- The fork, i of its four done. -/
structure FK (w : World) (a : At) (M : Mg) (m' wm' i : Nat) (s' k' : Nat → Nat) (W : World) : Prop where
  blk : Blk W m' (mgL M.clock M.high (fun j => if j < i then ptrV ⟨m', wm', s', k'⟩ M j else ptrV a M j) wm') 61
  wm : W.ownsMap Try.prog 9 heldR wm' M.wr.length (DT (wrE M.wr))
  sb : ∀ j, j < i → ∀ s, M.op j = some s → Blk W (s' j) [.int .i64 s.since, .map (some (k' j))] 64
  km : ∀ j, j < i → ∀ s, M.op j = some s → W.ownsMap Try.prog 9 heldR (k' j) s.keys.length (DT (kyE s.keys))
  apart : ∀ j l, j < i → l < i → j ≠ l → (M.op j).isSome → (M.op l).isSome → k' j ≠ k' l
  off : ∀ j, j < i → (M.op j).isSome → k' j ≠ wm'
  base : w.heap.size ≤ m' ∧ w.heap.size ≤ wm'
  kbase : ∀ j, j < i → (M.op j).isSome → w.heap.size ≤ k' j
  below : Below w.heap.size w W
theorem FK.gone {w : World} {a : At} {M : Mg} {m' wm' i : Nat} {s' k' : Nat → Nat} {W : World} (h : FK w a M m' wm' i s' k' W) (hs : M.op i = none) : FK w a M m' wm' (i + 1) s' k' W := by
  have hne : ∀ j, j < i + 1 → (M.op j).isSome → j < i := fun j hj q => by
    rcases Nat.lt_succ_iff_lt_or_eq.1 hj with r | rfl
    · exact r
    · rw [hs] at q; cases q
  refine ⟨?_, h.wm, fun j hj s q => h.sb j (hne j hj (by rw [q]; rfl)) s q, fun j hj s q => h.km j (hne j hj (by rw [q]; rfl)) s q, fun j l hj hl n q r => h.apart j l (hne j hj q) (hne l hl r) n q r, fun j hj q => h.off j (hne j hj q) q, h.base, fun j hj q => h.kbase j (hne j hj q) q, h.below⟩
  have e : (fun j => if j < i + 1 then ptrV ⟨m', wm', s', k'⟩ M j else ptrV a M j) = (fun j => if j < i then ptrV ⟨m', wm', s', k'⟩ M j else ptrV a M j) := by
    funext j
    by_cases c : j < i
    · rw [if_pos c, if_pos (by omega)]
    · by_cases d : j = i
      · subst d
        rw [if_pos (by omega), if_neg (by omega)]
        simp [ptrV, hs]
      · rw [if_neg c, if_neg (by omega)]
  rw [e]
  exact h.blk
theorem FK.got {w : World} {a : At} {M : Mg} {m' wm' i : Nat} {s' k' : Nat → Nat} {W W1 : World} (h : FK w a M m' wm' i s' k' W) (hi : i < 4) {s : Sn} (hs : M.op i = some s) (hB : Below W.heap.size W W1) (hm : W1.ownsMap Try.prog 9 heldR W.heap.size s.keys.length (DT (kyE s.keys))) :
    FK w a M m' wm' (i + 1) (fun j => if j = i then W1.heap.size else s' j) (fun j => if j = i then W.heap.size else k' j) ((W1.alloc (.cells #[.int .i64 s.since, .map (some W.heap.size)] 64)).setCell ⟨m', 2 + i, none⟩ (.pointer (some ⟨W1.heap.size, 0, none⟩))) := by
  have hB2 := bal hB (.cells #[.int .i64 s.since, .map (some W.heap.size)] 64)
  have hbm := h.blk.below hB2
  have hnew : Blk (W1.alloc (.cells #[.int .i64 s.since, .map (some W.heap.size)] 64)) W1.heap.size [.int .i64 s.since, .map (some W.heap.size)] 64 := blk_new W1 _ 64
  generalize hW2 : W1.alloc (.cells #[.int .i64 s.since, .map (some W.heap.size)] 64) = W2 at *
  have hk := keep_set W2 m' (2 + i) (.pointer (some ⟨W1.heap.size, 0, none⟩))
  have hm2 : W2.ownsMap Try.prog 9 heldR W.heap.size s.keys.length (DT (kyE s.keys)) := by rw [← hW2]; exact own_keep hm (Keep.of (F := fun _ => False) (al _ _)) id
  have keepM : ∀ {x n D}, W.ownsMap Try.prog 9 heldR x n D → (W2.setCell ⟨m', 2 + i, none⟩ (.pointer (some ⟨W1.heap.size, 0, none⟩))).ownsMap Try.prog 9 heldR x n D := fun q => by
    have q2 := own_keep q (Keep.of (F := fun _ => False) hB2) id
    exact own_keep q2 hk (fun e => blk_ne_map q2 hbm e.symm)
  have hlt : ∀ {x n D}, W.ownsMap Try.prog 9 heldR x n D → x ≠ W.heap.size := fun q e => by
    subst e
    have := q.lt
    omega
  refine ⟨?_, keepM h.wm, fun j hj s1 q => ?_, fun j hj s1 q => ?_, fun j l hj hl n q r => ?_, fun j hj q => ?_, h.base, fun j hj q => ?_, ?_⟩
  · have := hbm.set (o := 2 + i) (.pointer (some ⟨W1.heap.size, 0, none⟩))
    have e : (mgL M.clock M.high (fun j => if j < i then ptrV ⟨m', wm', s', k'⟩ M j else ptrV a M j) wm').set (2 + i) (.pointer (some ⟨W1.heap.size, 0, none⟩)) = mgL M.clock M.high (fun j => if j < i + 1 then ptrV ⟨m', wm', fun j => if j = i then W1.heap.size else s' j, fun j => if j = i then W.heap.size else k' j⟩ M j else ptrV a M j) wm' := by
      match i, hi, hs with
      | 0, _, hs => simp [ptrV, hs]
      | 1, _, hs => simp [ptrV, hs]
      | 2, _, hs => simp [ptrV, hs]
      | 3, _, hs => simp [ptrV, hs]
    rw [e] at this
    exact this
  · by_cases c : j = i
    · subst c
      rw [hs] at q
      cases q
      simp only [if_true]
      exact hnew.keep hk (fun e => blk_ne hnew hbm (by decide) e)
    · simp only [if_neg c]
      have q2 := (h.sb j (by omega) s1 q).below hB2
      exact q2.keep hk (fun e => blk_ne q2 hbm (by decide) e)
  · by_cases c : j = i
    · subst c
      rw [hs] at q
      cases q
      simp only [if_true]
      exact own_keep hm2 hk (fun e => blk_ne_map hm2 hbm e.symm)
    · simp only [if_neg c]
      exact keepM (h.km j (by omega) s1 q)
  · by_cases c : j = i
    · by_cases d : l = i
      · omega
      · simp only [if_pos c, if_neg d]
        obtain ⟨s1, hs1⟩ := Option.isSome_iff_exists.1 r
        exact (hlt (h.km l (by omega) s1 hs1)).symm
    · by_cases d : l = i
      · simp only [if_neg c, if_pos d]
        obtain ⟨s1, hs1⟩ := Option.isSome_iff_exists.1 q
        exact hlt (h.km j (by omega) s1 hs1)
      · simp only [if_neg c, if_neg d]
        exact h.apart j l (by omega) (by omega) n q r
  · by_cases c : j = i
    · simp only [if_pos c]
      exact (hlt h.wm).symm
    · simp only [if_neg c]
      exact h.off j (by omega) q
  · by_cases c : j = i
    · simp only [if_pos c]
      exact h.below.size
    · simp only [if_neg c]
      exact h.kbase j (by omega) q
  · exact (bmore h.below hB2).trans (hk.below (bmore h.below hB2).size (fun x hx e => by have := h.base.1; omega))
theorem FK.at {w : World} {a : At} {M : Mg} {m' wm' i : Nat} {s' k' : Nat → Nat} {W W1 : World} (h : FK w a M m' wm' i s' k' W) (q : Below W.heap.size W W1) : FK w a M m' wm' i s' k' W1 :=
  ⟨h.blk.below q, own_keep h.wm (Keep.of (F := fun _ => False) q) id, fun j hj s r => (h.sb j hj s r).below q, fun j hj s r => own_keep (h.km j hj s r) (Keep.of (F := fun _ => False) q) id, h.apart, h.off, h.base, h.kbase, bmore h.below q⟩
theorem FK.done {w : World} {a : At} {M : Mg} {m' wm' : Nat} {s' k' : Nat → Nat} {W : World} (h : FK w a M m' wm' 4 s' k' W) : MM W w.heap.size ⟨m', wm', s', k'⟩ M := by
  refine ⟨?_, h.wm, h.sb, h.km, h.apart, h.off, h.base, h.kbase⟩
  have := h.blk
  simp only [mgL] at this ⊢
  simpa using this
set_option maxHeartbeats 2000000 in
theorem fork20 {w : World} {B : Nat} {a : At} {M : Mg} (h : MM w B a M) : Calls Try.prog 20 #[.pointer (some ⟨a.m, 0, none⟩)] w fun e w' => ∃ a', e = .returned (.pointer (some ⟨a'.m, 0, none⟩)) ∧ MM w' w.heap.size a' M ∧ Below w.heap.size w w' := by
  obtain ⟨m, wm, s, k⟩ := a
  have HC : Hid (∀ W, Below w.heap.size w W → W.cell? ⟨m, 0, none⟩ = some (.int .i64 M.clock) ∧ W.cell? ⟨m, 1, none⟩ = some (.int .i64 M.high) ∧ W.cell? ⟨m, 2, none⟩ = some (.pointer (ptrO ⟨m, wm, s, k⟩ M 0)) ∧ W.cell? ⟨m, 3, none⟩ = some (.pointer (ptrO ⟨m, wm, s, k⟩ M 1)) ∧ W.cell? ⟨m, 4, none⟩ = some (.pointer (ptrO ⟨m, wm, s, k⟩ M 2)) ∧ W.cell? ⟨m, 5, none⟩ = some (.pointer (ptrO ⟨m, wm, s, k⟩ M 3)) ∧ W.cell? ⟨m, 6, none⟩ = some (.map (some wm))) := fun W q => by
    have hb := (h.below q).blk
    simp only [← ptrV_eq]
    exact ⟨hb.cell 0, hb.cell 1, hb.cell 2, hb.cell 3, hb.cell 4, hb.cell 5, hb.cell 6⟩
  obtain ⟨c0, c1, c2, c3, c4, c5, c6⟩ := HC.out _ (Below.refl _ _)
  have hml := h.blk.lt
  have HM : Hid (MM w B ⟨m, wm, s, k⟩ M) := h
  clear h
  generalize hq0 : ptrO ⟨m, wm, s, k⟩ M 0 = q0 at *
  generalize hq1 : ptrO ⟨m, wm, s, k⟩ M 1 = q1 at *
  generalize hq2 : ptrO ⟨m, wm, s, k⟩ M 2 = q2 at *
  generalize hq3 : ptrO ⟨m, wm, s, k⟩ M 3 = q3 at *
  go_enter Try.func20, Try.ntmps20
  go_upto_region 4 with fail
  have B1 := al w (.cells #[.int .i64 M.clock, .int .i64 M.high, .pointer q0, .pointer q1, .pointer q2, .pointer q3, .map (some wm)] 61)
  have b1 : Blk (w.alloc (.cells #[.int .i64 M.clock, .int .i64 M.high, .pointer q0, .pointer q1, .pointer q2, .pointer q3, .map (some wm)] 61)) w.heap.size [.int .i64 M.clock, .int .i64 M.high, .pointer q0, .pointer q1, .pointer q2, .pointer q3, .map (some wm)] 61 := blk_new w _ 61
  generalize w.alloc (.cells #[.int .i64 M.clock, .int .i64 M.high, .pointer q0, .pointer q1, .pointer q2, .pointer q3, .map (some wm)] 61) = w1 at *
  have k39 := clone39 (HM.out.below B1).wm
  clear c0 c1 c2 c3 c4 c5 c6
  obtain ⟨c0, c1, c2, c3, c4, c5, c6⟩ := HC.out _ B1
  go_upto_region 5 with (go_at_call 39; (with_reducible refine k39.mono ?_); rintro e w2 ⟨rfl, hm2, B2⟩; have b2 := Blk.below b1 B2; have d6 : w2.cell? ⟨w.heap.size, 6, none⟩ = some (.map (some wm)) := Blk.cell b2 6; have z6 := Blk.frozen b2 6)
  have HF : Hid (FK w ⟨m, wm, s, k⟩ M w.heap.size w1.heap.size 0 (fun _ => 0) (fun _ => 0) (w2.setCell ⟨w.heap.size, 6, none⟩ (.map (some w1.heap.size)))) := by
    have hk := keep_set w2 w.heap.size 6 (.map (some w1.heap.size))
    refine ⟨?_, own_keep hm2 hk (fun e => blk_ne_map hm2 b2 e.symm), fun j hj => absurd hj (Nat.not_lt_zero _), fun j hj => absurd hj (Nat.not_lt_zero _), fun j l hj => absurd hj (Nat.not_lt_zero _), fun j hj => absurd hj (Nat.not_lt_zero _), ⟨Nat.le_refl _, B1.size⟩, fun j hj => absurd hj (Nat.not_lt_zero _), (bmore B1 B2).trans (hk.below (bmore B1 B2).size (fun x hx e => by omega))⟩
    have := Blk.set (o := 6) b2 (.map (some w1.heap.size))
    have e : (fun j => if j < 0 then ptrV ⟨w.heap.size, w1.heap.size, fun _ => 0, fun _ => 0⟩ M j else ptrV ⟨m, wm, s, k⟩ M j) = fun j => .pointer (ptrO ⟨m, wm, s, k⟩ M j) := by
      funext j
      rw [if_neg (Nat.not_lt_zero _), ptrV_eq]
    rw [e]
    subst hq0 hq1 hq2 hq3
    exact this
  generalize w2.setCell ⟨w.heap.size, 6, none⟩ (.map (some w1.heap.size)) = w3 at *
  clear k39 c0 c1 c2 c3 c4 c5 c6 d6 z6 b2 b1 hm2 B1 B2
  obtain ⟨c0, c1, c2, c3, c4, c5, c6⟩ := HC.out _ HF.out.below
  generalize w1.heap.size = wm' at *
  have HQ0 : Hid _ := hq0
  have HQ1 : Hid _ := hq1
  have HQ2 : Hid _ := hq2
  have HQ3 : Hid _ := hq3
  clear hq0 hq1 hq2 hq3 HC
  go_wp2_with fail
  go_loopw [21] (fun f21 wr => ∃ (i : Nat) (s' k' : Nat → Nat), f21 = .int .i64 (i : Int) ∧ Hid (i ≤ 4) ∧ Hid (FK w ⟨m, wm, s, k⟩ M w.heap.size wm' i s' k' wr)) (fun f21 _ => ((4 : Int) - intOf f21).toNat)
  case atStart => exact ⟨0, _, _, rfl, by show _ ≤ _; omega, HF⟩
  case round =>
    obtain ⟨i, s', k', rfl, hi, hF⟩ := hrel
    by_cases hi4 : i < 4
    · have ho : i = 0 ∨ i = 1 ∨ i = 2 ∨ i = 3 := by omega
      cases hs : M.op i with
      | none =>
        have HF1 : Hid (FK w ⟨m, wm, s, k⟩ M w.heap.size wm' (i + 1) s' k' wr) := hF.out.gone hs
        rcases ho with rfl | rfl | rfl | rfl
        · have hq := HQ0.out
          rw [ptrO_none hs] at hq
          subst hq
          clear hs
          have hx := idx59_0 none q1 q2 q3
          go_wp2_with fail
          go_roundw
          case rel => exact ⟨0 + 1, s', k', by simp, by show _ ≤ _; omega, HF1⟩
          case measure => simp only [intOf]; omega
        · have hq := HQ1.out
          rw [ptrO_none hs] at hq
          subst hq
          clear hs
          have hx := idx59_1 q0 none q2 q3
          go_wp2_with fail
          go_roundw
          case rel => exact ⟨1 + 1, s', k', by simp, by show _ ≤ _; omega, HF1⟩
          case measure => simp only [intOf]; omega
        · have hq := HQ2.out
          rw [ptrO_none hs] at hq
          subst hq
          clear hs
          have hx := idx59_2 q0 q1 none q3
          go_wp2_with fail
          go_roundw
          case rel => exact ⟨2 + 1, s', k', by simp, by show _ ≤ _; omega, HF1⟩
          case measure => simp only [intOf]; omega
        · have hq := HQ3.out
          rw [ptrO_none hs] at hq
          subst hq
          clear hs
          have hx := idx59_3 q0 q1 q2 none
          go_wp2_with fail
          go_roundw
          case rel => exact ⟨3 + 1, s', k', by simp, by show _ ≤ _; omega, HF1⟩
          case measure => simp only [intOf]; omega
      | some sn =>
        have HS : Hid (∀ W, Below w.heap.size w W → W.cell? ⟨s i, 0, none⟩ = some (.int .i64 sn.since) ∧ W.cell? ⟨s i, 1, none⟩ = some (.map (some (k i)))) := fun W q => by
          have := (HM.out.below q).sb i hi4 sn hs
          exact ⟨this.cell 0, this.cell 1⟩
        have B0 : Below wr.heap.size wr wr.drew := (Below.refl _ _).drew
        have HFd : Hid (FK w ⟨m, wm, s, k⟩ M w.heap.size wm' i s' k' wr.drew) := hF.out.at B0
        have k40 : Calls Try.prog 40 #[.map (some (k i))] wr.drew fun e w' => e = .returned (.map (some wr.heap.size)) ∧ w'.ownsMap Try.prog 9 heldR wr.heap.size sn.keys.length (DT (kyE sn.keys)) ∧ Below wr.heap.size wr.drew w' := clone40 ((HM.out.below HFd.out.below).km i hi4 sn hs)
        have HG : Hid (∀ W1, Below wr.heap.size wr.drew W1 → W1.ownsMap Try.prog 9 heldR wr.heap.size sn.keys.length (DT (kyE sn.keys)) → FK w ⟨m, wm, s, k⟩ M w.heap.size wm' (i + 1) (fun j => if j = i then W1.heap.size else s' j) (fun j => if j = i then wr.heap.size else k' j) ((W1.alloc (.cells #[.int .i64 sn.since, .map (some wr.heap.size)] 64)).setCell ⟨w.heap.size, 2 + i, none⟩ (.pointer (some ⟨W1.heap.size, 0, none⟩)))) := fun W1 q1 q2 => HFd.out.got hi4 hs q1 q2
        have hSd := HS.out _ HFd.out.below
        have HBk : Hid (∀ W1, Below wr.heap.size wr.drew W1 → w.heap.size < W1.heap.size ∧ W1.frozen? ⟨w.heap.size, 2 + i, none⟩ = false ∧ ∃ v, W1.cell? ⟨w.heap.size, 2 + i, none⟩ = some v) := fun W1 q => by
          have b := HFd.out.blk.below q
          exact ⟨b.lt, b.frozen _, _, (b.cell _).trans (ptr_get _ _ _ _ hi4)⟩
        rcases ho with rfl | rfl | rfl | rfl
        · have hq := HQ0.out
          rw [ptrO_some hs] at hq
          simp only at hq
          subst hq
          clear hs
          have hx := idx59_0 (some ⟨s 0, 0, none⟩) q1 q2 q3
          go_upto_region 9 with fail
          go_region_held3 (fun W => W.cell? ⟨s 0, 0, none⟩ = some (.int .i64 sn.since) ∧ W.cell? ⟨s 0, 1, none⟩ = some (.map (some (k 0)))) (first | exact hSd | exact hS1 | exact hS2 | exact hS3) (first
            | (go_at_call 40; (with_reducible refine k40.mono ?_); rintro e w4 ⟨rfl, hm4, B4⟩; have hS1 := HS.out _ (bmore HFd.out.below B4); have hS2 := HS.out _ (bal (bmore HFd.out.below B4) (.cells #[.int .i64 sn.since, .map (some wr.heap.size)] 64)); obtain ⟨f1, f2, v4, f3⟩ := HBk.out _ B4; have hF4 := HG.out _ B4 hm4; rw [World.setCell_alloc_past _ _ _ _ f1] at hF4; have hS3 := HS.out _ hF4.below; have HF4 : Hid _ := hF4; clear hF4))
          go_wp2_with fail
          go_roundw
          case rel => exact ⟨0 + 1, _, _, by simp, by show _ ≤ _; omega, HF4⟩
          case measure => simp only [intOf]; omega
        · have hq := HQ1.out
          rw [ptrO_some hs] at hq
          simp only at hq
          subst hq
          clear hs
          have hx := idx59_1 q0 (some ⟨s 1, 0, none⟩) q2 q3
          go_upto_region 9 with fail
          go_region_held3 (fun W => W.cell? ⟨s 1, 0, none⟩ = some (.int .i64 sn.since) ∧ W.cell? ⟨s 1, 1, none⟩ = some (.map (some (k 1)))) (first | exact hSd | exact hS1 | exact hS2 | exact hS3) (first
            | (go_at_call 40; (with_reducible refine k40.mono ?_); rintro e w4 ⟨rfl, hm4, B4⟩; have hS1 := HS.out _ (bmore HFd.out.below B4); have hS2 := HS.out _ (bal (bmore HFd.out.below B4) (.cells #[.int .i64 sn.since, .map (some wr.heap.size)] 64)); obtain ⟨f1, f2, v4, f3⟩ := HBk.out _ B4; have hF4 := HG.out _ B4 hm4; rw [World.setCell_alloc_past _ _ _ _ f1] at hF4; have hS3 := HS.out _ hF4.below; have HF4 : Hid _ := hF4; clear hF4))
          go_wp2_with fail
          go_roundw
          case rel => exact ⟨1 + 1, _, _, by simp, by show _ ≤ _; omega, HF4⟩
          case measure => simp only [intOf]; omega
        · have hq := HQ2.out
          rw [ptrO_some hs] at hq
          simp only at hq
          subst hq
          clear hs
          have hx := idx59_2 q0 q1 (some ⟨s 2, 0, none⟩) q3
          go_upto_region 9 with fail
          go_region_held3 (fun W => W.cell? ⟨s 2, 0, none⟩ = some (.int .i64 sn.since) ∧ W.cell? ⟨s 2, 1, none⟩ = some (.map (some (k 2)))) (first | exact hSd | exact hS1 | exact hS2 | exact hS3) (first
            | (go_at_call 40; (with_reducible refine k40.mono ?_); rintro e w4 ⟨rfl, hm4, B4⟩; have hS1 := HS.out _ (bmore HFd.out.below B4); have hS2 := HS.out _ (bal (bmore HFd.out.below B4) (.cells #[.int .i64 sn.since, .map (some wr.heap.size)] 64)); obtain ⟨f1, f2, v4, f3⟩ := HBk.out _ B4; have hF4 := HG.out _ B4 hm4; rw [World.setCell_alloc_past _ _ _ _ f1] at hF4; have hS3 := HS.out _ hF4.below; have HF4 : Hid _ := hF4; clear hF4))
          go_wp2_with fail
          go_roundw
          case rel => exact ⟨2 + 1, _, _, by simp, by show _ ≤ _; omega, HF4⟩
          case measure => simp only [intOf]; omega
        · have hq := HQ3.out
          rw [ptrO_some hs] at hq
          simp only at hq
          subst hq
          clear hs
          have hx := idx59_3 q0 q1 q2 (some ⟨s 3, 0, none⟩)
          go_upto_region 9 with fail
          go_region_held3 (fun W => W.cell? ⟨s 3, 0, none⟩ = some (.int .i64 sn.since) ∧ W.cell? ⟨s 3, 1, none⟩ = some (.map (some (k 3)))) (first | exact hSd | exact hS1 | exact hS2 | exact hS3) (first
            | (go_at_call 40; (with_reducible refine k40.mono ?_); rintro e w4 ⟨rfl, hm4, B4⟩; have hS1 := HS.out _ (bmore HFd.out.below B4); have hS2 := HS.out _ (bal (bmore HFd.out.below B4) (.cells #[.int .i64 sn.since, .map (some wr.heap.size)] 64)); obtain ⟨f1, f2, v4, f3⟩ := HBk.out _ B4; have hF4 := HG.out _ B4 hm4; rw [World.setCell_alloc_past _ _ _ _ f1] at hF4; have hS3 := HS.out _ hF4.below; have HF4 : Hid _ := hF4; clear hF4))
          go_wp2_with fail
          go_roundw
          case rel => exact ⟨3 + 1, _, _, by simp, by show _ ≤ _; omega, HF4⟩
          case measure => simp only [intOf]; omega
    · go_wp2_with fail
      go_ret
      have e4 : i = 4 := by have := hi.out; omega
      subst e4
      exact ⟨⟨w.heap.size, wm', s', k'⟩, rfl, hF.out.done, hF.out.below⟩
end Go.Proofs.Ytjgdcdeekpeenaa
