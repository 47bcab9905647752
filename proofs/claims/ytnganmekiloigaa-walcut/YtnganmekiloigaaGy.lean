/- What Open's loop holds. -/
import Derived.Test.YtnganmekiloigaaGx
namespace Go.Proofs.Ytnganmekiloigaa
open Go.RowKit
set_option maxRecDepth 100000
variable {α : Type} {E : Ety α} {w w' : World} {L L' : List α}
theorem rw_app2 {B : Nat} {u lv : Value} (hU : RW E B w u L) (hV : LV E w lv L') (h0 : L' ≠ []) (hfew : L.length + L'.length ≤ 100000) (hB : B ≤ w.heap.size) : ∃ g' cap w', (Builtin.append_ #[E.tS, E.tS] E.tS #[u, lv]).run Try.prog w = .ok (.slice (some ⟨g', 0, none⟩) (L.length + L'.length) cap) w' ∧ RW E B w' (.slice (some ⟨g', 0, none⟩) (L.length + L'.length) cap) (L ++ L') ∧ w.grownBy w' u.ownBlock ∧ (u.ownBlock = some g' ∨ g' = w.heap.size) ∧ g' < w'.heap.size := by
  obtain ⟨a, c, rfl, _, hat⟩ := hV
  obtain ⟨i, hi, hzz⟩ := Option.map_eq_some_iff.1 E.info
  simp only [Prod.mk.injEq] at hzz
  obtain ⟨hz, hs, hb⟩ := hzz
  have h32 := E.by32
  have hby : (L.length + L'.length) * E.bytes ≤ 140737488355328 := Nat.le_trans (Nat.mul_le_mul hfew h32) (by decide)
  have hpos : 0 < L'.length := List.length_pos_iff.2 h0
  obtain ⟨g, o, cs, t, rfl, hbk, hta⟩ := hat hpos
  obtain ⟨g', cap, w', q1, q2, q3, q4, q5⟩ := run_append_lies (P := Try.prog) w E.tS E.tS B E.tE i E.z E.m E.bytes E.und hi hz hs hb E.zs E.pos u L.length (E.cells L) hU ⟨g, o, none⟩ L'.length c (E.cells L') (cells_len E L') (news_of hbk hta) (cells_one E L') hpos (by unfold maxLen; omega) hby hB _ rfl
  refine ⟨g', cap, w', q1, ?_, q3, q4, q5⟩
  unfold RW
  rw [List.length_append, cells_app]
  exact q2
theorem RW.ne {B b : Nat} {l : List Value} {t : TypeId} {u : Value} (hb : Blk w b l t) (ht : t ≠ E.tE) (h : RW E B w u L) : u.ownBlock ≠ some b := fun e => by
  obtain ⟨_, ⟨rfl, _⟩ | ⟨g, cap, cur, rfl, h3, h4, h5⟩⟩ := h
  · cases e
  · cases e
    unfold Blk at hb
    rw [h4] at hb
    simp only [Option.some.injEq, Obj.cells.injEq] at hb
    exact ht hb.2.1.symm
theorem RW.raise {B B' : Nat} {u : Value} (h : RW E B w u L) (hB : ∀ b, u.ownBlock = some b → B' ≤ b) : RW E B' w u L := by
  obtain ⟨h1, h2 | ⟨g, cap, cur, rfl, h3, h4⟩⟩ := h
  · exact ⟨h1, .inl h2⟩
  · exact ⟨h1, .inr ⟨g, cap, cur, rfl, hB g rfl, h4⟩⟩
/-- The records that are told so far lie in vs. -/
structure Vs (W : World) (N0 : Nat) (vs : List Sl) (pre : List Rc) : Prop where
  len : vs.length = pre.length
  at' : ∀ (i : Nat) (v : Sl) (r : Rc), vs[i]? = some v → pre[i]? = some r → RW EB N0 W (slV v) r.b
theorem Vs.keep {W W' : World} {N0 : Nat} {vs : List Sl} {pre : List Rc} (h : Vs W N0 vs pre) (hk : ∀ (i : Nat) (v : Sl) (k : Nat), vs[i]? = some v → (slV v).ownBlock = some k → W'.heap[k]? = W.heap[k]?) : Vs W' N0 vs pre :=
  ⟨h.len, fun i v r hv hr => (h.at' i v r hv hr).keep fun k hk' => hk i v k hv hk'⟩
structure Iv (w2 : World) (N0 d hf e x y T : Nat) (O : Nat → Prop) (pre : List Rc) (W : World) (u : Value) (vs : List Sl) : Prop where
  own : ∀ b, O b ↔ (b = x ∨ b = T ∨ u.ownBlock = some b ∨ ∃ (i : Nat) (v : Sl), vs[i]? = some v ∧ (slV v).ownBlock = some b)
  wal : Blk W x (wlC d ⟨hf, e, pre.length, (pre.map Rc.n).sum, false⟩) 111
  told : Blk W T [u] 62
  row : RW EV 0 W u vs
  bs : Vs W N0 vs pre
  var : Blk W y [.pointer (some ⟨x, 0, none⟩)] 57
  below : Below w2.heap.size w2 W
section
variable {w2 W W' : World} {N0 d hf e x y T : Nat} {O : Nat → Prop} {pre : List Rc} {u : Value} {vs : List Sl}
theorem Vs.pair {W : World} {N0 : Nat} {vs : List Sl} {pre : List Rc} (h : Vs W N0 vs pre) {i : Nat} {v : Sl} (hv : vs[i]? = some v) : ∃ r, pre[i]? = some r ∧ RW EB N0 W (slV v) r.b := by
  have hi := (List.getElem?_eq_some_iff.1 hv).1
  rw [h.len] at hi
  exact ⟨_, List.getElem?_eq_getElem hi, h.at' i v _ hv (List.getElem?_eq_getElem hi)⟩
theorem Iv.lt (h : Iv w2 N0 d hf e x y T O pre W u vs) : ∀ b, O b → b < W.heap.size := fun b hb => by
  rcases (h.own b).1 hb with rfl | rfl | hu | ⟨i, v, hv, hk⟩
  · exact h.wal.lt
  · exact h.told.lt
  · exact (h.row.at hu).2
  · obtain ⟨r, _, hr⟩ := h.bs.pair hv
    exact (hr.at hk).2
theorem Iv.keep {B : Nat} (h : Iv w2 N0 d hf e x y T O pre W u vs) (hy : y < B) (hw : w2.heap.size ≤ B) (k : Keep (fun b => ¬ O b ∧ B ≤ b) W W') : Iv w2 N0 d hf e x y T O pre W' u vs := by
  have hO : ∀ b, O b → W'.heap[b]? = W.heap[b]? := fun b hb => k.block b (h.lt b hb) (fun hq => hq.1 hb)
  refine ⟨h.own, h.wal.block (hO _ ((h.own _).2 (.inl rfl))), h.told.block (hO _ ((h.own _).2 (.inr (.inl rfl)))), h.row.keep fun g hg => hO g ((h.own _).2 (.inr (.inr (.inl hg)))), h.bs.keep fun i v g hv hg => hO g ((h.own _).2 (.inr (.inr (.inr ⟨i, v, hv, hg⟩)))), h.var.block (k.block _ h.var.lt (fun hq => by omega)), ?_⟩
  exact h.below.trans (k.below h.below.size (fun i hi => by have := hi.2; omega))
theorem vs_snoc {r : Rc} {v : Sl} (h : Vs W N0 vs pre) (hr : RW EB N0 W (slV v) r.b) : Vs W N0 (vs ++ [v]) (pre ++ [r]) := by
  refine ⟨by simp [h.len], fun i v' r' hv' hr' => ?_⟩
  by_cases hi : i < vs.length
  · rw [List.getElem?_append_left hi] at hv'
    rw [List.getElem?_append_left (by rw [← h.len]; exact hi)] at hr'
    exact h.at' i v' r' hv' hr'
  · rw [List.getElem?_append_right (by omega)] at hv'
    rw [List.getElem?_append_right (by rw [← h.len]; omega), ← h.len] at hr'
    have h0 : i - vs.length = 0 := by
      have := (List.getElem?_eq_some_iff.1 hv').1
      simp at this
      omega
    rw [h0] at hv' hr'
    simp at hv' hr'
    subst hv' hr'
    exact hr
theorem Iv.next {r : Rc} {v : Sl} {g' k cap : Nat} {o : Obj} {w7 : World} (h : Iv w2 N0 d hf e x y T O pre W u vs) (hr : RW EB N0 W (slV v) r.b) (hN : N0 ≤ W.heap.size) (hw : w2.heap.size ≤ x) (hw' : w2.heap.size ≤ T) (hu : ∀ b, u.ownBlock = some b → w2.heap.size ≤ b) (hN2 : w2.heap.size ≤ N0)
    (hrow : RW EV 0 w7 (.slice (some ⟨g', 0, none⟩) k cap) (vs ++ [v])) (hgr : (W.alloc o).grownBy w7 u.ownBlock) (hloc : u.ownBlock = some g' ∨ g' = (W.alloc o).heap.size) :
    ∃ O2, Iv w2 N0 d hf e x y T O2 (pre ++ [r]) (((w7.setCell ⟨T, 0, none⟩ (.slice (some ⟨g', 0, none⟩) k cap)).setCell ⟨x, 3, none⟩ (.int .i64 ((pre.length : Int) + 1))).setCell ⟨x, 4, none⟩ (.int .i64 ((((pre.map Rc.n).sum : Nat) : Int) + (r.n : Int)))) (.slice (some ⟨g', 0, none⟩) k cap) (vs ++ [v]) ∧ GrewN N0 O O2 ∧ Keep O W (((w7.setCell ⟨T, 0, none⟩ (.slice (some ⟨g', 0, none⟩) k cap)).setCell ⟨x, 3, none⟩ (.int .i64 ((pre.length : Int) + 1))).setCell ⟨x, 4, none⟩ (.int .i64 ((((pre.map Rc.n).sum : Nat) : Int) + (r.n : Int)))) ∧ w2.heap.size ≤ g' := by
  have xT : x ≠ T := fun e => by
    have h1 := h.wal
    have h2 := h.told
    unfold Blk at h1 h2
    rw [e, h2] at h1
    simp at h1
  have xy : y ≠ x := fun e => by
    have h1 := h.wal
    have h2 := h.var
    unfold Blk at h1 h2
    rw [← e, h2] at h1
    simp at h1
  have yT : y ≠ T := fun e => by
    have h1 := h.told
    have h2 := h.var
    unfold Blk at h1 h2
    rw [← e, h2] at h1
    simp at h1
  have hx7 : u.ownBlock ≠ some x := RW.ne h.wal (by decide) h.row
  have hT7 : u.ownBlock ≠ some T := RW.ne h.told (by decide) h.row
  have hy7 : u.ownBlock ≠ some y := RW.ne h.var (by decide) h.row
  have k7 : ∀ b, b < W.heap.size → u.ownBlock ≠ some b → w7.heap[b]? = W.heap[b]? := fun b hb hn => (hgr.block b (by simp; omega) (fun e => hn e.symm)).trans (Below.heap_alloc _ _ _ hb)
  have kk : Keep O W w7 := (Keep.of (F := O) (al W o)).trans (Keep.grown (F := O) (Keep.refl _ _) hgr (fun b hb => .inr ((h.own b).2 (.inr (.inr (.inl hb)))))) (fun _ _ h => h)
  have ox : O x := (h.own x).2 (.inl rfl)
  have oT : O T := (h.own T).2 (.inr (.inl rfl))
  have b7x := h.wal.block (k7 x h.wal.lt hx7)
  have b7T := h.told.block (k7 T h.told.lt hT7)
  have b7y := h.var.block (k7 y h.var.lt hy7)
  have gx : g' ≠ x := fun e => RW.ne b7x (by decide) hrow (by rw [← e]; rfl)
  have gT : g' ≠ T := fun e => RW.ne b7T (by decide) hrow (by rw [← e]; rfl)
  have hg2 : w2.heap.size ≤ g' := by
    rcases hloc with e | e
    · exact hu g' e
    · have := h.below.size; simp at e; omega
  have v7 : Vs w7 N0 (vs ++ [v]) (pre ++ [r]) := by
    refine vs_snoc (h.bs.keep fun i v' g hv' hg => ?_) (hr.keep fun g hg => ?_)
    · obtain ⟨r', _, hr'⟩ := h.bs.pair hv'
      refine k7 g (hr'.at hg).2 (fun e => ?_)
      obtain ⟨_, ⟨hz, _⟩ | ⟨q, c1, c2, hz, _, h4, _⟩⟩ := h.row
      · rw [hz] at e; cases e
      · rw [hz] at e
        cases e
        exact RW.ne (b := q) (l := c2.toList) (t := 33) (by unfold Blk; rw [h4]; rfl) (by decide) hr' hg
    · refine k7 g (hr.at hg).2 (fun e => ?_)
      obtain ⟨_, ⟨hz, _⟩ | ⟨q, c1, c2, hz, _, h4, _⟩⟩ := h.row
      · rw [hz] at e; cases e
      · rw [hz] at e
        cases e
        exact RW.ne (b := q) (l := c2.toList) (t := 33) (by unfold Blk; rw [h4]; rfl) (by decide) hr hg
  have far : ∀ b, b ≠ T → b ≠ x → (((w7.setCell ⟨T, 0, none⟩ (.slice (some ⟨g', 0, none⟩) k cap)).setCell ⟨x, 3, none⟩ (.int .i64 ((pre.length : Int) + 1))).setCell ⟨x, 4, none⟩ (.int .i64 ((((pre.map Rc.n).sum : Nat) : Int) + (r.n : Int)))).heap[b]? = w7.heap[b]? := fun b h1 h2 => by
    rw [Below.heap_setCell _ _ _ _ h2, Below.heap_setCell _ _ _ _ h2, Below.heap_setCell _ _ _ _ h1]
  refine ⟨fun b => b = x ∨ b = T ∨ (Value.slice (some ⟨g', 0, none⟩) k cap).ownBlock = some b ∨ ∃ (i : Nat) (v' : Sl), (vs ++ [v])[i]? = some v' ∧ (slV v').ownBlock = some b, ⟨fun b => Iff.rfl, ?_, ?_, ?_, ?_, ?_, ?_⟩, ?_, ((kk.set (.inr oT) _).set (.inr ox) _).set (.inr ox) _, hg2⟩
  · have := ((b7x.other (p := ⟨T, 0, none⟩) xT (.slice (some ⟨g', 0, none⟩) k cap)).set (o := 3) (.int .i64 ((pre.length : Int) + 1))).set (o := 4) (.int .i64 ((((pre.map Rc.n).sum : Nat) : Int) + (r.n : Int)))
    simp only [wlC, List.set_cons_succ, List.set_cons_zero] at this ⊢
    simpa using this
  · exact ((b7T.set (o := 0) (.slice (some ⟨g', 0, none⟩) k cap)).other (p := ⟨x, 3, none⟩) (Ne.symm xT) _).other (p := ⟨x, 4, none⟩) (Ne.symm xT) _
  · exact hrow.keep fun g hg => far g (fun e => by cases hg; exact gT e) (fun e => by cases hg; exact gx e)
  · refine v7.keep fun i v' g hv' hg => ?_
    obtain ⟨r', _, hr'⟩ := v7.pair hv'
    exact far g (fun e => RW.ne b7T (by decide) hr' (by rw [hg, e])) (fun e => RW.ne b7x (by decide) hr' (by rw [hg, e]))
  · exact b7y.block (far y yT xy)
  · have k3 : Keep O W (((w7.setCell ⟨T, 0, none⟩ (.slice (some ⟨g', 0, none⟩) k cap)).setCell ⟨x, 3, none⟩ (.int .i64 ((pre.length : Int) + 1))).setCell ⟨x, 4, none⟩ (.int .i64 ((((pre.map Rc.n).sum : Nat) : Int) + (r.n : Int)))) := ((kk.set (.inr oT) _).set (.inr ox) _).set (.inr ox) _
    refine h.below.trans (k3.below h.below.size (fun b hb => ?_))
    rcases (h.own b).1 hb with rfl | rfl | e | ⟨i, v', hv', hg⟩
    · exact hw
    · exact hw'
    · exact hu b e
    · obtain ⟨r', _, hr'⟩ := h.bs.pair hv'
      exact Nat.le_trans hN2 (hr'.at hg).1
  · rintro b (rfl | rfl | e | ⟨i, v', hv', hg⟩)
    · exact .inl ox
    · exact .inl oT
    · have e1 : g' = b := by simpa [Value.ownBlock] using e
      subst e1
      rcases hloc with e2 | e2
      · exact .inl ((h.own _).2 (.inr (.inr (.inl e2))))
      · refine .inr ?_
        have e3 : (W.alloc o).heap.size = W.heap.size + 1 := by simp
        omega
    · obtain ⟨r', _, hr'⟩ := v7.pair hv'
      exact .inr (hr'.at hg).1
theorem Vs.lower {W : World} {N0 N1 : Nat} {vs : List Sl} {pre : List Rc} (h : Vs W N0 vs pre) (hN : N1 ≤ N0) : Vs W N1 vs pre := ⟨h.len, fun i v r hv hr => (h.at' i v r hv hr).lower hN⟩
/-- What Open answers. -/
def OPost (w : World) (d : Nat) (S : List Bs) (e : Ending) (w' : World) : Prop := ∃ x u vs, e = .returned (.tuple #[.pointer (some ⟨x, 0, none⟩), u, .int .i64 0]) ∧ Blk w' x (wlC d ⟨forceP S, great (pcs S) + 1, (toldP S).length, ((toldP S).map Rc.n).sum, false⟩) 111 ∧ RW EV w.heap.size w' u vs ∧ Vs w' w.heap.size vs (toldP S) ∧ Below w.heap.size w w' ∧ w.heap.size ≤ x
end
end Go.Proofs.Ytnganmekiloigaa
