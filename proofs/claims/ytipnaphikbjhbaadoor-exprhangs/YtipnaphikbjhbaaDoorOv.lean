/- The law ExprHangs. -/
import Derived.Test.YtipnaphikbjhbaaDoorRe
namespace Go.Proofs.YtipnaphikbjhbaaDoor
open Go.RowKit
set_option maxRecDepth 100000
variable {w w' W W0 : World} {cs : List Cd} {cols : List Co} {vals : List Va}
theorem EV_cons (d : Va) (l : List Va) : EV.cells (d :: l) = .int .u8 (d.1 : Int) :: .int .i64 d.2.1 :: .string (str d.2.2) :: EV.cells l := by simp [T.Ety.cells, EV]
theorem EV_set (d : Va) : ∀ (l : List Va) (i : Nat), (((EV.cells l).set (i * 3) (.int .u8 (d.1 : Int))).set (i * 3 + 1) (.int .i64 d.2.1)).set (i * 3 + 2) (.string (str d.2.2)) = EV.cells (l.set i d)
  | [], i => by simp [T.Ety.cells]
  | x :: l, 0 => by
    show _ = EV.cells (d :: l)
    rw [EV_cons, EV_cons]
    rfl
  | x :: l, i + 1 => by
    have := EV_set d l i
    rw [EV_cons, List.set_cons_succ, EV_cons, ← this, show (i + 1) * 3 = i * 3 + 1 + 1 + 1 by omega]
    rfl
/-- Three cells of a block are turned. -/
theorem bx3o {W : World} {g o : Nat} {l : List Value} {t : TypeId} (h : T.Blk W g l t) (ho : o + 3 ≤ l.length) (v0 v1 v2 : Value) :
    ((∃ u0, W.cell? ⟨g, o, none⟩ = some u0) ∧ W.frozen? ⟨g, o, none⟩ = false ∧
    (∃ u1, (W.setCell ⟨g, o, none⟩ v0).cell? ⟨g, o + 1, none⟩ = some u1) ∧ (W.setCell ⟨g, o, none⟩ v0).frozen? ⟨g, o + 1, none⟩ = false ∧
    (∃ u2, ((W.setCell ⟨g, o, none⟩ v0).setCell ⟨g, o + 1, none⟩ v1).cell? ⟨g, o + 2, none⟩ = some u2) ∧ ((W.setCell ⟨g, o, none⟩ v0).setCell ⟨g, o + 1, none⟩ v1).frozen? ⟨g, o + 2, none⟩ = false) ∧
    T.Blk (((W.setCell ⟨g, o, none⟩ v0).setCell ⟨g, o + 1, none⟩ v1).setCell ⟨g, o + 2, none⟩ v2) g (((l.set o v0).set (o + 1) v1).set (o + 2) v2) t := by
  have h1 := h.set (o := o) v0
  have h2 := h1.set (o := o + 1) v1
  have h3 := h2.set (o := o + 2) v2
  obtain ⟨u0, g0⟩ : ∃ u, l[o]? = some u := ⟨_, List.getElem?_eq_getElem (by omega)⟩
  obtain ⟨u1, g1⟩ : ∃ u, (l.set o v0)[o + 1]? = some u := ⟨_, List.getElem?_eq_getElem (by simp; omega)⟩
  obtain ⟨u2, g2⟩ : ∃ u, ((l.set o v0).set (o + 1) v1)[o + 2]? = some u := ⟨_, List.getElem?_eq_getElem (by simp; omega)⟩
  exact ⟨⟨⟨u0, (h.cell o).trans g0⟩, h.frozen o, ⟨u1, (h1.cell (o + 1)).trans g1⟩, h1.frozen _, ⟨u2, (h2.cell (o + 2)).trans g2⟩, h2.frozen _⟩, h3⟩
theorem take_set3 {l : List Value} {N o : Nat} (v0 v1 v2 : Value) : (((l.set o v0).set (o + 1) v1).set (o + 2) v2).take N = (((l.take N).set o v0).set (o + 1) v1).set (o + 2) v2 := by
  rw [List.take_set, List.take_set, List.take_set]
/-- A value is put into a row of one's own. -/
theorem rw_put {B g n cap i : Nat} {L : List Va} (h : T.RW EV B W (.slice (some ⟨g, 0, none⟩) n cap) L) (hi : i < L.length) (d : Va) :
    ((∃ u0, W.cell? ⟨g, i * 3, none⟩ = some u0) ∧ W.frozen? ⟨g, i * 3, none⟩ = false ∧
    (∃ u1, (W.setCell ⟨g, i * 3, none⟩ (.int .u8 (d.1 : Int))).cell? ⟨g, i * 3 + 1, none⟩ = some u1) ∧ (W.setCell ⟨g, i * 3, none⟩ (.int .u8 (d.1 : Int))).frozen? ⟨g, i * 3 + 1, none⟩ = false ∧
    (∃ u2, ((W.setCell ⟨g, i * 3, none⟩ (.int .u8 (d.1 : Int))).setCell ⟨g, i * 3 + 1, none⟩ (.int .i64 d.2.1)).cell? ⟨g, i * 3 + 2, none⟩ = some u2) ∧ ((W.setCell ⟨g, i * 3, none⟩ (.int .u8 (d.1 : Int))).setCell ⟨g, i * 3 + 1, none⟩ (.int .i64 d.2.1)).frozen? ⟨g, i * 3 + 2, none⟩ = false) ∧
    T.RW EV B (((W.setCell ⟨g, i * 3, none⟩ (.int .u8 (d.1 : Int))).setCell ⟨g, i * 3 + 1, none⟩ (.int .i64 d.2.1)).setCell ⟨g, i * 3 + 2, none⟩ (.string (str d.2.2))) (.slice (some ⟨g, 0, none⟩) n cap) (L.set i d) ∧ B ≤ g := by
  obtain ⟨h1, h2⟩ := h
  rcases h2 with ⟨e, _⟩ | ⟨g', cap', cur, e, hB, hh, hn, hm, hs, ht⟩
  · cases e
  · simp only [Value.slice.injEq, Option.some.injEq, Addr.mk.injEq, and_true] at e
    obtain ⟨rfl, rfl, rfl⟩ := e
    have hb : T.Blk W g cur.toList 30 := by
      show W.heap[g]? = _
      rw [hh, Array.toArray_toList]
      rfl
    have ho : i * 3 + 3 ≤ cur.toList.length := by
      rw [Array.length_toList, hs]
      show i * 3 + 3 ≤ cap * 3
      omega
    obtain ⟨f, hb3⟩ := bx3o hb ho (.int .u8 (d.1 : Int)) (.int .i64 d.2.1) (.string (str d.2.2))
    refine ⟨f, ⟨?_, .inr ⟨g, cap, _, ?_, hB, hb3, ?_, hm, ?_, ?_⟩⟩, hB⟩
    · rw [T.cells_len, List.length_set]
    · rw [List.length_set]
    · rw [List.length_set]; exact hn
    · rw [List.size_toArray, List.length_set, List.length_set, List.length_set, Array.length_toList, hs]
    · show (((cur.toList.set _ _).set _ _).set _ _).take _ = _
      rw [take_set3, List.length_set]
      show (((cur.toList.take (L.length * EV.m)).set _ _).set _ _).set _ _ = _
      rw [ht, EV_set]
/-- What the law has made ready: its case and its value. -/
structure H5 (w W : World) (s1 s2 s3 : Value) (cs : List Cd) (cols : List Co) (vals : List Va) (y : Va) : Prop where
  lc : LC w s1 cs
  cv : T.LV EK w s2 cols
  vv : T.LV EV w s3 vals
  gd : Good w
  n1 : cs.length ≤ 40
  n2 : cols.length ≤ 8
  n3 : vals.length ≤ 8
  kids : ∀ x ∈ cs, x.kids.length ≤ 17592186044416
  size : ∀ x ∈ cs, (str x.col).size ≤ maxLen
  bel : Below w.heap.size w W
  bx : T.Blk W w.heap.size [s1, s2, s3] 26
  yb : T.Blk W (w.heap.size + 1) [.int .u8 (y.1 : Int), .int .i64 y.2.1, .string (str y.2.2)] 30
/-- .. and the names, the other values. -/
structure H6 (w W : World) (s1 s2 s3 : Value) (cs : List Cd) (cols : List Co) (vals : List Va) (y : Va) (nv rv : Value) (vl : List Va) : Prop where
  h5 : H5 w W s1 s2 s3 cs cols vals y
  nm : T.RW EX (w.heap.size + 2) W nv (colsP cs)
  rv : T.RW EV (w.heap.size + 2) W rv vl
  ln : vl.length = vals.length
  ok : ∀ (j : Nat) (c : Co), cols[j]? = some c → c.1 ∈ colsP cs → vl[j]? = vals[j]?
theorem rw_base {α : Type} {E : T.Ety α} {B B' : Nat} {u : Value} {L : List α} (h : T.RW E B W u L) (hB : B' ≤ B) : T.RW E B' W u L := by
  refine ⟨h.1, h.2.imp id ?_⟩
  rintro ⟨g, cap, cur, e, hg, r⟩
  exact ⟨g, cap, cur, e, Nat.le_trans hB hg, r⟩
theorem rw_some {α : Type} {E : T.Ety α} {B n c : Nat} {a : Option Addr} {L : List α} (h : T.RW E B W (.slice a n c) L) (h0 : 0 < L.length) : n = L.length ∧ ∃ g, a = some ⟨g, 0, none⟩ := by
  rcases h.2 with ⟨e, hn⟩ | ⟨g, cap, cur, e, _⟩
  · omega
  · simp only [Value.slice.injEq] at e
    exact ⟨e.2.1, g, e.1⟩
section
variable {s1 s2 s3 nv rv : Value} {y : Va} {vl : List Va}
theorem H5.below (h : H5 w W s1 s2 s3 cs cols vals y) (k : Below W.heap.size W w') : H5 w w' s1 s2 s3 cs cols vals y :=
  ⟨h.lc, h.cv, h.vv, h.gd, h.n1, h.n2, h.n3, h.kids, h.size, h.bel.trans (k.mono h.bel.size), h.bx.below k, h.yb.below k⟩
theorem H5.cells (h : H5 w W s1 s2 s3 cs cols vals y) : W.cell? ⟨w.heap.size, 0, none⟩ = some s1 ∧ W.cell? ⟨w.heap.size, 1, none⟩ = some s2 ∧ W.cell? ⟨w.heap.size, 2, none⟩ = some s3 ∧ W.cell? ⟨w.heap.size + 1, 0, none⟩ = some (.int .u8 (y.1 : Int)) ∧ W.cell? ⟨w.heap.size + 1, 1, none⟩ = some (.int .i64 y.2.1) ∧ W.cell? ⟨w.heap.size + 1, 2, none⟩ = some (.string (str y.2.2)) :=
  ⟨h.bx.cell 0, h.bx.cell 1, h.bx.cell 2, h.yb.cell 0, h.yb.cell 1, h.yb.cell 2⟩
theorem H5.c15 (h : H5 w W s1 s2 s3 cs cols vals y) : Calls Tryd.prog 15 #[s1] W fun e w' => ∃ a c, e = .returned (.slice a (colsP cs).length c) ∧ T.RW EX (w.heap.size + 2) w' (.slice a (colsP cs).length c) (colsP cs) ∧ H5 w w' s1 s2 s3 cs cols vals y :=
  (columns15 (h.lc.below h.bel) (Nat.le_trans h.n1 (by decide)) h.size).mono fun _ _ ⟨a, c, h1, h2, h3⟩ => ⟨a, c, h1, rw_base h2 h.yb.lt, h.below h3⟩
/-- Values of one's own. -/
theorem H5.app (h : H5 w W s1 s2 s3 cs cols vals y) (hn : T.RW EX (w.heap.size + 2) W nv (colsP cs)) : ∃ u' w4, (Builtin.append_ #[24, 24] 24 #[.slice (some ⟨W.heap.size, 0, none⟩) 0 0, s3]).run Tryd.prog (W.alloc (.cells #[] 30)) = .ok u' w4 ∧ (∃ a c, u' = .slice a vals.length c ∧ H6 w w4 s1 s2 s3 cs cols vals y nv u' vals) := by
  have hal := T.al W (.cells #[] 30)
  have HR : T.RW EV W.heap.size (W.alloc (.cells #[] 30)) (.slice (some ⟨W.heap.size, 0, none⟩) 0 0) [] := ⟨rfl, .inr ⟨W.heap.size, 0, #[], rfl, Nat.le_refl _, T.blk_new W [] 30, Nat.le_refl _, Nat.zero_le _, rfl, rfl⟩⟩
  obtain ⟨u', w4, q1, q2, q3⟩ := T.rw_app HR ((h.vv.below h.bel).below hal) (by have := h.n3; simp; omega) hal.size
  have hb := hal.trans q3
  obtain ⟨a, c, rfl, _⟩ := q2.form
  exact ⟨_, w4, q1, a, c, rfl, h.below hb, hn.below hb, rw_base q2 h.yb.lt, rfl, fun _ _ _ _ => rfl⟩
theorem H6.below (h : H6 w W s1 s2 s3 cs cols vals y nv rv vl) (k : Below W.heap.size W w') : H6 w w' s1 s2 s3 cs cols vals y nv rv vl :=
  ⟨h.h5.below k, h.nm.below k, h.rv.below k, h.ln, h.ok⟩
theorem H6.drew (h : H6 w W s1 s2 s3 cs cols vals y nv rv vl) : H6 w W.drew s1 s2 s3 cs cols vals y nv rv vl := h.below (Below.refl _ _).drew
theorem H6.c10 (h : H6 w W s1 s2 s3 cs cols vals y nv rv vl) : Calls Tryd.prog 10 #[] W fun e w' => e = .returned (.bool true) ∧ H6 w w' s1 s2 s3 cs cols vals y nv rv vl :=
  (live10 W (h.h5.gd.below h.h5.bel)).mono fun _ _ ⟨h1, h2⟩ => ⟨h1, h.below h2⟩
theorem H6.c13 (h : H6 w W s1 s2 s3 cs cols vals y nv rv vl) : Calls Tryd.prog 13 #[s1, s2, s3] W fun e w' => e = .returned (.bool (holdsV cols vals cs)) ∧ H6 w w' s1 s2 s3 cs cols vals y nv rv vl :=
  (holds13 (h.h5.lc.below h.h5.bel) (h.h5.cv.below h.h5.bel) (h.h5.vv.below h.h5.bel) (Nat.le_trans h.h5.n1 (by decide)) (Nat.le_trans h.h5.n2 (by decide)) (fun x hx => by have := h.h5.kids x hx; omega)).mono fun _ _ ⟨h1, h2⟩ => ⟨h1, h.below h2⟩
theorem H6.c13o (h : H6 w W s1 s2 s3 cs cols vals y nv rv vl) : Calls Tryd.prog 13 #[s1, s2, rv] W fun e w' => e = .returned (.bool (holdsV cols vals cs)) ∧ H6 w w' s1 s2 s3 cs cols vals y nv rv vl := by
  have e : holdsV cols vl cs = holdsV cols vals cs := holds_hangs fun nm hnm => valOf_other fun i c hc hcn => h.ok i c hc (by rw [hcn]; exact hnm)
  have := holds13 (h.h5.lc.below h.h5.bel) (h.h5.cv.below h.h5.bel) h.rv.read (Nat.le_trans h.h5.n1 (by decide)) (Nat.le_trans h.h5.n2 (by decide)) (fun x hx => by have := h.h5.kids x hx; omega)
  rw [e] at this
  exact this.mono fun _ _ ⟨h1, h2⟩ => ⟨h1, h.below h2⟩
/-- A value is put where no named column lies. -/
theorem H6.put {g n cap i : Nat} {c : Co} (h : H6 w W s1 s2 s3 cs cols vals y nv (.slice (some ⟨g, 0, none⟩) n cap) vl) (hi : i < vl.length) (hc : cols[i]? = some c) (hno : c.1 ∉ colsP cs) :
    ((∃ u0, W.cell? ⟨g, i * 3, none⟩ = some u0) ∧ W.frozen? ⟨g, i * 3, none⟩ = false ∧
    (∃ u1, (W.setCell ⟨g, i * 3, none⟩ (.int .u8 (y.1 : Int))).cell? ⟨g, i * 3 + 1, none⟩ = some u1) ∧ (W.setCell ⟨g, i * 3, none⟩ (.int .u8 (y.1 : Int))).frozen? ⟨g, i * 3 + 1, none⟩ = false ∧
    (∃ u2, ((W.setCell ⟨g, i * 3, none⟩ (.int .u8 (y.1 : Int))).setCell ⟨g, i * 3 + 1, none⟩ (.int .i64 y.2.1)).cell? ⟨g, i * 3 + 2, none⟩ = some u2) ∧ ((W.setCell ⟨g, i * 3, none⟩ (.int .u8 (y.1 : Int))).setCell ⟨g, i * 3 + 1, none⟩ (.int .i64 y.2.1)).frozen? ⟨g, i * 3 + 2, none⟩ = false) ∧
    H6 w (((W.setCell ⟨g, i * 3, none⟩ (.int .u8 (y.1 : Int))).setCell ⟨g, i * 3 + 1, none⟩ (.int .i64 y.2.1)).setCell ⟨g, i * 3 + 2, none⟩ (.string (str y.2.2))) s1 s2 s3 cs cols vals y nv (.slice (some ⟨g, 0, none⟩) n cap) (vl.set i y) := by
  obtain ⟨f, hr, hB⟩ := rw_put h.rv hi y
  have hat : ∀ k, k ≠ g → (((W.setCell ⟨g, i * 3, none⟩ (.int .u8 (y.1 : Int))).setCell ⟨g, i * 3 + 1, none⟩ (.int .i64 y.2.1)).setCell ⟨g, i * 3 + 2, none⟩ (.string (str y.2.2))).heap[k]? = W.heap[k]? := fun k hk => (Below.heap_setCell _ _ _ _ hk).trans ((Below.heap_setCell _ _ _ _ hk).trans (Below.heap_setCell _ _ _ _ hk))
  refine ⟨f, ⟨h.h5.lc, h.h5.cv, h.h5.vv, h.h5.gd, h.h5.n1, h.h5.n2, h.h5.n3, h.h5.kids, h.h5.size, ?_, h.h5.bx.block (hat _ (by omega)), h.h5.yb.block (hat _ (by omega))⟩, h.nm.keep fun k hk => hat k (fun e => ?_), hr, by rw [List.length_set]; exact h.ln, fun j c' hc' hm => ?_⟩
  · exact T.bset (T.bset (T.bset h.h5.bel (p := ⟨g, i * 3, none⟩) (show w.heap.size ≤ g by omega) _) (p := ⟨g, i * 3 + 1, none⟩) (show w.heap.size ≤ g by omega) _) (p := ⟨g, i * 3 + 2, none⟩) (show w.heap.size ≤ g by omega) _
  · subst e
    exact rw_apart h.nm h.rv (by decide) hk rfl
  · by_cases e : i = j
    · subst e
      rw [hc] at hc'
      cases hc'
      exact absurd hm hno
    · rw [List.getElem?_set_ne e]
      exact h.ok j c' hc' hm
end
end Go.Proofs.YtipnaphikbjhbaaDoor
