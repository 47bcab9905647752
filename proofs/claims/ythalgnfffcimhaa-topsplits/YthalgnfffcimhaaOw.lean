/- Rows in memory; rows of one's own. -/
import Derived.Test.YthalgnfffcimhaaCv
import Derived.Deep.RegionHeld3
import Derived.BigQuiet
namespace Go.Proofs.Ythalgnfffcimhaa
open Go.RowKit Go.Shelf
set_option maxRecDepth 100000
/-- A row in memory: the slice of its values, the row. -/
abbrev El := Value × Rw
def encE (e : El) : List Value := [e.1, .int .i64 e.2.2.1, .int .i64 e.2.2.2]
def cellsE (es : List El) : List Value := es.flatMap encE
theorem cellsE_length : ∀ l : List El, (cellsE l).length = l.length * 3
  | [] => rfl
  | x :: l => by
    have := cellsE_length l
    rw [show cellsE (x :: l) = encE x ++ cellsE l by simp [cellsE]]
    simp [this, encE]; omega
theorem cellsE_app (l m : List El) : cellsE (l ++ m) = cellsE l ++ cellsE m := by simp [cellsE]
theorem cellsE_get : ∀ (l : List El) (i : Nat) (x : El), l[i]? = some x → (cellsE l)[i * 3]? = some x.1 ∧ (cellsE l)[i * 3 + 1]? = some (.int .i64 x.2.2.1) ∧ (cellsE l)[i * 3 + 2]? = some (.int .i64 x.2.2.2)
  | [], i, x, h => by simp at h
  | y :: l, 0, x, h => by
    simp only [List.getElem?_cons_zero, Option.some.injEq] at h
    subst h
    exact ⟨rfl, rfl, rfl⟩
  | y :: l, i + 1, x, h => by
    have := cellsE_get l i x (by simpa using h)
    rw [show cellsE (y :: l) = y.1 :: .int .i64 y.2.2.1 :: .int .i64 y.2.2.2 :: cellsE l by simp [cellsE, encE], show (i + 1) * 3 = i * 3 + 1 + 1 + 1 by omega]
    exact this
/-- A slice reads as rows, all of it in blocks outside of X. -/
structure RL (w : World) (X : Nat → Prop) (v : Value) (es : List El) : Prop where
  at' : ∃ a c, v = .slice a es.length c ∧ (0 < es.length → ∃ g o, a = some ⟨g, o, none⟩ ∧ g < w.heap.size ∧ ¬ X g ∧
    ∀ (i : Nat) (e : El), es[i]? = some e → w.cell? ⟨g, o + i * 3, none⟩ = some e.1 ∧ w.cell? ⟨g, o + i * 3 + 1, none⟩ = some (.int .i64 e.2.2.1) ∧ w.cell? ⟨g, o + i * 3 + 2, none⟩ = some (.int .i64 e.2.2.2))
  vals : ∀ e ∈ es, SV w X e.1 e.2.1
theorem RL.keep {w w' : World} {X Y : Nat → Prop} {v : Value} {es : List El} (h : RL w X v es) (k : Keep X w w') (hY : ∀ b, b < w.heap.size → Y b → X b) : RL w' Y v es := by
  refine ⟨?_, fun e he => (h.vals e he).keep k hY⟩
  obtain ⟨a, c, rfl, hh⟩ := h.at'
  refine ⟨a, c, rfl, fun h0 => ?_⟩
  obtain ⟨g, o, rfl, hg, hx, hc⟩ := hh h0
  exact ⟨g, o, rfl, Nat.lt_of_lt_of_le hg k.size, fun y => hx (hY g hg y), fun i s hs => ⟨(k.cell hg hx).trans (hc i s hs).1, (k.cell hg hx).trans (hc i s hs).2.1, (k.cell hg hx).trans (hc i s hs).2.2⟩⟩
theorem RL.below {w w' : World} {X : Nat → Prop} {v : Value} {es : List El} (h : RL w X v es) (k : Below w.heap.size w w') : RL w' X v es := h.keep (Keep.of k) (fun _ _ h => h)
theorem RL.mono {w : World} {X Y : Nat → Prop} {v : Value} {es : List El} (h : RL w X v es) (hY : ∀ b, b < w.heap.size → Y b → X b) : RL w Y v es := h.keep (Keep.refl _ _) hY
theorem RL.form {w : World} {X : Nat → Prop} {v : Value} {es : List El} (h : RL w X v es) : ∃ a c, v = .slice a es.length c := by
  obtain ⟨a, c, h, _⟩ := h.at'
  exact ⟨a, c, h⟩
theorem RL.get {w : World} {X : Nat → Prop} {a : Option Addr} {n c : Nat} {es : List El} (h : RL w X (.slice a n c) es) {k : Nat} {e : El} (hy : es[k]? = some e) : ∃ g o, a = some ⟨g, o, none⟩ ∧ g < w.heap.size ∧ ¬ X g ∧ w.cell? ⟨g, o + k * 3, none⟩ = some e.1 ∧ w.cell? ⟨g, o + k * 3 + 1, none⟩ = some (.int .i64 e.2.2.1) ∧ w.cell? ⟨g, o + k * 3 + 2, none⟩ = some (.int .i64 e.2.2.2) := by
  obtain ⟨a', c', hv, hh⟩ := h.at'
  simp only [Value.slice.injEq] at hv
  obtain ⟨rfl, -, -⟩ := hv
  obtain ⟨g, o, rfl, hg, hx, hc⟩ := hh (by have := (List.getElem?_eq_some_iff.1 hy).1; omega)
  exact ⟨g, o, rfl, hg, hx, hc k e hy⟩
theorem RL.nil {w : World} {X : Nat → Prop} (a : Option Addr) (c : Nat) : RL w X (.slice a 0 c) [] := ⟨⟨a, c, rfl, fun h => by simp at h⟩, fun e he => by cases he⟩
/-- Rows in a block of one's own, from the block B on; their values lie elsewhere. -/
structure OwnR (w : World) (B : Nat) (v : Value) (es : List El) : Prop where
  row : w.ownsRow B 30 3 v es.length (cellsE es)
  vals : ∀ e ∈ es, SV w (fun b => v.ownBlock = some b) e.1 e.2.1
theorem OwnR.nil (w : World) (B : Nat) : OwnR w B (.slice none 0 0) [] := ⟨World.ownsRow_nil _ _ _ _, fun e he => by cases he⟩
theorem OwnR.rl {w : World} {B : Nat} {v : Value} {es : List El} (h : OwnR w B v es) : RL w (fun _ => False) v es := by
  refine ⟨?_, fun e he => (h.vals e he).mono (fun _ _ h => h.elim)⟩
  have hc := fun g hg => World.ownsRow.cells h.row (g := g) hg
  have hlt := World.ownsRow.lt h.row
  obtain ⟨_, ⟨rfl, h0⟩ | ⟨g, c, cur, rfl, _⟩⟩ := h.row
  · exact ⟨none, 0, by rw [h0], fun h => by omega⟩
  · refine ⟨_, c, rfl, fun _ => ⟨g, 0, rfl, (hlt g rfl).2, id, fun i e he => ?_⟩⟩
    obtain ⟨e1, e2, e3⟩ := cellsE_get es i e he
    have q1 := hc g rfl _ _ e1
    have q2 := hc g rfl _ _ e2
    have q3 := hc g rfl _ _ e3
    rw [Addr.add_mid] at q1 q2 q3
    exact ⟨q1, by rw [Nat.add_assoc]; exact q2, by rw [Nat.add_assoc]; exact q3⟩
theorem owns_keep {W W' : World} {base e m : Nat} {v : Value} {n : Nat} {xs : List Value} (h : W.ownsRow base e m v n xs) (hk : ∀ k, v.ownBlock = some k → W'.heap[k]? = W.heap[k]?) : W'.ownsRow base e m v n xs := by
  obtain ⟨hl, h | ⟨g, cap, cur, rfl, hg, hblk, r⟩⟩ := h
  · exact ⟨hl, .inl h⟩
  · exact ⟨hl, .inr ⟨g, cap, cur, rfl, hg, (hk g rfl).trans hblk, r⟩⟩
theorem OwnR.below {w w' : World} {B : Nat} {v : Value} {es : List El} (h : OwnR w B v es) (k : Below w.heap.size w w') : OwnR w' B v es :=
  ⟨owns_keep h.row (fun j hj => k.block j (h.row.lt j hj).2), fun e he => (h.vals e he).below k⟩
theorem OwnR.base {w : World} {B B' : Nat} {v : Value} {es : List El} (h : OwnR w B v es) (hB : B' ≤ B) : OwnR w B' v es :=
  ⟨⟨h.row.1, h.row.2.imp id fun ⟨g, cap, cur, h1, h2, h3⟩ => ⟨g, cap, cur, h1, Nat.le_trans hB h2, h3⟩⟩, h.vals⟩
theorem info_parts' {ty : TypeId} {z : Value} {m b : Nat} (h : (Try.prog.info? ty).map (fun i => (i.zero, i.size, i.bytes)) = some (some z, m, b)) : ∃ i, Try.prog.info? ty = some i ∧ i.zero = some z ∧ i.size = m ∧ i.bytes = b := by
  obtain ⟨i, hi, hzz⟩ := Option.map_eq_some_iff.1 h
  simp only [Prod.mk.injEq] at hzz
  exact ⟨i, hi, hzz⟩
theorem info34 : (Try.prog.info? 30).map (fun i => (i.zero, i.size, i.bytes)) = some (some (.agg #[.slice none 0 0, .int .i64 0, .int .i64 0]), 3, 40) := by kernel_rfl
/-- What an append of a row leaves. -/
structure Apd (w w' : World) (B : Nat) (v v' : Value) (es : List El) : Prop where
  own : OwnR w' B v' es
  grown : w.grownBy w' v.ownBlock
  new : ∀ k, v'.ownBlock = some k → v.ownBlock = some k ∨ w.heap.size ≤ k
  nn : v' ≠ .slice none 0 0
theorem keep_of_grown {w w' : World} {o : Option Nat} (g : w.grownBy w' o) : Keep (fun b => o = some b) w w' := ⟨g.os, g.tape, g.output, g.size, fun k hk hn => g.block k hk (fun e => hn e.symm)⟩
theorem OwnR.app {w : World} {B : Nat} {v : Value} {es : List El} (h : OwnR w B v es) (hn : es.length ≤ 100000) (hB : B ≤ w.heap.size) (ty : TypeId) {gb c : Nat} {e : El} (hsv : SV w (fun b => v.ownBlock = some b) e.1 e.2.1)
    (h0 : w.cell? ⟨gb, 0, none⟩ = some e.1) (h1 : w.cell? ⟨gb, 1, none⟩ = some (.int .i64 e.2.2.1)) (h2 : w.cell? ⟨gb, 2, none⟩ = some (.int .i64 e.2.2.2)) :
    ∃ v' w', (Builtin.append_ #[31, 31] ty #[v, .slice (some ⟨gb, 0, none⟩) 1 c]).run Try.prog w = .ok v' w' ∧ Apd w w' B v v' (es ++ [e]) := by
  obtain ⟨i0, hi, hz0, hz1, hz2⟩ := info_parts' info34
  have hc : ∀ j x, (encE e)[j]? = some x → w.cell? ((⟨gb, 0, none⟩ : Addr).add j) = some x := fun j x hx => by
    rw [Addr.add_mid, Nat.zero_add]
    match j with
    | 0 => simp [encE] at hx; subst hx; exact h0
    | 1 => simp [encE] at hx; subst hx; exact h1
    | 2 => simp [encE] at hx; subst hx; exact h2
    | j + 3 => simp [encE] at hx
  obtain ⟨pa, ca, hf⟩ := hsv.form
  obtain ⟨v', w', hrun, r1, r2, r3, r4⟩ := run_append_own_at (P := Try.prog) w B 31 ty 30 i0 (.agg #[.slice none 0 0, .int .i64 0, .int .i64 0]) 3 40 Try.underlying31 hi hz0 hz1 hz2 rfl (by decide) v es.length (cellsE es) h.row ⟨gb, 0, none⟩ 1 c (encE e) rfl hc (by intro u hu; simp [encE] at hu; rcases hu with rfl | rfl | rfl; rw [hf]; rfl; rfl; rfl) (by unfold maxLen; omega) (by omega) hB
  have hnew : ∀ k, v'.ownBlock = some k → v.ownBlock = some k ∨ w.heap.size ≤ k := fun k hk => r4.elim (fun q => .inl (q ▸ hk)) (fun q => .inr (by rw [q] at hk; cases hk; exact Nat.le_refl _))
  refine ⟨v', w', hrun, ⟨?_, fun x hx => ?_⟩, r2, hnew, fun e => by have := (r3.1 e).2; omega⟩
  · rw [List.length_append, cellsE_app, show cellsE [e] = encE e by simp [cellsE]]
    exact r1
  · have hs : SV w (fun b => v.ownBlock = some b) x.1 x.2.1 := by
      rcases List.mem_append.1 hx with hx | hx
      · exact h.vals x hx
      · simp at hx; subst hx; exact hsv
    exact hs.keep (keep_of_grown r2) (fun b hb hy => (hnew b hy).elim id (fun h => by omega))
theorem Apd.below {w w' : World} {B : Nat} {v v' : Value} {es es' : List El} (h : Apd w w' B v v' es') (ho : OwnR w B v es) (hB : B ≤ w.heap.size) : Below B w w' := ⟨h.grown.os, h.grown.tape, h.grown.output, h.grown.size, fun k hk => h.grown.block k (by omega) (fun e => by have := (ho.row.lt k e.symm).1; omega)⟩
theorem step_append_ex {P : Program} {ops : Array Oper} {Q : Exit → Act → World → Prop} {o : Oper} {a : Act} {w : World} {K : Act → World → Prop} {E : Prop} (hgd : o.guard = none) (s x : Operand) (t : TypeId)
    (ho : o.op = .call { callee := .builtin .append, args := #[s, x], argTypes := #[t, t] }) (v y : Value) (hs : a.eval s = v) (hx : a.eval x = y) {R : Value → World → Prop} (hrun : ∃ u w', (Builtin.append_ #[t, t] o.type #[v, y]).run P w = .ok u w' ∧ R u w')
    (h : ∀ u w', R u w' → K (a.put o.dst u) w') : if Region.wanted o (yielded ops a.tmps) = true then Oper.wp P o a w K Q else E := by
  have hw : Region.wanted o (yielded ops a.tmps) = true := by simp [Region.wanted, hgd]
  obtain ⟨u, w', h1, h2⟩ := hrun
  rw [if_pos hw]
  unfold Oper.wp execOp
  simp only [ho, resolve, invoke, builtin, Sem.run_bind, Sem.run_pure, Result.andThen_ok, List.map_toArray, List.map_cons, List.map_nil, hs, hx, h1]
  exact h u w' h2
theorem wpList_append_ex {P : Program} {ops : Array Oper} {rest : List Oper} {o : Oper} {a : Act} {w : World} {Q : Exit → Act → World → Prop} (hgd : o.guard = none) (s x : Operand) (t : TypeId)
    (ho : o.op = .call { callee := .builtin .append, args := #[s, x], argTypes := #[t, t] }) (v y : Value) (hs : a.eval s = v) (hx : a.eval x = y) {R : Value → World → Prop} (hrun : ∃ u w', (Builtin.append_ #[t, t] o.type #[v, y]).run P w = .ok u w' ∧ R u w')
    (h : ∀ u w', R u w' → wpList P ops Q rest (a.put o.dst u) w') : wpList P ops Q (o :: rest) a w := by
  refine wpList_plain hgd fun K hK => ?_
  obtain ⟨u, w', h1, h2⟩ := hrun
  unfold Oper.wp execOp
  simp only [ho, resolve, invoke, builtin, Sem.run_bind, Sem.run_pure, Result.andThen_ok, List.map_toArray, List.map_cons, List.map_nil, hs, hx, h1]
  exact hK _ _ (h u w' h2)
end Go.Proofs.Ythalgnfffcimhaa
