/- Three lists of rows of one's own, whose values lie ahead of all of them. -/
import Derived.Test.YthalgnfffcimhaaPb
import Derived.Test.YthalgnfffcimhaaCb
namespace Go.Proofs.Ythalgnfffcimhaa
open Go.RowKit Go.Shelf
set_option maxRecDepth 100000
theorem wpListIn_append_ex {F : Fence} {n : Nat} {P : Program} {ops : Array Oper} {rest : List Oper} {o : Oper} {a : Act} {w : World} {Q : Exit → Act → World → Prop} (hgd : o.guard = none) (s x : Operand) (t : TypeId)
    (ho : o.op = .call { callee := .builtin .append, args := #[s, x], argTypes := #[t, t] }) (v y : Value) (hs : a.eval s = v) (hx : a.eval x = y) {R : Value → World → Prop} (hrun : ∃ u w', (Builtin.append_ #[t, t] o.type #[v, y]).run P w = .ok u w' ∧ R u w')
    (h : ∀ u w', R u w' → wpListIn F n P ops Q rest (a.put o.dst u) w') : wpListIn F n P ops Q (o :: rest) a w := by
  refine wpListIn_plain hgd fun K hK' => ?_
  obtain ⟨u, w', h1, h2⟩ := hrun
  unfold Oper.wpIn
  refine ⟨?_, ?_⟩
  · simp [Oper.about, ho, resolve, Target.leads, Sem.run_pure]
  · rw [Oper.semAt_plain F _ _ (by rw [ho]; intro c hc'; cases hc')]
    simp only [execOp, ho, resolve, invoke, builtin, Sem.run_bind, Sem.run_pure, Result.andThen_ok, List.map_toArray, List.map_cons, List.map_nil, hs, hx, h1]
    exact hK' _ _ (h u w' h2)
structure PI (w W : World) (v : Value) (es : List El) (L : List Rw) : Prop where
  own : W.ownsRow w.heap.size 30 3 v es.length (cellsE es)
  vals : ∀ e ∈ es, SV w (fun b => w.heap.size ≤ b) e.1 e.2.1
  rows : rws es = L
theorem PI.nil (w W : World) : PI w W (.slice none 0 0) [] [] := ⟨World.ownsRow_nil _ _ _ _, fun e he => (by cases he), rfl⟩
theorem PI.len {w W : World} {v : Value} {es : List El} {L : List Rw} (h : PI w W v es L) : es.length = L.length := by
  have := congrArg List.length h.rows
  simpa [rws] using this
theorem PI.ownR {w W : World} {v : Value} {es : List El} {L : List Rw} (h : PI w W v es L) (hb : Below w.heap.size w W) : OwnR W w.heap.size v es := ⟨h.own, fun e he => ((h.vals e he).below hb).mono (fun b _ q => (h.own.lt b q).1)⟩
theorem PI.keep {w W W' : World} {v : Value} {es : List El} {L : List Rw} {F : Nat → Prop} (h : PI w W v es L) (k : Keep F W W') (hF : ∀ b, v.ownBlock = some b → ¬ F b) : PI w W' v es L := ⟨owns_keep h.own (fun b hb => k.block b (h.own.lt b hb).2 (hF b hb)), h.vals, h.rows⟩
theorem PI.app {w W : World} {v : Value} {es : List El} {L : List Rw} (h : PI w W v es L) (hb : Below w.heap.size w W) (hn : L.length ≤ 100000) {sv : Value} {vl : List Vt} {f t : Int} (hsv : SV w (fun b => w.heap.size ≤ b) sv vl) :
    ∃ a7 n7 c7 w7, (Builtin.append_ #[31, 31] 31 #[v, .slice (some ⟨W.heap.size, 0, none⟩) 1 1]).run Try.prog (W.alloc (.cells #[sv, .int .i64 f, .int .i64 t] 30)) = .ok (.slice a7 n7 c7) w7 ∧ PI w w7 (.slice a7 n7 c7) (es ++ [(sv, vl, f, t)]) (L ++ [(vl, f, t)]) ∧
      Keep (fun b => v.ownBlock = some b) W w7 ∧ (∀ k, (Value.slice a7 n7 c7).ownBlock = some k → (v.ownBlock = some k ∨ W.heap.size ≤ k) ∧ k < w7.heap.size) := by
  have hal := al W (.cells #[sv, .int .i64 f, .int .i64 t] 30)
  have nb := blk_new W [sv, .int .i64 f, .int .i64 t] 30
  have ho := (h.ownR hb).below hal
  have hB : w.heap.size ≤ (W.alloc (.cells #[sv, .int .i64 f, .int .i64 t] 30)).heap.size := Nat.le_trans hb.size hal.size
  obtain ⟨v7, w7, hr7, A7⟩ := OwnR.app ho (by rw [h.len]; exact hn) hB 31 (gb := W.heap.size) (c := 1) (e := (sv, vl, f, t)) (((hsv.below hb).below hal).mono (fun b _ q => (ho.row.lt b q).1)) (nb.cell 0) (nb.cell 1) (nb.cell 2)
  have hrow := A7.own.row
  obtain ⟨a7, n7, c7, rfl⟩ := rowForm7 hrow
  refine ⟨a7, n7, c7, w7, hr7, ⟨hrow, fun e he => ?_, ?_⟩, (Keep.of hal).trans (keep_of_grown A7.grown) (fun b _ q => q), fun k hk => ⟨?_, (hrow.lt k hk).2⟩⟩
  · rcases List.mem_append.1 he with he | he
    · exact h.vals e he
    · simp only [List.mem_singleton] at he; subst he; exact hsv
  · rw [← h.rows]; simp [rws]
  · exact (A7.new k hk).imp id (fun q => by have := hal.size; omega)
where
  rowForm7 {w : World} {B e m n : Nat} {v : Value} {xs : List Value} (h : w.ownsRow B e m v n xs) : ∃ a n c, v = .slice a n c := by
    obtain ⟨_, ⟨h, _⟩ | ⟨g, cap, cur, h, _⟩⟩ := h
    · exact ⟨_, _, _, h⟩
    · exact ⟨_, _, _, h⟩
/-- Three such lists, in a block. -/
structure T3 (w W : World) (tb : Nat) (L : Fin 3 → List Rw) (O : Nat → Prop) (vs : Fin 3 → Value) (es : Fin 3 → List El) : Prop where
  blk : Blk W tb [vs 0, vs 1, vs 2] 62
  pi : ∀ j, PI w W (vs j) (es j) (L j)
  mine : ∀ j b, (vs j).ownBlock = some b → O b
  apart : ∀ j k b, j ≠ k → (vs j).ownBlock = some b → (vs k).ownBlock ≠ some b
  tb : O tb
  lt : ∀ b, O b → w.heap.size ≤ b ∧ b < W.heap.size
  below : Below w.heap.size w W
theorem T3.keep {w W W' : World} {tb : Nat} {L : Fin 3 → List Rw} {O F : Nat → Prop} {vs : Fin 3 → Value} {es : Fin 3 → List El} (h : T3 w W tb L O vs es) (k : Keep F W W') (hF : ∀ b, F b → ¬ O b ∧ w.heap.size ≤ b) : T3 w W' tb L O vs es :=
  ⟨h.blk.keep k (fun q => (hF _ q).1 h.tb), fun j => (h.pi j).keep k (fun b hb q => (hF _ q).1 (h.mine j b hb)), h.mine, h.apart, h.tb, fun b hb => ⟨(h.lt b hb).1, Nat.lt_of_lt_of_le (h.lt b hb).2 k.size⟩, h.below.trans (k.below h.below.size (fun i hi q => by have := (hF i q).2; omega))⟩
theorem blk_ne_row {W : World} {tb : Nat} {l : List Value} {v : Value} {B n : Nat} {xs : List Value} (h : Blk W tb l 62) (ho : W.ownsRow B 30 3 v n xs) : v.ownBlock ≠ some tb := fun e => by
  obtain ⟨_, ⟨rfl, _⟩ | ⟨g, cap, cur, rfl, _, hg, _⟩⟩ := ho
  · cases e
  · simp only [Value.ownBlock, Option.some.injEq] at e
    subst e
    have hb' : W.heap[g]? = some (.cells l.toArray 62 (0, 0)) := h
    rw [hg] at hb'
    simp at hb'
/-- The third value, with one at a place. -/
def upd {α : Type} (f : Fin 3 → α) (j : Fin 3) (x : α) : Fin 3 → α := fun k => if k = j then x else f k
theorem upd_list (vs : Fin 3 → Value) (j : Fin 3) (x : Value) : [upd vs j x 0, upd vs j x 1, upd vs j x 2] = [vs 0, vs 1, vs 2].set j.val x := by
  match j with
  | 0 => simp [upd]
  | 1 => simp [upd]
  | 2 => simp [upd]
theorem T3.app {w W : World} {tb : Nat} {L : Fin 3 → List Rw} {O : Nat → Prop} {vs : Fin 3 → Value} {es : Fin 3 → List El} (h : T3 w W tb L O vs es) (j : Fin 3) (jn : Nat) (hj : j.val = jn) (hn : (L j).length ≤ 100000) {sv : Value} {vl : List Vt} {f t : Int} (hsv : SV w (fun b => w.heap.size ≤ b) sv vl) :
    ∃ u w7, (Builtin.append_ #[31, 31] 31 #[vs j, .slice (some ⟨W.heap.size, 0, none⟩) 1 1]).run Try.prog (W.alloc (.cells #[sv, .int .i64 f, .int .i64 t] 30)) = .ok u w7 ∧
      ∃ a7 n7 c7, u = .slice a7 n7 c7 ∧ w7.cell? ⟨tb, jn, none⟩ = some (vs j) ∧ w7.frozen? ⟨tb, jn, none⟩ = false ∧
      Hid (∃ O' es', T3 w (w7.setCell ⟨tb, jn, none⟩ (.slice a7 n7 c7)) tb (upd L j (L j ++ [(vl, f, t)])) O' (upd vs j (.slice a7 n7 c7)) es' ∧ Grew O O' W ∧ Keep O W (w7.setCell ⟨tb, jn, none⟩ (.slice a7 n7 c7))) := by
  subst hj
  obtain ⟨a7, n7, c7, w7, hr, hp, hk, hnew⟩ := (h.pi j).app h.below hn (f := f) (t := t) hsv
  have hb7 := h.blk.keep hk (blk_ne_row h.blk (h.pi j).own)
  have hne := blk_ne_row hb7 hp.own
  refine ⟨_, w7, hr, a7, n7, c7, rfl, ?_, hb7.frozen _, fun b => O b ∨ (Value.slice a7 n7 c7).ownBlock = some b, upd es j (es j ++ [(sv, vl, f, t)]), ⟨?_, fun k => ?_, fun k b hb => ?_, fun k m b hkm hb => ?_, .inl h.tb, fun b hb => ?_, ?_⟩, fun b hb => ?_, ?_⟩
  · rw [hb7.cell]
    match j with
    | 0 => rfl
    | 1 => rfl
    | 2 => rfl
  · rw [upd_list]; exact hb7.set _
  · by_cases q : k = j
    · subst q
      simp only [upd, if_true]
      exact hp.keep (F := fun b => b = tb) (Keep.set (Keep.refl (fun b => b = tb) w7) (.inr (by rfl)) _) (fun b hb q => hne (by rw [← q]; exact hb))
    · simp only [upd, if_neg q]
      refine ((h.pi k).keep hk (fun b hb q2 => h.apart k j b q hb q2)).keep (F := fun b => b = tb) (Keep.set (Keep.refl (fun b => b = tb) w7) (.inr (by rfl)) _) (fun b hb q2 => ?_)
      subst q2
      exact blk_ne_row h.blk (h.pi k).own hb
  · by_cases q : k = j
    · subst q; simp only [upd, if_true] at hb; exact .inr hb
    · simp only [upd, if_neg q] at hb; exact .inl (h.mine k b hb)
  · by_cases q : k = j
    · subst q
      simp only [upd, if_true] at hb
      simp only [upd, if_neg (Ne.symm hkm)]
      intro q2
      rcases (hnew b hb).1 with q3 | q3
      · exact h.apart k m b hkm q3 q2
      · have := (h.lt b (h.mine m b q2)).2; omega
    · simp only [upd, if_neg q] at hb
      by_cases q1 : m = j
      · subst q1
        simp only [upd, if_true]
        intro q2
        rcases (hnew b q2).1 with q3 | q3
        · exact h.apart k m b hkm hb q3
        · have := (h.lt b (h.mine k b hb)).2; omega
      · simp only [upd, if_neg q1]
        exact h.apart k m b hkm hb
  · rw [show (w7.setCell ⟨tb, j.val, none⟩ (.slice a7 n7 c7)).heap.size = w7.heap.size by simp]
    rcases hb with hb | hb
    · exact ⟨(h.lt b hb).1, Nat.lt_of_lt_of_le (h.lt b hb).2 hk.size⟩
    · exact ⟨(hp.own.lt b hb).1, (hp.own.lt b hb).2⟩
  · refine h.below.trans (Keep.below (F := fun b => O b) (Keep.set ?_ (.inr h.tb) _) h.below.size (fun i hi q => by have := (h.lt i q).1; omega))
    exact hk.mono (fun b _ q => h.mine j b q)
  · rcases hb with hb | hb
    · exact .inl hb
    · exact (hnew b hb).1.imp (h.mine j b) id
  · exact Keep.set (hk.mono (fun b _ q => h.mine j b q)) (.inr h.tb) _
end Go.Proofs.Ythalgnfffcimhaa
