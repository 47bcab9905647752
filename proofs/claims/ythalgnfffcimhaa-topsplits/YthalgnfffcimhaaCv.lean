/- Values copied. -/
import Derived.Test.YthalgnfffcimhaaRc
import Derived.Laws.CopyOwn
import Derived.Laws.MakeOwn
import Derived.Maps.AppendAt
namespace Go.Proofs.Ythalgnfffcimhaa
open Go.RowKit Go.Shelf
set_option maxRecDepth 100000
section
variable {F G : Nat → Prop} {a b c : World}
theorem heap_setCells (b : Nat) : ∀ (vs : List Value) (o : Nat) (w : World) (k : Nat), k ≠ b → (w.setCells b o vs).heap[k]? = w.heap[k]?
  | [], _, _, _, _ => rfl
  | v :: vs, o, w, k, hk => by
    rw [World.setCells, heap_setCells b vs (o + 1) _ k hk]
    exact Below.heap_setCell _ _ _ _ hk
theorem size_setCells (b : Nat) : ∀ (vs : List Value) (o : Nat) (w : World), (w.setCells b o vs).heap.size = w.heap.size
  | [], _, _ => rfl
  | v :: vs, o, w => by rw [World.setCells, size_setCells b vs (o + 1)]; simp [World.setCell]
theorem os_setCells (b : Nat) : ∀ (vs : List Value) (o : Nat) (w : World), (w.setCells b o vs).os = w.os ∧ (w.setCells b o vs).tape = w.tape ∧ (w.setCells b o vs).output = w.output
  | [], _, _ => ⟨rfl, rfl, rfl⟩
  | v :: vs, o, w => by rw [World.setCells]; exact os_setCells b vs (o + 1) _
theorem Keep.sets (h : Keep F a b) {g : Nat} (hp : a.heap.size ≤ g ∨ F g) (o : Nat) (vs : List Value) : Keep F a (b.setCells g o vs) := by
  obtain ⟨h1, h2, h3⟩ := os_setCells g vs o b
  refine ⟨h1.trans h.os, h2.trans h.tape, h3.trans h.output, by rw [size_setCells]; exact h.size, fun k hk hf => ?_⟩
  rw [heap_setCells g vs o b k (fun e => hp.elim (fun h => by omega) (fun h => hf (e ▸ h)))]
  exact h.block k hk hf
theorem Keep.grown (h : Keep F a b) {r : Option Nat} (hg : b.grownBy c r) (hr : ∀ k, r = some k → a.heap.size ≤ k ∨ F k) : Keep F a c :=
  ⟨hg.os.trans h.os, hg.tape.trans h.tape, hg.output.trans h.output, Nat.le_trans h.size hg.size, fun k hk hf => by
    rw [hg.block k (Nat.lt_of_lt_of_le hk h.size) (fun e => (hr k e.symm).elim (fun h => by omega) (fun h => hf h))]; exact h.block k hk hf⟩
end
section
variable {W W' : World} {b o : Nat} {l : List Value} {t : TypeId}
theorem splice_set (l : List Value) (o : Nat) (v : Value) (vs : List Value) (h : o + (v :: vs).length ≤ l.length) : splice (l.set o v) (o + 1) vs = splice l o (v :: vs) := by
  have h' : o < l.length := by simp at h; omega
  unfold splice
  rw [List.take_set, List.take_succ_eq_append_getElem h', List.set_append_right _ _ (by rw [List.length_take]; omega), List.drop_set_of_lt (by omega), List.length_cons, show o + 1 + vs.length = o + (vs.length + 1) by omega]
  have e : o - (l.take o).length = 0 := by rw [List.length_take]; omega
  rw [e]
  simp
theorem Blk.sets : ∀ {vs : List Value} {o : Nat} {l : List Value} {W : World}, Blk W b l t → o + vs.length ≤ l.length → Blk (W.setCells b o vs) b (splice l o vs) t
  | [], o, l, W, h, _ => by
    rw [World.setCells, show splice l o [] = l by simp [splice]]; exact h
  | v :: vs, o, l, W, h, hl => by
    rw [World.setCells, ← splice_set l o v vs hl]
    refine Blk.sets (h.set v) ?_
    simp at hl ⊢
    omega
theorem Blk.range (h : Blk W b l t) {cs : List Value} (e : ∀ j v, cs[j]? = some v → l[o + j]? = some v) : W.rangeAt b o cs := fun j v hv => (h.cell (o + j)).trans (e j v hv)
theorem Blk.there (h : Blk W b l t) {n : Nat} (e : o + n ≤ l.length) : W.there b o n := fun j hj => ⟨by rw [h.cell, List.getElem?_eq_getElem (by omega)]; rfl, h.frozen _⟩
theorem Blk.whole (h : Blk W b l t) : W.rangeAt b 0 l := h.range fun j v hv => by simpa using hv
end
def cellsV (l : List Vt) : List Value := l.flatMap fun x => [.int .u8 x.1, .int .i64 x.2.1, .string x.2.2]
theorem cellsV_length : ∀ l : List Vt, (cellsV l).length = l.length * 3
  | [] => rfl
  | x :: l => by
    have := cellsV_length l
    rw [show cellsV (x :: l) = .int .u8 x.1 :: .int .i64 x.2.1 :: .string x.2.2 :: cellsV l by simp [cellsV]]
    simp [this]; omega
theorem cellsV_one (l : List Vt) : ∀ u ∈ cellsV l, u.oneCell' = true := by
  intro u hu
  simp only [cellsV, List.mem_flatMap, List.mem_cons, List.not_mem_nil, or_false] at hu
  obtain ⟨x, _, rfl | rfl | rfl⟩ := hu <;> rfl
theorem cellsV_get : ∀ (l : List Vt) (i : Nat) (x : Vt), l[i]? = some x → (cellsV l)[i * 3]? = some (.int .u8 x.1) ∧ (cellsV l)[i * 3 + 1]? = some (.int .i64 x.2.1) ∧ (cellsV l)[i * 3 + 2]? = some (.string x.2.2)
  | [], i, x, h => by simp at h
  | y :: l, 0, x, h => by
    simp only [List.getElem?_cons_zero, Option.some.injEq] at h
    subst h
    exact ⟨rfl, rfl, rfl⟩
  | y :: l, i + 1, x, h => by
    have := cellsV_get l i x (by simpa using h)
    rw [show cellsV (y :: l) = .int .u8 y.1 :: .int .i64 y.2.1 :: .string y.2.2 :: cellsV l by simp [cellsV], show (i + 1) * 3 = i * 3 + 1 + 1 + 1 by omega]
    exact this
theorem SV.blk {w : World} {X : Nat → Prop} {g c : Nat} {l : List Vt} {t : TypeId} (h : Blk w g (cellsV l) t) (hx : ¬ X g) : SV w X (.slice (some ⟨g, 0, none⟩) l.length c) l :=
  ⟨_, c, rfl, fun _ => ⟨g, 0, rfl, h.lt, hx, fun i x hx => by
    rw [Nat.zero_add]
    exact ⟨(h.cell _).trans (cellsV_get l i x hx).1, (h.cell _).trans (cellsV_get l i x hx).2.1, (h.cell _).trans (cellsV_get l i x hx).2.2⟩⟩⟩
theorem vals_range {w : World} {g o : Nat} {l : List Vt} (h : ∀ (i : Nat) (x : Vt), l[i]? = some x → w.cell? ⟨g, o + i * 3, none⟩ = some (.int .u8 x.1) ∧ w.cell? ⟨g, o + i * 3 + 1, none⟩ = some (.int .i64 x.2.1) ∧ w.cell? ⟨g, o + i * 3 + 2, none⟩ = some (.string x.2.2)) : w.rangeAt g o (cellsV l) := fun j v hv => by
  have hj := (List.getElem?_eq_some_iff.1 hv).1
  rw [cellsV_length] at hj
  obtain ⟨x, hx⟩ : ∃ x, l[j / 3]? = some x := ⟨_, List.getElem?_eq_getElem (by omega)⟩
  obtain ⟨h1, h2, h3⟩ := h (j / 3) x hx
  obtain ⟨e1, e2, e3⟩ := cellsV_get l (j / 3) x hx
  have hm : j % 3 = 0 ∨ j % 3 = 1 ∨ j % 3 = 2 := by omega
  rcases hm with hm | hm | hm
  · rw [show j / 3 * 3 = j by omega] at h1 e1
    rw [e1] at hv; rw [h1, hv]
  · rw [show o + j / 3 * 3 + 1 = o + j by omega] at h2
    rw [show j / 3 * 3 + 1 = j by omega] at e2
    rw [e2] at hv; rw [h2, hv]
  · rw [show o + j / 3 * 3 + 2 = o + j by omega] at h3
    rw [show j / 3 * 3 + 2 = j by omega] at e3
    rw [e3] at hv; rw [h3, hv]
theorem info54 : (Try.prog.info? 24).map (fun i => (i.zero, i.size, i.bytes)) = some (some (.agg #[.int .u8 0, .int .i64 0, .string ByteArray.empty]), 3, 32) := by kernel_rfl
theorem run_make_vals (n : Nat) (hn : n ≤ 100000) (w : World) :
    (Instr.makeSlice 28 (.int .i64 (n : Int)) (.int .i64 (n : Int))).run Try.prog w = .ok (.slice (some ⟨w.heap.size, 0, none⟩) n n) (w.alloc (.cells (madeCells #[.int .u8 0, .int .i64 0, .string ByteArray.empty] (n * 3)) 24)) := by
  obtain ⟨i, hi, hzz⟩ := Option.map_eq_some_iff.1 info54
  simp only [Prod.mk.injEq] at hzz
  obtain ⟨hz, hs, hb⟩ := hzz
  have hr := run_make (P := Try.prog) w 28 24 i _ Try.underlying28 hi hz .i64 .i64 n n (by omega) (Int.le_refl _) (by rw [hb]; omega) (by omega)
  simp only [Int.toNat_natCast, hs] at hr
  exact hr
theorem run_copy_vals {w : World} {X : Nat → Prop} {g N : Nat} {v : Value} {l : List Vt} {cur : List Value} (hv : SV w X v l) (hN : l.length = N) (hb : Blk w g cur 24) (hl : cur.length = N * 3) (ty : TypeId) :
    ∃ w', (Builtin.copy_ #[28, 28] ty #[.slice (some ⟨g, 0, none⟩) N N, v]).run Try.prog w = .ok (goInt N) w' ∧ Blk w' g (cellsV l) 24 ∧ Keep (fun k => k = g) w w' := by
  obtain ⟨i, hi, hzz⟩ := Option.map_eq_some_iff.1 info54
  simp only [Prod.mk.injEq] at hzz
  obtain ⟨_, hs, _⟩ := hzz
  obtain ⟨a, c, rfl, hat⟩ := hv
  rw [hN]
  by_cases h0 : N = 0
  · subst h0
    have : l = [] := List.eq_nil_of_length_eq_zero hN
    subst this
    have : cur = [] := List.eq_nil_of_length_eq_zero (by omega)
    subst this
    refine ⟨w, ?_, hb, Keep.refl _ _⟩
    have hl : ∀ (x : Addr), (loadCells x 0).run Try.prog w = .ok #[] w := fun x => by simpa using run_loadCells_list (P := Try.prog) w x [] (by simp)
    cases a <;> simp [Builtin.copy_, run_underlying Try.underlying28, Builtin.lenOf, Builtin.firstCells, sizeOf, typeInfo, hi, hl, storeCells]
  · obtain ⟨g', o, rfl, hgl, _, hco⟩ := hat (by omega)
    have hr := vals_range hco
    have hld := run_loadCells_list (P := Try.prog) w ⟨g', o, none⟩ (cellsV l) (fun j u hu => by
      have := hr j u hu
      rwa [show (⟨g', o, none⟩ : Addr).add j = ⟨g', o + j, none⟩ by unfold Addr.add; split <;> simp_all])
    have hcl := cellsV_length l
    rw [hN] at hcl
    have hst := run_storeCells_cells (P := Try.prog) g 0 (cellsV l) 0 w (fun j hj => by rw [hb.cell, List.getElem?_eq_getElem (by omega)]; rfl) (fun j _ => hb.frozen _) (cellsV_one l)
    refine ⟨w.setCells g 0 (cellsV l), ?_, ?_, Keep.sets (F := fun k => k = g) (Keep.refl _ w) (.inr rfl) _ _⟩
    · simp [Builtin.copy_, run_underlying Try.underlying28, Builtin.lenOf, Builtin.firstCells, sizeOf, typeInfo, hi, hs, ← hcl, hld, hst]
    · have := hb.sets (vs := cellsV l) (o := 0) (by omega)
      rwa [show splice cur 0 (cellsV l) = cellsV l by simp [splice, hcl, hl]] at this
theorem wpList_copy_vals {w : World} {X : Nat → Prop} {ops : Array Oper} {rest : List Oper} {o : Oper} {a : Act} {Q : Exit → Act → World → Prop} (hgd : o.guard = none) (d s : Operand)
    (ho : o.op = .call { callee := .builtin .copy, args := #[d, s], argTypes := #[28, 28] }) (g N : Nat) (v : Value) (l : List Vt) (cur : List Value) (hd : a.eval d = .slice (some ⟨g, 0, none⟩) N N) (hs : a.eval s = v)
    (hv : SV w X v l) (hN : Hid (l.length = N)) (hb : Blk w g cur 24) (hl : cur.length = N * 3)
    (h : ∀ w', Blk w' g (cellsV l) 24 → Keep (fun k => k = g) w w' → wpList Try.prog ops Q rest (a.put o.dst (goInt N)) w') : wpList Try.prog ops Q (o :: rest) a w := by
  refine wpList_plain hgd fun K hK => ?_
  obtain ⟨w', hrun, h1, h2⟩ := run_copy_vals hv hN.out hb hl o.type
  unfold Oper.wp
  simp [execOp, ho, resolve, invoke, builtin, hd, hs, hrun, Result.andThen]
  exact hK _ _ (h w' h1 h2)
theorem copied20 {w : World} {X : Nat → Prop} {v : Value} {l : List Vt} (hv : SV w X v l) (hl : l.length ≤ 1000) :
    Calls Try.prog 14 #[v] w fun e w' => ∃ g, e = .returned (.slice (some ⟨g, 0, none⟩) l.length l.length) ∧ w.heap.size ≤ g ∧ Blk w' g (cellsV l) 24 ∧ Below w.heap.size w w' := by
  have HSV : Hid (∀ w1, Below w.heap.size w w1 → SV w1 X v l) := fun w1 h => hv.below h
  obtain ⟨a, c, rfl⟩ := hv.form
  obtain ⟨N, hN⟩ : ∃ N, l.length = N := ⟨_, rfl⟩
  have HNN : Hid (l.length = N) := hN
  have hmk := run_make_vals N (by omega)
  rw [hN] at hl HSV ⊢
  clear hN hv
  go_enter Try.func14, Try.ntmps14
  go_wp2_with (refine wpList_copy_vals rfl (.tmp 7) (.tmp 8) rfl w.heap.size N _ l (madeCells #[.int .u8 0, .int .i64 0, .string ByteArray.empty] (N * 3)).toList rfl rfl (HSV.out _ (al _ _)) HNN ?_ ?_ ?_)
  · exact blk_new _ _ _
  · simp [size_madeCells]
  · intro w' hblk hkeep
    have hB : Below w.heap.size w w' := (al _ _).trans (hkeep.below (B := w.heap.size) (by simp) (fun i hi h => by omega))
    go_wp2
    go_ret
    exact ⟨_, rfl, Nat.le_refl _, hblk, hB⟩
end Go.Proofs.Ythalgnfffcimhaa
