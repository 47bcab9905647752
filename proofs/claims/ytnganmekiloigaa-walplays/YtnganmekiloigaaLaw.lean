/- Blocks that are known whole: stores, copies, loads. -/
import Derived.Test.YtnganmekiloigaaSml
import Derived.Laws.CopyOwn
import Derived.Deep.RegionHeld3
namespace Go.Proofs.Ytnganmekiloigaa
open Go.RowKit
set_option maxRecDepth 100000

/-- The block b is just these cells. -/
def Blk (W : World) (b : Nat) (l : List Value) (t : TypeId) : Prop := W.heap[b]? = some (.cells l.toArray t (0, 0))
variable {W W' : World} {b o : Nat} {l : List Value} {t : TypeId}
theorem Blk.lt (h : Blk W b l t) : b < W.heap.size := (Array.getElem?_eq_some_iff.1 h).1
theorem Blk.block (h : Blk W b l t) (e : W'.heap[b]? = W.heap[b]?) : Blk W' b l t := e.trans h
theorem Blk.below (h : Blk W b l t) (e : Below W.heap.size W W') : Blk W' b l t := h.block (e.block b h.lt)
theorem blk_new (W : World) (l : List Value) (t : TypeId) : Blk (W.alloc (.cells l.toArray t)) W.heap.size l t := (MapKept.heap_alloc W _).1
theorem Blk.set (h : Blk W b l t) (v : Value) : Blk (W.setCell ⟨b, o, none⟩ v) b (l.set o v) t := by
  unfold Blk at h ⊢
  simp [World.setCell, Array.getElem?_modify, h]
theorem splice_set (l : List Value) (o : Nat) (v : Value) (vs : List Value) (h : o + (v :: vs).length ≤ l.length) : splice (l.set o v) (o + 1) vs = splice l o (v :: vs) := by
  have h' : o < l.length := by simp at h; omega
  unfold splice
  rw [List.take_set, List.take_succ_eq_append_getElem h', List.set_append_right _ _ (by rw [List.length_take]; omega), List.drop_set_of_lt (by omega), List.length_cons, show o + 1 + vs.length = o + (vs.length + 1) by omega]
  have e : o - (l.take o).length = 0 := by rw [List.length_take]; omega
  rw [e]
  simp
theorem Blk.sets : ∀ {vs : List Value} {o : Nat} {l : List Value} {W : World}, Blk W b l t → o + vs.length ≤ l.length → Blk (W.setCells b o vs) b (splice l o vs) t
  | [], o, l, W, h, _ => by
    rw [World.setCells, show splice l o [] = l by simp [splice]]; exact h
  | v :: vs, o, l, W, h, hl => by
    rw [World.setCells, ← splice_set l o v vs hl]
    refine Blk.sets (h.set v) ?_
    simp at hl ⊢
    omega
theorem Blk.cell (h : Blk W b l t) (j : Nat) : W.cell? ⟨b, j, none⟩ = l[j]? := by
  unfold Blk at h
  simp [World.cell?, h]
theorem Blk.frozen (h : Blk W b l t) (j : Nat) : W.frozen? ⟨b, j, none⟩ = false := by
  unfold Blk at h
  simp [World.frozen?, h]
theorem Blk.range (h : Blk W b l t) {cs : List Value} (e : ∀ j v, cs[j]? = some v → l[o + j]? = some v) : W.rangeAt b o cs := fun j v hv => (h.cell (o + j)).trans (e j v hv)
theorem Blk.there (h : Blk W b l t) {n : Nat} (e : o + n ≤ l.length) : W.there b o n := fun j hj => ⟨by rw [h.cell, List.getElem?_eq_getElem (by omega)]; rfl, h.frozen _⟩
theorem Blk.whole (h : Blk W b l t) : W.rangeAt b 0 l := h.range fun j v hv => by simpa using hv

/-- A value goes into a block that is known whole. -/
theorem wpList_store_blk {P : Program} {ops : Array Oper} {rest : List Oper} {op : Oper} {a : Act} {w : World} {Q : Exit → Act → World → Prop} (hgd : op.guard = none) (ty : TypeId) (x y : Operand) (ho : op.op = .store ty x y)
    (b o : Nat) (cells : Array Value) (hx : a.eval x = .pointer (some ⟨b, o, none⟩)) (hy : a.eval y = .agg cells) (l : List Value) (t : TypeId) (hb : Blk w b l t) (hl : o + cells.size ≤ l.length)
    (hi : (P.info? ty).map (·.size) = some cells.size) (h1 : ∀ v ∈ cells.toList, v.oneCell' = true)
    (h : ∀ w', Blk w' b (splice l o cells.toList) t → Keep (fun k => k = b) w w' → w'.heap.size = w.heap.size → wpList P ops Q rest (a.put op.dst undef) w') : wpList P ops Q (op :: rest) a w :=
  wpList_store_mid hgd ty x y ho b o cells hx hy (hb.there hl) hi (all_oneCell_toArray h1) (h _ (hb.sets (by simpa using hl)) (Keep.sets (F := fun k => k = b) (Keep.refl _ w) (.inr rfl) _ _) (size_setCells _ _ _ _))
theorem step_store_blk {P : Program} {ops : Array Oper} {op : Oper} {a : Act} {w : World} {K : Act → World → Prop} {Q : Exit → Act → World → Prop} {E : Prop} (hgd : op.guard = none) (ty : TypeId) (x y : Operand) (ho : op.op = .store ty x y)
    (b o : Nat) (cells : Array Value) (hx : a.eval x = .pointer (some ⟨b, o, none⟩)) (hy : a.eval y = .agg cells) (l : List Value) (t : TypeId) (hb : Blk w b l t) (hl : o + cells.size ≤ l.length)
    (hi : (P.info? ty).map (·.size) = some cells.size) (h1 : ∀ v ∈ cells.toList, v.oneCell' = true)
    (h : ∀ w', Blk w' b (splice l o cells.toList) t → Keep (fun k => k = b) w w' → w'.heap.size = w.heap.size → K (a.put op.dst undef) w') : if Region.wanted op (yielded ops a.tmps) = true then Oper.wp P op a w K Q else E := by
  have hw : Region.wanted op (yielded ops a.tmps) = true := by simp [Region.wanted, hgd]
  rw [if_pos hw]
  exact wp_store_mid ty x y ho b o cells hx hy (hb.there hl) hi (all_oneCell_toArray h1) (h _ (hb.sets (by simpa using hl)) (Keep.sets (F := fun k => k = b) (Keep.refl _ w) (.inr rfl) _ _) (size_setCells _ _ _ _))

/-- A value of as many cells takes the place of all of a block. -/
theorem wpList_store_whole {P : Program} {ops : Array Oper} {rest : List Oper} {op : Oper} {a : Act} {w : World} {Q : Exit → Act → World → Prop} (hgd : op.guard = none) (ty : TypeId) (x y : Operand) (ho : op.op = .store ty x y)
    (b : Nat) (cs : List Value) (hx : a.eval x = .pointer (some ⟨b, 0, none⟩)) (hy : a.eval y = .agg cs.toArray) (l : List Value) (t : TypeId) (hb : Blk w b l t) (hl : cs.length = l.length)
    (hi : (P.info? ty).map (·.size) = some cs.length) (h1 : ∀ v ∈ cs, v.oneCell' = true)
    (h : ∀ w', Blk w' b cs t → Keep (fun k => k = b) w w' → w'.heap.size = w.heap.size → wpList P ops Q rest (a.put op.dst undef) w') : wpList P ops Q (op :: rest) a w := by
  refine wpList_store_blk hgd ty x y ho b 0 cs.toArray hx hy l t hb (by simp; omega) (by simpa using hi) (by simpa using h1) ?_
  intro w' h2 h3 h4
  refine h w' ?_ h3 h4
  rw [show splice l 0 cs.toArray.toList = cs by simp [splice, hl]] at h2
  exact h2

theorem step_load_mid {P : Program} {ops : Array Oper} {op : Oper} {a : Act} {w : World} {K : Act → World → Prop} {Q : Exit → Act → World → Prop} {E : Prop} (hgd : op.guard = none) (ty : TypeId) (x : Operand) (ho : op.op = .load ty x)
    (b o : Nat) (hx : a.eval x = .pointer (some ⟨b, o, none⟩)) (cs : List Value) (d : TypeDesc) (hc : w.rangeAt b o cs)
    (hu : P.underlying ty = some d) (hd : d.isRow = true) (hi : (P.info? ty).map (·.size) = some cs.length)
    (h : K (a.put op.dst (.agg cs.toArray)) w) : if Region.wanted op (yielded ops a.tmps) = true then Oper.wp P op a w K Q else E := by
  have hw : Region.wanted op (yielded ops a.tmps) = true := by simp [Region.wanted, hgd]
  rw [if_pos hw]
  exact wp_load_mid ty x ho b o hx cs d hc hu hd hi h

/-- An operation of a region that draws, taken first, its slot written out. -/
theorem wpAnyH_take' {P : Program} {md : Region.Mode} {ops : Array Oper} {Q : Exit → Act → World → Prop} {S : World → Prop} (i : Nat) {oi : Oper} (dst : Option Nat) (v : Value) {fuel : Nat} {listed : Array Bool} {a : Act} {w : World} (hi : ops[i]? = some oi) (hd : oi.dst = dst)
    (hs : Region.noSelect ops = true) (hf : Region.free md ops listed i = true) (hr : (Region.ready md ops listed).contains i = true)
    (hQ : ∀ c a w, Q (.panic c) (a.put dst v) w → Q (.panic c) a w) (hy : YieldsIf P ops S oi v a) (hS : S w)
    (h : wpAnyH P md ops Q S fuel (listed.setIfInBounds i true) (a.put dst v) w) : wpAnyH P md ops Q S (fuel + 1) listed a w := by
  subst hd
  exact wpAnyH_take hi hs hf hr hQ hy hS h

/-! ### a slice of one struct, laid out; append of one -/
theorem laid_over : ∀ (l : List Value) (k : Nat) (arr : Array Value), k + l.length ≤ arr.size → (List.foldl (fun cs (x : Value × Nat) => cs.setIfInBounds x.2 x.1) arr (l.zipIdx k)).toList = arr.toList.take k ++ l ++ arr.toList.drop (k + l.length)
  | [], k, arr, h => by simp
  | v :: l, k, arr, h => by
    simp only [List.zipIdx_cons, List.foldl_cons]
    rw [laid_over l (k + 1) _ (by simp at h ⊢; omega)]
    have hk : k < arr.toList.length := by simp at h ⊢; omega
    rw [Array.toList_setIfInBounds, List.take_set, List.take_succ_eq_append_getElem hk, List.set_append_right _ _ (by rw [List.length_take]; omega), List.drop_set_of_lt (by omega)]
    have e : k - (arr.toList.take k).length = 0 := by rw [List.length_take]; omega
    rw [e]
    simp [show k + 1 + l.length = k + (l.length + 1) by omega]
theorem run_buildSlice1 {P : Program} (w : World) (t e : TypeId) (cs : List Value) (z : Value) (hu : P.underlying t = some (.slice e)) (hi : (P.info? e).map (fun i => (i.zero, i.size)) = some (some z, cs.length)) (hz : z.cells.size = cs.length) (h24 : cs.length ≤ 1000) (hpos : 0 < cs.length) :
    (Instr.buildSlice t 1 #[(0, .agg cs.toArray)]).run P w = .ok (.slice (some ⟨w.heap.size, 0, none⟩) 1 1) (w.alloc (.cells cs.toArray e)) := by
  cases hq : P.info? e with
  | none => simp [hq] at hi
  | some i =>
    have h1 : i.zero = some z := by simp [hq] at hi; exact hi.1
    have h2 : i.size = cs.length := by simp [hq] at hi; exact hi.2
    have hfill : ∀ arr : Array Value, arr.size = cs.length → Instr.fill (fun i => some (i * cs.length, cs.length)) arr [(0, Value.agg cs.toArray)] = some cs.toArray := fun arr ha => by
      have h3 := laid_over cs 0 arr (by omega)
      simp only [List.take_zero, List.nil_append, Nat.zero_add] at h3
      rw [List.drop_eq_nil_of_le (by simp; omega), List.append_nil] at h3
      have h4 : List.foldl (fun c (x : Value × Nat) => c.setIfInBounds x.2 x.1) arr cs.zipIdx = cs.toArray := Array.toList_inj.1 (by simpa using h3)
      simp [Instr.fill, Value.cells, ha, h4]
    have hne : cs ≠ [] := fun h => by subst h; simp at hpos
    simp [Instr.buildSlice, Sem.run_bind, run_underlying hu, sizeOf, typeInfo, hq, h2, zeroValue, h1, hne, hfill, newRow, newObj]
    rw [if_neg (by omega)]
    rfl
theorem step_buildSlice1 {P : Program} {ops : Array Oper} {o : Oper} {a : Act} {w : World} {K : Act → World → Prop} {Q : Exit → Act → World → Prop} {E : Prop} (hgd : o.guard = none) (dst : Option Nat) (hd : o.dst = dst) (t e : TypeId) (x : Operand) (ho : o.op = .buildSlice t 1 #[(0, x)])
    (cs : List Value) (hx : a.eval x = .agg cs.toArray) (z : Value) (hu : P.underlying t = some (.slice e)) (hi : (P.info? e).map (fun i => (i.zero, i.size)) = some (some z, cs.length)) (hz : z.cells.size = cs.length) (h24 : cs.length ≤ 1000) (hpos : 0 < cs.length)
    (h : K (a.put dst (.slice (some ⟨w.heap.size, 0, none⟩) 1 1)) (w.alloc (.cells cs.toArray e))) : if Region.wanted o (yielded ops a.tmps) = true then Oper.wp P o a w K Q else E := by
  subst hd
  have hw : Region.wanted o (yielded ops a.tmps) = true := by simp [Region.wanted, hgd]
  rw [if_pos hw]
  unfold Oper.wp execOp
  simp only [ho, List.map_toArray, List.map_cons, List.map_nil, hx, Sem.run_bind, run_buildSlice1 w t e cs z hu hi hz h24 hpos, Result.andThen_ok, Sem.run_pure]
  exact h
theorem step_append_lies' {P : Program} {w : World} {ops : Array Oper} {o : Oper} {a : Act} {K : Act → World → Prop} {Q : Exit → Act → World → Prop} {E : Prop} (hgd : o.guard = none) (dst : Option Nat) (hd : o.dst = dst) (s x : Operand) (t : TypeId)
    (ho : o.op = .call { callee := .builtin .append, args := #[s, x], argTypes := #[t, t] })
    (base : Nat) (e : TypeId) (i : TypeInfo) (z : Value) (size bytes : Nat) (ht : P.underlying t = some (.slice e)) (hi : P.info? e = some i) (hz : i.zero = some z)
    (hsize : i.size = size) (hby : i.bytes = bytes) (hzs : z.cells.size = size) (hsz : 0 < size)
    (v : Value) (n : Nat) (xs : List Value) (hs : a.eval s = v) (hown : w.ownsRow base e size v n xs)
    (ad : Addr) (m c : Nat) (news : List Value) (hx : a.eval x = .slice (some ad) m c) (hl : news.length = m * size) (hnews : ∀ j u, news[j]? = some u → w.cell? (ad.add j) = some u) (h1 : ∀ u ∈ news, u.oneCell' = true)
    (hm : 0 < m) (h63 : n + m ≤ maxLen) (hbytes : (n + m) * bytes ≤ 140737488355328) (hbase : base ≤ w.heap.size)
    (h : ∀ g cap w', w'.ownsRow base e size (.slice (some ⟨g, 0, none⟩) (n + m) cap) (n + m) (xs ++ news) → w.grownBy w' v.ownBlock → (v.ownBlock = some g ∨ g = w.heap.size) → g < w'.heap.size → K (a.put dst (.slice (some ⟨g, 0, none⟩) (n + m) cap)) w') :
    if Region.wanted o (yielded ops a.tmps) = true then Oper.wp P o a w K Q else E := by
  subst hd
  exact step_append_lies w hgd s x t ho base e i z size bytes ht hi hz hsize hby hzs hsz v n xs hs hown ad m c news hx hl hnews h1 hm h63 hbytes hbase _ rfl h

theorem step_load_mid' {P : Program} {ops : Array Oper} {op : Oper} {a : Act} {w : World} {K : Act → World → Prop} {Q : Exit → Act → World → Prop} {E : Prop} (hgd : op.guard = none) (dst : Option Nat) (hdst : op.dst = dst) (ty : TypeId) (x : Operand) (ho : op.op = .load ty x)
    (b o : Nat) (hx : a.eval x = .pointer (some ⟨b, o, none⟩)) (cs : List Value) (d : TypeDesc) (hc : w.rangeAt b o cs)
    (hu : P.underlying ty = some d) (hd : d.isRow = true) (hi : (P.info? ty).map (·.size) = some cs.length)
    (h : K (a.put dst (.agg cs.toArray)) w) : if Region.wanted op (yielded ops a.tmps) = true then Oper.wp P op a w K Q else E := by
  subst hdst
  exact step_load_mid hgd ty x ho b o hx cs d hc hu hd hi h

/-- Bytes of nought. -/
def Z64 : Bs := List.replicate 64 0
theorem Z64_length : Z64.length = 64 := by simp [Z64]
/-- A Write's cells. -/
def cellW (i : Nat) (b : Bs) : List Value := .int .i64 (i : Int) :: cellsB b
theorem cellW_length {i : Nat} {b : Bs} (h : b.length = 64) : (cellW i b).length = 65 := by simp [cellW, cellsB_length, h]
theorem cellW_one (i : Nat) (b : Bs) : ∀ u ∈ cellW i b, u.oneCell' = true := by
  intro u hu
  rcases List.mem_cons.1 hu with rfl | h
  · rfl
  · exact cellsB_one _ u h
theorem splice_pad' (N i : Nat) (b : Bs) : splice (cellW i (List.replicate N 0)) 1 (cellsB b) = cellW i (b ++ List.replicate (N - b.length) 0) := by
  unfold splice cellW
  rw [List.take_succ_cons, List.take_zero, cellsB_length, show 1 + b.length = b.length + 1 by omega, List.drop_succ_cons]
  simp [cellsB]
theorem splice_pad (i : Nat) (b : Bs) : splice (cellW i Z64) 1 (cellsB b) = cellW i (pad b) := splice_pad' 64 i b
theorem z93 : Try.zeroCells93 = (cellW 0 Z64).toArray := by kernel_rfl
theorem z105 : Try.zeroCells105 = (cellW 0 Z64).toArray := by kernel_rfl
theorem z93_set (i : Nat) : Try.zeroCells93.setIfInBounds 0 (.int .i64 (i : Int)) = (cellW i Z64).toArray := by rw [z93]; simp [cellW]
theorem z105_set (i : Nat) : Try.zeroCells105.setIfInBounds 0 (.int .i64 (i : Int)) = (cellW i Z64).toArray := by rw [z105]; simp [cellW]
theorem info93z : (Try.prog.info? 93).map (fun i => (i.zero, i.size, i.bytes)) = some (some (.agg Try.zeroCells93), 65, 72) := by kernel_rfl
theorem info105z : (Try.prog.info? 105).map (fun i => (i.zero, i.size, i.bytes)) = some (some (.agg Try.zeroCells105), 65, 72) := by kernel_rfl
theorem info93s : (Try.prog.info? 93).map (·.size) = some 65 := by kernel_rfl
theorem info91s : (Try.prog.info? 91).map (·.size) = some 64 := by kernel_rfl
theorem info105s : (Try.prog.info? 105).map (·.size) = some 65 := by kernel_rfl
theorem info90s : (Try.prog.info? 90).map (·.size) = some 64 := by kernel_rfl
theorem info5s : (Try.prog.info? 5).map (·.size) = some 1 := by kernel_rfl

/-- From this place on the cells hold these bytes. -/
def At (w : World) (b o : Nat) (l : Bs) : Prop := ∀ i, i < l.length → w.cell? ⟨b, o + i, none⟩ = some (.int .u8 ((l.getD i 0).toNat : Int))
/-- The slice v reads as the bytes l. -/
def SB (w : World) (v : Value) (l : Bs) : Prop := (∃ a c, v = .slice a 0 c ∧ l = []) ∨ (∃ b o c, v = .slice (some ⟨b, o, none⟩) l.length c ∧ 0 < l.length ∧ l.length ≤ c ∧ c ≤ maxLen ∧ At w b o l)
theorem At.below {w w' : World} {b o : Nat} {l : Bs} (h : At w b o l) (hb : Below w.heap.size w w') : At w' b o l := fun i hi => by
  rw [hb.cell (World.block_lt_of_cell? _ _ (h i hi))]; exact h i hi
theorem SB.below {w w' : World} {v : Value} {l : Bs} (h : SB w v l) (hb : Below w.heap.size w w') : SB w' v l := by
  rcases h with h | ⟨b, o, c, h1, h2, h3, h4, h5⟩
  · exact .inl h
  · exact .inr ⟨b, o, c, h1, h2, h3, h4, h5.below hb⟩
theorem SB.form {w : World} {v : Value} {l : Bs} (h : SB w v l) : ∃ a c, v = .slice a l.length c ∧ (0 < l.length → ∃ b o, a = some ⟨b, o, none⟩ ∧ At w b o l) := by
  rcases h with ⟨a, c, rfl, rfl⟩ | ⟨b, o, c, rfl, h0, hc, hm, hat⟩
  · exact ⟨a, c, rfl, fun h => by simp at h⟩
  · exact ⟨_, c, rfl, fun _ => ⟨b, o, rfl, hat⟩⟩

end Go.Proofs.Ytnganmekiloigaa
