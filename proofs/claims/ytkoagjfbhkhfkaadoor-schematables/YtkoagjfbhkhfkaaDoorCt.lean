/- schema.copied. -/
import Derived.Test.YtkoagjfbhkhfkaaDoorCp
namespace Go.Proofs.YtkoagjfbhkhfkaaDoor
open Go.RowKit Go.Lib
set_option maxRecDepth 100000

theorem Keep.cell {F : Nat → Prop} {a b : World} (h : Keep F a b) {k o : Nat} (hk : k < a.heap.size) (hf : ¬ F k) : b.cell? ⟨k, o, none⟩ = a.cell? ⟨k, o, none⟩ := by
  simp only [World.cell?, h.block k hk hf]
theorem Keep.frozen {F : Nat → Prop} {a b : World} (h : Keep F a b) {k o : Nat} (hk : k < a.heap.size) (hf : ¬ F k) : b.frozen? ⟨k, o, none⟩ = a.frozen? ⟨k, o, none⟩ := by
  simp only [World.frozen?, h.block k hk hf]
theorem info29 : (Tryd.prog.info? 44).map (fun i => (i.zero, i.size, i.bytes)) = some (some (.agg #[.string ByteArray.empty, .int .u8 0]), 2, 24) := by kernel_rfl
theorem run_make_cols (n : Nat) (hn : n ≤ 100000) (w : World) :
    (Instr.makeSlice 30 (.int .i64 (n : Int)) (.int .i64 (n : Int))).run Tryd.prog w = .ok (.slice (some ⟨w.heap.size, 0, none⟩) n n) (w.alloc (.cells (madeCells #[.string ByteArray.empty, .int .u8 0] (n * 2)) 44)) := by
  obtain ⟨i, hi, hzz⟩ := Option.map_eq_some_iff.1 info29
  simp only [Prod.mk.injEq] at hzz
  obtain ⟨hz, hs, hb⟩ := hzz
  have hr := run_make (P := Tryd.prog) w 30 44 i _ Tryd.underlying30 hi hz .i64 .i64 n n (by omega) (Int.le_refl _) (by rw [hb]; omega) (by omega)
  simp only [Int.toNat_natCast, hs] at hr
  exact hr
/-- Columns are copied into a row of as many. -/
theorem run_copy_cols {w : World} {g N : Nat} {v : Value} {l : List Cl} {cur : List Value} (hv : SC w v l) (hN : l.length = N) (hb : Blk w g cur 44) (hl : cur.length = N * 2) (ty : TypeId) :
    ∃ w', (Builtin.copy_ #[30, 30] ty #[.slice (some ⟨g, 0, none⟩) N N, v]).run Tryd.prog w = .ok (goInt N) w' ∧ Blk w' g (cellsC l) 44 ∧ Keep (fun k => k = g) w w' ∧ w'.heap.size = w.heap.size := by
  obtain ⟨i, hi, hzz⟩ := Option.map_eq_some_iff.1 info29
  simp only [Prod.mk.injEq] at hzz
  obtain ⟨_, hs, _⟩ := hzz
  obtain ⟨a, c, rfl, hat⟩ := hv
  rw [hN]
  by_cases h0 : N = 0
  · subst h0
    have : l = [] := List.eq_nil_of_length_eq_zero hN
    subst this
    have : cur = [] := List.eq_nil_of_length_eq_zero (by omega)
    subst this
    refine ⟨w, ?_, hb, Keep.refl _ _, rfl⟩
    have hl : ∀ (x : Addr), (loadCells x 0).run Tryd.prog w = .ok #[] w := fun x => by simpa using run_loadCells_list (P := Tryd.prog) w x [] (by simp)
    cases a <;> simp [Builtin.copy_, run_underlying Tryd.underlying30, Builtin.lenOf, Builtin.firstCells, sizeOf, typeInfo, hi, hl, storeCells]
  · obtain ⟨g', o, rfl, hgl, hco⟩ := hat (by omega)
    have hr := hco.range
    have hld := run_loadCells_list (P := Tryd.prog) w ⟨g', o, none⟩ (cellsC l) (fun j u hu => by
      have := hr j u hu
      rwa [show (⟨g', o, none⟩ : Addr).add j = ⟨g', o + j, none⟩ by unfold Addr.add; split <;> simp_all])
    have hcl := cellsC_length l
    rw [hN] at hcl
    have hst := run_storeCells_cells (P := Tryd.prog) g 0 (cellsC l) 0 w (fun j hj => by rw [hb.cell, List.getElem?_eq_getElem (by omega)]; rfl) (fun j _ => hb.frozen _) (cellsC_one l)
    refine ⟨w.setCells g 0 (cellsC l), ?_, ?_, Keep.sets (F := fun k => k = g) (Keep.refl _ w) (.inr rfl) _ _, size_setCells _ _ _ _⟩
    · simp [Builtin.copy_, run_underlying Tryd.underlying30, Builtin.lenOf, Builtin.firstCells, sizeOf, typeInfo, hi, hs, ← hcl, hld, hst]
    · have := hb.sets (vs := cellsC l) (o := 0) (by omega)
      rwa [show splice cur 0 (cellsC l) = cellsC l by simp [splice, hcl, hl]] at this
theorem wpList_copy_cols {w : World} {ops : Array Oper} {rest : List Oper} {o : Oper} {a : Act} {Q : Exit → Act → World → Prop} (hgd : o.guard = none) (d s : Operand)
    (ho : o.op = .call { callee := .builtin .copy, args := #[d, s], argTypes := #[30, 30] }) (g N : Nat) (v : Value) (l : List Cl) (cur : List Value) (hd : a.eval d = .slice (some ⟨g, 0, none⟩) N N) (hs : a.eval s = v)
    (hv : SC w v l) (hN : Hid (l.length = N)) (hb : Blk w g cur 44) (hl : cur.length = N * 2)
    (h : ∀ w', Blk w' g (cellsC l) 44 → Keep (fun k => k = g) w w' → w'.heap.size = w.heap.size → wpList Tryd.prog ops Q rest (a.put o.dst (goInt N)) w') : wpList Tryd.prog ops Q (o :: rest) a w := by
  refine wpList_plain hgd fun K hK => ?_
  obtain ⟨w', hrun, h1, h2, h3⟩ := run_copy_cols hv hN.out hb hl o.type
  unfold Oper.wp
  simp [execOp, ho, resolve, invoke, builtin, hd, hs, hrun, Result.andThen]
  exact hK _ _ (h w' h1 h2 h3)
theorem blk_at (W : World) (l : List Value) (t : TypeId) {g : Nat} (h : W.heap.size = g) : Blk (W.alloc (.cells l.toArray t)) g l t := by subst h; exact blk_new W l t
theorem bal {w w1 : World} (h : Below w.heap.size w w1) (o : Obj) : Below w.heap.size w (w1.alloc o) := bmore h (al _ _)
theorem run_loadBlk {w : World} {b : Nat} {l : List Value} {t' ty : TypeId} (hb : Blk w b l t') (d : TypeDesc) (hu : Tryd.prog.underlying ty = some d) (hd : d.isRow = true) (hi : (Tryd.prog.info? ty).map (·.size) = some l.length) : (loadVar ty ⟨b, 0, none⟩).run Tryd.prog w = .ok (.agg l.toArray) w := run_loadVar_mid w b 0 ty l d hb.whole hu hd hi
theorem Blk.other {W : World} {b : Nat} {l : List Value} {t : TypeId} (h : Blk W b l t) {p : Addr} (hp : b ≠ p.block) (v : Value) : Blk (W.setCell p v) b l t := h.block (Below.heap_setCell _ _ _ _ hp)
theorem bset {B : Nat} {w w1 : World} (h : Below B w w1) {p : Addr} (hp : B ≤ p.block) (v : Value) : Below B w (w1.setCell p v) := h.trans ⟨rfl, rfl, rfl, by simp [World.setCell], fun k hk => Below.heap_setCell _ _ _ _ (by omega)⟩
/-- A result that is a row in a block. -/
theorem results_cell {fn : Func} {t : Tmp} {ty : TypeId} (h : fn.results = #[.cell t ty]) (tmps : Array Value) (P : Program) (w : World) (b : Nat) (l : List Value) (t' : TypeId) (hb : Blk w b l t') (ht : tmps.getD t undef = .pointer (some ⟨b, 0, none⟩)) (d : TypeDesc) (hu : P.underlying ty = some d) (hd : d.isRow = true) (hi : (P.info? ty).map (·.size) = some l.length) :
    (results fn tmps).run P w = .ok (.agg l.toArray) w := by
  have ht' : tmps[t]?.getD undef = .pointer (some ⟨b, 0, none⟩) := by simpa using ht
  simp [results, h, ht', asAddr, run_loadVar_mid w b 0 ty l d hb.whole hu hd hi]
theorem results_cell2 {fn : Func} {t u : Tmp} {ty : TypeId} (h : fn.results = #[.cell t ty, .tmp u]) (tmps : Array Value) (P : Program) (w : World) (b : Nat) (l : List Value) (t' : TypeId) (hb : Blk w b l t') (ht : tmps.getD t undef = .pointer (some ⟨b, 0, none⟩)) (d : TypeDesc) (hu : P.underlying ty = some d) (hd : d.isRow = true) (hi : (P.info? ty).map (·.size) = some l.length) :
    (results fn tmps).run P w = .ok (.tuple #[.agg l.toArray, tmps.getD u undef]) w := by
  have ht' : tmps[t]?.getD undef = .pointer (some ⟨b, 0, none⟩) := by simpa using ht
  simp [results, h, ht', asAddr, run_loadVar_mid w b 0 ty l d hb.whole hu hd hi]
/-- A table with columns of its own. -/
theorem copied9 (n p : ByteArray) (v : Value) (l : List Cl) (r : Int) (w : World) (hv : SC w v l) (hl : l.length ≤ 1000) :
    Calls Tryd.prog 40 #[TB n v p r] w fun e w' => ∃ g, e = .returned (TB n (.slice (some ⟨g, 0, none⟩) l.length l.length) p r) ∧ w.heap.size ≤ g ∧ Blk w' g (cellsC l) 44 ∧ Below w.heap.size w w' := by
  have hv' := hv
  have HSC : Hid (∀ w1, Below w.heap.size w w1 → SC w1 v l) := fun w1 h => hv'.below h
  obtain ⟨a, c, rfl, _⟩ := hv
  obtain ⟨N, hN⟩ : ∃ N, l.length = N := ⟨_, rfl⟩
  have HNN : Hid (l.length = N) := hN
  have hmk := run_make_cols N (by omega)
  rw [hN] at hl HSC ⊢
  clear hN hv'
  go_enter Tryd.func40, Tryd.ntmps40
  go_wp2_with (refine wpList_copy_cols rfl (.tmp 8) (.tmp 10) rfl (w.heap.size + 1 + 1) N _ l (madeCells #[.string ByteArray.empty, .int .u8 0] (N * 2)).toList rfl rfl (HSC.out _ (bal (bal (al _ _) _) _)) HNN ?_ ?_ ?_)
  · exact blk_at _ _ _ (by simp)
  · simp [size_madeCells]
  · intro w' hblk hkeep hsz
    have b0 : Blk w' w.heap.size [.string n, .slice a N c, .string p, .int .i64 r] 32 := ((blk_new w _ 32).below (bal (al _ _) _)).block (hkeep.block _ (by first | (simp; done) | omega | (simp; omega)) (by first | (simp; done) | omega | (simp; omega)))
    have b1 : Blk w' (w.heap.size + 1) [.string ⟨#[]⟩, .slice none 0 0, .string ⟨#[]⟩, .int .i64 0] 32 := ((blk_at (w.alloc _) _ 32 (by simp)).below (al _ _)).block (hkeep.block _ (by first | (simp; done) | omega | (simp; omega)) (by first | (simp; done) | omega | (simp; omega)))
    have hB : Below w.heap.size w w' := (bal (bal (al _ _) _) _).trans (hkeep.below (B := w.heap.size) (by first | (simp; done) | omega | (simp; omega)) (fun i h => by cases h; omega))
    have e0 := b0.cell 0
    have e1 := b0.cell 1
    have e2 := b0.cell 2
    have e3 := b0.cell 3
    have d0 := b1.cell 0
    have d1 := b1.cell 1
    have d2 := b1.cell 2
    have d3 := b1.cell 3
    have fe := b0.frozen
    have fd := b1.frozen
    simp only [List.getElem?_cons_zero, List.getElem?_cons_succ] at e0 e1 e2 e3 d0 d1 d2 d3
    go_wp2
    refine bodyPost_ret (results_cell rfl _ _ _ (w.heap.size + 1) [.string n, .slice (some ⟨w.heap.size + 1 + 1, 0, none⟩) N N, .string p, .int .i64 r] 32 ?_ rfl _ Tryd.underlying32 rfl (by kernel_rfl)) rfl ⟨_, rfl, by omega, ?_, ?_⟩
    · exact ((((b1.other (by simp) _).set _).set _).set _).set _
    · exact ((((hblk.other (by simp; omega) _).other (by simp) _).other (by simp) _).other (by simp) _).other (by simp) _
    · exact bset (bset (bset (bset (bset hB (by simp) _) (by simp) _) (by simp) _) (by simp) _) (by simp) _
end Go.Proofs.YtkoagjfbhkhfkaaDoor
