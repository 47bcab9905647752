/- disk.latest. -/
import Derived.Test.YtnganmekiloigaaBack
import Derived.BigRegionIn
namespace Go.Proofs.Ytnganmekiloigaa
open Go.RowKit Go.Shelf
set_option maxRecDepth 100000
attribute [local go_sem] Oper.semAt_some
variable {W : World} {d s : Nat} {wv : Value} {D : Dk}

/-- A block of a type whose nought is a row. -/
theorem run_alloc_row {P : Program} (w : World) (ty : TypeId) (z : List Value) {m k : Nat} (hi : (P.info? ty).map (fun i => (i.zero, i.size, i.bytes)) = some (some (.agg z.toArray), m, k)) : (Instr.alloc ty true (.tuple #[])).run P w = .ok (.pointer (some ⟨w.heap.size, 0, none⟩)) (w.alloc (.cells z.toArray ty)) := by
  cases hq : P.info? ty with
  | none => simp [hq] at hi
  | some i =>
    have h1 : i.zero = some (.agg z.toArray) := by simp [hq] at hi; exact hi.1
    simp [Instr.alloc, Sem.run_bind, zeroValue, typeInfo, hq, h1, newVar, newRow, newObj, Value.cells]
    rfl
theorem wpListIn_alloc_row {F : Fence} {n : Nat} {P : Program} {ops : Array Oper} {rest : List Oper} {o : Oper} {a : Act} {w : World} {Q : Exit → Act → World → Prop} (hg : o.guard = none) (ty : TypeId) (hop : o.op = .alloc ty) (z : List Value) {m k : Nat} (hi : (P.info? ty).map (fun i => (i.zero, i.size, i.bytes)) = some (some (.agg z.toArray), m, k))
    (h : ∀ w', Blk w' w.heap.size z ty → Below w.heap.size w w' → w'.heap.size = w.heap.size + 1 → wpListIn F n P ops Q rest (a.put o.dst (.pointer (some ⟨w.heap.size, 0, none⟩))) w') : wpListIn F n P ops Q (o :: rest) a w := by
  refine wpListIn_plain hg fun K hK' => ?_
  unfold Oper.wpIn
  refine ⟨?_, ?_⟩
  · simp [Oper.about, hop]
  · rw [Oper.semAt_plain F _ _ (by rw [hop]; intro c hc'; cases hc')]
    simp only [execOp, hop, Sem.run_bind, run_alloc_row w ty z hi, Result.andThen_ok, Sem.run_pure]
    exact hK' _ _ (h _ (blk_new w z ty) (al w _) (by simp))
theorem stepIn_load_row {F : Fence} {n : Nat} {P : Program} {ops : Array Oper} {o : Oper} {a : Act} {w : World} {K : Act → World → Prop} {Q : Exit → Act → World → Prop} {E : Prop} (hgd : o.guard = none) (dst : Option Nat) (hdst : o.dst = dst) (ty : TypeId) (x : Operand) (hop : o.op = .load ty x)
    (b off : Nat) (hx : a.eval x = .pointer (some ⟨b, off, none⟩)) (cs : List Value) (d : TypeDesc) (hc : w.rangeAt b off cs)
    (hu : P.underlying ty = some d) (hd : d.isRow = true) (hi : (P.info? ty).map (·.size) = some cs.length)
    (h : K (a.put dst (.agg cs.toArray)) w) : if Region.wanted o (yielded ops a.tmps) = true then Oper.wpIn F n P o a w K Q else E := by
  subst hdst
  have hw : Region.wanted o (yielded ops a.tmps) = true := by simp [Region.wanted, hgd]
  rw [if_pos hw]
  unfold Oper.wpIn
  refine ⟨?_, ?_⟩
  · simp [Oper.about, hop]
  · rw [Oper.semAt_plain F _ _ (by rw [hop]; intro c hc'; cases hc')]
    simp only [execOp, hop, hx, Instr.loadAt, Instr.sureAddr, Sem.run_bind, Sem.run_pure, Result.andThen_ok, run_loadVar_mid w b off ty cs d hc hu hd hi]
    exact h
theorem stepIn_store_whole {F : Fence} {n : Nat} {P : Program} {ops : Array Oper} {op : Oper} {a : Act} {w : World} {K : Act → World → Prop} {Q : Exit → Act → World → Prop} {E : Prop} (hgd : op.guard = none) (dst : Option Nat) (hdst : op.dst = dst) (ty : TypeId) (x y : Operand) (ho : op.op = .store ty x y)
    (b : Nat) (cs : List Value) (hx : a.eval x = .pointer (some ⟨b, 0, none⟩)) (hy : a.eval y = .agg cs.toArray) (l : List Value) (t : TypeId) (hb : Blk w b l t) (hl : cs.length = l.length)
    (hi : (P.info? ty).map (·.size) = some cs.length) (h1 : ∀ v ∈ cs, v.oneCell' = true)
    (h : ∀ w', Blk w' b cs t → Keep (fun k => k = b) w w' → w'.heap.size = w.heap.size → K (a.put dst undef) w') : if Region.wanted op (yielded ops a.tmps) = true then Oper.wpIn F n P op a w K Q else E := by
  subst hdst
  have hw : Region.wanted op (yielded ops a.tmps) = true := by simp [Region.wanted, hgd]
  rw [if_pos hw]
  have hs := hb.sets (o := 0) (vs := cs) (by omega)
  rw [show splice l 0 cs = cs by simp [splice, hl]] at hs
  have hst := run_storeVar_mid (P := P) w b 0 ty cs.toArray (hb.there (by simp; omega)) (by simpa using hi) (all_oneCell_toArray h1)
  unfold Oper.wpIn
  refine ⟨?_, ?_⟩
  · simp [Oper.about, ho]
  · rw [Oper.semAt_plain F _ _ (by rw [ho]; intro c hc'; cases hc')]
    simp only [execOp, ho, hx, hy, Instr.storeAt, Instr.sureAddr, Sem.run_bind, Sem.run_pure, Result.andThen_ok, hst]
    exact h _ hs (Keep.sets (F := fun k => k = b) (Keep.refl _ w) (.inr rfl) _ _) (size_setCells _ _ _ _)
theorem own_blk {β : Type} (B : Nat) (t : TypeId) (f : β → List Value) : Own (fun s W => Blk W B (f s) t) := fun s X Y row hs hg hrow =>
  hs.block (hg.block B hs.lt (fun e' => by obtain ⟨o, ho, hc⟩ := hrow B e'.symm; rw [show X.heap[B]? = _ from hs] at ho; cases ho; cases hc))
/-- A result that is a row in a block. -/
theorem results_cell {fn : Func} {t : Tmp} {ty : TypeId} (h : fn.results = #[.cell t ty]) (tmps : Array Value) (P : Program) (w : World) (b : Nat) (l : List Value) (t' : TypeId) (hb : Blk w b l t') (ht : tmps.getD t undef = .pointer (some ⟨b, 0, none⟩)) (d : TypeDesc) (hu : P.underlying ty = some d) (hd : d.isRow = true) (hi : (P.info? ty).map (·.size) = some l.length) :
    (results fn tmps).run P w = .ok (.agg l.toArray) w := by
  have ht' : tmps[t]?.getD undef = .pointer (some ⟨b, 0, none⟩) := by simpa using ht
  simp [results, h, ht', asAddr, run_loadVar_mid w b 0 ty l d hb.whole hu hd hi]

/-- What the Writes that wait say of a sector, from the last on. -/
theorem latest_none {secs : List Bs} {l : List (Nat × Bs)} {i : Nat} (h : ∀ x ∈ l, x.1 ≠ i) : latest secs l i = secs.getD i [] := by
  induction l with
  | nil => rfl
  | cons x r ih =>
    have h1 : r.any (fun y => y.1 == i) = false := by
      rw [List.any_eq_false]
      intro y hy e
      exact h y (by simp [hy]) (by simpa using e)
    unfold latest
    rw [h1, if_neg (by simp), if_neg (h x (by simp))]
theorem latest_at {secs : List Bs} {l r : List (Nat × Bs)} {x : Nat × Bs} {i : Nat} (hx : x.1 = i) (h : ∀ y ∈ r, y.1 ≠ i) : latest secs (l ++ x :: r) i = x.2 := by
  have h1 : r.any (fun y => y.1 == i) = false := by
    rw [List.any_eq_false]
    intro y hy e
    exact h y hy (by simpa using e)
  induction l with
  | nil =>
    rw [List.nil_append]
    unfold latest
    rw [h1, if_neg (by simp), if_pos hx]
  | cons y l ih =>
    rw [List.cons_append]
    unfold latest
    rw [if_pos (by simp [hx])]
    exact ih

theorem backW_mem {ws : List (Nat × Bs)} (h64 : ∀ x ∈ ws, x.2.length = 64) {m j : Nat} {x : Nat × Bs} (hx : ws[j]? = some x) (hj : ws.length ≤ j + m) : ∃ y ∈ backW ws m, y.1 = (j, x) := by
  have hjl := (List.getElem?_eq_some_iff.1 hx).1
  refine ⟨elemW ws j, ?_, elemW_val hx (h64 x (List.mem_of_getElem? hx))⟩
  simp only [backW, List.mem_map, List.mem_range]
  exact ⟨ws.length - 1 - j, by omega, by rw [show ws.length - 1 - (ws.length - 1 - j) = j by omega]⟩
theorem latest_done {secs : List Bs} {ws : List (Nat × Bs)} {i : Nat} (h64 : ∀ x ∈ ws, x.2.length = 64) (h : ∀ y ∈ backW ws ws.length, y.1.2.1 ≠ i) : latest secs ws i = secs.getD i [] := by
  refine latest_none fun x hx => ?_
  obtain ⟨j, hj⟩ := List.getElem?_of_mem hx
  obtain ⟨y, hy, e⟩ := backW_mem h64 (m := ws.length) hj (by omega)
  have := h y hy
  rwa [e] at this
theorem latest_stop {secs : List Bs} {ws : List (Nat × Bs)} {i m : Nat} (h64 : ∀ x ∈ ws, x.2.length = 64) (hm : m ≤ ws.length) {pre : List We} {x : We} (he : pre ++ [x] = backW ws m) (hx : x.1.2.1 = i) (h : ∀ y ∈ pre, y.1.2.1 ≠ i) : latest secs ws i = x.1.2.2 := by
  cases m with
  | zero => simp [backW] at he
  | succ m =>
    rw [backW_succ] at he
    obtain ⟨rfl, he2⟩ := List.append_inj' he rfl
    obtain rfl : x = _ := by simpa using he2
    obtain ⟨z, hz⟩ : ∃ z, ws[ws.length - 1 - m]? = some z := ⟨_, List.getElem?_eq_getElem (by omega)⟩
    have e1 := elemW_val hz (h64 z (List.mem_of_getElem? hz))
    rw [e1] at hx ⊢
    have hzl := (List.getElem?_eq_some_iff.1 hz)
    have hs : ws = ws.take (ws.length - 1 - m) ++ z :: ws.drop (ws.length - 1 - m + 1) := by
      rw [← hzl.2, List.getElem_cons_drop, List.take_append_drop]
    rw [hs]
    refine latest_at hx fun y hy => ?_
    obtain ⟨t, ht⟩ := List.getElem?_of_mem hy
    rw [List.getElem?_drop] at ht
    obtain ⟨q, hq, e⟩ := backW_mem h64 (m := m) ht (by omega)
    have := h q hq
    rwa [e] at this

/-- No Write of these is at i. -/
def NoAt (i : Nat) (pre : List We) : Prop := ∀ y ∈ pre, y.1.2.1 ≠ i
/-- The last of these is at i, and the block holds it. -/
def IxL (W : World) (i : Nat) (c : Code) (pre : List We) (W1 : World) : Prop :=
  ∃ (pre' : List We) (x : We), (c = .ret ∧ pre = pre' ++ [x] ∧ x.1.2.1 = i ∧ NoAt i pre') ∧ (Blk W1 (W.heap.size + 1) (cellsB x.1.2.2) 91 ∧ Below W.heap.size W W1)

set_option maxHeartbeats 2000000 in
theorem latest54 (F : Fence) (n : Nat) (h54 : F.fn 54) (h86 : F.fn 86) (h105 : F.fn 105) (hro : F.round = none) (hn : 6 ≤ n) (h : PD W d s wv D) (i : Nat) (hi : i < D.secs.length) (hlen : D.wait.length ≤ 100000) :
    CallsIn F n Try.prog 54 #[.pointer (some ⟨d, 0, none⟩), .int .i64 (i : Int)] W fun e W' => e = .returned (.agg (cellsB (latest D.secs D.wait i)).toArray) ∧ Below W.heap.size W W' := by
  have h1 : 1 ≤ n := by omega
  obtain ⟨va, vc, rfl⟩ := h.wform
  have H : Hid (PD W d s (.slice va D.wait.length vc) D) := h
  have c1 := h.dx.c1
  have c0 := h.dx.c0
  clear h
  refine callsIn_of_wp_marks Try.func54 rfl h54 ?_ hro
  simp only [Try.ntmps54, List.size_toArray, List.length_cons, List.length_nil, Nat.reduceAdd, Nat.reduceSub, Array.replicate_succ, Array.replicate_zero, List.push_toArray, List.append_toArray, List.nil_append, List.cons_append]
  have hd := H.out.dlt
  gi_wp2_with (first
    | (refine wpListIn_alloc_row (by rfl) 91 (by rfl) (cellsB Z64) info91z ?_; intro w2 hb2 hB2 hs2; simp only [World.size_alloc] at hb2 hs2; have hB3 : Below W.heap.size W w2 := (al W _).trans (hB2.mono (by simp)); have c1' := (hB3.cell (p := ⟨d, 1, none⟩) hd).trans c1; have bI : Boxed w2 W.heap.size 3 (.int .i64 (i : Int)) := (hB2.block _ (by simp)).trans (Boxed.new W 3 _))
    | (gi_at_call 86; refine (back86 F (n - 1) h86 hro _ _ _ _).mono ?_; rintro e w' ⟨rfl, rfl⟩))
  have bA := Boxed.new w2 87 (.slice va D.wait.length vc)
  have hsz : (w2.alloc (.cells #[.slice va D.wait.length vc] 87)).heap.size = W.heap.size + 3 := by simp [hs2]
  have hB4 : Below W.heap.size W (w2.alloc (.cells #[.slice va D.wait.length vc] 87)) := hB3.alloc hB3.size _
  have bI4 := bI.alloc (.cells #[.slice va D.wait.length vc] 87)
  have hb4 := hb2.below (al w2 (.cells #[.slice va D.wait.length vc] 87))
  rw [hs2] at bA
  generalize w2.alloc (.cells #[.slice va D.wait.length vc] 87) = W0 at *
  clear hb2 hB2 hs2 hB3 c1' bI w2
  have h64 : ∀ x ∈ D.wait, x.2.length = 64 := fun x hx => (H.out.ok.wait x hx).1
  have H64 : Hid (∀ x ∈ D.wait, x.2.length = 64) := h64
  refine wpIn_rangeFunc_ownH hro h1 (gf := 105) (lb := #[.pointer (some ⟨W.heap.size + 1 + 1, 0, none⟩)]) rfl h105 (enters_of Try.func105 (by kernel_rfl) rfl)
    (back_stops F (n - 1) h105 hro (by omega) (W.heap.size + 1 + 1) W0.heap.size d (.slice va D.wait.length vc) D.wait h64 hlen W0 (by omega) (Nat.le_refl _) bA.cell (H.out.wait.below (hB4.mono (Nat.le_refl _)) (fun k hk => (H.out.wlt k hk).2)) (fun k hk => by have := (H.out.wlt k hk).2; omega)) belowK_t (belowK_b (Nat.le_refl _)) (Below.refl _ _) (fun _ => rfl)
    (fun pre W1 => NoAt i pre ∧ Below W0.heap.size W0 W1)
    (IxL W i)
    (OwnFrom.and (ownFrom_pure _ _) (ownFrom_below (Nat.le_refl _) (Nat.le_refl _)))
    (fun c pre X Y row hs hg hr => by
      obtain ⟨pre', x, h1, h2, h3⟩ := hs
      exact ⟨pre', x, h1, (own_blk (W.heap.size + 1) 91 (fun (_ : Unit) => cellsB x.1.2.2)) () X Y row h2 hg (fun r e => (hr r e).2), h3.grown hg h3.size (fun k e => by have := (hr k e).1; omega)⟩)
    ⟨fun _ h => by simp at h, Below.refl _ _⟩
    (fun x a' W1 => ∃ Bx, W0.heap.size ≤ Bx ∧ Blk W1 Bx (cellW x.1.2.1 x.1.2.2) 93 ∧ a' = { tmps := #[.pointer (some ⟨d, 0, none⟩), .int .i64 (i : Int), undef, .pointer (some ⟨W.heap.size, 0, none⟩), .pointer (some ⟨W.heap.size + 1, 0, none⟩), undef, .pointer (some ⟨Bx, 0, none⟩), .pointer (some ⟨d, 0, none⟩), .pointer (some ⟨d, 0, none⟩), .pointer (some ⟨d, 1, none⟩), .slice va D.wait.length vc, .func (.func 105) #[] #[.pointer (some ⟨W.heap.size + 1 + 1, 0, none⟩)], .int .i64 (x.1.1 : Int), .agg (cellW x.1.2.1 x.1.2.2).toArray, undef, undef, undef, undef, undef, undef, undef, undef, undef, undef, undef, undef, undef], defers := [] })
    (fun x a' _ X Y row hs hg hr => by obtain ⟨Bx, h1, h2, h3⟩ := hs; exact ⟨Bx, h1, (own_blk Bx 93 (fun (_ : Unit) => cellW x.1.2.1 x.1.2.2)) () X Y row h2 hg (fun r e => (hr r e).2), h3⟩)
    ?assign ?body ?done ?stop
  case assign =>
    rintro l pre ⟨⟨k, q, b⟩, hb64⟩ W1 K ⟨hp, hB1⟩ hK
    have hcl : (cellW q b).length = 65 := cellW_length hb64
    simp only [encW]
    simp only [List.zip_toArray, List.zip_cons_cons, List.zip_nil_right, List.foldl_toArray', List.foldl_cons, List.foldl_nil, List.size_toArray, List.length_cons, List.length_nil, List.setIfInBounds_toArray, List.set_cons_succ, List.set_cons_zero]
    gi_wp2_with (first
      | (refine wpListIn_alloc_row (by rfl) 93 (by rfl) (cellW 0 Z64) (by rw [← z93]; exact info93z) ?_; intro w2 hb2 hB2 hs2)
      | (refine wpListIn_store_whole (by rfl) 93 (.tmp 6) (.tmp 13) (by rfl) W1.heap.size (cellW q b) (by rfl) (by rfl) (cellW 0 Z64) 93 hb2 (by rw [hcl, cellW_length Z64_length]) (by rw [hcl]; exact info93s) (cellW_one _ _) ?_; intro w3 hb3 hk3 hs3))
    have hz1 := hB1.size
    refine hK _ _ ⟨by have := hk3.size; omega, fun j o hj h0 ho => ?_⟩ ?_ ⟨hp, ?_⟩ ⟨W1.heap.size, hB1.size, hb3, rfl⟩
    · have hjl := (Array.getElem?_eq_some_iff.1 h0).1
      rw [hk3.block j (by omega) (by omega), hB2.block j hjl]; exact h0
    · exact (hB2.mono hB1.size).trans (hk3.below (by omega) (fun i e => by rw [e]; exact hB1.size))
    · exact hB1.trans ((hB2.mono hB1.size).trans (hk3.below (by omega) (fun i e => by rw [e]; exact hB1.size)))
  case body =>
    rintro l pre ⟨⟨k, q, b⟩, hb64⟩ a' W1 hl hr ⟨hp, hB1⟩ ⟨Bx, hBx, hX, rfl⟩ hlt
    have hXl := hX.lt
    have cX : W1.cell? ⟨Bx, 0, none⟩ = some (.int .i64 (q : Int)) := (hX.cell 0).trans rfl
    have cI : W1.cell? ⟨W.heap.size, 0, none⟩ = some (.int .i64 (i : Int)) := (hB1.cell (p := ⟨W.heap.size, 0, none⟩) (by simp; omega)).trans bI4.cell
    have hR : Blk W1 (W.heap.size + 1) (cellsB Z64) 91 := hb4.block (hB1.block _ (by omega))
    have hbl : (cellsB b).length = 64 := by rw [cellsB_length]; exact hb64
    have hrg : W1.rangeAt Bx 1 (cellsB b) := hX.range fun j v hv => by
      rw [show 1 + j = j + 1 by omega]; exact hv
    by_cases he : q = i
    · subst he
      gi_wp2_with (first
        | (refine wpListIn_load_row (by rfl) 91 (.tmp 18) (by rfl) Bx 1 (by rfl) (cellsB b) _ hrg Try.underlying91 rfl (by rw [hbl]; exact info91s) ?_)
        | (refine wpListIn_store_whole (by rfl) 91 (.tmp 4) (.tmp 19) (by rfl) (W.heap.size + 1) (cellsB b) (by rfl) (by rfl) (cellsB Z64) 91 hR (by rw [hbl, cellsB_length, Z64_length]) (by rw [hbl]; exact info91s) (cellsB_one _) ?_; intro w3 hb3 hk3 hs3))
      have hz1 := hB1.size
      exact ⟨⟨by omega, fun j o hj h0 ho => (hk3.block j (Array.getElem?_eq_some_iff.1 h0).1 (by omega)).trans h0⟩, pre, ⟨(k, q, b), hb64⟩, ⟨rfl, rfl, rfl, hp⟩, hb3, (hB4.trans (hB1.mono (by omega))).trans (hk3.below (by omega) (fun i e => by rw [e]; omega))⟩
    · have he1 : ¬ ((q : Int) = (i : Int)) := by omega
      gi_wp2
      refine ⟨KeepsFrom.refl _ _, Below.refl _ _, fun y hy => ?_, hB1.mono (by omega)⟩
      rcases List.mem_append.1 hy with hy | hy
      · exact hp y hy
      · rw [List.mem_singleton.1 hy]; exact he
  case done =>
    rintro Dd xs W1 hD rfl ⟨hp, hB1⟩ hK
    have hla : latest D.secs D.wait i = D.secs.getD i [] := latest_done H64.out hp
    gi_wp2
    obtain ⟨x, hx⟩ : ∃ x, D.secs[i]? = some x := ⟨_, List.getElem?_eq_getElem hi⟩
    have hx64 : (cellsB x).length = 64 := by rw [cellsB_length]; exact H.out.ok.secs x (List.mem_of_getElem? hx)
    have hla2 : latest D.secs D.wait i = x := by rw [hla, List.getD_eq_getElem?_getD, hx]; rfl
    have hBW : Below W.heap.size W W1 := hB4.trans (hB1.mono (by omega))
    have hBd : Below W1.heap.size W1 W1.drew := (Below.refl _ _).drew
    have hzd : W1.drew.heap.size = W1.heap.size := rfl
    have hBW2 : Below W.heap.size W W1.drew := hBW.trans (hBd.mono hBW.size)
    have hz1 := hB1.size
    have e0 : W1.drew.cell? ⟨d, 0, none⟩ = some (.slice (some ⟨s, 0, none⟩) D.secs.length D.cap) := (hBW2.cell (p := ⟨d, 0, none⟩) hd).trans c0
    have eI : W1.drew.cell? ⟨W.heap.size, 0, none⟩ = some (.int .i64 (i : Int)) := (hBd.cell (p := ⟨W.heap.size, 0, none⟩) (by simp; omega)).trans ((hB1.cell (p := ⟨W.heap.size, 0, none⟩) (by simp; omega)).trans bI4.cell)
    have eS : W1.drew.rangeAt s (i * 64) (cellsB x) := (H.out.secs.block (hBW2.block s H.out.slt)).at' i x hx
    have eR : Blk W1.drew (W.heap.size + 1) (cellsB Z64) 91 := (hb4.block (hB1.block _ (by omega))).below hBd
    have eK : W1.drew.heap[Dd]? = some (.deferred (some [])) := hK
    have hi1 : (0 : Int) ≤ (i : Int) ∧ (i : Int) < (D.secs.length : Int) := ⟨by omega, by omega⟩
    have hi2 : ((i : Int)).toNat = i := by omega
    refine Code.wpIn_mono NoPanic.imp ?_
    refine wpIn_region_any (by kernel_rfl) ?_
    change wpAnyIn _ _ _ _ _ _ _ _ _ (World.drew _)
    generalize W1.drew = W2 at *
    refine wpAnyIn_take (i := 0) (v := .pointer (some ⟨d, 0, none⟩)) hro rfl (by kernel_rfl) (by kernel_rfl) (by kernel_rfl) (fun _ _ _ h => h) ⟨Or.inl ⟨by rfl, by intro w; go_simp⟩, fun _ => rfl⟩ ?_
    refine wpAnyIn_take (i := 1) (v := .pointer (some ⟨d, 0, none⟩)) hro rfl (by kernel_rfl) (by kernel_rfl) (by kernel_rfl) (fun _ _ _ h => h) ⟨Or.inl ⟨by rfl, by intro w; go_simp⟩, fun _ => rfl⟩ ?_
    refine wpAnyIn_take (i := 2) (v := .pointer (some ⟨d, 0, none⟩)) hro rfl (by kernel_rfl) (by kernel_rfl) (by kernel_rfl) (fun _ _ _ h => h) ⟨Or.inl ⟨by rfl, by intro w; go_simp⟩, fun _ => rfl⟩ ?_
    refine wpAnyIn_ready (rs := [3, 4]) (by kernel_rfl) (by simp) ?_
    refine AllReadyIn.cons rfl (fun K3 hK3 => ?_) (AllReadyIn.cons rfl (fun K3 hK3 => ?_) AllReadyIn.nil)
    · go_simp
      refine hK3 _ _ ?_
      clear hK3 K3
      refine wpAnyIn_ready (rs := [4]) (by kernel_rfl) (by simp) ?_
      refine AllReadyIn.cons rfl (fun K3 hK3 => ?_) AllReadyIn.nil
      go_simp
      refine hK3 _ _ ?_
      clear hK3 K3
      refine wpAnyIn_take (i := 5) (v := .pointer (some ⟨s, i * 64, none⟩)) hro rfl (by kernel_rfl) (by kernel_rfl) (by kernel_rfl) (fun _ _ _ h => h) ⟨Or.inl ⟨by rfl, by intro w; go_simp⟩, fun _ => rfl⟩ ?_
      refine wpAnyIn_ready (rs := [6]) (by kernel_rfl) (by simp) ?_
      refine AllReadyIn.cons rfl (fun K3 hK3 => ?_) AllReadyIn.nil
      refine stepIn_load_row (by rfl) (some 26) (by rfl) 91 (.tmp 25) (by rfl) s (i * 64) (by rfl) (cellsB x) _ eS Try.underlying91 rfl (by rw [hx64]; exact info91s) ?_
      refine hK3 _ _ ?_
      clear hK3 K3
      refine wpAnyIn_ready (rs := [7]) (by kernel_rfl) (by simp) ?_
      refine AllReadyIn.cons rfl (fun K3 hK3 => ?_) AllReadyIn.nil
      refine stepIn_store_whole (by rfl) none (by rfl) 91 (.tmp 4) (.tmp 26) (by rfl) (W.heap.size + 1) (cellsB x) (by rfl) (by rfl) (cellsB Z64) 91 eR (by rw [hx64, cellsB_length, Z64_length]) (by rw [hx64]; exact info91s) (cellsB_one _) ?_
      intro w3 hb3 hk3 hs3
      refine hK3 _ _ ?_
      clear hK3 K3
      refine wpAnyIn_done (by kernel_rfl) ?_ _
      refine NoPanic.normal ?_
      gi_wp2
      refine ⟨by simp, .inl ⟨_, _, rfl, run_takeDeferred (b := Dd) (ds := []) ((hk3.block Dd (Array.getElem?_eq_some_iff.1 eK).1 (by omega)).trans eK), ?_⟩⟩
      exact ⟨_, results_cell rfl _ _ _ (W.heap.size + 1) _ _ (hb3.block (World.putObj_heap_other (by omega))) rfl _ Try.underlying91 rfl (by rw [hx64]; exact info91s), by rw [hla2], (hBW2.trans (hk3.below (by omega) (fun i e => by rw [e]; omega))).trans (belowK_b (w := W) (Nat.le_refl _) w3 Dd _ _ (by omega) ((hk3.block Dd (Array.getElem?_eq_some_iff.1 eK).1 (by omega)).trans eK) rfl rfl)⟩
    · go_simp
      refine hK3 _ _ ?_
      clear hK3 K3
      refine wpAnyIn_ready (rs := [3]) (by kernel_rfl) (by simp) ?_
      refine AllReadyIn.cons rfl (fun K3 hK3 => ?_) AllReadyIn.nil
      go_simp
      refine hK3 _ _ ?_
      clear hK3 K3
      refine wpAnyIn_take (i := 5) (v := .pointer (some ⟨s, i * 64, none⟩)) hro rfl (by kernel_rfl) (by kernel_rfl) (by kernel_rfl) (fun _ _ _ h => h) ⟨Or.inl ⟨by rfl, by intro w; go_simp⟩, fun _ => rfl⟩ ?_
      refine wpAnyIn_ready (rs := [6]) (by kernel_rfl) (by simp) ?_
      refine AllReadyIn.cons rfl (fun K3 hK3 => ?_) AllReadyIn.nil
      refine stepIn_load_row (by rfl) (some 26) (by rfl) 91 (.tmp 25) (by rfl) s (i * 64) (by rfl) (cellsB x) _ eS Try.underlying91 rfl (by rw [hx64]; exact info91s) ?_
      refine hK3 _ _ ?_
      clear hK3 K3
      refine wpAnyIn_ready (rs := [7]) (by kernel_rfl) (by simp) ?_
      refine AllReadyIn.cons rfl (fun K3 hK3 => ?_) AllReadyIn.nil
      refine stepIn_store_whole (by rfl) none (by rfl) 91 (.tmp 4) (.tmp 26) (by rfl) (W.heap.size + 1) (cellsB x) (by rfl) (by rfl) (cellsB Z64) 91 eR (by rw [hx64, cellsB_length, Z64_length]) (by rw [hx64]; exact info91s) (cellsB_one _) ?_
      intro w3 hb3 hk3 hs3
      refine hK3 _ _ ?_
      clear hK3 K3
      refine wpAnyIn_done (by kernel_rfl) ?_ _
      refine NoPanic.normal ?_
      gi_wp2
      refine ⟨by simp, .inl ⟨_, _, rfl, run_takeDeferred (b := Dd) (ds := []) ((hk3.block Dd (Array.getElem?_eq_some_iff.1 eK).1 (by omega)).trans eK), ?_⟩⟩
      exact ⟨_, results_cell rfl _ _ _ (W.heap.size + 1) _ _ (hb3.block (World.putObj_heap_other (by omega))) rfl _ Try.underlying91 rfl (by rw [hx64]; exact info91s), by rw [hla2], (hBW2.trans (hk3.below (by omega) (fun i e => by rw [e]; omega))).trans (belowK_b (w := W) (Nat.le_refl _) w3 Dd _ _ (by omega) ((hk3.block Dd (Array.getElem?_eq_some_iff.1 eK).1 (by omega)).trans eK) rfl rfl)⟩
  case stop =>
    rintro Dd c pre W1 hD ⟨m, hm, hpre⟩ ⟨pre', x, ⟨rfl, hpx, hxi, hno⟩, hBk, hBel⟩ hK
    have hla : latest D.secs D.wait i = x.1.2.2 := latest_stop H64.out hm (hpx.symm.trans hpre) hxi hno
    gi_wp2
    refine ⟨by simp, .inl ⟨_, _, rfl, run_takeDeferred hK, ?_⟩⟩
    exact ⟨_, results_cell rfl _ _ _ _ _ _ (hBk.block (World.putObj_heap_other (by omega))) rfl _ Try.underlying91 rfl (by rw [cellsB_length, x.2]; exact info91s), by rw [hla], hBel.trans (belowK_b (w := W) (Nat.le_refl _) W1 Dd _ _ (by omega) hK rfl rfl)⟩

end Go.Proofs.Ytnganmekiloigaa
