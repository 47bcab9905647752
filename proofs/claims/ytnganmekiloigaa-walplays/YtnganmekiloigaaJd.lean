/- The pieces of a record, as pieces' function yields them. · A drawn region whose last operation may break what the others keep. · For write: helpers in a round's fence; what a Write of a piece leaves. -/
import Derived.Test.YtnganmekiloigaaJa
import Derived.BigRegionIn
/-! ### The pieces of a record, as pieces' function yields them. -/
namespace Go.Proofs.Ytnganmekiloigaa
open Go.RowKit
set_option maxRecDepth 100000
attribute [local go_sem] Oper.semAt_some
variable {w w' : World}
def EncP (x : Pc) (v : Value) (_ : World) : Prop := v = .agg (encPc x).toArray
/-- The piece i of a record that is laid from a place on. -/
def pieceP (l : Bs) (e p i : Nat) : Pc := ⟨e, p + i, i, np l, (partOf l i).length, pad57 (partOf l i)⟩
def piecesP (l : Bs) (e p : Nat) : List Pc := (List.range (np l)).map (pieceP l e p)
def G3 (a : Option Addr) (q j : Nat) : Prop := (∃ o, a = some ⟨j, o, none⟩) ∨ j = q ∨ j = q + 1 ∨ j = q + 2
theorem lv_keepAt {α : Type} {E : Ety α} {L : List α} {W W' : World} {a : Option Addr} {n c : Nat} (h : LV E W (.slice a n c) L) (hk : ∀ g o, a = some ⟨g, o, none⟩ → W'.heap[g]? = W.heap[g]?) : LV E W' (.slice a n c) L := by
  obtain ⟨a', c', h1, hcap, h2⟩ := h
  simp only [Value.slice.injEq] at h1
  obtain ⟨rfl, h1n, rfl⟩ := h1
  refine ⟨a, c, by rw [h1n], hcap, fun h0 => ?_⟩
  obtain ⟨g, o, cs, t, h3, h4, h5⟩ := h2 h0
  exact ⟨g, o, cs, t, h3, h4.block (hk g o h3), h5⟩
theorem lv_inside {α : Type} {E : Ety α} {L : List α} {W : World} {a : Option Addr} {n c : Nat} (h : LV E W (.slice a n c) L) (h0 : 0 < L.length) {g o : Nat} (ha : a = some ⟨g, o, none⟩) : g < W.heap.size := by
  obtain ⟨a', c', h1, hcap, h2⟩ := h
  simp only [Value.slice.injEq] at h1
  obtain ⟨rfl, h1n, rfl⟩ := h1
  obtain ⟨g', o', cs, t, h3, h4, h5⟩ := h2 h0
  rw [ha] at h3
  cases h3
  exact h4.lt
theorem eg110 : ∀ args w, (callFunc 110 args).run Try.prog w = .ok (.enter 110 args) w := enters_of Try.func110 (by kernel_rfl) rfl
theorem pieces_take {l : Bs} {e p j : Nat} (hj : j < np l) : (piecesP l e p).take (j + 1) = (piecesP l e p).take j ++ [pieceP l e p j] := take_step (by simp [piecesP, hj])
theorem wpListIn_load_mid' {F : Fence} {n : Nat} {P : Program} {ops : Array Oper} {rest : List Oper} {o : Oper} {a : Act} {w : World} {Q : Exit → Act → World → Prop} (hgd : o.guard = none) (ty : TypeId) (x : Operand) (ho : o.op = .load ty x)
    (b i : Nat) (hx : a.eval x = .pointer (some ⟨b, i, none⟩)) (cs : List Value) (d : TypeDesc) (hc : w.rangeAt b i cs)
    (hu : P.underlying ty = some d) (hd : d.isRow = true) (hi : (P.info? ty).map (·.size) = some cs.length)
    (h : wpListIn F n P ops Q rest (a.put o.dst (.agg cs.toArray)) w) : wpListIn F n P ops Q (o :: rest) a w := by
  refine wpListIn_plain hgd fun K hK' => ?_
  unfold Oper.wpIn
  refine ⟨?_, ?_⟩
  · simp [Oper.about, ho]
  · rw [Oper.semAt_plain F _ _ (by rw [ho]; intro c hc'; cases hc')]
    simp only [execOp, ho, hx, Instr.loadAt, Instr.sureAddr, Sem.run_bind, Sem.run_pure, Result.andThen_ok, run_loadVar_mid w b i ty cs d hc hu hd hi]
    exact hK' _ _ h
theorem exec_build {P : Program} {a : Act} {o : Oper} {w : World} (t : TypeId) (fs : Array (Nat × Operand)) (hop : o.op = .build t fs) (ps : Array (Nat × Value)) (hps : (fs.map fun (i, x) => (i, a.eval x)) = ps) (cs : List Value) (hb : P.built t ps.toList = some cs.toArray) : (execOp a.eval o).run P w = .ok (.value (.agg cs.toArray)) w := by
  simp only [execOp, hop, hps, Sem.run_bind, run_build w t ps cs.toArray hb, Result.andThen_ok, Sem.run_pure]
theorem step_alloc_row {P : Program} {ops : Array Oper} {o : Oper} {a : Act} {w : World} {K : Act → World → Prop} {Q : Exit → Act → World → Prop} {E : Prop} (hgd : o.guard = none) (dst : Option Nat) (hd : o.dst = dst) (ty : TypeId) (hop : o.op = .alloc ty) (z : List Value) {m k : Nat} (hi : (P.info? ty).map (fun i => (i.zero, i.size, i.bytes)) = some (some (.agg z.toArray), m, k))
    (h : ∀ w', Blk w' w.heap.size z ty → Below w.heap.size w w' → w'.heap.size = w.heap.size + 1 → K (a.put dst (.pointer (some ⟨w.heap.size, 0, none⟩))) w') : if Region.wanted o (yielded ops a.tmps) = true then Oper.wp P o a w K Q else E := by
  subst hd
  rw [if_pos (by simp [Region.wanted, hgd])]
  unfold Oper.wp
  simp only [execOp, hop, Sem.run_bind, run_alloc_row w ty z hi, Result.andThen_ok, Sem.run_pure]
  exact h _ (blk_new w z ty) (al w _) (by simp)
theorem step_store_whole {P : Program} {ops : Array Oper} {op : Oper} {a : Act} {w : World} {K : Act → World → Prop} {Q : Exit → Act → World → Prop} {E : Prop} (hgd : op.guard = none) (hdst : op.dst = none) (ty : TypeId) (x y : Operand) (ho : op.op = .store ty x y)
    (b : Nat) (cs : List Value) (hx : a.eval x = .pointer (some ⟨b, 0, none⟩)) (hy : a.eval y = .agg cs.toArray) (l : List Value) (t : TypeId) (hb : Blk w b l t) (hl : cs.length = l.length)
    (hi : (P.info? ty).map (·.size) = some cs.length) (h1 : ∀ v ∈ cs, v.oneCell' = true)
    (h : ∀ w', Blk w' b cs t → Keep (fun k => k = b) w w' → w'.heap.size = w.heap.size → K a w') : if Region.wanted op (yielded ops a.tmps) = true then Oper.wp P op a w K Q else E := by
  refine step_store_blk hgd ty x y ho b 0 cs.toArray hx hy l t hb (by simp; omega) (by simpa using hi) (by simpa using h1) ?_
  intro w' h2 h3 h4
  rw [hdst]
  refine h w' ?_ h3 h4
  rw [show splice l 0 cs.toArray.toList = cs by simp [splice, hl]] at h2
  exact h2
def hd62 (a b c d : Int) : List Value := [.int .i64 a, .int .i64 b, .int .i64 c, .int .i64 d, .int .i64 0] ++ cellsB (List.replicate 57 0)
theorem built62 (a b c d : Int) : Try.prog.built 141 [(0, .agg #[.int .i64 a, .int .i64 b, .int .i64 c, .int .i64 d])] = some (hd62 a b c d).toArray := by kernel_rfl
theorem hd62_enc (e p j M : Nat) : hd62 (e : Int) ((p : Int) + (j : Int)) (j : Int) (M : Int) = encPc ⟨e, p + j, j, M, 0, []⟩ := by simp [hd62, encPc, headC, fix57]
theorem piece_cells {e p j M : Nat} {b : Bs} (hb : b.length ≤ 57) : (splice (encPc ⟨e, p + j, j, M, 0, []⟩) 5 (cellsB b)).set 4 (.int .i64 (b.length : Int)) = encPc ⟨e, p + j, j, M, b.length, pad57 b⟩ := by
  have e1 : encPc ⟨e, p + j, j, M, 0, []⟩ = (headC ⟨e, p + j, j, M, 0, []⟩ ++ [Value.int .i64 0]) ++ cellsB (List.replicate 57 0) := by simp [encPc, fix57]
  have e5 : (headC ⟨e, p + j, j, M, 0, []⟩ ++ [Value.int .i64 0]).length = 5 := by simp [headC]
  have key : ∀ N, (cellsB (List.replicate N 0)).drop b.length = cellsB (List.replicate (N - b.length) 0) := fun N => by simp [cellsB]
  have e2 : splice (encPc ⟨e, p + j, j, M, 0, []⟩) 5 (cellsB b) = (headC ⟨e, p + j, j, M, 0, []⟩ ++ [Value.int .i64 0]) ++ cellsB (pad57 b) := by
    unfold splice
    rw [e1, List.take_append_of_le_length (by omega), List.take_of_length_le (by omega), cellsB_length, List.drop_append, e5, List.drop_of_length_le (by omega), List.nil_append, Nat.add_sub_cancel_left, key]
    unfold pad57
    simp [cellsB]
  rw [e2]
  simp [encPc, headC, fix57_eq (pad57_length hb)]
set_option maxHeartbeats 2000000 in
theorem runs110 {W : World} {a : Option Addr} {n c q e p : Nat} {l : Bs} (hl : LV EB W (.slice a n c) l) (h00 : 0 < l.length) (hn : l.length ≤ 3648) (hp : p ≤ 1000) (h0 : Blk W q [.slice a n c] 33) (h1 : Blk W (q + 1) [.int .i64 (e : Int)] 3) (h2 : Blk W (q + 2) [.int .i64 (p : Int)] 3) :
    Runs Try.prog 110 #[.pointer (some ⟨q, 0, none⟩), .pointer (some ⟨q + 1, 0, none⟩), .pointer (some ⟨q + 2, 0, none⟩)] EncP (piecesP l e p) (G3 a q) W := by
  intro l' O J Jx hO hJs hJ hJx hY hJ0
  have nO : ∀ g o, a = some ⟨g, o, none⟩ → ¬ O g := fun g o ha h => (hO g h).1 (.inl ⟨o, ha⟩)
  have n0 : ¬ O q := fun h => (hO q h).1 (.inr (.inl rfl))
  have n1 : ¬ O (q + 1) := fun h => (hO _ h).1 (.inr (.inr (.inl rfl)))
  have n2 : ¬ O (q + 2) := fun h => (hO _ h).1 (.inr (.inr (.inr rfl)))
  obtain ⟨_, _, hv0⟩ := hl.form
  have hnl : n = l.length := by simp only [Value.slice.injEq] at hv0; exact hv0.2.1
  have HK : Hid (∀ W', Keep O W W' → W'.cell? ⟨q, 0, none⟩ = some (.slice a n c) ∧ W'.cell? ⟨q + 1, 0, none⟩ = some (.int .i64 (e : Int)) ∧ W'.cell? ⟨q + 2, 0, none⟩ = some (.int .i64 (p : Int)) ∧ LV EB W' (.slice a n c) l) := fun W' k => ⟨(h0.keep k n0).cell 0, (h1.keep k n1).cell 0, (h2.keep k n2).cell 0, lv_keepAt hl fun g o ha => k.block g (lv_inside hl h00 ha) (nO g o ha)⟩
  have HN : Hid (np l = (n + 56) / 57 ∧ n = l.length) := ⟨by rw [hnl]; rfl, hnl⟩
  have hn' : n ≤ 3648 := by omega
  have k79 := fun W => pieces79 a n c (by omega) W
  have HJ : Hid _ := hJ
  have HY : Hid _ := hY
  have H0 : Hid _ := hJ0
  have HOs : Hid _ := hO
  have HJs : Hid _ := hJs
  obtain ⟨c0, c1, c2, _⟩ := HK.out W (Keep.refl _ _)
  clear hl h0 h1 h2 hO hJs hJ hJx hY hJ0 nO n0 n1 n2 hv0 hnl hn
  obtain ⟨M, hM⟩ : ∃ M, (n + 56) / 57 = M := ⟨_, rfl⟩
  have hM64 : M ≤ 64 := by omega
  simp only [hM] at k79
  have HMn : Hid ((n + 56) / 57 = M) := hM
  have HM : Hid (np l = M) := by show _ = _; rw [HN.out.1]; exact hM
  clear hM
  refine callsIn_of_wp Try.func110 rfl trivial ?_ rfl
  simp only [Try.ntmps110, List.size_toArray, List.length_cons, List.length_nil, Nat.reduceAdd, Nat.reduceSub, Array.replicate_succ, Array.replicate_zero, List.push_toArray, List.append_toArray, List.nil_append, List.cons_append]
  gi_wp2
  refine ⟨trivial, rfl, ((callsIn_wide (n := 0)).2 (k79 _)).mono ?_⟩
  rintro e' w1 ⟨rfl, rfl⟩
  gi_wp2
  gi_loopw [9] (fun z wr => ∃ (j : Nat) (O' : Nat → Prop), z = .int .i64 (j : Int) ∧ Hid (j ≤ M) ∧ Hid (J O' ((piecesP l e p).take j) wr) ∧ Hid (GrewN w1.heap.size O O') ∧ Hid (Keep O w1 wr)) (fun z _ => M - (intOf z).toNat)
  case atStart => exact ⟨0, O, rfl, Nat.zero_le _, H0.out, GrewN.refl _ _, Keep.refl _ _⟩
  case round =>
    obtain ⟨j, O', rfl, hj, hJ', hgr, hk⟩ := hrel
    by_cases hjn : j < M
    · have hji : (j : Int) < (M : Int) := by omega
      obtain ⟨d0, d1, d2, hLV⟩ := HK.out wr hk.out
      have hwp : IntKind.i64.wrap ((p : Int) + (j : Int)) = (p : Int) + (j : Int) := by rw [IntKind.wrap_i64]; omega
      gi_wp2
      obtain ⟨cx, hcx⟩ : ∃ cx, encPc ⟨e, p + j, j, M, 0, []⟩ = cx := ⟨_, rfl⟩
      have hbx : Try.prog.built 141 [(0, .agg #[.int .i64 (e : Int), .int .i64 ((p : Int) + (j : Int)), .int .i64 (j : Int), .int .i64 (M : Int)])] = some cx.toArray := by rw [← hcx, ← hd62_enc]; exact built62 _ _ _ _
      have hcl : cx.length = 62 := by rw [← hcx]; exact encPc_length _
      have hco : ∀ u ∈ cx, u.oneCell' = true := by rw [← hcx]; exact encPc_one _
      have hpl : (encPc zPc).length = 62 := encPc_length _
      have hpi := info141a
      generalize encPc zPc = e0 at *
      have HSP : Hid (∀ W, Below wr.heap.size wr W → W.cell? ⟨q, 0, none⟩ = some (.slice a n c) ∧ W.cell? ⟨q + 1, 0, none⟩ = some (.int .i64 (e : Int)) ∧ W.cell? ⟨q + 2, 0, none⟩ = some (.int .i64 (p : Int))) := fun W k => by obtain ⟨x0, x1, x2, _⟩ := HK.out W (hk.out.trans (Keep.of k) (fun _ _ h => h)); exact ⟨x0, x1, x2⟩
      rename_i K hK
      suffices HR : Hid (∀ w6, Blk w6 wr.heap.size cx 141 → Below wr.heap.size wr w6 → w6.heap.size = wr.heap.size + 1 → K { tmps := #[Value.func (Fn.yield l') #[] #[], Value.pointer (some ⟨q, 0, none⟩), Value.pointer (some ⟨q + 1, 0, none⟩), Value.pointer (some ⟨q + 2, 0, none⟩), undef, Value.int IntKind.i64 (j : Int), Value.pointer (some ⟨wr.heap.size, 0, none⟩), Value.slice a n c, Value.int IntKind.i64 (M : Int), Value.int IntKind.i64 (j : Int), Value.bool true, Value.int IntKind.i64 (j : Int), Value.int IntKind.i64 (e : Int), Value.int IntKind.i64 (p : Int), Value.int IntKind.i64 (j : Int), Value.int IntKind.i64 ((p : Int) + (j : Int)), Value.int IntKind.i64 (j : Int), Value.slice a n c, Value.int IntKind.i64 (M : Int), Value.agg #[.int .i64 (e : Int), .int .i64 ((p : Int) + (j : Int)), .int .i64 (j : Int), .int .i64 (M : Int)], Value.agg cx.toArray, u21, u22, u23, u24, u25, u26, u27, u28, u29, u30, u31, u32, u33], defers := [] } w6) by
        refine wpIn_wide.2 (wp_mono (Q := Exit.then K (fun _ _ _ => False)) ?_ (fun e a w h => by cases e <;> first | exact h | exact h.elim))
        refine wp_region_held_drew (S := fun W => W.cell? ⟨q, 0, none⟩ = some (.slice a n c) ∧ W.cell? ⟨q + 1, 0, none⟩ = some (.int .i64 (e : Int)) ∧ W.cell? ⟨q + 2, 0, none⟩ = some (.int .i64 (p : Int))) (by kernel_rfl) ⟨d0, d1, d2⟩ (fun hS => ?_)
        refine wpAnyH_take' 0 (some 12) (.int .i64 (e : Int)) rfl rfl (by kernel_rfl) (by kernel_rfl) (by kernel_rfl) (fun _ _ _ h => h.elim) (Or.inl ⟨by rfl, fun w' hS => by obtain ⟨s0, s1, s2⟩ := hS; go_simp⟩) hS ?_
        simp only [Act.put, List.setIfInBounds_toArray, List.set_cons_zero, List.set_cons_succ]
        refine wpAnyH_take' 1 (some 13) (.int .i64 (p : Int)) rfl rfl (by kernel_rfl) (by kernel_rfl) (by kernel_rfl) (fun _ _ _ h => h.elim) (Or.inl ⟨by rfl, fun w' hS => by obtain ⟨s0, s1, s2⟩ := hS; go_simp⟩) hS ?_
        simp only [Act.put, List.setIfInBounds_toArray, List.set_cons_zero, List.set_cons_succ]
        refine wpAnyH_take' 2 (some 14) (.int .i64 (j : Int)) rfl rfl (by kernel_rfl) (by kernel_rfl) (by kernel_rfl) (fun _ _ _ h => h.elim) (Or.inl ⟨by rfl, fun w' hS => by obtain ⟨s0, s1, s2⟩ := hS; go_simp⟩) hS ?_
        simp only [Act.put, List.setIfInBounds_toArray, List.set_cons_zero, List.set_cons_succ]
        refine wpAnyH_take' 3 (some 15) (.int .i64 ((p : Int) + (j : Int))) rfl rfl (by kernel_rfl) (by kernel_rfl) (by kernel_rfl) (fun _ _ _ h => h.elim) (Or.inl ⟨by rfl, fun w' hS => by obtain ⟨s0, s1, s2⟩ := hS; go_simp⟩) hS ?_
        simp only [Act.put, List.setIfInBounds_toArray, List.set_cons_zero, List.set_cons_succ]
        refine wpAnyH_take' 4 (some 16) (.int .i64 (j : Int)) rfl rfl (by kernel_rfl) (by kernel_rfl) (by kernel_rfl) (fun _ _ _ h => h.elim) (Or.inl ⟨by rfl, fun w' hS => by obtain ⟨s0, s1, s2⟩ := hS; go_simp⟩) hS ?_
        simp only [Act.put, List.setIfInBounds_toArray, List.set_cons_zero, List.set_cons_succ]
        refine wpAnyH_take' 5 (some 17) (.slice a n c) rfl rfl (by kernel_rfl) (by kernel_rfl) (by kernel_rfl) (fun _ _ _ h => h.elim) (Or.inl ⟨by rfl, fun w' hS => by obtain ⟨s0, s1, s2⟩ := hS; go_simp⟩) hS ?_
        simp only [Act.put, List.setIfInBounds_toArray, List.set_cons_zero, List.set_cons_succ]
        refine wpAnyH_ready (rs := [6, 9]) (by kernel_rfl) (by simp) (AllReadyH.cons rfl (fun K2 hK2 => ?_) (AllReadyH.cons rfl (fun K2 hK2 => ?_) AllReadyH.nil))
        · go_simp
          refine (k79 _).mono ?_
          rintro e' w2 ⟨rfl, rfl⟩
          refine hK2.out _ _ hS (fun hS => ?_)
          clear hK2 K2
          refine wpAnyH_take' 7 (some 19) (Value.agg #[.int .i64 (e : Int), .int .i64 ((p : Int) + (j : Int)), .int .i64 (j : Int), .int .i64 (M : Int)]) rfl rfl (by kernel_rfl) (by kernel_rfl) (by kernel_rfl) (fun _ _ _ h => h.elim) (Or.inl ⟨by rfl, fun w' hS => by go_simp⟩) hS ?_
          simp only [Act.put, List.setIfInBounds_toArray, List.set_cons_zero, List.set_cons_succ]
          refine wpAnyH_take' 8 (some 20) (Value.agg cx.toArray) rfl rfl (by kernel_rfl) (by kernel_rfl) (by kernel_rfl) (fun _ _ _ h => h.elim) (Or.inl ⟨by rfl, fun w' hS => exec_build 141 _ rfl #[(0, Value.agg #[.int .i64 (e : Int), .int .i64 ((p : Int) + (j : Int)), .int .i64 (j : Int), .int .i64 (M : Int)])] (by simp [Act.eval]) cx hbx⟩) hS ?_
          simp only [Act.put, List.setIfInBounds_toArray, List.set_cons_zero, List.set_cons_succ]
          refine wpAnyH_ready (rs := [9]) (by kernel_rfl) (by simp) (AllReadyH.cons rfl (fun K2 hK2 => ?_) AllReadyH.nil)
          refine step_alloc_row rfl (some 6) rfl 141 rfl e0 hpi ?_
          intro w5 b5 k5 s5
          refine hK2.out _ _ (HSP.out _ (bmore (Below.refl _ wr).drew k5)) (fun hS => ?_)
          clear hK2 K2
          simp only [Act.put, List.setIfInBounds_toArray, List.set_cons_zero, List.set_cons_succ]
          refine wpAnyH_ready (rs := [10]) (by kernel_rfl) (by simp) (AllReadyH.cons rfl (fun K2 hK2 => ?_) AllReadyH.nil)
          refine step_store_whole rfl rfl 141 (.tmp 6) (.tmp 20) rfl wr.heap.size cx rfl rfl e0 141 b5 (by omega) (by rw [hcl]; exact info141s) hco ?_
          intro w6 b6 k6 s6
          have q6 : Below wr.heap.size wr w6 := kbel (bmore (Below.refl _ wr).drew k5) k6 (Nat.le_refl _) (Nat.le_refl _)
          refine hK2.out _ _ (HSP.out _ q6) (fun hS => ?_)
          clear hK2 K2
          refine wpAnyH_done (by kernel_rfl) ?_ _
          exact HR.out w6 b6 q6 (by simp at s5; omega)
        · refine step_alloc_row rfl (some 6) rfl 141 rfl e0 hpi ?_
          intro w5 b5 k5 s5
          refine hK2.out _ _ (HSP.out _ (bmore (Below.refl _ wr).drew k5)) (fun hS => ?_)
          clear hK2 K2
          simp only [Act.put, List.setIfInBounds_toArray, List.set_cons_zero, List.set_cons_succ]
          refine wpAnyH_ready (rs := [6]) (by kernel_rfl) (by simp) (AllReadyH.cons rfl (fun K2 hK2 => ?_) AllReadyH.nil)
          go_simp
          refine (k79 _).mono ?_
          rintro e' w2 ⟨rfl, rfl⟩
          refine hK2.out _ _ hS (fun hS => ?_)
          clear hK2 K2
          refine wpAnyH_take' 7 (some 19) (Value.agg #[.int .i64 (e : Int), .int .i64 ((p : Int) + (j : Int)), .int .i64 (j : Int), .int .i64 (M : Int)]) rfl rfl (by kernel_rfl) (by kernel_rfl) (by kernel_rfl) (fun _ _ _ h => h.elim) (Or.inl ⟨by rfl, fun w' hS => by go_simp⟩) hS ?_
          simp only [Act.put, List.setIfInBounds_toArray, List.set_cons_zero, List.set_cons_succ]
          refine wpAnyH_take' 8 (some 20) (Value.agg cx.toArray) rfl rfl (by kernel_rfl) (by kernel_rfl) (by kernel_rfl) (fun _ _ _ h => h.elim) (Or.inl ⟨by rfl, fun w' hS => exec_build 141 _ rfl #[(0, Value.agg #[.int .i64 (e : Int), .int .i64 ((p : Int) + (j : Int)), .int .i64 (j : Int), .int .i64 (M : Int)])] (by simp [Act.eval]) cx hbx⟩) hS ?_
          simp only [Act.put, List.setIfInBounds_toArray, List.set_cons_zero, List.set_cons_succ]
          refine wpAnyH_ready (rs := [10]) (by kernel_rfl) (by simp) (AllReadyH.cons rfl (fun K2 hK2 => ?_) AllReadyH.nil)
          refine step_store_whole rfl rfl 141 (.tmp 6) (.tmp 20) rfl wr.heap.size cx rfl rfl e0 141 b5 (by omega) (by rw [hcl]; exact info141s) hco ?_
          intro w6 b6 k6 s6
          have q6 : Below wr.heap.size wr w6 := kbel (bmore (Below.refl _ wr).drew k5) k6 (Nat.le_refl _) (Nat.le_refl _)
          refine hK2.out _ _ (HSP.out _ q6) (fun hS => ?_)
          clear hK2 K2
          refine wpAnyH_done (by kernel_rfl) ?_ _
          exact HR.out w6 b6 q6 (by simp at s5; omega)
      intro w6 b6 q6 s6
      apply hK
      obtain ⟨x0, _, _, hLV6⟩ := HK.out w6 (hk.out.trans (Keep.of q6) (fun _ _ h => h))
      have hjn2 : j * 57 < n := by have := HMn.out; omega
      obtain ⟨a', c', hsl, hcap, hat⟩ := hLV6
      simp only [Value.slice.injEq] at hsl
      obtain ⟨rfl, -, rfl⟩ := hsl
      obtain ⟨g, o, cs', t', rfl, hbk, hcc⟩ := hat (by have := HN.out.2; omega)
      have hpl2 : (partOf l j).length = min 57 (n - 57 * j) := by rw [part_length, HN.out.2]
      have hpl57 : (partOf l j).length ≤ 57 := by omega
      have HSRC : Hid (∀ W, Below w6.heap.size w6 W → ∀ k v, (cellsB (partOf l j))[k]? = some v → W.cell? ((⟨g, o + j * 57, none⟩ : Addr).add k) = some v) := fun W kW k v hv => by
        have hk' := (List.getElem?_eq_some_iff.1 hv).1
        rw [cellsB_length] at hk'
        rw [show (⟨g, o + j * 57, none⟩ : Addr).add k = ⟨g, o + j * 57 + k, none⟩ by unfold Addr.add; split <;> simp_all]
        refine ((hbk.below kW).cell _).trans ?_
        rw [Nat.add_assoc]
        refine hcc (j * 57 + k) v ?_
        rw [EB_cells, cellsB_get _ _ (by have := HN.out.2; omega)]
        rw [cellsB_get _ _ hk'] at hv
        rw [← hv]
        simp [partOf, List.getD_eq_getElem?_getD, List.getElem?_drop, Nat.mul_comm, show k < 57 by omega]
      have hwm : IntKind.i64.wrap ((j : Int) * 57) = (j : Int) * 57 := by rw [IntKind.wrap_i64]; omega
      have i1 : (0 : Int) ≤ (j : Int) * 57 := by omega
      have i2 : (j : Int) * 57 ≤ (n : Int) := by omega
      have i3 : ((j : Int) * 57).toNat = j * 57 := by omega
      have i4 : ¬ c = j * 57 := by have := HN.out.2; omega
      have i5 : j * 57 ≤ n := by omega
      have hcbl : (cellsB (partOf l j)).length = min 57 (n - 57 * j) := by rw [cellsB_length]; exact hpl2
      have hcbo := cellsB_one (partOf l j)
      have hP6 := b6.below (Below.refl _ _).drew
      have HSQ : Hid (∀ W l2, Blk W wr.heap.size l2 141 → l2.length = 62 → Below wr.heap.size wr W → W.cell? ⟨q, 0, none⟩ = some (.slice (some ⟨g, o, none⟩) n c) ∧ W.cell? ⟨wr.heap.size, 4, none⟩ = some (got W ⟨wr.heap.size, 4, none⟩) ∧ W.frozen? ⟨wr.heap.size, 4, none⟩ = false) := fun W l2 hb h62 kW => ⟨(HSP.out W kW).1, hb.got (by omega), hb.frozen 4⟩
      have hS0 := HSQ.out _ _ hP6 hcl (bmore q6 (Below.refl _ _).drew)
      gi_wp2
      rename_i K4 hK4
      refine wpIn_wide.2 (wp_mono (Q := Exit.then K4 (fun _ _ _ => False)) ?_ (fun e a w h => by cases e <;> first | exact h | exact h.elim))
      go_region_held3 (fun W => W.cell? ⟨q, 0, none⟩ = some (.slice (some ⟨g, o, none⟩) n c) ∧ W.cell? ⟨wr.heap.size, 4, none⟩ = some (got W ⟨wr.heap.size, 4, none⟩) ∧ W.frozen? ⟨wr.heap.size, 4, none⟩ = false) (first | exact hS0 | exact HSQ.out _ _ b8 l8 q8 | exact HSQ.out _ _ (b8.set (o := 4) _) (by simp [l8]) (bset q8 (Nat.le_refl _) _)) ((refine step_copy_splice rfl (.tmp 22) (.tmp 26) 33 33 rfl 5 Try.underlying33 info5s (some ⟨wr.heap.size, 5, none⟩) (some ⟨g, o + j * 57, none⟩) 57 57 (n - j * 57) (c - j * 57) (by rfl) (by rfl) wr.heap.size 5 cx 141 hP6 (cellsB (partOf l j)) (by rw [hcbl, Nat.mul_comm]; show _ = min _ _; omega) (fun _ => ⟨rfl, _, rfl, HSRC.out _ (Below.refl _ _).drew⟩) (by omega) hcbo wr.heap.size wr (bmore q6 (Below.refl _ _).drew) (Nat.le_refl _) ?_; intro w8 h8 q8; have b8 : Blk w8 wr.heap.size (splice cx 5 (cellsB (partOf l j))) 141 := h8.out; have l8 : (splice cx 5 (cellsB (partOf l j))).length = 62 := by rw [length_splice _ _ _ (by omega)]; exact hcl))
      have b9 : Blk (w8.setCell ⟨wr.heap.size, 4, none⟩ (.int .i64 ((min 57 (n - 57 * j) : Nat) : Int))) wr.heap.size (encPc (pieceP l e p j)) 141 := by
        have := b8.set (o := 4) (.int .i64 ((min 57 (n - 57 * j) : Nat) : Int))
        rw [← hpl2, ← hcx, piece_cells hpl57, ← HM.out] at this
        rw [← hpl2]
        exact this
      have q9 : Below wr.heap.size wr (w8.setCell ⟨wr.heap.size, 4, none⟩ (.int .i64 ((min 57 (n - 57 * j) : Nat) : Int))) := bset q8 (Nat.le_refl _) _
      generalize w8.setCell ⟨wr.heap.size, 4, none⟩ (.int .i64 ((min 57 (n - 57 * j) : Nat) : Int)) = w9 at *
      have hxl := encPc_length (pieceP l e p j)
      have hr9 := b9.whole
      have KW : Hid (Keep O w1 w9) := hk.out.trans (Keep.of q9) (fun _ _ h => h)
      have HTk : Hid ((piecesP l e p).take (j + 1) = (piecesP l e p).take j ++ [pieceP l e p j]) := pieces_take (by rw [HM.out]; exact hjn)
      have hYd := HY.out O' ((piecesP l e p).take j) (pieceP l e p j) (.agg (encPc (pieceP l e p j)).toArray) w9 (HJ.out _ _ _ _ hJ'.out (Keep.of q9)) rfl (by rw [← HTk.out]; exact List.take_prefix _ _)
      rw [← HTk.out] at hYd
      obtain ⟨fn, tmps, assign, body, hy, hRd⟩ := hYd
      have HRd : Hid _ := hRd
      clear hRd b8 b9 q8 h8 l8 hP6 b6 q6 s6 hS0 HSQ HSRC hcbl hcbo hbk hcc hat
      generalize encPc (pieceP l e p j) = px at *
      apply hK4
      gi_wp2_with (refine wpListIn_load_mid' rfl 141 (.tmp 6) rfl wr.heap.size 0 rfl px _ hr9 Try.underlying141 rfl (by rw [hxl]; exact info141s) ?_)
      refine ⟨rfl, RoundIn.mono HRd.out ?_⟩
      rintro e' W3 (⟨rfl, O3, hj3, hg3, hk3⟩ | ⟨rfl, O3, hj3, hg3, hk3⟩)
      · have HG3 : Hid (GrewN w1.heap.size O O3) := hgr.out.trans hg3
        have HK3 : Hid (Keep O w1 W3) := KW.out.trans hk3 (fun z hz h => (hgr.out z h).elim id (fun h => by omega))
        have HJ3 : Hid _ := hj3
        clear hj3 hg3 hk3 hy
        gi_wp2
        exact ⟨⟨j + 1, O3, by simp, by show _ ≤ _; omega, HJ3.out, HG3.out, HK3.out⟩, by simp only [intOf]; omega⟩
      · have HG3 : Hid (GrewN w1.heap.size O O3) := hgr.out.trans hg3
        have HK3 : Hid (Keep O w1 W3) := KW.out.trans hk3 (fun z hz h => (hgr.out z h).elim id (fun h => by omega))
        have HJ3 : Hid _ := hj3
        have HPre : Hid ((piecesP l e p).take (j + 1) <+: piecesP l e p) := List.take_prefix _ _
        clear hj3 hg3 hk3 hy
        gi_wp2
        refine bodyPost_ret (results_none rfl _ _ _) rfl ?_
        exact ⟨⟨_, rfl⟩, .inr ⟨_, O3, HPre.out, HJ3.out, HG3.out, HK3.out⟩⟩
    · have hji : ¬ (j : Int) < (M : Int) := by omega
      obtain rfl : j = M := by have := hj.out; omega
      have HAll : Hid ((piecesP l e p).take j = piecesP l e p) := by show _ = _; rw [List.take_of_length_le (by simp [piecesP, HM.out])]
      gi_wp2
      go_end0
      exact ⟨⟨_, rfl⟩, .inl ⟨O', HAll.out ▸ hJ'.out, hgr.out, hk.out⟩⟩
end Go.Proofs.Ytnganmekiloigaa
/-! ### A drawn region whose last operation may break what the others keep. -/
namespace Go.Proofs.Ytnganmekiloigaa
open Go.RowKit
set_option maxRecDepth 100000
section
variable {P : Program} {ops : Array Oper} {Q : Exit → Act → World → Prop} {md : Region.Mode} {S : World → Prop} {last : Nat}
/-- Whatever order is picked; S holds behind every operation but the last one. -/
def wpAnyL (P : Program) (md : Region.Mode) (ops : Array Oper) (Q : Exit → Act → World → Prop) (S : World → Prop) (last : Nat) : Nat → Array Bool → Act → World → Prop
  | 0, listed, a, w => Region.ready md ops listed = [] ∧ Q .normal a w
  | fuel + 1, listed, a, w =>
    (Region.ready md ops listed = [] → Q .normal a w) ∧
    ∀ i ∈ Region.ready md ops listed, wpOp P ops Q i (fun a' w' => (i ≠ last → S w') ∧ wpAnyL P md ops Q S last fuel (listed.setIfInBounds i true) a' w') a w
theorem wpAny_of_L : ∀ (fuel : Nat) (listed : Array Bool) (a : Act) (w : World), wpAnyL P md ops Q S last fuel listed a w → wpAny P md ops Q fuel listed a w
  | 0, _, _, _, h => h
  | fuel + 1, _, _, _, h => ⟨h.1, fun i hi => wpOp_mono (fun a' w' h' => wpAny_of_L fuel _ a' w' h'.2) (h.2 i hi)⟩
/-- Does the operation number last wait for number i? -/
def waitsFor (md : Region.Mode) (ops : Array Oper) (last i : Nat) : Bool := ((ops[last]?).map fun o => o.after.any fun e => Region.binds md e && e.on == i).getD false
theorem wpAnyL_first {i : Nat} {oi : Oper} {v : Value} (hi : ops[i]? = some oi) (hsel : ∀ (j : Nat) (o : Oper) cs b, ops[j]? = some o → o.op ≠ .select cs b)
    (hQ : ∀ c a w, Q (.panic c) (a.put oi.dst v) w → Q (.panic c) a w) (hwait : waitsFor md ops last i = true) :
    ∀ (fuel : Nat) (listed : Array Bool) (a : Act) (w : World),
      (∀ j oj, ops[j]? = some oj → j ≠ i → listed.getD j true = false → (∀ e ∈ oj.after, Region.binds md e = true → e.on ≠ i) → oi.apart ops oj = true) →
      i ∈ Region.ready md ops listed → YieldsIf P ops S oi v a → S w →
      wpAnyL P md ops Q S last fuel (listed.setIfInBounds i true) (a.put oi.dst v) w → wpAnyL P md ops Q S last (fuel + 1) listed a w := by
  intro fuel
  induction fuel with
  | zero =>
    intro listed a w _ hr hy hS H
    refine ⟨fun h => (by rw [h] at hr; cases hr), fun j hj => ?_⟩
    by_cases hji : j = i
    · subst hji; exact hy.wpOp hi hS ⟨fun _ => hS, H⟩
    · have := ready_mono hj hji
      rw [H.1] at this
      cases this
  | succ fuel ih =>
    intro listed a w hfree hr hy hS H
    refine ⟨fun h => (by rw [h] at hr; cases hr), fun j hj => ?_⟩
    by_cases hji : j = i
    · subst hji; exact hy.wpOp hi hS ⟨fun _ => hS, H⟩
    · have h1 := H.2 j (ready_mono hj hji)
      obtain ⟨hjun, oj, hoj, hall⟩ := mem_ready.1 hj
      have hnot : ∀ e ∈ oj.after, Region.binds md e = true → e.on ≠ i := fun e he hb heq => by
        have h1 := hall e he hb
        have h0 := (mem_ready.1 hr).1
        rw [heq] at h1
        rcases Nat.lt_or_ge i listed.size with h' | h'
        · simp [h'] at h0 h1; rw [h0] at h1; cases h1
        · simp [Array.getElem?_eq_none h'] at h1
      have hjl : j ≠ last := by
        rintro rfl
        unfold waitsFor at hwait
        rw [hoj] at hwait
        simp only [Option.map_some, Option.getD_some, Array.any_eq_true'] at hwait
        obtain ⟨e, he, hb⟩ := hwait
        simp only [Bool.and_eq_true, beq_iff_eq] at hb
        exact hnot e he hb.1 hb.2
      have h2 := wpOp_putIf hoj (hfree j oj hoj hji hjun hnot) (fun cs b => hsel i oi cs b hi) (fun cs b => hsel j oj cs b hoj) hQ hy h1
      have hfree' : ∀ k ok, ops[k]? = some ok → k ≠ i → (listed.setIfInBounds j true).getD k true = false →
          (∀ e ∈ ok.after, Region.binds md e = true → e.on ≠ i) → oi.apart ops ok = true := fun k ok hk hki hun hno => by
        refine hfree k ok hk hki ?_ hno
        by_cases hjk : j = k
        · subst hjk; exact hjun
        · rw [getD_set_ne true hjk] at hun; exact hun
      refine wpOp_mono (fun a' w' h3 => ⟨fun _ => h3.2.1 hjl, ih (listed.setIfInBounds j true) a' w' hfree' (ready_mono hr (Ne.symm hji)) h3.1 (h3.2.1 hjl) ?_⟩) h2
      rw [Array.setIfInBounds_comm _ _ hji]
      exact h3.2.2
theorem wpAnyL_take (i : Nat) {oi : Oper} (dst : Option Nat) (v : Value) {fuel : Nat} {listed : Array Bool} {a : Act} {w : World} (hi : ops[i]? = some oi) (hd : oi.dst = dst)
    (hs : Region.noSelect ops = true) (hf : Region.free md ops listed i = true) (hr : (Region.ready md ops listed).contains i = true) (hwait : waitsFor md ops last i = true)
    (hQ : ∀ c a w, Q (.panic c) (a.put dst v) w → Q (.panic c) a w) (hy : YieldsIf P ops S oi v a) (hS : S w)
    (h : wpAnyL P md ops Q S last fuel (listed.setIfInBounds i true) (a.put dst v) w) : wpAnyL P md ops Q S last (fuel + 1) listed a w := by
  subst hd
  exact wpAnyL_first hi (Region.noSelect_spec hs) hQ hwait fuel listed a w (Region.free_spec hi hf) (by simpa using hr) hy hS h
def AllReadyL (P : Program) (md : Region.Mode) (ops : Array Oper) (Q : Exit → Act → World → Prop) (S : World → Prop) (last : Nat) (fuel : Nat) (listed : Array Bool) (a : Act) (w : World) (rs : List Nat) : Prop :=
  ∀ i ∈ rs, wpOp P ops Q i (fun a' w' => (i ≠ last → S w') ∧ wpAnyL P md ops Q S last fuel (listed.setIfInBounds i true) a' w') a w
theorem AllReadyL.nil {fuel : Nat} {listed : Array Bool} {a : Act} {w : World} : AllReadyL P md ops Q S last fuel listed a w [] := fun _ h => by cases h
theorem AllReadyL.cons {fuel : Nat} {listed : Array Bool} {a : Act} {w : World} {i : Nat} {o : Oper} {rs : List Nat} (ho : ops[i]? = some o)
    (h : ∀ K' : Act → World → Prop, Shut (∀ a w, (i ≠ last → S w) → wpAnyL P md ops Q S last fuel (listed.setIfInBounds i true) a w → K' a w) → if Region.wanted o (yielded ops a.tmps) = true then Oper.wp P o a w K' Q else K' (a.put o.dst undef) w)
    (hs : AllReadyL P md ops Q S last fuel listed a w rs) : AllReadyL P md ops Q S last fuel listed a w (i :: rs) := fun j hj => by
  rcases List.mem_cons.1 hj with rfl | hj
  · exact wpOp_step ho (fun K' hK => h K' (fun a w hS hW => hK a w ⟨hS, hW⟩))
  · exact hs j hj
theorem wpAnyL_ready {rs : List Nat} {fuel : Nat} {listed : Array Bool} {a : Act} {w : World} (hr : Region.ready md ops listed = rs) (hne : rs ≠ [])
    (h : AllReadyL P md ops Q S last fuel listed a w rs) : wpAnyL P md ops Q S last (fuel + 1) listed a w := ⟨fun h0 => absurd (hr ▸ h0) hne, hr ▸ h⟩
theorem wpAnyL_done {listed : Array Bool} {a : Act} {w : World} (hr : Region.ready md ops listed = []) (h : Q .normal a w) : ∀ fuel, wpAnyL P md ops Q S last fuel listed a w
  | 0 => ⟨hr, h⟩
  | _ + 1 => ⟨fun _ => h, by rw [hr]; simp⟩
theorem wp_region_L (S : World → Prop) (last : Nat) {id : Nat} {a : Act} {w : World} (hm : P.follows .mixedOrders = true)
    (h : wpAnyL P .any ops Q S last ops.size (Array.replicate ops.size false) a w.drew) : (Code.region id ops true).wp P Q a w := wp_region_any hm (wpAny_of_L _ _ _ _ h)
/-- In a round of a range over a function, an operation goes as anywhere. -/
theorem Oper.wpIn_inRound {l n : Nat} {o : Oper} (hnd : ∀ c, o.op ≠ .defer c) {a : Act} {w : World} {K : Act → World → Prop} (h : o.wp P a w K Q) : o.wpIn (Fence.wide.inRound l) n P a w K Q := by
  refine ⟨fun _ _ => trivial, ?_⟩
  rw [Fence.inRound_round, Oper.semAt_some l a.eval o hnd]
  unfold Oper.wp at h
  generalize (execOp a.eval o).run P w = r at h
  unfold Oper.upon at h
  unfold Oper.uponIn
  split at h
  · exact h
  · exact h
  · exact h
  · exact ⟨fun h => (by cases h), (callsIn_wide (n := n - 1)).2 h⟩
  · refine ⟨fun h => (by cases h), fun c cs _ => ?_⟩
    obtain ⟨v, w', hr, hs⟩ := h c cs
    exact ⟨v, w', hr, stepsIn_wide.2 hs⟩
  · exact h
  · exact h.elim
theorem wpAnyIn_inRound {l n : Nat} (hno : ¬ LetsOut Q) (hnd : ∀ (j : Nat) (o : Oper) c, ops[j]? = some o → o.op ≠ .defer c) : ∀ (fuel : Nat) (listed : Array Bool) (a : Act) (w : World), wpAny P md ops Q fuel listed a w → wpAnyIn (Fence.wide.inRound l) n P md ops Q fuel listed a w
  | 0, _, _, _, h => h
  | fuel + 1, listed, a, w, h => ⟨h.1, fun i hi => by
    have hh := h.2 i hi
    unfold wpOp at hh
    unfold wpOpIn
    cases ho : ops[i]? with
    | none => rw [ho] at hh; exact wpAnyIn_inRound hno hnd fuel _ _ _ hh
    | some o =>
      rw [ho] at hh
      simp only at hh ⊢
      split
      · rename_i hw
        rw [if_pos hw] at hh
        exact Oper.wpIn_inRound (fun c => hnd i o c ho) (Oper.wp_mono (fun a w h => wpAnyIn_inRound hno hnd fuel _ a w h) (hh.elim id (fun h => absurd h.2 hno)))
      · rename_i hw
        rw [if_neg hw] at hh
        exact ⟨fun _ _ => trivial, wpAnyIn_inRound hno hnd fuel _ _ _ hh⟩⟩
def noDefer (ops : Array Oper) : Bool := ops.all fun o => match o.op with | .defer _ => false | _ => true
theorem noDefer_spec (h : noDefer ops = true) : ∀ (j : Nat) (o : Oper) c, ops[j]? = some o → o.op ≠ .defer c := fun j o c hj he => by
  unfold noDefer at h
  rw [Array.all_eq_true'] at h
  have := h o (Array.mem_of_getElem? hj)
  rw [he] at this
  cases this
/-- A drawn region in a round: every order, as anywhere. -/
theorem wpIn_region_round (S : World → Prop) (last : Nat) {l n id : Nat} {a : Act} {w : World} (hm : P.follows .mixedOrders = true) (hd : noDefer ops = true) (hno : ¬ LetsOut Q)
    (h : wpAnyL P .any ops Q S last ops.size (Array.replicate ops.size false) a w.drew) : (Code.region id ops true).wpIn (Fence.wide.inRound l) n P Q a w :=
  wpIn_region_any hm (wpAnyIn_inRound hno (noDefer_spec hd) _ _ _ _ (wpAny_of_L _ _ _ _ h))
end
end Go.Proofs.Ytnganmekiloigaa
/-! ### For write: helpers in a round's fence; what a Write of a piece leaves. -/
namespace Go.Proofs.Ytnganmekiloigaa
open Go.RowKit
set_option maxRecDepth 100000
section
variable {P : Program} {ops : Array Oper} {Q : Exit → Act → World → Prop} {S : World → Prop}
/-- An operation in a round's fence, by what it comes to outside of one. -/
theorem wpListIn_of_step {l n : Nat} {rest : List Oper} {o : Oper} {a : Act} {w : World} (hg : o.guard = none) (hnd : ∀ c, o.op ≠ .defer c)
    (h : ∀ K : Act → World → Prop, (∀ a w, wpListIn (Fence.wide.inRound l) n P ops Q rest a w → K a w) → if Region.wanted o (yielded ops a.tmps) = true then Oper.wp P o a w K Q else True) : wpListIn (Fence.wide.inRound l) n P ops Q (o :: rest) a w :=
  wpListIn_plain hg fun K hK => Oper.wpIn_inRound hnd (by
    have := h K hK
    rw [if_pos (by simp [Region.wanted, hg])] at this
    exact this)
/-- A region that draws, in a round's fence. -/
theorem wpIn_region_held_round {l n id : Nat} {a : Act} {w : World} (hm : P.follows .mixedOrders = true) (hd : noDefer ops = true) (hno : ¬ LetsOut Q) (hS : S w.drew)
    (h : S w.drew → wpAnyH P .any ops Q S ops.size (Array.replicate ops.size false) a w.drew) : (Code.region id ops true).wpIn (Fence.wide.inRound l) n P Q a w :=
  wpIn_region_any hm (wpAnyIn_inRound hno (noDefer_spec hd) _ _ _ _ (wpAny_of_held _ _ _ _ (h hS)))
end
theorem pieceP_ok {l : Bs} {e p i : Nat} (he : e < 65536) (hp : p + i < 65536) (hi : i < np l) (hl : l.length ≤ 3648) : (pieceP l e p i).Ok := by
  have hn : np l ≤ 64 := by unfold np; omega
  have hpl : (partOf l i).length ≤ 57 := by rw [part_length]; omega
  exact ⟨he, hp, by show i < 256; omega, by show np l < 256; omega, by show (partOf l i).length < 256; omega, pad57_length hpl⟩
theorem secX_piece (l : Bs) (e p i : Nat) : secX (pieceP l e p i) = secOf e (p + i) i (np l) (partOf l i) := rfl
/-- A disk with more that waits. -/
def Dk.more (D : Dk) (b : Nat) (X : List Bs) : Dk := { D with wait := D.wait ++ waitOf b X }
theorem more_write {D : Dk} {b : Nat} {X : List Bs} {x : Bs} (hc : D.cut = false) (ho : D.off = false) (hx : x.length = 64) (hb : b + X.length < D.secs.length) : (D.more b X).write ((b + X.length : Nat) : Int) x = (0, D.more b (X ++ [x])) := by
  have hr : (D.more b X).reach ((b + X.length : Nat) : Int) = 0 := by
    unfold Dk.reach Dk.more
    simp only [ho, Bool.false_eq_true, if_false]
    rw [if_pos ⟨by omega, by omega⟩]
  have hsp : (D.more b X).spend = (true, D.more b X) := by unfold Dk.spend Dk.more; rw [if_neg (by simp [hc])]
  unfold Dk.write
  rw [if_pos hr, if_pos (by omega), hsp]
  simp only [if_true]
  unfold Dk.more
  simp [waitOf_append, waitOf, pad, hx]
  omega
theorem lay_take {e p i : Nat} {l : Bs} (hi : i < np l) : (layP e p l).take (i + 1) = (layP e p l).take i ++ [secOf e (p + i) i (np l) (partOf l i)] := take_step (lay_get hi)
/-- pieces: the function, and its boxes. -/
theorem pieces102 (a : Option Addr) (n c : Nat) (e p : Int) (W : World) : Calls Try.prog 102 #[.slice a n c, .int .i64 e, .int .i64 p] W fun e' w' => e' = .returned (.func (.func 110) #[] #[.pointer (some ⟨W.heap.size, 0, none⟩), .pointer (some ⟨W.heap.size + 1, 0, none⟩), .pointer (some ⟨W.heap.size + 2, 0, none⟩)]) ∧ w' = ((W.alloc (.cells #[.slice a n c] 33)).alloc (.cells #[.int .i64 e] 3)).alloc (.cells #[.int .i64 p] 3) := by
  go_enter Try.func102, Try.ntmps102
  go_wp2
  go_ret
  exact ⟨rfl, rfl⟩
end Go.Proofs.Ytnganmekiloigaa
