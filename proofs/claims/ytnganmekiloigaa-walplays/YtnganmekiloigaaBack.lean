/- slices.Backward over Writes that wait: what it yields. -/
import Derived.Test.YtnganmekiloigaaWr2
import Derived.RangeFuncNested
import Derived.RangeFuncBound
import Derived.RangeFuncCalls
import Derived.RangeFuncLeaves
import Derived.Shelf.Abstract
import Derived.OwnWalkIn
import Derived.TacticsInMore
import Derived.LoopNIn
import Derived.LoopIn
namespace Go.Proofs.Ytnganmekiloigaa
open Go.RowKit Go.Shelf
set_option maxRecDepth 100000
attribute [local go_sem] Oper.semAt_some

/-! ### rows within a fence -/
theorem wpListIn_load_row {F : Fence} {n : Nat} {P : Program} {ops : Array Oper} {rest : List Oper} {o : Oper} {a : Act} {w : World} {Q : Exit → Act → World → Prop} (hg : o.guard = none) (ty : TypeId) (x : Operand) (hop : o.op = .load ty x)
    (b off : Nat) (hx : a.eval x = .pointer (some ⟨b, off, none⟩)) (cs : List Value) (d : TypeDesc) (hc : w.rangeAt b off cs)
    (hu : P.underlying ty = some d) (hd : d.isRow = true) (hi : (P.info? ty).map (·.size) = some cs.length)
    (h : wpListIn F n P ops Q rest (a.put o.dst (.agg cs.toArray)) w) : wpListIn F n P ops Q (o :: rest) a w := by
  refine wpListIn_plain hg fun K hK' => ?_
  unfold Oper.wpIn
  refine ⟨?_, ?_⟩
  · simp [Oper.about, hop]
  · rw [Oper.semAt_plain F _ _ (by rw [hop]; intro c hc'; cases hc')]
    simp only [execOp, hop, hx, Instr.loadAt, Instr.sureAddr, Sem.run_bind, Sem.run_pure, Result.andThen_ok, run_loadVar_mid w b off ty cs d hc hu hd hi]
    exact hK' _ _ h
theorem wpListIn_store_whole {F : Fence} {n : Nat} {P : Program} {ops : Array Oper} {rest : List Oper} {op : Oper} {a : Act} {w : World} {Q : Exit → Act → World → Prop} (hgd : op.guard = none) (ty : TypeId) (x y : Operand) (ho : op.op = .store ty x y)
    (b : Nat) (cs : List Value) (hx : a.eval x = .pointer (some ⟨b, 0, none⟩)) (hy : a.eval y = .agg cs.toArray) (l : List Value) (t : TypeId) (hb : Blk w b l t) (hl : cs.length = l.length)
    (hi : (P.info? ty).map (·.size) = some cs.length) (h1 : ∀ v ∈ cs, v.oneCell' = true)
    (h : ∀ w', Blk w' b cs t → Keep (fun k => k = b) w w' → w'.heap.size = w.heap.size → wpListIn F n P ops Q rest (a.put op.dst undef) w') : wpListIn F n P ops Q (op :: rest) a w := by
  refine wpListIn_plain hgd fun K hK' => ?_
  have hs := hb.sets (o := 0) (vs := cs) (by omega)
  rw [show splice l 0 cs = cs by simp [splice, hl]] at hs
  have hst := run_storeVar_mid (P := P) w b 0 ty cs.toArray (hb.there (by simp; omega)) (by simpa using hi) (all_oneCell_toArray h1)
  unfold Oper.wpIn
  refine ⟨?_, ?_⟩
  · simp [Oper.about, ho]
  · rw [Oper.semAt_plain F _ _ (by rw [ho]; intro c hc'; cases hc')]
    simp only [execOp, ho, hx, hy, Instr.storeAt, Instr.sureAddr, Sem.run_bind, Sem.run_pure, Result.andThen_ok, hst]
    exact hK' _ _ (h _ hs (Keep.sets (F := fun k => k = b) (Keep.refl _ w) (.inr rfl) _ _) (size_setCells _ _ _ _))

/-! ### what is yielded -/
/-- A place, and the Write that waits there. -/
abbrev We := { x : Nat × Nat × Bs // x.2.2.length = 64 }
def encW (x : We) : Array Value := #[.int .i64 (x.1.1 : Int), .agg (cellW x.1.2.1 x.1.2.2).toArray]
/-- The Write at a place. -/
def elemW (l : List (Nat × Bs)) (i : Nat) : We := if h : (l.getD i (0, Z64)).2.length = 64 then ⟨(i, l.getD i (0, Z64)), h⟩ else ⟨(i, (0, Z64)), Z64_length⟩
/-- What has come behind so many rounds. -/
def backW (l : List (Nat × Bs)) (m : Nat) : List We := (List.range m).map fun r => elemW l (l.length - 1 - r)
theorem backW_succ (l : List (Nat × Bs)) (m : Nat) : backW l (m + 1) = backW l m ++ [elemW l (l.length - 1 - m)] := by simp [backW, List.range_succ]
theorem backW_length (l : List (Nat × Bs)) (m : Nat) : (backW l m).length = m := by simp [backW]
theorem elemW_val {l : List (Nat × Bs)} {i : Nat} {x : Nat × Bs} (h : l[i]? = some x) (h64 : x.2.length = 64) : (elemW l i).1 = (i, x) := by
  have e : l.getD i (0, Z64) = x := by rw [List.getD_eq_getElem?_getD, h]; rfl
  unfold elemW
  rw [dif_pos (by rw [e]; exact h64)]
  exact congrArg (Prod.mk i) e

/-- The Writes lie in a row: the one at a place. -/
theorem WRow.at' {t B : Nat} {v : Value} {l : List (Nat × Bs)} {W : World} (h : WRow t B v l W) (h64 : ∀ x ∈ l, x.2.length = 64) {i : Nat} {x : Nat × Bs} (hx : l[i]? = some x) :
    ∃ g c, v = .slice (some ⟨g, 0, none⟩) l.length c ∧ W.rangeAt g (i * 65) (cellW x.1 x.2) := by
  have hil := (List.getElem?_eq_some_iff.1 hx).1
  have hc : ∀ (l : List (Nat × Bs)) (i : Nat) (x : Nat × Bs), (∀ x ∈ l, x.2.length = 64) → l[i]? = some x → ∀ j v, (cellW x.1 x.2)[j]? = some v → (cellsW l)[i * 65 + j]? = some v := by
    intro l
    induction l with
    | nil => intro i x _ hx; simp at hx
    | cons y l ih =>
      intro i x h64 hx j v hv
      have hy : (cellW y.1 y.2).length = 65 := cellW_length (h64 y (by simp))
      rw [show cellsW (y :: l) = cellW y.1 y.2 ++ cellsW l by simp [cellsW, cellW]]
      cases i with
      | zero =>
        simp at hx
        subst hx
        rw [Nat.zero_mul, Nat.zero_add, List.getElem?_append_left (List.getElem?_eq_some_iff.1 hv).1]
        exact hv
      | succ i =>
        rw [List.getElem?_append_right (by rw [hy]; omega), hy, show (i + 1) * 65 + j - 65 = i * 65 + j by omega]
        exact ih i x (fun z hz => h64 z (by simp [hz])) (by simpa using hx) j v hv
  obtain ⟨g, c, hv⟩ : ∃ g c, v = .slice (some ⟨g, 0, none⟩) l.length c := by
    obtain ⟨_, ⟨rfl, h2⟩ | ⟨g, cap, cur, rfl, _⟩⟩ := h
    · omega
    · exact ⟨g, cap, rfl⟩
  refine ⟨g, c, hv, fun j u hu => ?_⟩
  subst hv
  have := World.ownsRow.cells h (g := g) rfl (i * 65 + j) u (hc l i x h64 hx j u hu)
  rw [Addr.add_mid, Nat.zero_add] at this
  exact this

theorem WRow.below {t B : Nat} {v : Value} {l : List (Nat × Bs)} {W W' : World} {n₀ : Nat} (h : WRow t B v l W) (hb : Below n₀ W W') (hn : ∀ k, v.ownBlock = some k → k < n₀) : WRow t B v l W' := by
  obtain ⟨h1, h2 | ⟨g, cap, cur, rfl, hBg, hw, hnn, hcap, hz, htk⟩⟩ := h
  · exact ⟨h1, .inl h2⟩
  · exact ⟨h1, .inr ⟨g, cap, cur, rfl, hBg, by rw [hb.block g (hn g rfl)]; exact hw, hnn, hcap, hz, htk⟩⟩

set_option maxHeartbeats 1000000 in
theorem back105 (F : Fence) (n : Nat) (h6 : F.fn 105) (hro : F.round = none) (hn : 1 ≤ n) (l Bn n₀ d : Nat) (wv : Value) (ws : List (Nat × Bs)) (h64 : ∀ x ∈ ws, x.2.length = 64) (hlen : ws.length ≤ 100000) (J Jx : List We → World → Prop)
    (hY : ∀ pre x W, J pre W → pre.length < ws.length → YieldAt F (n - 1) Try.prog l (encW x) W fun e W' =>
      (e = .returned (.bool true) ∧ J (pre ++ [x]) W' ∧ Below n₀ W W') ∨ (e = .returned (.bool false) ∧ Jx (pre ++ [x]) W'))
    (W : World) (hBn : W.cell? ⟨Bn, 0, none⟩ = some wv) (hBn0 : Bn < n₀) (hW : WRow 93 d wv ws W) (hWn : ∀ k, wv.ownBlock = some k → k < n₀) (h0 : J [] W) :
    CallsIn F n Try.prog 105 #[.func (.yield l) #[] #[], .pointer (some ⟨Bn, 0, none⟩)] W fun e W' => (∃ v, e = .returned v) ∧
      ((∃ ys, ys = backW ws ws.length ∧ J ys W') ∨ (∃ pre, (∃ m, m ≤ ws.length ∧ pre = backW ws m) ∧ Jx pre W')) := by
  obtain ⟨N, hN⟩ : ∃ N, ws.length = N := ⟨_, rfl⟩
  have HN : Hid (ws.length = N) := hN
  obtain ⟨wa, wc, rfl⟩ : ∃ a c, wv = .slice a N c := by
    obtain ⟨_, ⟨rfl, h2⟩ | ⟨g, cap, cur, rfl, _⟩⟩ := hW
    · exact ⟨none, 0, by rw [← hN, h2]⟩
    · exact ⟨_, cap, by rw [hN]⟩
  have H64 : Hid (∀ x ∈ ws, x.2.length = 64) := h64
  have HW : Hid (WRow 93 d (.slice wa N wc) ws W) := hW
  have HWn : Hid (∀ k, (Value.slice wa N wc).ownBlock = some k → k < n₀) := hWn
  have HY : Hid (∀ pre x W, J pre W → pre.length < ws.length → YieldAt F (n - 1) Try.prog l (encW x) W fun e W' =>
      (e = .returned (.bool true) ∧ J (pre ++ [x]) W' ∧ Below n₀ W W') ∨ (e = .returned (.bool false) ∧ Jx (pre ++ [x]) W')) := hY
  rw [hN] at hlen ⊢
  clear h64 hW hWn hY hN
  refine callsIn_of_wp Try.func105 rfl h6 ?_ hro
  simp only [Try.ntmps105, List.size_toArray, List.length_cons, List.length_nil, Nat.reduceAdd, Nat.reduceSub, Array.replicate_succ, Array.replicate_zero, List.push_toArray, List.append_toArray, List.nil_append, List.cons_append]
  gi_wp2
  gi_loopw [3] (fun p wr => ∃ m : Nat, m ≤ N ∧ p = .int .i64 ((N : Int) - 1 - (m : Int)) ∧ J (backW ws m) wr ∧ Below n₀ W wr) (fun p _ => ((intOf p) + 1).toNat)
  case atStart => exact ⟨0, by omega, by simp, h0, Below.refl _ _⟩
  case round =>
    obtain ⟨m, hm, rfl, hJ, hB⟩ := hrel
    have hcw : wr.cell? ⟨Bn, 0, none⟩ = some (.slice wa N wc) := (hB.cell (p := ⟨Bn, 0, none⟩) hBn0).trans hBn
    by_cases hlt : m < N
    · have h1 : (0 : Int) ≤ (N : Int) - 1 - (m : Int) := by omega
      obtain ⟨x, hx⟩ : ∃ x, ws[N - 1 - m]? = some x := ⟨_, List.getElem?_eq_getElem (by rw [HN.out]; omega)⟩
      have hx64 := H64.out x (List.mem_of_getElem? hx)
      obtain ⟨g, c, he, hrg⟩ := (HW.out.below hB HWn.out).at' H64.out hx
      have hwa : wa = some ⟨g, 0, none⟩ := by
        have := he
        simp only [Value.slice.injEq] at this
        exact this.1
      subst hwa
      clear he
      obtain ⟨fn, tmps, assign, body, hy, hR⟩ := HY.out (backW ws m) (elemW ws (N - 1 - m)) wr hJ (by rw [backW_length, HN.out]; exact hlt)
      have hev : (elemW ws (N - 1 - m)).1 = (N - 1 - m, x) := elemW_val hx hx64
      have henc : encW (elemW ws (N - 1 - m)) = #[.int .i64 ((N : Int) - 1 - (m : Int)), .agg (cellW x.1 x.2).toArray] := by
        unfold encW
        rw [hev]
        simp only
        rw [show ((N - 1 - m : Nat) : Int) = (N : Int) - 1 - (m : Int) by omega]
      have hbs : backW ws (m + 1) = backW ws m ++ [elemW ws (N - 1 - m)] := by rw [backW_succ, HN.out]
      have HBS : Hid (backW ws (m + 1) = backW ws m ++ [elemW ws (N - 1 - m)]) := hbs
      rw [henc] at hy
      have hcl : (cellW x.1 x.2).length = 65 := cellW_length hx64
      have hi : (Try.prog.info? 93).map (·.size) = some (cellW x.1 x.2).length := by rw [hcl]; exact info93s
      have hidx : ((N : Int) - 1 - (m : Int)).toNat = N - 1 - m := by omega
      generalize cellW x.1 x.2 = cw at *
      generalize hew : elemW ws (N - 1 - m) = ew at *
      clear hev henc hbs hx hx64 hew
      gi_wp2_with (first
        | (refine wpListIn_load_row (by rfl) 93 (.tmp 15) (by rfl) g ((N - 1 - m) * 65) (by rfl) cw _ hrg Try.underlying93 rfl hi ?_))
      refine hR.mono ?_
      rintro e W3 (⟨rfl, hJ3, hk3⟩ | ⟨rfl, hJx3⟩)
      · gi_wp2
        go_roundw
        case rel => exact ⟨m + 1, by omega, by rw [show (N : Int) - 1 - (m : Int) - 1 = (N : Int) - 1 - ((m + 1 : Nat) : Int) by omega], by rw [HBS.out]; exact hJ3, hB.trans hk3⟩
        case measure => simp only [intOf]; omega
      · gi_wp2
        refine bodyPost_ret (results_none rfl _ _ _) rfl ?_
        exact ⟨⟨_, rfl⟩, .inr ⟨_, ⟨m + 1, by omega, rfl⟩, by rw [HBS.out]; exact hJx3⟩⟩
    · have h1 : ¬ ((0 : Int) ≤ (N : Int) - 1 - (m : Int)) := by omega
      have hmN : m = N := by omega
      subst hmN
      gi_wp2
      go_end0
      exact ⟨⟨_, rfl⟩, .inl hJ⟩

/-- slices.Backward: the slice is boxed, the function value holds the box. -/
theorem back86 (F : Fence) (n : Nat) (h5 : F.fn 86) (hro : F.round = none) (a : Option Addr) (k c : Nat) (w : World) :
    CallsIn F n Try.prog 86 #[.slice a k c] w fun e w' => e = .returned (.func (.func 105) #[] #[.pointer (some ⟨w.heap.size, 0, none⟩)]) ∧ w' = w.alloc (.cells #[.slice a k c] 87) := by
  refine callsIn_of_wp Try.func86 rfl h5 ?_ hro
  simp only [Try.ntmps86, List.size_toArray, List.length_cons, List.length_nil, Nat.reduceAdd, Nat.reduceSub, Array.replicate_succ, Array.replicate_zero, List.push_toArray, List.append_toArray, List.nil_append, List.cons_append]
  gi_wp2
  go_ret
  exact ⟨rfl, rfl⟩

/-- It hands back a value that yields the Writes from the last on, or stops. -/
theorem back_stops (F : Fence) (n : Nat) (h6 : F.fn 105) (hro : F.round = none) (hn : 1 ≤ n) (Bn n₀ d : Nat) (wv : Value) (ws : List (Nat × Bs)) (h64 : ∀ x ∈ ws, x.2.length = 64) (hlen : ws.length ≤ 100000) (w : World) (hBn : Bn < n₀) (hn₀ : n₀ ≤ w.heap.size)
    (hc : w.cell? ⟨Bn, 0, none⟩ = some wv) (hW : WRow 93 d wv ws w) (hWn : ∀ k, wv.ownBlock = some k → k < n₀) :
    SeqStopsK F n Try.prog 105 #[.pointer (some ⟨Bn, 0, none⟩)] encW (Below n₀) (fun ys => ys = backW ws ws.length) (fun pre => ∃ m, m ≤ ws.length ∧ pre = backW ws m) ws.length w := fun l J Jx W hW' _ _ hY h0 =>
  back105 F n h6 hro hn l Bn n₀ d wv ws h64 hlen J Jx hY W ((hW'.cell (p := ⟨Bn, 0, none⟩) (by simp; omega)).trans hc) hBn (hW.below (hW'.mono hn₀) hWn) hWn h0

end Go.Proofs.Ytnganmekiloigaa
