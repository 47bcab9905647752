/- Steps for the document's disk: an empty slice, append of a slice that may be none. -/
import Derived.Test.YtnganmekiloigaaRf
import Derived.Deep.Upon
import Derived.Deep.AppendSrc
import Derived.Laws.OwnMore
namespace Go.Proofs.Ytnganmekiloigaa
open Go.RowKit
set_option maxRecDepth 100000

theorem run_build0 {P : Program} (w : World) (t e : TypeId) (z : Value) (m : Nat) (hu : P.underlying t = some (.slice e)) (hi : (P.info? e).map (fun i => (i.zero, i.size)) = some (some z, m)) :
    (Instr.buildSlice t 0 #[]).run P w = .ok (.slice (some ⟨w.heap.size, 0, none⟩) 0 0) (w.alloc (.cells #[] e)) := by
  cases hq : P.info? e with
  | none => simp [hq] at hi
  | some i =>
    simp [Instr.buildSlice, Sem.run_bind, run_underlying hu, sizeOf, typeInfo, hq, Instr.fill, newRow, newObj]
    rw [show (Array.map (fun _ => (default : Value)) (Array.range 0)) = #[] by simp]
    rfl
theorem step_build0 {P : Program} {ops : Array Oper} {o : Oper} {a : Act} {w : World} {K : Act → World → Prop} {Q : Exit → Act → World → Prop} {E : Prop} (hgd : o.guard = none) (dst : Option Nat) (hd : o.dst = dst) (t e : TypeId) (ho : o.op = .buildSlice t 0 #[]) (z : Value) (m : Nat)
    (hu : P.underlying t = some (.slice e)) (hi : (P.info? e).map (fun i => (i.zero, i.size)) = some (some z, m))
    (h : ∀ w', Below w.heap.size w w' → w'.heap.size = w.heap.size + 1 → w'.ownsRow w.heap.size e m (.slice (some ⟨w.heap.size, 0, none⟩) 0 0) 0 [] → K (a.put dst (.slice (some ⟨w.heap.size, 0, none⟩) 0 0)) w') : if Region.wanted o (yielded ops a.tmps) = true then Oper.wp P o a w K Q else E := by
  subst hd
  have hw : Region.wanted o (yielded ops a.tmps) = true := by simp [Region.wanted, hgd]
  rw [if_pos hw]
  unfold Oper.wp execOp
  simp only [ho, List.map_toArray, List.map_nil, Sem.run_bind, run_build0 w t e z m hu hi, Result.andThen_ok, Sem.run_pure]
  exact h _ (al w _) (by simp) (World.ownsRow_lit w #[] 0 (Nat.le_refl _) (by simp [maxLen]) (by simp))
/-- What may be appended. -/
def SrcOf (size : Nat) (w : World) (x : Value) (m : Nat) (news : List Value) : Prop := (x = .slice none 0 0 ∧ m = 0 ∧ news = []) ∨ (∃ g c, x = .slice (some ⟨g, 0, none⟩) m c ∧ 0 ≤ m ∧ news.length = m * size ∧ w.rangeAt g 0 news ∧ ∀ u ∈ news, u.oneCell' = true)
theorem step_append_src {P : Program} {w : World} {ops : Array Oper} {o : Oper} {a : Act} {K : Act → World → Prop} {Q : Exit → Act → World → Prop} {E : Prop} (hgd : o.guard = none) (dst : Option Nat) (hd : o.dst = dst) (s x : Operand) (t : TypeId)
    (ho : o.op = .call { callee := .builtin .append, args := #[s, x], argTypes := #[t, t] })
    (base : Nat) (e : TypeId) (i : TypeInfo) (z : Value) (size bytes : Nat) (ht : P.underlying t = some (.slice e)) (hi : P.info? e = some i) (hz : i.zero = some z)
    (hsize : i.size = size) (hby : i.bytes = bytes) (hzs : z.cells.size = size) (hsz : 0 < size)
    (v : Value) (n : Nat) (xs : List Value) (hs : a.eval s = v) (hown : w.ownsRow base e size v n xs) (hne : v.ownBlock ≠ none)
    (xval : Value) (m : Nat) (news : List Value) (hx : a.eval x = xval) (hsrc : SrcOf size w xval m news)
    (h63 : n + m ≤ maxLen) (hbytes : (n + m) * bytes ≤ 140737488355328) (hbase : base ≤ w.heap.size)
    (h : ∀ g cap w', w'.ownsRow base e size (.slice (some ⟨g, 0, none⟩) (n + m) cap) (n + m) (xs ++ news) → w.grownBy w' v.ownBlock → (v.ownBlock = some g ∨ g = w.heap.size) → g < w'.heap.size → K (a.put dst (.slice (some ⟨g, 0, none⟩) (n + m) cap)) w') :
    if Region.wanted o (yielded ops a.tmps) = true then Oper.wp P o a w K Q else E := by
  rcases hsrc with ⟨rfl, rfl, rfl⟩ | ⟨g, c, rfl, h0, hl, hr, h1⟩
  · subst hd
    have hw : Region.wanted o (yielded ops a.tmps) = true := by simp [Region.wanted, hgd]
    rw [if_pos hw]
    obtain ⟨g, cap, cur, rfl, hrest⟩ : ∃ g cap cur, v = .slice (some ⟨g, 0, none⟩) n cap ∧ base ≤ g ∧ w.heap[g]? = some (.cells cur e (0, 0)) ∧ n ≤ cap ∧ True := by
      rcases hown.2 with ⟨rfl, _⟩ | ⟨g, cap, cur, rfl, h1, h2, h3, _⟩
      · exact absurd rfl hne
      · exact ⟨g, cap, cur, rfl, h1, h2, h3, trivial⟩
    have hrun := run_append_nothing (P := P) w t t o.type e i ht hi (some ⟨g, 0, none⟩) n cap hrest.2.2.1 (.slice none 0 0) (Src.ofNil w ht 0)
    have := h g cap w (by simpa using hown) ⟨rfl, rfl, rfl, Nat.le_refl _, fun _ _ _ => rfl⟩ (.inl rfl) (Array.getElem?_eq_some_iff.1 hrest.2.1).1
    unfold Oper.wp
    simp [execOp, ho, resolve, invoke, builtin, hs, hx, hrun, Result.andThen]
    exact this
  · by_cases hm0 : m = 0
    · subst hm0
      obtain rfl : news = [] := List.eq_nil_of_length_eq_zero (by omega)
      subst hd
      have hw : Region.wanted o (yielded ops a.tmps) = true := by simp [Region.wanted, hgd]
      rw [if_pos hw]
      obtain ⟨g', cap, cur, rfl, hrest⟩ : ∃ g cap cur, v = .slice (some ⟨g, 0, none⟩) n cap ∧ base ≤ g ∧ w.heap[g]? = some (.cells cur e (0, 0)) ∧ n ≤ cap ∧ True := by
        rcases hown.2 with ⟨rfl, _⟩ | ⟨g, cap, cur, rfl, h1, h2, h3, _⟩
        · exact absurd rfl hne
        · exact ⟨g, cap, cur, rfl, h1, h2, h3, trivial⟩
      have hrun := run_append_nothing (P := P) w t t o.type e i ht hi (some ⟨g', 0, none⟩) n cap hrest.2.2.1 (.slice (some ⟨g, 0, none⟩) 0 c) (Src.ofSlice w ht ⟨g, 0, none⟩ 0 c [] (by simp) (fun j u hu => by simp at hu) (fun u hu => by simp at hu))
      have := h g' cap w (by simpa using hown) ⟨rfl, rfl, rfl, Nat.le_refl _, fun _ _ _ => rfl⟩ (.inl rfl) (Array.getElem?_eq_some_iff.1 hrest.2.1).1
      unfold Oper.wp
      simp [execOp, ho, resolve, invoke, builtin, hs, hx, hrun, Result.andThen]
      exact this
    · have h0 : 0 < m := Nat.pos_of_ne_zero hm0
      exact step_append_lies' hgd dst hd s x t ho base e i z size bytes ht hi hz hsize hby hzs hsz v n xs hs hown ⟨g, 0, none⟩ m c news hx hl (fun j u hu => by rw [Addr.add_mid]; exact hr j u hu) h1 h0 h63 hbytes hbase h

/-- The same two, the block a letter. -/
theorem step_build0' {P : Program} {ops : Array Oper} {o : Oper} {a : Act} {w : World} {K : Act → World → Prop} {Q : Exit → Act → World → Prop} {E : Prop} (hgd : o.guard = none) (dst : Option Nat) (hd : o.dst = dst) (t e : TypeId) (ho : o.op = .buildSlice t 0 #[]) (z : Value) (m : Nat)
    (hu : P.underlying t = some (.slice e)) (hi : (P.info? e).map (fun i => (i.zero, i.size)) = some (some z, m)) {wd : World} (hB : Below wd.heap.size wd w)
    (h : ∀ g w', g = w.heap.size → Below w.heap.size w w' → w'.heap.size = w.heap.size + 1 → w'.ownsRow wd.heap.size e m (.slice (some ⟨g, 0, none⟩) 0 0) 0 [] → K (a.put dst (.slice (some ⟨g, 0, none⟩) 0 0)) w') : if Region.wanted o (yielded ops a.tmps) = true then Oper.wp P o a w K Q else E := by
  subst hd
  have hw : Region.wanted o (yielded ops a.tmps) = true := by simp [Region.wanted, hgd]
  rw [if_pos hw]
  unfold Oper.wp execOp
  simp only [ho, List.map_toArray, List.map_nil, Sem.run_bind, run_build0 w t e z m hu hi, Result.andThen_ok, Sem.run_pure]
  exact h _ _ rfl (al w _) (by simp) (World.ownsRow_lit w #[] 0 hB.size (by simp [maxLen]) (by simp))
theorem step_build1' {P : Program} {ops : Array Oper} {o : Oper} {a : Act} {w : World} {K : Act → World → Prop} {Q : Exit → Act → World → Prop} {E : Prop} (hgd : o.guard = none) (dst : Option Nat) (hd : o.dst = dst) (t e : TypeId) (x : Operand) (ho : o.op = .buildSlice t 1 #[(0, x)])
    (cs : List Value) (hx : a.eval x = .agg cs.toArray) (z : Value) (hu : P.underlying t = some (.slice e)) (hi : (P.info? e).map (fun i => (i.zero, i.size)) = some (some z, cs.length)) (hz : z.cells.size = cs.length) (h24 : cs.length ≤ 1000) (hpos : 0 < cs.length)
    (h : ∀ g w', g = w.heap.size → Below w.heap.size w w' → w'.heap.size = w.heap.size + 1 → Blk w' g cs e → K (a.put dst (.slice (some ⟨g, 0, none⟩) 1 1)) w') : if Region.wanted o (yielded ops a.tmps) = true then Oper.wp P o a w K Q else E :=
  step_buildSlice1 hgd dst hd t e x ho cs hx z hu hi hz h24 hpos (h _ _ rfl (al w _) (by simp) (blk_new w cs e))
theorem own_below {W W' : World} {base e size n : Nat} {v : Value} {xs : List Value} (h : W.ownsRow base e size v n xs) (hb : Below W.heap.size W W') : W'.ownsRow base e size v n xs := by
  obtain ⟨h1, h2 | ⟨g, cap, cur, rfl, hBg, hw, hn, hcap, hz, htk⟩⟩ := h
  · exact ⟨h1, .inl h2⟩
  · exact ⟨h1, .inr ⟨g, cap, cur, rfl, hBg, by rw [hb.block g (Array.getElem?_eq_some_iff.1 hw).1]; exact hw, hn, hcap, hz, htk⟩⟩
theorem below_grown {wd w w' : World} {g : Nat} (hB : Below wd.heap.size wd w) (hg : w.grownBy w' (some g)) (h : wd.heap.size ≤ g) : Below wd.heap.size wd w' := hB.grown hg hB.size (fun k e => by cases e; exact h)
theorem blk_grown {w w' : World} {g b : Nat} {l : List Value} {t : TypeId} (h : Blk w b l t) (hg : w.grownBy w' (some g)) (hne : b ≠ g) : Blk w' b l t := h.block (hg.block b h.lt (fun e => hne (by cases e; rfl)))
theorem src_blk {w : World} {g : Nat} {cs : List Value} {t : TypeId} (h : Blk w g cs t) (hl : cs.length = 65) (h1 : ∀ u ∈ cs, u.oneCell' = true) : SrcOf 65 w (.slice (some ⟨g, 0, none⟩) 1 1) 1 cs := .inr ⟨g, 1, rfl, by omega, by omega, h.whole, h1⟩
theorem src_x {w wd : World} {r : Nat} {xv : Value} {l : List (Nat × Bs)} (h : XRow wd r xv l) (h64 : ∀ x ∈ l, x.2.length = 64) (hB : Below wd.heap.size wd w) : SrcOf 65 w xv l.length (cellsW l) := by
  rcases h with ⟨rfl, rfl⟩ | ⟨g, c, rfl, h0, hr, hg, hn⟩
  · exact .inl ⟨rfl, rfl, rfl⟩
  · exact .inr ⟨g, c, rfl, h0, cellsW_length l h64, fun j v hv => (hB.cell (p := ⟨g, 0 + j, none⟩) hg).trans (hr j v hv), cellsW_one l⟩
/-- What was pushed is the disk's. -/
theorem RD.push {wd w : World} {r : Nat} {lv xv : Value} {D : Dk} (h : RD wd r lv xv D) (hB : Below wd.heap.size wd w) (i : Nat) (b : Bs) (hi : i < D.secs.length) (hb : b.length = 64) {g cap : Nat} (ho : w.ownsRow wd.heap.size 105 65 (.slice (some ⟨g, 0, none⟩) (D.wait.length + 1) cap) (D.wait.length + 1) (cellsW D.wait ++ cellW i b)) :
    RD (w.setCell ⟨r, 1, none⟩ (.slice (some ⟨g, 0, none⟩) (D.wait.length + 1) cap)) r lv (.slice (some ⟨g, 0, none⟩) (D.wait.length + 1) cap) { D with wait := D.wait ++ [(i, b)] } := by
  have h2 := h.below hB
  obtain ⟨L, hx, hL⟩ := h2.dx
  have hgl := World.ownsRow.lt ho g rfl
  have hr := h.rlt
  have hk : ∀ k v, k ≠ r → (w.setCell ⟨r, 1, none⟩ v).heap[k]? = w.heap[k]? := fun k v hk => Below.heap_setCell _ _ _ _ hk
  have hsz : ∀ v, (w.setCell ⟨r, 1, none⟩ v).heap.size = w.heap.size := fun v => by simp [World.setCell]
  refine ⟨⟨L, hx.set1 _, hL⟩, h2.secs.block (by rw [hsz]; exact Nat.le_refl _) (fun k e => hk k _ (fun e' => ?_)), .inr ⟨g, cap, ?_, by simp, fun j v hv => ?_, by rw [hsz]; exact hgl.2, by omega⟩, ⟨h.ok.secs, fun x hx => ?_, h.ok.left⟩⟩
  · obtain ⟨g', c', rfl, _, _, h3⟩ := h2.secs
    cases e
    exact h3 e'
  · simp
  · refine (World.cell?_of_block (a := ⟨g, 0 + j, none⟩) (hk g _ (by omega))).trans ?_
    rw [Nat.zero_add]
    have := World.ownsRow.cells ho (g := g) rfl j v (by
      rw [show cellW i b = cellsW [(i, b)] by simp [cellsW, cellW], ← cellsW_append]
      exact hv)
    rw [Addr.add_mid, Nat.zero_add] at this
    exact this
  · rcases List.mem_append.1 hx with hx | hx
    · exact h.ok.wait x hx
    · rw [List.mem_singleton.1 hx]; exact ⟨hb, hi⟩

theorem splice_snoc (l : List Value) (o : Nat) (vs : List Value) (v : Value) (h : o + vs.length < l.length) : (splice l o vs).set (o + vs.length) v = splice l o (vs ++ [v]) := by
  unfold splice
  rw [List.set_append_right _ _ (by rw [List.length_take]; omega), show o + vs.length - (l.take o).length = vs.length by rw [List.length_take]; omega, List.set_append_right _ _ (Nat.le_refl _), Nat.sub_self, List.drop_eq_getElem_cons h]
  simp [Nat.add_assoc]
end Go.Proofs.Ytnganmekiloigaa
