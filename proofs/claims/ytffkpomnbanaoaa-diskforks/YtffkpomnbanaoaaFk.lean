/- Forks of both disks. -/
import Derived.Test.YtffkpomnbanaoaaSa
import Derived.Deep.AppendLies
import Derived.Lib.SliceRun
namespace Go.Proofs.Ytffkpomnbanaoaa
open Go.RowKit
set_option maxRecDepth 100000
variable {W : World} {B0 d s r : Nat} {wv lv xv : Value} {D : Dk}

theorem wpList_append_src {P : Program} (w : World) {ops : Array Oper} {rest : List Oper} {o : Oper} {a : Act} {Q : Exit → Act → World → Prop} (hgd : o.guard = none) (s x : Operand) (t : TypeId)
    (ho : o.op = .call { callee := .builtin .append, args := #[s, x], argTypes := #[t, t] })
    (base : Nat) (e : TypeId) (i : TypeInfo) (z : Value) (size bytes : Nat) (ht : P.underlying t = some (.slice e)) (hi : P.info? e = some i) (hz : i.zero = some z)
    (hsize : i.size = size) (hby : i.bytes = bytes) (hzs : z.cells.size = size) (hsz : 0 < size)
    (v : Value) (n : Nat) (xs : List Value) (hs : a.eval s = v) (hown : w.ownsRow base e size v n xs) (hne : v.ownBlock ≠ none)
    (xval : Value) (m : Nat) (news : List Value) (hx : a.eval x = xval) (hsrc : SrcOf size w xval m news)
    (h63 : n + m ≤ maxLen) (hbytes : (n + m) * bytes ≤ 140737488355328) (hbase : base ≤ w.heap.size)
    (h : ∀ g cap w', w'.ownsRow base e size (.slice (some ⟨g, 0, none⟩) (n + m) cap) (n + m) (xs ++ news) → w.grownBy w' v.ownBlock → (v.ownBlock = some g ∨ g = w.heap.size) → g < w'.heap.size → wpList P ops Q rest (a.put o.dst (.slice (some ⟨g, 0, none⟩) (n + m) cap)) w') : wpList P ops Q (o :: rest) a w := by
  refine wpList_plain hgd fun K hK => ?_
  have := step_append_src (P := P) (ops := ops) (K := K) (Q := Q) (E := True) (w := w) (a := a) hgd o.dst rfl s x t ho base e i z size bytes ht hi hz hsize hby hzs hsz v n xs hs hown hne xval m news hx hsrc h63 hbytes hbase (fun g cap w' h1 h2 h3 h4 => hK _ _ (h g cap w' h1 h2 h3 h4))
  rw [if_pos (by simp [Region.wanted, hgd])] at this
  exact this

theorem own_block {W W' : World} {base e size n : Nat} {v : Value} {xs : List Value} (h : W.ownsRow base e size v n xs) (hb : ∀ k, v.ownBlock = some k → W'.heap[k]? = W.heap[k]?) : W'.ownsRow base e size v n xs := by
  obtain ⟨h1, h2 | ⟨g, cap, cur, rfl, hBg, hw, hn, hcap, hz, htk⟩⟩ := h
  · exact ⟨h1, .inl h2⟩
  · exact ⟨h1, .inr ⟨g, cap, cur, rfl, hBg, by rw [hb g rfl]; exact hw, hn, hcap, hz, htk⟩⟩
theorem secs_own' {t B g cap : Nat} {l : List Bs} (h64 : ∀ x ∈ l, x.length = 64) (h : W.ownsRow B t 64 (.slice (some ⟨g, 0, none⟩) l.length cap) l.length (cellsS l)) : Secs W g l := by
  have hc : ∀ j, j < l.length * 64 → W.cell? ⟨g, j, none⟩ = (cellsS l)[j]? := fun j hj => World.ownsRow.cellAt h j hj
  have hz : ∀ j, W.frozen? ⟨g, j, none⟩ = false := fun j => by
    rcases h.2 with ⟨h', _⟩ | ⟨g', cap', cur, h', _, hg, _⟩
    · cases h'
    · cases h'
      simp [World.frozen?, hg]
  refine ⟨fun i x hx j v hv => ?_, fun i hi j hj => ⟨?_, hz _⟩⟩
  · have hi := (List.getElem?_eq_some_iff.1 hx).1
    have hj := (List.getElem?_eq_some_iff.1 hv).1
    rw [cellsB_length, h64 x (List.mem_of_getElem? hx)] at hj
    rw [hc _ (by omega), cellsS_get l h64 i x hx j hj]
    exact hv
  · rw [hc _ (by omega), List.getElem?_eq_getElem (by rw [cellsS_length l h64]; omega)]
    rfl
theorem src_s {w : World} {g c : Nat} {l : List Bs} (h : Secs w g l) (h64 : ∀ x ∈ l, x.length = 64) : SrcOf 64 w (.slice (some ⟨g, 0, none⟩) l.length c) l.length (cellsS l) := .inr ⟨g, c, rfl, Nat.zero_le _, cellsS_length l h64, h.flat h64, cellsS_one l⟩
theorem src_w {w : World} {t B : Nat} {v : Value} {l : List (Nat × Bs)} (h : WRow t B v l w) (h64 : ∀ x ∈ l, x.2.length = 64) : SrcOf 65 w v l.length (cellsW l) := by
  have h' := h
  obtain ⟨h1, ⟨rfl, h0⟩ | ⟨g, cap, cur, rfl, hBg, hw, hn, hcap, hz, htk⟩⟩ := h
  · rw [h0, List.eq_nil_of_length_eq_zero h0]
    exact .inl ⟨rfl, rfl, rfl⟩
  · refine .inr ⟨g, cap, rfl, Nat.zero_le _, cellsW_length l h64, fun j v hv => ?_, cellsW_one l⟩
    have := World.ownsRow.cells h' (g := g) rfl j v hv
    rw [Addr.add_mid] at this
    exact this

theorem clone57 {c : Nat} {l : List Bs} (h : Secs W s l) (slt : s < W.heap.size) (h64 : ∀ x ∈ l, x.length = 64) (hl : l.length ≤ 1000) :
    Calls Try.prog 57 #[.slice (some ⟨s, 0, none⟩) l.length c] W fun e w' => ∃ g cap, e = .returned (.slice (some ⟨g, 0, none⟩) l.length cap) ∧ Secs w' g l ∧ W.heap.size ≤ g ∧ g < w'.heap.size ∧ Below W.heap.size W w' := by
  obtain ⟨i0, hi0, hz3, hz4, hz5⟩ := info_parts info91z
  have hsrc := src_s (c := c) (h.block ((al W (.cells #[] 91)).block s slt)) h64
  have hown0 : (W.alloc (.cells #[] 91)).ownsRow W.heap.size 91 64 (.slice (some ⟨W.heap.size, 0, none⟩) 0 0) 0 [] := World.ownsRow_lit W #[] 0 (Nat.le_refl _) (by simp [maxLen]) (by simp)
  have hm1 : 0 + l.length ≤ maxLen := by unfold maxLen; omega
  have hm2 : (0 + l.length) * 64 ≤ 140737488355328 := by omega
  have hm3 : W.heap.size ≤ (W.alloc (.cells #[] 91)).heap.size := by simp
  have hz6 : (Value.agg (cellsB Z64).toArray).cells.size = 64 := by kernel_rfl
  have HO : Hid (∀ (w : World) B g cap, w.ownsRow B 91 64 (.slice (some ⟨g, 0, none⟩) l.length cap) l.length (cellsS l) → Secs w g l) := fun w B g cap ho => secs_own' h64 ho
  generalize (Value.agg (cellsB Z64).toArray) = zz at *
  generalize cellsS l = cS at *
  generalize l.length = S at *
  have hq : ∀ (w : World) (a : Option Addr) (n c n' c' : Nat), (binOp .eql 86 (.slice a n c) (.slice none n' c')).run Try.prog w = .ok (.bool a.isNone) w := fun w a n c n' c' => Lib.run_eql_slice_nil w _ _ a n c n' c' Try.underlying86
  go_enter Try.func57, Try.ntmps57
  go_wp2_with (skip; (refine wpList_append_src (W.alloc (.cells #[] 91)) (by rfl) (.tmp 5) (.tmp 6) 86 (by rfl) W.heap.size 91 i0 zz 64 64 Try.underlying86 hi0 hz3 hz4 hz5 hz6 (by decide) (.slice (some ⟨W.heap.size, 0, none⟩) 0 0) 0 [] (by rfl) hown0 (by simp [Value.ownBlock]) (.slice (some ⟨s, 0, none⟩) S c) S cS (by rfl) hsrc hm1 hm2 hm3 ?_; intro g cap w3 hown hgr _ hlt3; simp only [Nat.zero_add, List.nil_append] at hown; have hB3 : Below W.heap.size W w3 := below_grown (al W _) hgr (Nat.le_refl _); clear hgr))
  go_ret
  exact ⟨g, cap, by simp, HO.out _ _ _ _ hown, (World.ownsRow.lt hown g rfl).1, hlt3, hB3⟩

theorem clone58 {B B1 : Nat} {l : List (Nat × Bs)} (h : WRow 93 B wv l W) (hB1 : B1 + 1 ≤ W.heap.size) (h64 : ∀ x ∈ l, x.2.length = 64) (hl : l.length ≤ 1000) :
    Calls Try.prog 58 #[wv] W fun e w' => ∃ a n c, e = .returned (.slice a n c) ∧ WRow 93 B1 (.slice a n c) l w' ∧ (∀ k, (Value.slice a n c).ownBlock = some k → W.heap.size ≤ k) ∧ Below W.heap.size W w' := by
  have h' := h
  obtain ⟨h1, ⟨rfl, h0⟩ | ⟨g0, cap0, cur, rfl, hBg, hw, hn, hcap, hz, htk⟩⟩ := h
  · obtain rfl := List.eq_nil_of_length_eq_zero h0
    clear h' h1
    have HW : Hid (WRow 93 B1 (.slice none 0 0) [] W) := World.ownsRow_nil _ _ _ _
    have hq : ∀ (w : World) (a : Option Addr) (n c n' c' : Nat), (binOp .eql 87 (.slice a n c) (.slice none n' c')).run Try.prog w = .ok (.bool a.isNone) w := fun w a n c n' c' => Lib.run_eql_slice_nil w _ _ a n c n' c' Try.underlying87
    go_enter Try.func58, Try.ntmps58
    go_wp2
    go_ret
    exact ⟨none, 0, 0, rfl, HW.out, (fun k e => by cases e), Below.refl _ _⟩
  · obtain ⟨i0, hi0, hz3, hz4, hz5⟩ := info_parts info93z
    have hsrc := src_w (own_below h' (al W (.cells #[] 93))) h64
    have hown0 : (W.alloc (.cells #[] 93)).ownsRow (B1 + 1) 93 65 (.slice (some ⟨W.heap.size, 0, none⟩) 0 0) 0 [] := World.ownsRow_lit W #[] 0 hB1 (by simp [maxLen]) (by simp)
    have hm1 : 0 + l.length ≤ maxLen := by unfold maxLen; omega
    have hm2 : (0 + l.length) * 72 ≤ 140737488355328 := by omega
    have hm3 : B1 + 1 ≤ (W.alloc (.cells #[] 93)).heap.size := by simp; omega
    have hz6 : (Value.agg Try.zeroCells93).cells.size = 65 := by kernel_rfl
    have HO : Hid (∀ (w : World) g cap, w.ownsRow (B1 + 1) 93 65 (.slice (some ⟨g, 0, none⟩) l.length cap) l.length (cellsW l) → WRow 93 B1 (.slice (some ⟨g, 0, none⟩) l.length cap) l w) := fun w g cap ho => ho
    generalize (Value.agg Try.zeroCells93) = zz at *
    clear h' h1 hn htk
    generalize cellsW l = cS at *
    generalize l.length = S at *
    have hq : ∀ (w : World) (a : Option Addr) (n c n' c' : Nat), (binOp .eql 87 (.slice a n c) (.slice none n' c')).run Try.prog w = .ok (.bool a.isNone) w := fun w a n c n' c' => Lib.run_eql_slice_nil w _ _ a n c n' c' Try.underlying87
    go_enter Try.func58, Try.ntmps58
    go_wp2_with (skip; (refine wpList_append_src (W.alloc (.cells #[] 93)) (by rfl) (.tmp 5) (.tmp 6) 87 (by rfl) (B1 + 1) 93 i0 zz 65 72 Try.underlying87 hi0 hz3 hz4 hz5 hz6 (by decide) (.slice (some ⟨W.heap.size, 0, none⟩) 0 0) 0 [] (by rfl) hown0 (by simp [Value.ownBlock]) (.slice (some ⟨g0, 0, none⟩) S cap0) S cS (by rfl) hsrc hm1 hm2 hm3 ?_; intro g cap w3 hown hgr hgg hlt3; simp only [Nat.zero_add, List.nil_append] at hown; have hB3 : Below W.heap.size W w3 := below_grown (al W _) hgr (Nat.le_refl _); clear hgr))
    go_ret
    refine ⟨some ⟨g, 0, none⟩, S, cap, by simp, HO.out _ _ _ hown, fun k e => ?_, hB3⟩
    simp only [Value.ownBlock, Option.some.injEq] at e hgg
    subst e
    rcases hgg with e | e
    · omega
    · simp at e; omega

theorem blk_dx {w : World} {b : Nat} {x0 x1 x2 x3 x4 : Value} {t : TypeId} (h : Blk w b [x0, x1, x2, x3, x4] t) : Dx w b x0 x1 x2 x3 x4 :=
  ⟨h.cell 0, h.cell 1, h.cell 2, h.cell 3, h.cell 4, h.frozen 0, h.frozen 1, h.frozen 2, h.frozen 3, h.frozen 4⟩
theorem Dx.range {w : World} {b : Nat} {x0 x1 x2 x3 x4 : Value} (h : Dx w b x0 x1 x2 x3 x4) : w.rangeAt b 0 [x0, x1, x2, x3, x4] := fun j v hv => by
  rw [Nat.zero_add]
  match j, hv with
  | 0, hv => exact h.c0.trans hv
  | 1, hv => exact h.c1.trans hv
  | 2, hv => exact h.c2.trans hv
  | 3, hv => exact h.c3.trans hv
  | 4, hv => exact h.c4.trans hv
  | j + 5, hv => simp at hv
theorem info89z : (Try.prog.info? 89).map (fun i => (i.zero, i.size, i.bytes)) = some (some (.agg [.slice none 0 0, .slice none 0 0, .bool false, .int .i64 0, .bool false].toArray), 5, 72) := by kernel_rfl
theorem info89s : (Try.prog.info? 89).map (·.size) = some 5 := by kernel_rfl
theorem info101z : (Try.prog.info? 101).map (fun i => (i.zero, i.size, i.bytes)) = some (some (.agg [.slice none 0 0, .slice none 0 0, .bool false, .int .i64 0, .bool false].toArray), 5, 72) := by kernel_rfl
theorem info101s : (Try.prog.info? 101).map (·.size) = some 5 := by kernel_rfl

end Go.Proofs.Ytffkpomnbanaoaa
