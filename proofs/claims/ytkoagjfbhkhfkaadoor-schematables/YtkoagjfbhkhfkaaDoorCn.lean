/- A catalog: Names. -/
import Derived.Test.YtkoagjfbhkhfkaaDoorCc
import Derived.Deep.OwnRows
namespace Go.Proofs.YtkoagjfbhkhfkaaDoor
open Go.RowKit Go.Lib
set_option maxRecDepth 100000
variable {w w' : World} {c m : Nat} {nv : Value} {E : List En}
theorem namesV_one (E : List En) : ∀ u ∈ namesV E, u.oneCell' = true := fun u hu => by
  obtain ⟨x, _, rfl⟩ := List.mem_map.1 hu
  rfl
theorem namesV_length (E : List En) : (namesV E).length = E.length := by simp [namesV]
theorem wpList_copy_names {ops : Array Oper} {rest : List Oper} {o : Oper} {a : Act} {Q : Exit → Act → World → Prop} (hgd : o.guard = none) (d s : Operand)
    (ho : o.op = .call { callee := .builtin .copy, args := #[d, s], argTypes := #[51, 51] }) (g N : Nat) (v : Value) (xs : List Value) (cur : List Value) (hd : a.eval d = .slice (some ⟨g, 0, none⟩) N N) (hs : a.eval s = v)
    (hown : w.ownsRow 0 9 1 v N xs) (hx1 : ∀ u ∈ xs, u.oneCell' = true) (hb : Blk w g cur 9) (hl : cur.length = N)
    (h : ∀ w', Blk w' g xs 9 → Keep (fun k => k = g) w w' → w'.heap.size = w.heap.size → wpList Tryd.prog ops Q rest (a.put o.dst (goInt N)) w') : wpList Tryd.prog ops Q (o :: rest) a w := by
  refine wpList_plain hgd fun K hK => ?_
  have hi : (Tryd.prog.info? 9).map (·.size) = some 1 := by kernel_rfl
  have hxl : xs.length = N := by have := hown.1; omega
  rcases hown.2 with ⟨rfl, h0⟩ | ⟨g', cap, cur', rfl, _, hg', hn, hcm, hcs, ht⟩
  · subst h0
    have hrun := run_copy_none (P := Tryd.prog) w 51 51 o.type 9 (some ⟨g, 0, none⟩) none 0 0 0 0 Tryd.underlying51 hi rfl
    unfold Oper.wp
    simp [execOp, ho, resolve, invoke, builtin, hd, hs, hrun, Result.andThen]
    refine hK _ _ (h w ?_ (Keep.refl _ _) rfl)
    rw [List.eq_nil_of_length_eq_zero hxl]
    rw [List.eq_nil_of_length_eq_zero hl] at hb
    exact hb
  · have hrun := run_copy_cells (P := Tryd.prog) w 51 51 o.type 9 g 0 N N ⟨g', 0, none⟩ N cap xs Tryd.underlying51 hi (by rw [hxl]; exact (Nat.min_self N).symm) (fun j v hv => by
        rw [show (⟨g', 0, none⟩ : Addr).add j = ⟨g', j, none⟩ by unfold Addr.add; split <;> simp_all]
        have hj := (List.getElem?_eq_some_iff.1 hv).1
        rw [← ht, List.getElem?_take] at hv
        have : j < N * 1 := by omega
        rw [if_pos this] at hv
        simpa [World.cell?, hg'] using hv) (fun j hj => by rw [hb.cell, List.getElem?_eq_getElem (by omega)]; rfl) (fun j _ => hb.frozen _) hx1
    unfold Oper.wp
    simp [execOp, ho, resolve, invoke, builtin, hd, hs, hrun, Result.andThen]
    rw [hxl]
    refine hK _ _ (h _ ?_ (Keep.sets (F := fun k => k = g) (Keep.refl _ w) (.inr rfl) _ _) (size_setCells _ _ _ _))
    have := hb.sets (vs := xs) (o := 0) (by omega)
    rwa [show splice cur 0 xs = xs by simp [splice, hxl, hl]] at this
theorem names7 (h : Cat w c m nv E) : Calls Tryd.prog 23 #[.pointer (some ⟨c, 0, none⟩)] w fun e w' => ∃ g, e = .returned (.slice (some ⟨g, 0, none⟩) E.length E.length) ∧ w.heap.size ≤ g ∧ Blk w' g (namesV E) 9 ∧ Below w.heap.size w w' := by
  have hfew := h.few
  have hlen := namesV_length E
  obtain ⟨N, hN⟩ : ∃ N, E.length = N := ⟨_, rfl⟩
  have hmk := run_make_row' (P := Tryd.prog) 51 9 (.string ByteArray.empty) 16 Tryd.underlying51 info9 rfl .i64 .i64 N (by omega) (by omega)
  have h1 := h.below (al w (.cells (madeCells #[.string ByteArray.empty] N) 9))
  have hno := h1.names
  have hone := namesV_one E
  have e0 := h.blk.here (j := 1) rfl
  have e1 := h1.blk.here (j := 1) rfl
  obtain ⟨na, ncap, rfl⟩ := names_form h
  rw [hN] at e0 e1 hno hlen hfew ⊢
  generalize namesV E = xs at *
  clear h h1 hN
  go_enter Tryd.func23, Tryd.ntmps23
  go_wp2_with (refine wpList_copy_names rfl (.tmp 12) (.tmp 16) rfl w.heap.size N _ xs (madeCells #[.string ByteArray.empty] N).toList rfl rfl hno hone ?_ ?_ ?_)
  · exact blk_at _ _ _ rfl
  · simp [size_madeCells]
  · intro w2 hb2 hk2 hs2
    go_wp2
    go_ret
    exact ⟨_, rfl, Nat.le_refl _, hb2, (al _ _).trans (hk2.below (by simp) (fun i h => by cases h; exact Nat.le_refl _))⟩
end Go.Proofs.YtkoagjfbhkhfkaaDoor
