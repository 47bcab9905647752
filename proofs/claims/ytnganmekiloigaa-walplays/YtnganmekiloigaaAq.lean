/- Bytes, truths, deeds of a log that came in. · Deeds of a log that came in. · A deed of a log that came in. -/
import Derived.Test.YtnganmekiloigaaArg
import Derived.Test.YtnganmekiloigaaHv
/-! ### Bytes, truths, deeds of a log that came in. · Deeds of a log that came in. -/
/-! ### Bytes, truths, deeds of a log that came in. -/
namespace Go.Proofs.Ytnganmekiloigaa
open Go.ChangeShapes Go.WideShapes Go.ChangeAt Go.RowKit Go.Joins Go.Deep
set_option maxRecDepth 100000
theorem openBytes {H : Type} {enc : TypeId × Value → H} {W : World} {base : Nat} {v : Value} {d : DataW H} {p : List MemPlace} (hv : Value.okWide Try.prog W .any base 33 v) (h : DataW.Trod enc Try.prog W 0 (fun _ => true) true 33 v d p) : ∃ l : Bs, InB W.heap.size W v l := by
  obtain ⟨a0, len0, cap0, rfl⟩ := okWide_slice Try.underlying33 hv
  obtain ⟨fuel, hf⟩ := h
  exact openB (c := .slice a0 len0 cap0) hf
theorem openKeep {H : Type} {enc : TypeId × Value → H} {W : World} {base : Nat} {v : Value} {d : DataW H} {p : List MemPlace} (hv : Value.okWide Try.prog W .any base 30 v) (h : DataW.Trod enc Try.prog W 0 (fun _ => true) true 30 v d p) : ∃ l : List Bool, InK W.heap.size W v l := by
  obtain ⟨a0, len0, cap0, rfl⟩ := okWide_slice Try.underlying30 hv
  obtain ⟨fuel, hf⟩ := h
  exact openK (c := .slice a0 len0 cap0) hf
end Go.Proofs.Ytnganmekiloigaa
/-! ### Deeds of a log that came in. -/
namespace Go.Proofs.Ytnganmekiloigaa
open Go.ChangeShapes Go.WideShapes Go.ChangeAt Go.RowKit Go.Joins Go.Deep
set_option maxRecDepth 100000
theorem cellsOf69 : Try.prog.cellsOf 69 = 4 := by kernel_rfl
variable {H : Type} {enc : TypeId × Value → H} {W : World}
/-- Four cells that read as a deed. -/
theorem deedw_cells {n : Nat} {cs : List Value} {x : DataW H × List MemPlace} (h : DataW.trod enc Try.prog W 0 (fun _ => true) true n 69 cs = some x) :
    ∃ (y : WDeed) (vb vk : Value), cs = [.int .i64 y.1, vb, .int .i64 y.2.2.1, vk] ∧ InB W.heap.size W vb y.2.1 ∧ InK W.heap.size W vk y.2.2.2 := by
  obtain ⟨y0, y1, y2, y3, m, _, hl, h0, h1, h2, h3⟩ := trod_struct4 Try.underlying69 h
  rw [cellsOf69] at hl
  match cs, hl with
  | [c0, c1, c2, c3], _ =>
    simp only [cellsOf3, cellsOf30, cellsOf33] at h0 h1 h2 h3
    obtain ⟨a, e0, _, _⟩ := DataW.trod_int Try.underlying3 h0
    obtain ⟨b, e1, _, _⟩ := DataW.trod_int Try.underlying3 h2
    obtain ⟨l, hB⟩ := openB (c := c1) h1
    obtain ⟨kl, hK⟩ := openK (c := c3) h3
    simp at e0 e1
    subst e0 e1
    exact ⟨(a, l, b, kl), c1, c3, rfl, hB, hK⟩
/-- Deeds. -/
theorem openDeedsW {base : Nat} {v : Value} {d : DataW H} {p : List MemPlace} (hv : Value.okWide Try.prog W .any base 53 v) (h : DataW.Trod enc Try.prog W 0 (fun _ => true) true 53 v d p) : ∃ l : List WDeed, InDW W.heap.size W v l := by
  obtain ⟨a0, len0, cap0, rfl⟩ := okWide_slice Try.underlying53 hv
  obtain ⟨fuel, hf⟩ := h
  rcases open_slice Try.underlying53 hf with ⟨hcs, _⟩ | ⟨a, len, cap, m, n, D, Pl, hcs, _, hl, hm, hme, _, hc⟩
  · simp [Value.cells] at hcs
    obtain ⟨rfl, rfl, rfl⟩ := hcs
    exact ⟨[], none, 0, rfl, by simp, fun h => by simp at h⟩
  · simp [Value.cells] at hcs
    obtain ⟨rfl, rfl, rfl⟩ := hcs
    have hml : len0 ≤ m := by rw [hme]; simp; exact hl
    have hex : ∀ i, i < len0 → ∃ (y : WDeed) (vb vk : Value), W.cells? 0 (a.add (i * 4)) 4 = some [.int .i64 y.1, vb, .int .i64 y.2.2.1, vk] ∧ InB W.heap.size W vb y.2.1 ∧ InK W.heap.size W vk y.2.2.2 := by
      intro i hi
      obtain ⟨cs', hcc, ht⟩ := hc i (by omega)
      obtain ⟨y, vb, vk, rfl, hy⟩ := deedw_cells ht
      rw [cellsOf69] at hcc
      exact ⟨y, vb, vk, hcc, hy⟩
    obtain ⟨f, hf2⟩ : ∃ f : Nat → WDeed, ∀ i, i < len0 → ∃ vb vk : Value, W.cells? 0 (a.add (i * 4)) 4 = some [.int .i64 (f i).1, vb, .int .i64 (f i).2.2.1, vk] ∧ InB W.heap.size W vb (f i).2.1 ∧ InK W.heap.size W vk (f i).2.2.2 := by
      refine ⟨fun i => if hi : i < len0 then Classical.choose (hex i hi) else (0, [], 0, []), fun i hi => ?_⟩
      have := Classical.choose_spec (hex i hi)
      simp only [hi, dif_pos]
      exact this
    refine ⟨(List.range len0).map f, some a, cap0, by simp, by simp; unfold maxLen at hm; omega, fun h0 => ?_⟩
    have h0' : 0 < len0 := by simpa using h0
    obtain ⟨b, off, spot⟩ := a
    have hspot : spot = none := by
      obtain ⟨vb, vk, hq0, _⟩ := hf2 0 h0'
      have hq := (World.cells?_some hq0).2.2 0 (by omega)
      have := World.cell?_spot (by simpa using hq)
      simpa [Addr.add] using this
    subst hspot
    have hcell : ∀ i, i < len0 → DeedAtW W.heap.size W b (off + i * 4) (f i) := fun i hi => by
      obtain ⟨vb, vk, hq, hB, hK⟩ := hf2 i hi
      have hs := World.cells?_some hq
      rw [Addr.add_mid] at hs
      refine ⟨vb, vk, ⟨?_, ?_, ?_, ?_⟩, hB, hK⟩
      · have := hs.2.2 0 (by omega)
        rw [Addr.add_mid] at this
        simpa using this
      · have := hs.2.2 1 (by omega)
        rw [Addr.add_mid] at this
        simpa using this
      · have := hs.2.2 2 (by omega)
        rw [Addr.add_mid] at this
        simpa using this
      · have := hs.2.2 3 (by omega)
        rw [Addr.add_mid] at this
        simpa using this
    refine ⟨b, off, rfl, ?_, fun j x hx => ?_⟩
    · obtain ⟨vb, vk, ⟨h1, _⟩, _⟩ := hcell 0 h0'
      exact World.block_lt_of_cell? W _ h1
    · have hj : j < len0 := by have := (List.getElem?_eq_some_iff.1 hx).1; simpa using this
      have hxe : f j = x := by simpa [hj] using hx
      subst hxe
      exact hcell j hj
end Go.Proofs.Ytnganmekiloigaa
/-! ### A deed of a log that came in. -/
namespace Go.Proofs.Ytnganmekiloigaa
open Go.ChangeShapes Go.WideShapes Go.ChangeAt Go.RowKit Go.Joins Go.Deep
set_option maxRecDepth 100000
theorem openDeedW {H : Type} {enc : TypeId × Value → H} {W : World} {base : Nat} {v : Value} {d : DataW H} {p : List MemPlace} (hv : Value.okWide Try.prog W .any base 69 v) (h : DataW.Trod enc Try.prog W 0 (fun _ => true) true 69 v d p) :
    ∃ (k N : Int) (vb vk : Value) (b : Bs) (kl : List Bool), v = .agg #[.int .i64 k, vb, .int .i64 N, vk] ∧ InB W.heap.size W vb b ∧ InK W.heap.size W vk kl := by
  obtain ⟨cs, rfl, hsz⟩ := okWide_struct Try.underlying69 hv
  obtain ⟨fuel, hf⟩ := h
  obtain ⟨y, vb, vk, hcs, hb, hk⟩ := deedw_cells (cs := cs.toList) (by simpa [Value.cells] using hf)
  refine ⟨y.1, y.2.2.1, vb, vk, y.2.1, y.2.2.2, ?_, hb, hk⟩
  congr 1
  apply Array.ext'
  rw [hcs]
end Go.Proofs.Ytnganmekiloigaa
