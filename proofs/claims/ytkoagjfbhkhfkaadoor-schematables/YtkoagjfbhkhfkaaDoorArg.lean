/- A table that came in; two lists of tables that came in. -/
import Derived.Test.YtkoagjfbhkhfkaaDoorOpen
namespace Go.Proofs.YtkoagjfbhkhfkaaDoor
open Go.ChangeShapes Go.WideShapes Go.ChangeAt Go.RowKit Go.Lib Go.Joins Go.Deep
set_option maxRecDepth 100000
theorem cells22 : Tryd.prog.cellsOf 22 = 1 := by kernel_rfl
theorem cells33 : Tryd.prog.cellsOf 33 = 2 := by kernel_rfl
variable {H : Type} {enc : TypeId × Value → H} {W : World}
theorem openTablesC {fuel : Nat} {c : Value} {x : DataW H × List MemPlace} (hf : DataW.trod enc Tryd.prog W 0 (fun _ => true) true fuel 22 [c] = some x) : ∃ T : List Tv, IT W c T := by
  rcases open_slice Tryd.underlying22 hf with ⟨hcs, _⟩ | ⟨a, len, cap, m, n, D, Pl, hcs, _, hl, hm, hme, _, hc⟩
  · simp at hcs
    subst hcs
    exact ⟨[], ⟨⟨none, 0, rfl, Nat.le_refl _, fun h => by simp at h⟩, by simp⟩, by simp⟩
  · simp at hcs
    subst hcs
    have hml : len ≤ m := by rw [hme]; simp; exact hl
    have hex : ∀ i, i < len → ∃ y : Tv, W.cells? 0 (a.add (i * 4)) 4 = some [.string (str y.1.n), y.2, .string (str y.1.p), .int .i64 y.1.r] ∧ TOk W y := by
      intro i hi
      obtain ⟨cs', hcc, ht⟩ := hc i (by omega)
      obtain ⟨y, rfl, hy⟩ := tab_cells ht
      rw [cells32] at hcc
      exact ⟨y, hcc, hy⟩
    obtain ⟨f, hf2⟩ : ∃ f : Nat → Tv, ∀ i, i < len → W.cells? 0 (a.add (i * 4)) 4 = some [.string (str (f i).1.n), (f i).2, .string (str (f i).1.p), .int .i64 (f i).1.r] ∧ TOk W (f i) := by
      refine ⟨fun i => if hi : i < len then Classical.choose (hex i hi) else (⟨[], [], [], 0⟩, .slice none 0 0), fun i hi => ?_⟩
      have := Classical.choose_spec (hex i hi)
      simp only [hi, dif_pos]
      exact this
    have hok : ∀ x ∈ (List.range len).map f, TOk W x := fun x hx => by
      obtain ⟨i, hi, rfl⟩ := List.mem_map.1 hx
      exact (hf2 i (List.mem_range.1 hi)).2
    refine ⟨(List.range len).map f, ⟨⟨some a, cap, by simp, by simpa using hl, fun h0 => ?_⟩, fun x hx => (hok x hx).1⟩, fun x hx => (hok x hx).2⟩
    have h0' : 0 < len := by simpa using h0
    obtain ⟨b, off, spot⟩ := a
    have hspot : spot = none := by
      have hq := (World.cells?_some (hf2 0 h0').1).2.2 0 (by omega)
      have := World.cell?_spot (by simpa using hq)
      simpa [Addr.add] using this
    subst hspot
    have hcell : ∀ i, i < len → W.cell? ⟨b, off + i * 4, none⟩ = some (.string (str (f i).1.n)) ∧ W.cell? ⟨b, off + i * 4 + 1, none⟩ = some (f i).2 ∧ W.cell? ⟨b, off + i * 4 + 2, none⟩ = some (.string (str (f i).1.p)) ∧ W.cell? ⟨b, off + i * 4 + 3, none⟩ = some (.int .i64 (f i).1.r) := fun i hi => by
      have hs := World.cells?_some (hf2 i hi).1
      rw [Addr.add_mid] at hs
      refine ⟨?_, ?_, ?_, ?_⟩
      · have := hs.2.2 0 (by omega)
        rw [Addr.add_mid] at this
        simpa using this
      · have := hs.2.2 1 (by omega)
        rw [Addr.add_mid] at this
        simpa using this
      · have := hs.2.2 2 (by omega)
        rw [Addr.add_mid] at this
        simpa using this
      · have := hs.2.2 3 (by omega)
        rw [Addr.add_mid] at this
        simpa using this
    refine ⟨b, off, rfl, World.block_lt_of_cell? W _ (hcell 0 h0').1, trivial, fun i x hx => ?_⟩
    have hi : i < len := by have := (List.getElem?_eq_some_iff.1 hx).1; simpa using this
    have : x = f i := by
      rw [List.getElem?_eq_getElem (by simpa using hi)] at hx
      simpa using hx.symm
    subst this
    exact hcell i hi

theorem openTab {base : Nat} {v : Value} {d : DataW H} {p : List MemPlace} (hv : Value.okWide Tryd.prog W .any base 32 v) (h : DataW.Trod enc Tryd.prog W 0 (fun _ => true) true 32 v d p) : ∃ y : Tv, v = TB (str y.1.n) y.2 (str y.1.p) y.1.r ∧ TOk W y := by
  obtain ⟨cs, rfl, _⟩ : ∃ cs, v = .agg cs ∧ cs.size = Tryd.prog.cellsOf 32 := by
    have hu : Tryd.prog.underlying 32 = _ := Tryd.underlying32
    simp only [Value.okWide, hu] at hv
    obtain ⟨cs, h1, h2, _⟩ := hv
    exact ⟨cs, h1, h2⟩
  obtain ⟨fuel, hf⟩ := h
  obtain ⟨y, hy, hok⟩ := tab_cells hf
  refine ⟨y, ?_, hok⟩
  obtain ⟨l⟩ := cs
  simp only [Value.cells] at hy
  rw [hy]
theorem openTwo {base : Nat} {v : Value} {d : DataW H} {p : List MemPlace} (hv : Value.okWide Tryd.prog W .any base 33 v) (h : DataW.Trod enc Tryd.prog W 0 (fun _ => true) true 33 v d p) : ∃ v1 v2 T1 T2, v = .agg #[v1, v2] ∧ IT W v1 T1 ∧ IT W v2 T2 := by
  obtain ⟨cs, rfl, _⟩ : ∃ cs, v = .agg cs ∧ cs.size = Tryd.prog.cellsOf 33 := by
    have hu : Tryd.prog.underlying 33 = _ := Tryd.underlying33
    simp only [Value.okWide, hu] at hv
    obtain ⟨cs, h1, h2, _⟩ := hv
    exact ⟨cs, h1, h2⟩
  obtain ⟨fuel, hf⟩ := h
  obtain ⟨xs, m, _, hx, hl, hn, hi⟩ := DataW.trod_array Tryd.underlying33 hf
  rw [cells33] at hl
  obtain ⟨x0, x1, rfl⟩ : ∃ x0 x1, xs = [x0, x1] := by
    match xs, hn with
    | [x0, x1], _ => exact ⟨x0, x1, rfl⟩
  have i0 := hi 0 (by omega)
  have i1 := hi 1 (by omega)
  obtain ⟨l⟩ := cs
  simp only [Value.cells] at i0 i1 hl
  match l, hl with
  | [q0, q1], _ =>
    simp [cells22] at i0 i1
    obtain ⟨T1, h1⟩ := openTablesC i0
    obtain ⟨T2, h2⟩ := openTablesC i1
    exact ⟨q0, q1, T1, T2, rfl, h1, h2⟩
end Go.Proofs.YtkoagjfbhkhfkaaDoor
