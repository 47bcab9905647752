/- Lists of tables that came in. -/
import Derived.Test.YtpagnphabchfcaaGreatTi
import Derived.Test.YtpagnphabchfcaaGreatArh
namespace Go.Proofs.YtpagnphabchfcaaGreat
open Go.ChangeShapes Go.WideShapes Go.ChangeAt Go.RowKit Go.Joins Go.Deep
set_option maxRecDepth 100000
variable {H : Type} {enc : TypeId × Value → H} {W : World}
theorem cellsOf60 : Tryz.prog.cellsOf 60 = 2 := by kernel_rfl
theorem cellsOf22 : Tryz.prog.cellsOf 22 = 1 := by kernel_rfl
theorem openR {n : Nat} {cs : List Value} {x : DataW H × List MemPlace} (hf : DataW.trod enc Tryz.prog W 0 (fun _ => true) true n 22 cs = some x) :
    ∃ v es, cs = [v] ∧ RL W (fun _ => False) v es ∧ CapOk v ∧ ∀ e ∈ es, CapOk e.1 := by
  rcases open_slice Tryz.underlying22 hf with ⟨hcs, _⟩ | ⟨a, len0, cap0, m, n', D, Pl, hcs, _, hl, hm, hme, _, hc⟩
  · exact ⟨_, [], hcs, RL.nil _ _, fun a n c q => by cases q; exact Nat.le_refl _, fun e he => by cases he⟩
  · have hml : len0 ≤ m := by rw [hme]; simp; exact hl
    have hex : ∀ i, i < len0 → ∃ e : El, W.cells? 0 (a.add (i * 3)) 3 = some [e.1, .int .i64 e.2.2.1, .int .i64 e.2.2.2] ∧ SV W (fun _ => False) e.1 e.2.1 ∧ CapOk e.1 := by
      intro i hi
      obtain ⟨cs', hcc, ht⟩ := hc i (by omega)
      obtain ⟨e, rfl, hs, hk⟩ := row_cells ht
      rw [cellsOf34] at hcc
      exact ⟨e, hcc, hs, hk⟩
    obtain ⟨f, hf2⟩ : ∃ f : Nat → El, ∀ i, i < len0 → W.cells? 0 (a.add (i * 3)) 3 = some [(f i).1, .int .i64 (f i).2.2.1, .int .i64 (f i).2.2.2] ∧ SV W (fun _ => False) (f i).1 (f i).2.1 ∧ CapOk (f i).1 := by
      refine ⟨fun i => if hi : i < len0 then Classical.choose (hex i hi) else (.slice none 0 0, [], 0, 0), fun i hi => ?_⟩
      have := Classical.choose_spec (hex i hi)
      simp only [hi, dif_pos]
      exact this
    refine ⟨_, (List.range len0).map f, hcs, ⟨⟨some a, cap0, by simp, fun h0 => ?_⟩, fun e he => ?_⟩, fun a' n c q => by cases q; exact hl, fun e he => ?_⟩
    · obtain ⟨b, off, spot⟩ := a
      have h0' : 0 < len0 := by simpa using h0
      have hspot : spot = none := by
        have hq := (three_cells (hf2 0 h0').1).1
        have := World.cell?_spot hq
        simpa [Addr.add] using this
      subst hspot
      refine ⟨b, off, rfl, ?_, id, fun i y hy => ?_⟩
      · have hq := (three_cells (hf2 0 h0').1).1
        rw [Nat.zero_mul, add_plain] at hq
        exact World.block_lt_of_cell? W _ hq
      · have hi : i < len0 := by
          have := (List.getElem?_eq_some_iff.1 hy).1
          simpa using this
        have hye : f i = y := by simpa [hi] using hy
        subst hye
        have := three_cells (hf2 i hi).1
        simp only [add_plain] at this
        exact this
    · simp only [List.mem_map, List.mem_range] at he
      obtain ⟨j, hj, rfl⟩ := he
      exact (hf2 j hj).2.1
    · simp only [List.mem_map, List.mem_range] at he
      obtain ⟨j, hj, rfl⟩ := he
      exact (hf2 j hj).2.2
theorem named_cells {n : Nat} {cs : List Value} {x : DataW H × List MemPlace} (h : DataW.trod enc Tryz.prog W 0 (fun _ => true) true n 60 cs = some x) :
    ∃ e : IEl, cs = [.string e.1, e.2.1] ∧ RL W (fun _ => False) e.2.1 e.2.2 ∧ CapOk e.2.1 ∧ (∀ x ∈ e.2.2, CapOk x.1) ∧ e.1.size ≤ maxLen := by
  obtain ⟨y0, y1, m, hx, hl, h0, h1⟩ := trod_struct2 Tryz.underlying60 h
  rw [cellsOf60] at hl
  match cs, hl with
  | [c0, c1], _ =>
    simp only [cellsOf9, cellsOf22] at h0 h1
    obtain ⟨s, e0, _, hs⟩ := DataW.trod_string Tryz.underlying9 h0
    obtain ⟨v, es, e1, q1, q2, q3⟩ := openR h1
    simp at e0 e1
    subst e0 e1
    exact ⟨(s, _, es), rfl, q1, q2, q3, hs⟩
theorem two_cells {a : Addr} {x y : Value} (h : W.cells? 0 a 2 = some [x, y]) : W.cell? a = some x ∧ W.cell? (a.add 1) = some y := by
  have hs := World.cells?_some h
  refine ⟨?_, ?_⟩
  · have := hs.2.2 0 (by omega)
    simpa [Addr.add] using this
  · have := hs.2.2 1 (by omega)
    simpa using this
theorem openNamed {base : Nat} {v : Value} {d : DataW H} {p : List MemPlace} (hv : Value.okWide Tryz.prog W .any base 45 v) (h : DataW.Trod enc Tryz.prog W 0 (fun _ => true) true 45 v d p) : ∃ xs, IN W v xs := by
  obtain ⟨a0, len0, cap0, rfl⟩ := okWide_slice Tryz.underlying45 hv
  obtain ⟨fuel, hf⟩ := h
  rcases open_slice Tryz.underlying45 hf with ⟨hcs, _⟩ | ⟨a, len, cap, m, n', D, Pl, hcs, _, hl, hm, hme, _, hc⟩
  · simp [Value.cells] at hcs
    obtain ⟨rfl, rfl, rfl⟩ := hcs
    exact ⟨[], ⟨_, _, rfl, fun h => by simp at h⟩, fun e he => (by cases he), fun e he => (by cases he)⟩
  · simp [Value.cells] at hcs
    obtain ⟨rfl, rfl, rfl⟩ := hcs
    have hml : len0 ≤ m := by rw [hme]; simp; exact hl
    have hex : ∀ i, i < len0 → ∃ e : IEl, W.cells? 0 (a.add (i * 2)) 2 = some [.string e.1, e.2.1] ∧ RL W (fun _ => False) e.2.1 e.2.2 ∧ CapOk e.2.1 ∧ (∀ x ∈ e.2.2, CapOk x.1) ∧ e.1.size ≤ maxLen := by
      intro i hi
      obtain ⟨cs', hcc, ht⟩ := hc i (by omega)
      obtain ⟨e, rfl, hs⟩ := named_cells ht
      rw [cellsOf60] at hcc
      exact ⟨e, hcc, hs⟩
    obtain ⟨f, hf2⟩ : ∃ f : Nat → IEl, ∀ i, i < len0 → W.cells? 0 (a.add (i * 2)) 2 = some [.string (f i).1, (f i).2.1] ∧ RL W (fun _ => False) (f i).2.1 (f i).2.2 ∧ CapOk (f i).2.1 ∧ (∀ x ∈ (f i).2.2, CapOk x.1) ∧ (f i).1.size ≤ maxLen := by
      refine ⟨fun i => if hi : i < len0 then Classical.choose (hex i hi) else (⟨#[]⟩, .slice none 0 0, []), fun i hi => ?_⟩
      have := Classical.choose_spec (hex i hi)
      simp only [hi, dif_pos]
      exact this
    refine ⟨(List.range len0).map f, ⟨some a, cap0, by simp, fun h0 => ?_⟩, fun e he => ?_, fun e he => ?_⟩
    · obtain ⟨b, off, spot⟩ := a
      have h0' : 0 < len0 := by simpa using h0
      have hspot : spot = none := by
        have hq := (two_cells (hf2 0 h0').1).1
        have := World.cell?_spot hq
        simpa [Addr.add] using this
      subst hspot
      refine ⟨b, off, rfl, ?_, fun i y hy => ?_⟩
      · have hq := (two_cells (hf2 0 h0').1).1
        rw [Nat.zero_mul, add_plain] at hq
        exact World.block_lt_of_cell? W _ hq
      · have hi : i < len0 := by
          have := (List.getElem?_eq_some_iff.1 hy).1
          simpa using this
        have hye : f i = y := by simpa [hi] using hy
        subst hye
        have := two_cells (hf2 i hi).1
        simp only [add_plain] at this
        exact this
    · simp only [List.mem_map, List.mem_range] at he
      obtain ⟨j, hj, rfl⟩ := he
      exact ⟨(hf2 j hj).2.1, (hf2 j hj).2.2.1, (hf2 j hj).2.2.2.1⟩
    · simp only [List.mem_map, List.mem_range] at he
      obtain ⟨j, hj, rfl⟩ := he
      exact (hf2 j hj).2.2.2.2
end Go.Proofs.YtpagnphabchfcaaGreat
