/- Deeds and spans that came in. -/
import Derived.Test.YtgimjjlkniplnaaTh
import Derived.ProofKit
import Derived.ChangeOld
import Derived.OpenShut
import Derived.Lib.SmallJoins
import Derived.Deep.Strs
namespace Go.Proofs.Ytgimjjlkniplnaa
open Go.ChangeShapes Go.WideShapes Go.ChangeAt Go.RowKit Go.Joins Go.Deep
set_option maxRecDepth 100000
theorem own : ownKnob Try.prog.godebug = none := by kernel_rfl
theorem laidOut : laidOutB Try.prog = true := by kernel_rfl
theorem cellsOf45 : Try.prog.cellsOf 45 = 3 := by kernel_rfl
theorem cellsOf3 : Try.prog.cellsOf 3 = 1 := by kernel_rfl
theorem cellsOf9 : Try.prog.cellsOf 9 = 1 := by kernel_rfl
variable {H : Type} {enc : TypeId × Value → H} {W : World}
theorem deed_cells {base n : Nat} {spare : Nat → Bool} {held : Bool} {cs : List Value} {x : DataW H × List MemPlace} (h : DataW.trod enc Try.prog W base spare held n 45 cs = some x) : ∃ (k : Int) (p : Pr), cs = [.int .i64 k, .string p.1, .string p.2] := by
  obtain ⟨y0, y1, y2, m, _, hl, h0, h1, h2⟩ := trod_struct3 Try.underlying45 h
  rw [cellsOf45] at hl
  match cs, hl with
  | [c0, c1, c2], _ =>
    have o3 : Try.prog.cellsOf 3 = 1 := cellsOf3
    have o9 : Try.prog.cellsOf 9 = 1 := cellsOf9
    simp only [o3, o9] at h0 h1 h2
    obtain ⟨a, e0, _, _⟩ := DataW.trod_int Try.underlying3 h0
    obtain ⟨b, e1, _⟩ := DataW.trod_string Try.underlying9 h1
    obtain ⟨c, e2, _⟩ := DataW.trod_string Try.underlying9 h2
    simp at e0 e1 e2
    subst e0 e1 e2
    exact ⟨a, (b, c), rfl⟩
theorem add_plain (b off i : Nat) : (⟨b, off, none⟩ : Addr).add i = ⟨b, off + i, none⟩ := by
  unfold Addr.add
  by_cases h : i = 0 <;> simp [h]
theorem openDeeds {base : Nat} {v : Value} {d : DataW H} {p : List MemPlace} (hv : Value.okWide Try.prog W .any base 22 v) (h : DataW.Trod enc Try.prog W 0 (fun _ => true) true 22 v d p) :
    ∃ xs, DRow W v xs := by
  obtain ⟨a0, len0, cap0, rfl⟩ := okWide_slice Try.underlying22 hv
  obtain ⟨fuel, hf⟩ := h
  rcases open_slice Try.underlying22 hf with ⟨hcs, _⟩ | ⟨a, len, cap, m, n, D, Pl, hcs, _, hl, hm, hme, _, hc⟩
  · simp [Value.cells] at hcs
    obtain ⟨rfl, rfl, rfl⟩ := hcs
    exact ⟨[], .inl ⟨⟨_, _, rfl⟩, rfl⟩⟩
  · simp [Value.cells] at hcs
    obtain ⟨rfl, rfl, rfl⟩ := hcs
    have hml : len0 ≤ m := by rw [hme]; simp; exact hl
    by_cases h0 : len0 = 0
    · subst h0
      exact ⟨[], .inl ⟨⟨_, _, rfl⟩, rfl⟩⟩
    · obtain ⟨b, off, spot⟩ := a
      have hspot : spot = none := by
        obtain ⟨cs', hcc, ht⟩ := hc 0 (by omega)
        obtain ⟨y1, y2, rfl⟩ := deed_cells ht
        rw [cellsOf45] at hcc
        have hq := (World.cells?_some hcc).2.2 0 (by omega)
        have := World.cell?_spot (by simpa using hq)
        simpa [Addr.add] using this
      subst hspot
      have hx : ∀ i, i < len0 → ∃ y : Int × Pr, W.cell? ⟨b, off + i * 3, none⟩ = some (.int .i64 y.1) ∧ W.cell? ⟨b, off + i * 3 + 1, none⟩ = some (.string y.2.1) ∧ W.cell? ⟨b, off + i * 3 + 2, none⟩ = some (.string y.2.2) := by
        intro i hi
        obtain ⟨cs', hcc, ht⟩ := hc i (by omega)
        obtain ⟨y1, y2, rfl⟩ := deed_cells ht
        rw [cellsOf45, add_plain] at hcc
        have hs := World.cells?_some hcc
        refine ⟨(y1, y2), ?_, ?_, ?_⟩
        · have := hs.2.2 0 (by omega)
          rw [add_plain] at this
          simpa using this
        · have := hs.2.2 1 (by omega)
          rw [add_plain] at this
          simpa using this
        · have := hs.2.2 2 (by omega)
          rw [add_plain] at this
          simpa using this
      have hxx : ∃ f : Nat → Int × Pr, ∀ i, i < len0 → W.cell? ⟨b, off + i * 3, none⟩ = some (.int .i64 (f i).1) ∧ W.cell? ⟨b, off + i * 3 + 1, none⟩ = some (.string (f i).2.1) ∧ W.cell? ⟨b, off + i * 3 + 2, none⟩ = some (.string (f i).2.2) := by
        refine ⟨fun i => if hi : i < len0 then Classical.choose (hx i hi) else (0, noP), fun i hi => ?_⟩
        have := Classical.choose_spec (hx i hi)
        simp only [hi, dif_pos]
        exact this
      obtain ⟨f, hf2⟩ := hxx
      refine ⟨(List.range len0).map f, .inr ⟨b, off, cap0, by simp, ?_, fun i y hy => ?_⟩⟩
      · exact World.block_lt_of_cell? W _ (hf2 0 (by omega)).1
      · simp only [List.getElem?_map, Option.map_eq_some_iff] at hy
        obtain ⟨j, hj, rfl⟩ := hy
        obtain ⟨hj1, rfl⟩ := List.getElem?_eq_some_iff.1 hj
        simp at hj1 ⊢
        exact hf2 i hj1
end Go.Proofs.Ytgimjjlkniplnaa
