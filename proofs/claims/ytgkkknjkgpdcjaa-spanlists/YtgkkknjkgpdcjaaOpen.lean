/- A slice of spans that came in, and two small numbers, as the walks want them. -/
import Derived.Test.YtgkkknjkgpdcjaaLive
import Derived.ProofKit
import Derived.ChangeOld
import Derived.OpenShut
import Derived.Lib.SmallJoins
namespace Go.Proofs.Ytgkkknjkgpdcjaa
open Go.ChangeShapes Go.WideShapes Go.ChangeAt Go.RowKit Go.Joins Go.Deep

theorem cellsOf23 : Try.prog.cellsOf 23 = 2 := by kernel_rfl
theorem cellsOf3 : Try.prog.cellsOf 3 = 1 := by kernel_rfl

theorem span_cells {H : Type} {enc : TypeId × Value → H} {W : World} {base n : Nat} {spare : Nat → Bool} {held : Bool} {cs : List Value} {x : DataW H × List MemPlace} (h : DataW.trod enc Try.prog W base spare held n 23 cs = some x) : ∃ a b, cs = [.int .i64 a, .int .i64 b] := by
  obtain ⟨y0, y1, m, _, hl, h0, h1⟩ := trod_struct2 Try.underlying23 h
  rw [cellsOf23] at hl
  match cs, hl with
  | [c0, c1], _ =>
    have o3 : Try.prog.cellsOf 3 = 1 := cellsOf3
    simp only [o3] at h0 h1
    obtain ⟨a, e0, _, _⟩ := DataW.trod_int Try.underlying3 h0
    obtain ⟨b, e1, _, _⟩ := DataW.trod_int Try.underlying3 h1
    simp at e0 e1
    subst e0 e1
    exact ⟨a, b, rfl⟩

theorem add_plain (b off i : Nat) : (⟨b, off, none⟩ : Addr).add i = ⟨b, off + i, none⟩ := by
  unfold Addr.add
  by_cases h : i = 0 <;> simp [h]

theorem openSpans {H : Type} {enc : TypeId × Value → H} {W : World} {base : Nat} {v : Value} {d : DataW H} {p : List MemPlace} (hv : Value.okWide Try.prog W .any base 31 v) (h : DataW.Trod enc Try.prog W 0 (fun _ => true) true 31 v d p) :
    ∃ xs, SRow W v xs ∧ xs.length ≤ maxLen := by
  obtain ⟨a0, len0, cap0, rfl⟩ := okWide_slice Try.underlying31 hv
  obtain ⟨fuel, hf⟩ := h
  rcases open_slice Try.underlying31 hf with ⟨hcs, _⟩ | ⟨a, len, cap, m, n, D, Pl, hcs, _, hl, hm, hme, _, hc⟩
  · simp [Value.cells] at hcs
    obtain ⟨rfl, rfl, rfl⟩ := hcs
    exact ⟨[], .inl ⟨⟨_, _, rfl⟩, rfl⟩, Nat.zero_le _⟩
  · simp [Value.cells] at hcs
    obtain ⟨rfl, rfl, rfl⟩ := hcs
    have hml : len0 ≤ m := by rw [hme]; simp; exact hl
    by_cases h0 : len0 = 0
    · subst h0
      exact ⟨[], .inl ⟨⟨_, _, rfl⟩, rfl⟩, Nat.zero_le _⟩
    · obtain ⟨b, off, spot⟩ := a
      have hspot : spot = none := by
        obtain ⟨cs', hcc, ht⟩ := hc 0 (by omega)
        obtain ⟨y1, y2, rfl⟩ := span_cells ht
        rw [cellsOf23] at hcc
        have hq := (World.cells?_some hcc).2.2 0 (by omega)
        have := World.cell?_spot (by simpa using hq)
        simpa [Addr.add] using this
      subst hspot
      have hx : ∀ i, i < len0 → ∃ y : Int × Int, W.cell? ⟨b, off + i * 2, none⟩ = some (.int .i64 y.1) ∧ W.cell? ⟨b, off + i * 2 + 1, none⟩ = some (.int .i64 y.2) := by
        intro i hi
        obtain ⟨cs', hcc, ht⟩ := hc i (by omega)
        obtain ⟨y1, y2, rfl⟩ := span_cells ht
        rw [cellsOf23, add_plain] at hcc
        have hs := World.cells?_some hcc
        refine ⟨(y1, y2), ?_, ?_⟩
        · have := hs.2.2 0 (by omega)
          rw [add_plain] at this
          simpa using this
        · have := hs.2.2 1 (by omega)
          rw [add_plain] at this
          simpa using this
      have hxx : ∃ f : Nat → Int × Int, ∀ i, i < len0 → W.cell? ⟨b, off + i * 2, none⟩ = some (.int .i64 (f i).1) ∧ W.cell? ⟨b, off + i * 2 + 1, none⟩ = some (.int .i64 (f i).2) := by
        refine ⟨fun i => if hi : i < len0 then Classical.choose (hx i hi) else (0, 0), fun i hi => ?_⟩
        have := Classical.choose_spec (hx i hi)
        simp only [hi, dif_pos]
        exact this
      obtain ⟨f, hf2⟩ := hxx
      refine ⟨(List.range len0).map f, .inr ⟨b, off, cap0, by simp, by simpa using hl, hm, ?_, fun i hi => ?_⟩, by simp; omega⟩
      · exact World.block_lt_of_cell? W _ (hf2 0 (by omega)).1
      · have hi' : i < len0 := by simpa using hi
        simpa using hf2 i hi'

end Go.Proofs.Ytgkkknjkgpdcjaa
