/- Deeds and spans that came in. -/
import Derived.Test.YtgglhicpfjihlaaPy
import Derived.ProofKit
import Derived.ChangeOld
import Derived.OpenShut
import Derived.Lib.SmallJoins
import Derived.Deep.Strs
namespace Go.Proofs.Ytgglhicpfjihlaa
open Go.ChangeShapes Go.WideShapes Go.ChangeAt Go.RowKit Go.Joins Go.Deep
set_option maxRecDepth 100000
theorem own : ownKnob Try.prog.godebug = none := by kernel_rfl
theorem laidOut : laidOutB Try.prog = true := by kernel_rfl
theorem cellsOf24 : Try.prog.cellsOf 24 = 2 := by kernel_rfl
theorem cellsOf36 : Try.prog.cellsOf 36 = 4 := by kernel_rfl
theorem cellsOf3 : Try.prog.cellsOf 3 = 1 := by kernel_rfl
variable {H : Type} {enc : TypeId × Value → H} {W : World}
theorem span_cells {base n : Nat} {spare : Nat → Bool} {held : Bool} {cs : List Value} {x : DataW H × List MemPlace} (h : DataW.trod enc Try.prog W base spare held n 24 cs = some x) : ∃ a b, cs = [.int .i64 a, .int .i64 b] ∧ least ≤ a ∧ a ≤ most := by
  obtain ⟨y0, y1, m, _, hl, h0, h1⟩ := trod_struct2 Try.underlying24 h
  rw [cellsOf24] at hl
  match cs, hl with
  | [c0, c1], _ =>
    have o3 : Try.prog.cellsOf 3 = 1 := cellsOf3
    simp only [o3] at h0 h1
    obtain ⟨a, e0, _, wa⟩ := DataW.trod_int Try.underlying3 h0
    obtain ⟨b, e1, _, _⟩ := DataW.trod_int Try.underlying3 h1
    simp at e0 e1
    subst e0 e1
    have := bounds_i64 wa
    exact ⟨a, b, rfl, by unfold least; omega, by unfold most; omega⟩
theorem deed_cells {base n : Nat} {spare : Nat → Bool} {held : Bool} {cs : List Value} {x : DataW H × List MemPlace} (h : DataW.trod enc Try.prog W base spare held n 36 cs = some x) : ∃ (k : Int) (s : St), cs = [.int .i64 k, .int .i64 s.f, .int .i64 s.t, .int .i64 s.i] ∧ least ≤ s.f ∧ s.f ≤ most := by
  obtain ⟨y0, y1, y2, m, _, hl, h0, h1, h2⟩ := trod_struct3 Try.underlying36 h
  rw [cellsOf36] at hl
  match cs, hl with
  | [c0, c1, c2, c3], _ =>
    have o3 : Try.prog.cellsOf 3 = 1 := cellsOf3
    have o24 : Try.prog.cellsOf 24 = 2 := cellsOf24
    simp only [o3, o24] at h0 h1 h2
    obtain ⟨a, e0, _, _⟩ := DataW.trod_int Try.underlying3 h0
    obtain ⟨f, t, e1, hb⟩ := span_cells h1
    obtain ⟨b, e2, _, _⟩ := DataW.trod_int Try.underlying3 h2
    simp at e0 e1 e2
    obtain ⟨rfl, rfl⟩ := e1
    subst e0 e2
    exact ⟨a, ⟨f, t, b⟩, rfl, hb⟩
theorem add_plain (b off i : Nat) : (⟨b, off, none⟩ : Addr).add i = ⟨b, off + i, none⟩ := by
  unfold Addr.add
  by_cases h : i = 0 <;> simp [h]
theorem openDeeds {base : Nat} {v : Value} {d : DataW H} {p : List MemPlace} (hv : Value.okWide Try.prog W .any base 22 v) (h : DataW.Trod enc Try.prog W 0 (fun _ => true) true 22 v d p) :
    ∃ xs, DRow W v xs ∧ LoB xs := by
  obtain ⟨a0, len0, cap0, rfl⟩ := okWide_slice Try.underlying22 hv
  obtain ⟨fuel, hf⟩ := h
  rcases open_slice Try.underlying22 hf with ⟨hcs, _⟩ | ⟨a, len, cap, m, n, D, Pl, hcs, _, hl, hm, hme, _, hc⟩
  · simp [Value.cells] at hcs
    obtain ⟨rfl, rfl, rfl⟩ := hcs
    exact ⟨[], .inl ⟨⟨_, _, rfl⟩, rfl⟩, fun y hy => by cases hy⟩
  · simp [Value.cells] at hcs
    obtain ⟨rfl, rfl, rfl⟩ := hcs
    have hml : len0 ≤ m := by rw [hme]; simp; exact hl
    by_cases h0 : len0 = 0
    · subst h0
      exact ⟨[], .inl ⟨⟨_, _, rfl⟩, rfl⟩, fun y hy => by cases hy⟩
    · obtain ⟨b, off, spot⟩ := a
      have hspot : spot = none := by
        obtain ⟨cs', hcc, ht⟩ := hc 0 (by omega)
        obtain ⟨y1, y2, rfl, _⟩ := deed_cells ht
        rw [cellsOf36] at hcc
        have hq := (World.cells?_some hcc).2.2 0 (by omega)
        have := World.cell?_spot (by simpa using hq)
        simpa [Addr.add] using this
      subst hspot
      have hx : ∀ i, i < len0 → ∃ y : Int × St, (W.cell? ⟨b, off + i * 4, none⟩ = some (.int .i64 y.1) ∧ W.cell? ⟨b, off + i * 4 + 1, none⟩ = some (.int .i64 y.2.f) ∧ W.cell? ⟨b, off + i * 4 + 2, none⟩ = some (.int .i64 y.2.t) ∧ W.cell? ⟨b, off + i * 4 + 3, none⟩ = some (.int .i64 y.2.i)) ∧ least ≤ y.2.f ∧ y.2.f ≤ most := by
        intro i hi
        obtain ⟨cs', hcc, ht⟩ := hc i (by omega)
        obtain ⟨y1, y2, rfl, hb⟩ := deed_cells ht
        rw [cellsOf36, add_plain] at hcc
        have hs := World.cells?_some hcc
        refine ⟨(y1, y2), ⟨?_, ?_, ?_, ?_⟩, hb⟩
        · have := hs.2.2 0 (by omega)
          rw [add_plain] at this
          simpa using this
        · have := hs.2.2 1 (by omega)
          rw [add_plain] at this
          simpa using this
        · have := hs.2.2 2 (by omega)
          rw [add_plain] at this
          simpa using this
        · have := hs.2.2 3 (by omega)
          rw [add_plain] at this
          simpa using this
      have hxx : ∃ f : Nat → Int × St, ∀ i, i < len0 → (W.cell? ⟨b, off + i * 4, none⟩ = some (.int .i64 (f i).1) ∧ W.cell? ⟨b, off + i * 4 + 1, none⟩ = some (.int .i64 (f i).2.f) ∧ W.cell? ⟨b, off + i * 4 + 2, none⟩ = some (.int .i64 (f i).2.t) ∧ W.cell? ⟨b, off + i * 4 + 3, none⟩ = some (.int .i64 (f i).2.i)) ∧ least ≤ (f i).2.f ∧ (f i).2.f ≤ most := by
        refine ⟨fun i => if hi : i < len0 then Classical.choose (hx i hi) else (0, ⟨0, 0, 0⟩), fun i hi => ?_⟩
        have := Classical.choose_spec (hx i hi)
        simp only [hi, dif_pos]
        exact this
      obtain ⟨f, hf2⟩ := hxx
      refine ⟨(List.range len0).map f, .inr ⟨b, off, cap0, by simp, ?_, fun i y hy => ?_⟩, fun y hy => ?_⟩
      · exact World.block_lt_of_cell? W _ (hf2 0 (by omega)).1.1
      · simp only [List.getElem?_map, Option.map_eq_some_iff] at hy
        obtain ⟨j, hj, rfl⟩ := hy
        obtain ⟨hj1, rfl⟩ := List.getElem?_eq_some_iff.1 hj
        simp at hj1 ⊢
        exact (hf2 i hj1).1
      · simp only [List.mem_map, List.mem_range] at hy
        obtain ⟨j, hj, rfl⟩ := hy
        exact (hf2 j hj).2
theorem openSpan {base : Nat} {v : Value} {d : DataW H} {p : List MemPlace} (hv : Value.okWide Try.prog W .any base 24 v) (h : DataW.Trod enc Try.prog W 0 (fun _ => true) true 24 v d p) : ∃ a b : Int, v = .agg #[.int .i64 a, .int .i64 b] ∧ (least ≤ a ∧ a ≤ most) ∧ least ≤ b ∧ b ≤ most := by
  obtain ⟨c0, c1, y0, y1, m, rfl, _, _, hy0, hy1⟩ := open_agg2 Try.underlying24 (by kernel_rfl) cellsOf24 hv h
  obtain ⟨a, e0, _, wa⟩ := DataW.trod_int Try.underlying3 hy0
  obtain ⟨b, e1, _, wb⟩ := DataW.trod_int Try.underlying3 hy1
  simp at e0 e1
  subst e0 e1
  have := bounds_i64 wa
  have := bounds_i64 wb
  exact ⟨a, b, rfl, ⟨by unfold least; omega, by unfold most; omega⟩, by unfold least; omega, by unfold most; omega⟩
theorem openU8 {base : Nat} {v : Value} {d : DataW H} {p : List MemPlace} (hv : Value.okWide Try.prog W .any base 5 v) (h : DataW.Trod enc Try.prog W 0 (fun _ => true) true 5 v d p) : ∃ n : Nat, v = .int .u8 (n : Int) ∧ n < 256 := by
  obtain ⟨z, rfl, _, _, wf⟩ := open_int Try.underlying5 hv h
  have hb := bounds_u8 wf
  exact ⟨z.toNat, by rw [show ((z.toNat : Nat) : Int) = z by omega], by omega⟩
end Go.Proofs.Ytgglhicpfjihlaa
