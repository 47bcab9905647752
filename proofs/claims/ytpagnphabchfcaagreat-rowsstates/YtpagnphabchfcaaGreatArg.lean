/- Rows that came in. -/
import Derived.Test.YtpagnphabchfcaaGreatGa
import Derived.ProofKit
import Derived.ChangeOld
import Derived.OpenShut
import Derived.Lib.SmallJoins
import Derived.Deep.Strs
namespace Go.Proofs.YtpagnphabchfcaaGreat
open Go.ChangeShapes Go.WideShapes Go.ChangeAt Go.RowKit Go.Joins Go.Deep
set_option maxRecDepth 100000
theorem own : ownKnob Tryz.prog.godebug = none := by kernel_rfl
theorem laidOut : laidOutB Tryz.prog = true := by kernel_rfl
theorem cellsOf54 : Tryz.prog.cellsOf 25 = 3 := by kernel_rfl
theorem cellsOf52 : Tryz.prog.cellsOf 23 = 1 := by kernel_rfl
theorem cellsOf2 : Tryz.prog.cellsOf 2 = 1 := by kernel_rfl
theorem cellsOf3 : Tryz.prog.cellsOf 3 = 1 := by kernel_rfl
theorem cellsOf9 : Tryz.prog.cellsOf 9 = 1 := by kernel_rfl
theorem cellsOf30 : Tryz.prog.cellsOf 35 = 1 := by kernel_rfl
theorem cellsOf32 : Tryz.prog.cellsOf 39 = 2 := by kernel_rfl
theorem cellsOf34 : Tryz.prog.cellsOf 64 = 3 := by kernel_rfl
variable {H : Type} {enc : TypeId × Value → H} {W : World}
theorem value_cells {base n : Nat} {spare : Nat → Bool} {held : Bool} {cs : List Value} {x : DataW H × List MemPlace} (h : DataW.trod enc Tryz.prog W base spare held n 25 cs = some x) :
    ∃ y : Vt, cs = [.int .u8 y.1, .int .i64 y.2.1, .string y.2.2] := by
  obtain ⟨y0, y1, y2, m, hx, hl, h0, h1, h2⟩ := trod_struct3 Tryz.underlying25 h
  rw [cellsOf54] at hl
  match cs, hl with
  | [c0, c1, c2], _ =>
    simp only [cellsOf52, cellsOf2, cellsOf9] at h0 h1 h2
    obtain ⟨a, e0, x0, _⟩ := DataW.trod_int Tryz.underlying23 h0
    obtain ⟨b, e1, x1, wb⟩ := DataW.trod_int Tryz.underlying2 h1
    obtain ⟨s, e2, x2, _⟩ := DataW.trod_string Tryz.underlying9 h2
    simp at e0 e1 e2
    subst e0 e1 e2
    exact ⟨(a, b, s), rfl⟩
theorem add_plain (b off i : Nat) : (⟨b, off, none⟩ : Addr).add i = ⟨b, off + i, none⟩ := by
  unfold Addr.add
  by_cases h : i = 0 <;> simp [h]
theorem three_cells {a : Addr} {x y z : Value} (h : W.cells? 0 a 3 = some [x, y, z]) : W.cell? a = some x ∧ W.cell? (a.add 1) = some y ∧ W.cell? (a.add 2) = some z := by
  have hs := World.cells?_some h
  refine ⟨?_, ?_, ?_⟩
  · have := hs.2.2 0 (by omega)
    simpa [Addr.add] using this
  · have := hs.2.2 1 (by omega)
    simpa using this
  · have := hs.2.2 2 (by omega)
    simpa using this
theorem openV {n : Nat} {cs : List Value} {x : DataW H × List MemPlace} (h : DataW.trod enc Tryz.prog W 0 (fun _ => true) true n 35 cs = some x) : ∃ v vs, cs = [v] ∧ SV W (fun _ => False) v vs ∧ CapOk v := by
  rcases open_slice Tryz.underlying35 h with ⟨hcs, _⟩ | ⟨a, len, cap, m, n', D, Pl, hcs, _, hl, hm, hme, _, hc⟩
  · exact ⟨_, [], hcs, SV.nil _ _, fun a n c q => by cases q; exact Nat.le_refl _⟩
  · have hml : len ≤ m := by rw [hme]; simp; exact hl
    have hex : ∀ i, i < len → ∃ y : Vt, W.cells? 0 (a.add (i * 3)) 3 = some [.int .u8 y.1, .int .i64 y.2.1, .string y.2.2] := by
      intro i hi
      obtain ⟨cs', hcc, ht⟩ := hc i (by omega)
      obtain ⟨y, rfl⟩ := value_cells ht
      rw [cellsOf54] at hcc
      exact ⟨y, hcc⟩
    obtain ⟨f, hf2⟩ : ∃ f : Nat → Vt, ∀ i, i < len → W.cells? 0 (a.add (i * 3)) 3 = some [.int .u8 (f i).1, .int .i64 (f i).2.1, .string (f i).2.2] := by
      refine ⟨fun i => if hi : i < len then Classical.choose (hex i hi) else (0, 0, ⟨#[]⟩), fun i hi => ?_⟩
      have := Classical.choose_spec (hex i hi)
      simp only [hi, dif_pos]
      exact this
    refine ⟨_, (List.range len).map f, hcs, ⟨some a, cap, by simp, fun h0 => ?_⟩, fun a' n c q => by cases q; exact hl⟩
    obtain ⟨b, off, spot⟩ := a
    have h0' : 0 < len := by simpa using h0
    have hspot : spot = none := by
      have hq := (three_cells (hf2 0 h0')).1
      have := World.cell?_spot hq
      simpa [Addr.add] using this
    subst hspot
    refine ⟨b, off, rfl, ?_, id, fun i y hy => ?_⟩
    · have hq := (three_cells (hf2 0 h0')).1
      rw [Nat.zero_mul, add_plain] at hq
      exact World.block_lt_of_cell? W _ hq
    · have hi : i < len := by
        have := (List.getElem?_eq_some_iff.1 hy).1
        simpa using this
      have hye : f i = y := by simpa [hi] using hy
      subst hye
      have := three_cells (hf2 i hi)
      simp only [add_plain] at this
      exact this
theorem row_cells {n : Nat} {cs : List Value} {x : DataW H × List MemPlace} (h : DataW.trod enc Tryz.prog W 0 (fun _ => true) true n 64 cs = some x) :
    ∃ e : El, cs = [e.1, .int .i64 e.2.2.1, .int .i64 e.2.2.2] ∧ SV W (fun _ => False) e.1 e.2.1 ∧ CapOk e.1 := by
  obtain ⟨y0, y1, m, hx, hl, h0, h1⟩ := trod_struct2 Tryz.underlying64 h
  rw [cellsOf34] at hl
  match cs, hl with
  | [c0, c1, c2], _ =>
    simp only [cellsOf30, cellsOf32] at h0 h1
    obtain ⟨v, vs, e0, hs, hc⟩ := openV h0
    obtain ⟨z0, z1, k, _, _, g0, g1⟩ := trod_struct2 Tryz.underlying39 h1
    simp only [cellsOf3] at g0 g1
    obtain ⟨a, e1, _, _⟩ := DataW.trod_int Tryz.underlying3 g0
    obtain ⟨b, e2, _, _⟩ := DataW.trod_int Tryz.underlying3 g1
    simp at e0 e1 e2
    subst e0 e1 e2
    exact ⟨(_, vs, a, b), rfl, hs, hc⟩
theorem openRows {base : Nat} {v : Value} {d : DataW H} {p : List MemPlace} (hv : Value.okWide Tryz.prog W .any base 22 v) (h : DataW.Trod enc Tryz.prog W 0 (fun _ => true) true 22 v d p) :
    ∃ es, RL W (fun _ => False) v es ∧ CapOk v ∧ ∀ e ∈ es, CapOk e.1 := by
  obtain ⟨a0, len0, cap0, rfl⟩ := okWide_slice Tryz.underlying22 hv
  obtain ⟨fuel, hf⟩ := h
  rcases open_slice Tryz.underlying22 hf with ⟨hcs, _⟩ | ⟨a, len, cap, m, n', D, Pl, hcs, _, hl, hm, hme, _, hc⟩
  · simp [Value.cells] at hcs
    obtain ⟨rfl, rfl, rfl⟩ := hcs
    exact ⟨[], RL.nil _ _, fun a n c q => by cases q; exact Nat.le_refl _, fun e he => by cases he⟩
  · simp [Value.cells] at hcs
    obtain ⟨rfl, rfl, rfl⟩ := hcs
    have hml : len0 ≤ m := by rw [hme]; simp; exact hl
    have hex : ∀ i, i < len0 → ∃ e : El, W.cells? 0 (a.add (i * 3)) 3 = some [e.1, .int .i64 e.2.2.1, .int .i64 e.2.2.2] ∧ SV W (fun _ => False) e.1 e.2.1 ∧ CapOk e.1 := by
      intro i hi
      obtain ⟨cs', hcc, ht⟩ := hc i (by omega)
      obtain ⟨e, rfl, hs, hk⟩ := row_cells ht
      rw [cellsOf34] at hcc
      exact ⟨e, hcc, hs, hk⟩
    obtain ⟨f, hf2⟩ : ∃ f : Nat → El, ∀ i, i < len0 → W.cells? 0 (a.add (i * 3)) 3 = some [(f i).1, .int .i64 (f i).2.2.1, .int .i64 (f i).2.2.2] ∧ SV W (fun _ => False) (f i).1 (f i).2.1 ∧ CapOk (f i).1 := by
      refine ⟨fun i => if hi : i < len0 then Classical.choose (hex i hi) else (.slice none 0 0, [], 0, 0), fun i hi => ?_⟩
      have := Classical.choose_spec (hex i hi)
      simp only [hi, dif_pos]
      exact this
    refine ⟨(List.range len0).map f, ⟨⟨some a, cap0, by simp, fun h0 => ?_⟩, fun e he => ?_⟩, fun a' n c q => by cases q; exact hl, fun e he => ?_⟩
    · obtain ⟨b, off, spot⟩ := a
      have h0' : 0 < len0 := by simpa using h0
      have hspot : spot = none := by
        have hq := (three_cells (hf2 0 h0').1).1
        have := World.cell?_spot hq
        simpa [Addr.add] using this
      subst hspot
      refine ⟨b, off, rfl, ?_, id, fun i y hy => ?_⟩
      · have hq := (three_cells (hf2 0 h0').1).1
        rw [Nat.zero_mul, add_plain] at hq
        exact World.block_lt_of_cell? W _ hq
      · have hi : i < len0 := by
          have := (List.getElem?_eq_some_iff.1 hy).1
          simpa using this
        have hye : f i = y := by simpa [hi] using hy
        subst hye
        have := three_cells (hf2 i hi).1
        simp only [add_plain] at this
        exact this
    · simp only [List.mem_map, List.mem_range] at he
      obtain ⟨j, hj, rfl⟩ := he
      exact (hf2 j hj).2.1
    · simp only [List.mem_map, List.mem_range] at he
      obtain ⟨j, hj, rfl⟩ := he
      exact (hf2 j hj).2.2
end Go.Proofs.YtpagnphabchfcaaGreat
