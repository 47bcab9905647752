/- Pairs of bytes that came in. -/
import Derived.Test.YtkoagjfbhkhfkaaTl
import Derived.ProofKit
import Derived.ChangeOld
import Derived.OpenShut
import Derived.Lib.SmallJoins
import Derived.Deep.Grids
namespace Go.Proofs.Ytkoagjfbhkhfkaa
open Go.ChangeShapes Go.WideShapes Go.ChangeAt Go.RowKit Go.Joins Go.Deep
set_option maxRecDepth 100000

theorem own : ownKnob Try.prog.godebug = none := by kernel_rfl
theorem laidOut : laidOutB Try.prog = true := by kernel_rfl
theorem cellsOf5 : Try.prog.cellsOf 5 = 1 := by kernel_rfl
theorem cellsOf26 : Try.prog.cellsOf 26 = 2 := by kernel_rfl
variable {H : Type} {enc : TypeId × Value → H} {W : World}
theorem byte_of {z : Int} (h : 0 ≤ z ∧ z ≤ 255) : ∃ b : UInt8, (b.toNat : Int) = z := ⟨UInt8.ofNat z.toNat, by rw [UInt8.toNat_ofNat']; omega⟩
/-- Two cells that read as a pair of bytes. -/
theorem pair_cells {n : Nat} {cs : List Value} {x : DataW H × List MemPlace} (h : DataW.trod enc Try.prog W 0 (fun _ => true) true n 26 cs = some x) :
    ∃ y : UInt8 × UInt8, cs = [.int .u8 (y.1.toNat : Int), .int .u8 (y.2.toNat : Int)] := by
  obtain ⟨xs, m, _, hx, hl, hn, hi⟩ := DataW.trod_array Try.underlying26 h
  rw [cellsOf26] at hl
  obtain ⟨x0, x1, rfl⟩ : ∃ x0 x1, xs = [x0, x1] := by
    match xs, hn with
    | [x0, x1], _ => exact ⟨x0, x1, rfl⟩
  have i0 := hi 0 (by omega)
  have i1 := hi 1 (by omega)
  match cs, hl with
  | [q0, q1], _ =>
    simp [cellsOf5] at i0 i1
    obtain ⟨a, e0, _, wa⟩ := DataW.trod_int Try.underlying5 i0
    obtain ⟨b, e1, _, wb⟩ := DataW.trod_int Try.underlying5 i1
    simp at e0 e1
    subst e0 e1
    obtain ⟨y0, rfl⟩ := byte_of (bounds_u8 wa)
    obtain ⟨y1, rfl⟩ := byte_of (bounds_u8 wb)
    exact ⟨(y0, y1), rfl⟩
theorem openPairs {base : Nat} {v : Value} {d : DataW H} {p : List MemPlace} (hv : Value.okWide Try.prog W .any base 22 v) (h : DataW.Trod enc Try.prog W 0 (fun _ => true) true 22 v d p) : ∃ l : List (UInt8 × UInt8), PS W v l := by
  obtain ⟨a0, len0, cap0, rfl⟩ := okWide_slice Try.underlying22 hv
  obtain ⟨fuel, hf⟩ := h
  rcases open_slice Try.underlying22 hf with ⟨hcs, _⟩ | ⟨a, len, cap, m, n, D, Pl, hcs, _, hl, hm, hme, _, hc⟩
  · simp [Value.cells] at hcs
    obtain ⟨rfl, rfl, rfl⟩ := hcs
    exact ⟨[], none, 0, rfl, fun h => by simp at h⟩
  · simp [Value.cells] at hcs
    obtain ⟨rfl, rfl, rfl⟩ := hcs
    have hml : len0 ≤ m := by rw [hme]; simp; exact hl
    have hex : ∀ i, i < len0 → ∃ y : UInt8 × UInt8, W.cells? 0 (a.add (i * 2)) 2 = some [.int .u8 (y.1.toNat : Int), .int .u8 (y.2.toNat : Int)] := by
      intro i hi
      obtain ⟨cs', hcc, ht⟩ := hc i (by omega)
      obtain ⟨y, rfl⟩ := pair_cells ht
      rw [cellsOf26] at hcc
      exact ⟨y, hcc⟩
    obtain ⟨f, hf2⟩ : ∃ f : Nat → UInt8 × UInt8, ∀ i, i < len0 → W.cells? 0 (a.add (i * 2)) 2 = some [.int .u8 ((f i).1.toNat : Int), .int .u8 ((f i).2.toNat : Int)] := by
      refine ⟨fun i => if hi : i < len0 then Classical.choose (hex i hi) else (0, 0), fun i hi => ?_⟩
      have := Classical.choose_spec (hex i hi)
      simp only [hi, dif_pos]
      exact this
    refine ⟨(List.range len0).map f, some a, cap0, by simp, fun h0 => ?_⟩
    have h0' : 0 < len0 := by simpa using h0
    obtain ⟨b, off, spot⟩ := a
    have hspot : spot = none := by
      have hq0 := hf2 0 h0'
      have hq := (World.cells?_some hq0).2.2 0 (by omega)
      have := World.cell?_spot (by simpa using hq)
      simpa [Addr.add] using this
    subst hspot
    have hcell : ∀ i, i < len0 → W.cell? ⟨b, off + i * 2, none⟩ = some (.int .u8 ((f i).1.toNat : Int)) ∧ W.cell? ⟨b, off + i * 2 + 1, none⟩ = some (.int .u8 ((f i).2.toNat : Int)) := fun i hi => by
      have hs := World.cells?_some (hf2 i hi)
      rw [Addr.add_mid] at hs
      constructor
      · have := hs.2.2 0 (by omega)
        rw [Addr.add_mid] at this
        simpa using this
      · have := hs.2.2 1 (by omega)
        rw [Addr.add_mid] at this
        simpa using this
    refine ⟨b, off, rfl, World.block_lt_of_cell? W _ (hcell 0 h0').1, fun i x hx => ?_⟩
    have hi : i < len0 := by have := (List.getElem?_eq_some_iff.1 hx).1; simpa using this
    have : x = f i := by
      rw [List.getElem?_eq_getElem (by simpa using hi)] at hx
      simpa using hx.symm
    subst this
    exact hcell i hi
end Go.Proofs.Ytkoagjfbhkhfkaa
