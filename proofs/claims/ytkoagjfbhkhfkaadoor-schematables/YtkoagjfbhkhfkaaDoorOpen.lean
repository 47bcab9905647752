/- From what a row says of the world when the call begins to what the walks ask; a world in which it is so; tables that came in. -/
import Derived.Test.YtkoagjfbhkhfkaaDoorPy
import Derived.Test.YtkoagjfbhkhfkaaDoorCards
import Derived.Test.YtkoagjfbhkhfkaaDoorTie
import Derived.Lib.LaidIn
import Derived.Lib.LaidU8T
import Derived.Deep.DeepHandedRow
import Derived.Deep.DeepWitnessRowRef
import Derived.Deep.Slices
import Derived.Deep.Strs
import Derived.ProofKit
import Derived.SizedLaws
import Derived.PinnedBridge
import Derived.LaidMore
import Derived.Shelf.Vars
import Derived.OpenShut
import Derived.Lib.SmallJoins
namespace Go.Proofs.YtkoagjfbhkhfkaaDoor
open Go.ChangeShapes Go.WideShapes Go.ChangeAt Go.RowKit Go.Lib Go.Joins Go.Deep
set_option maxRecDepth 100000

theorem own : ownKnob Tryd.prog.godebug = none := by kernel_rfl
theorem laidOut : laidOutB Tryd.prog = true := by kernel_rfl
def tabs2 : List (String × DataW Unit) := Rows.schemaAheadRow.laid
theorem good_of {W : World} (hS : W.ShapedOpen Tryd.prog) : Good W :=
  ⟨cell_of_shapedOpen_int (g := 0) (t := 3) (zero := #[.int .i64 0]) hS (of_decide_eq_true (by kernel_rfl)) (by kernel_rfl) rfl (by kernel_rfl) (by kernel_rfl) Tryd.underlying3⟩
/-- A world with the two tables laid. -/
def laidIn (w : World) : World :=
  { w with heap := (w.heap.modify 1 fun
      | .cells _ t frozen => .cells (Lib.firstTab.map fun z => Value.int .u8 z).toArray t frozen
      | o => o).modify 2 fun
      | .cells _ t frozen => .cells ((List.range 16).flatMap fun i => [Value.int .u8 (Lib.accLo i), Value.int .u8 (Lib.accHi i)]).toArray t frozen
      | o => o }
theorem laid_met (os : Os) (args : Array Value) : laidMetH Tryd.prog tabs2 ((laidIn (World.holding Tryd.prog os ⟨#[], #[], []⟩)).forCall (fun _ _ => 0) ⟨#[], args, []⟩).memory := by
  rw [MakeChecks.laidMetH_plain _ _ _ (by kernel_rfl)]
  exact (LaidIn.of_run (l := tabs2) [1, 2] 8 (by kernel_rfl) (by kernel_rfl) (by kernel_rfl) (by kernel_rfl)).met

theorem cells32 : Tryd.prog.cellsOf 32 = 4 := by kernel_rfl
theorem cells30 : Tryd.prog.cellsOf 30 = 1 := by kernel_rfl
theorem cells44 : Tryd.prog.cellsOf 44 = 2 := by kernel_rfl
theorem cells42 : Tryd.prog.cellsOf 42 = 1 := by kernel_rfl
theorem cells9 : Tryd.prog.cellsOf 9 = 1 := by kernel_rfl
theorem cells3 : Tryd.prog.cellsOf 3 = 1 := by kernel_rfl
variable {H : Type} {enc : TypeId × Value → H} {W : World}
/-- Two cells that read as a column. -/
theorem col_cells {n : Nat} {cs : List Value} {x : DataW H × List MemPlace} (h : DataW.trod enc Tryd.prog W 0 (fun _ => true) true n 44 cs = some x) : ∃ y : Cl, cs = [.string (str y.1), .int .u8 (y.2 : Int)] := by
  obtain ⟨y0, y1, m, _, hl, h0, h1⟩ := trod_struct2 Tryd.underlying44 h
  rw [cells44] at hl
  match cs, hl with
  | [c0, c1], _ =>
    simp only [cells9, cells42] at h0 h1
    obtain ⟨s, e0, _, _⟩ := DataW.trod_string Tryd.underlying9 h0
    obtain ⟨b, e1, _, wb⟩ := DataW.trod_int Tryd.underlying42 h1
    simp at e0 e1
    subst e0 e1
    have hb := bounds_u8 wb
    exact ⟨(bs s, b.toNat), by rw [str_bs]; simp; omega⟩
/-- Columns. -/
theorem openCols {fuel : Nat} {c : Value} {x : DataW H × List MemPlace} (h : DataW.trod enc Tryd.prog W 0 (fun _ => true) true fuel 30 [c] = some x) : ∃ l : List Cl, SCP (fun _ => True) W c l ∧ ∀ a k cp, c = .slice a k cp → cp ≤ maxLen := by
  rcases open_slice Tryd.underlying30 h with ⟨hcs, _⟩ | ⟨a, len, cap, m, n, D, Pl, hcs, _, hl, hm, hme, _, hc⟩
  · simp at hcs
    subst hcs
    exact ⟨[], ⟨none, 0, rfl, Nat.le_refl _, fun h => by simp at h⟩, fun a k cp he => by cases he; simp [maxLen]⟩
  · simp at hcs
    subst hcs
    have hml : len ≤ m := by rw [hme]; simp; exact hl
    have hex : ∀ i, i < len → ∃ y : Cl, W.cells? 0 (a.add (i * 2)) 2 = some [.string (str y.1), .int .u8 (y.2 : Int)] := by
      intro i hi
      obtain ⟨cs', hcc, ht⟩ := hc i (by omega)
      obtain ⟨y, rfl⟩ := col_cells ht
      rw [cells44] at hcc
      exact ⟨y, hcc⟩
    obtain ⟨f, hf2⟩ : ∃ f : Nat → Cl, ∀ i, i < len → W.cells? 0 (a.add (i * 2)) 2 = some [.string (str (f i).1), .int .u8 ((f i).2 : Int)] := by
      refine ⟨fun i => if hi : i < len then Classical.choose (hex i hi) else ([], 0), fun i hi => ?_⟩
      have := Classical.choose_spec (hex i hi)
      simp only [hi, dif_pos]
      exact this
    refine ⟨(List.range len).map f, ⟨some a, cap, by simp, by simpa using hl, fun h0 => ?_⟩, fun a k cp he => by cases he; exact hm⟩
    have h0' : 0 < len := by simpa using h0
    obtain ⟨b, off, spot⟩ := a
    have hspot : spot = none := by
      have hq := (World.cells?_some (hf2 0 h0')).2.2 0 (by omega)
      have := World.cell?_spot (by simpa using hq)
      simpa [Addr.add] using this
    subst hspot
    have hcell : ∀ i, i < len → W.cell? ⟨b, off + i * 2, none⟩ = some (.string (str (f i).1)) ∧ W.cell? ⟨b, off + i * 2 + 1, none⟩ = some (.int .u8 ((f i).2 : Int)) := fun i hi => by
      have hs := World.cells?_some (hf2 i hi)
      rw [Addr.add_mid] at hs
      constructor
      · have := hs.2.2 0 (by omega)
        rw [Addr.add_mid] at this
        simpa using this
      · have := hs.2.2 1 (by omega)
        rw [Addr.add_mid] at this
        simpa using this
    refine ⟨b, off, rfl, World.block_lt_of_cell? W _ (hcell 0 h0').1, trivial, fun i x hx => ?_⟩
    have hi : i < len := by have := (List.getElem?_eq_some_iff.1 hx).1; simpa using this
    have : x = f i := by
      rw [List.getElem?_eq_getElem (by simpa using hi)] at hx
      simpa using hx.symm
    subst this
    exact hcell i hi
/-- What a table that came in is. -/
def TOk (W : World) (y : Tv) : Prop := SCP (fun _ => True) W y.2 y.1.cols ∧ ∀ a k cp, y.2 = .slice a k cp → cp ≤ maxLen
/-- Four cells that read as a table. -/
theorem tab_cells {n : Nat} {cs : List Value} {x : DataW H × List MemPlace} (h : DataW.trod enc Tryd.prog W 0 (fun _ => true) true n 32 cs = some x) : ∃ y : Tv, cs = [.string (str y.1.n), y.2, .string (str y.1.p), .int .i64 y.1.r] ∧ TOk W y := by
  obtain ⟨y0, y1, y2, y3, m, _, hl, h0, h1, h2, h3⟩ := trod_struct4 Tryd.underlying32 h
  rw [cells32] at hl
  match cs, hl with
  | [c0, c1, c2, c3], _ =>
    simp only [cells9, cells30, cells3] at h0 h1 h2 h3
    obtain ⟨s, e0, _, _⟩ := DataW.trod_string Tryd.underlying9 h0
    obtain ⟨l, hl1, hl2⟩ := openCols (c := c1) h1
    obtain ⟨t, e2, _, _⟩ := DataW.trod_string Tryd.underlying9 h2
    obtain ⟨b, e3, _, _⟩ := DataW.trod_int Tryd.underlying3 h3
    simp at e0 e2 e3
    subst e0 e2 e3
    exact ⟨(⟨bs s, l, bs t, b⟩, c1), by simp [str_bs], hl1, hl2⟩
/-- Tables. -/
theorem openTables {base : Nat} {v : Value} {d : DataW H} {p : List MemPlace} (hv : Value.okWide Tryd.prog W .any base 22 v) (h : DataW.Trod enc Tryd.prog W 0 (fun _ => true) true 22 v d p) : ∃ T : List Tv, IT W v T := by
  obtain ⟨a0, len0, cap0, rfl⟩ := okWide_slice Tryd.underlying22 hv
  obtain ⟨fuel, hf⟩ := h
  rcases open_slice Tryd.underlying22 hf with ⟨hcs, _⟩ | ⟨a, len, cap, m, n, D, Pl, hcs, _, hl, hm, hme, _, hc⟩
  · simp [Value.cells] at hcs
    obtain ⟨rfl, rfl, rfl⟩ := hcs
    exact ⟨[], ⟨⟨none, 0, rfl, Nat.le_refl _, fun h => by simp at h⟩, by simp⟩, by simp⟩
  · simp [Value.cells] at hcs
    obtain ⟨rfl, rfl, rfl⟩ := hcs
    have hml : len0 ≤ m := by rw [hme]; simp; exact hl
    have hex : ∀ i, i < len0 → ∃ y : Tv, W.cells? 0 (a.add (i * 4)) 4 = some [.string (str y.1.n), y.2, .string (str y.1.p), .int .i64 y.1.r] ∧ TOk W y := by
      intro i hi
      obtain ⟨cs', hcc, ht⟩ := hc i (by omega)
      obtain ⟨y, rfl, hy⟩ := tab_cells ht
      rw [cells32] at hcc
      exact ⟨y, hcc, hy⟩
    obtain ⟨f, hf2⟩ : ∃ f : Nat → Tv, ∀ i, i < len0 → W.cells? 0 (a.add (i * 4)) 4 = some [.string (str (f i).1.n), (f i).2, .string (str (f i).1.p), .int .i64 (f i).1.r] ∧ TOk W (f i) := by
      refine ⟨fun i => if hi : i < len0 then Classical.choose (hex i hi) else (⟨[], [], [], 0⟩, .slice none 0 0), fun i hi => ?_⟩
      have := Classical.choose_spec (hex i hi)
      simp only [hi, dif_pos]
      exact this
    have hok : ∀ x ∈ (List.range len0).map f, TOk W x := fun x hx => by
      obtain ⟨i, hi, rfl⟩ := List.mem_map.1 hx
      exact (hf2 i (List.mem_range.1 hi)).2
    refine ⟨(List.range len0).map f, ⟨⟨some a, cap0, by simp, by simpa using hl, fun h0 => ?_⟩, fun x hx => (hok x hx).1⟩, fun x hx => (hok x hx).2⟩
    have h0' : 0 < len0 := by simpa using h0
    obtain ⟨b, off, spot⟩ := a
    have hspot : spot = none := by
      have hq := (World.cells?_some (hf2 0 h0').1).2.2 0 (by omega)
      have := World.cell?_spot (by simpa using hq)
      simpa [Addr.add] using this
    subst hspot
    have hcell : ∀ i, i < len0 → W.cell? ⟨b, off + i * 4, none⟩ = some (.string (str (f i).1.n)) ∧ W.cell? ⟨b, off + i * 4 + 1, none⟩ = some (f i).2 ∧ W.cell? ⟨b, off + i * 4 + 2, none⟩ = some (.string (str (f i).1.p)) ∧ W.cell? ⟨b, off + i * 4 + 3, none⟩ = some (.int .i64 (f i).1.r) := fun i hi => by
      have hs := World.cells?_some (hf2 i hi).1
      rw [Addr.add_mid] at hs
      refine ⟨?_, ?_, ?_, ?_⟩
      · have := hs.2.2 0 (by omega)
        rw [Addr.add_mid] at this
        simpa using this
      · have := hs.2.2 1 (by omega)
        rw [Addr.add_mid] at this
        simpa using this
      · have := hs.2.2 2 (by omega)
        rw [Addr.add_mid] at this
        simpa using this
      · have := hs.2.2 3 (by omega)
        rw [Addr.add_mid] at this
        simpa using this
    refine ⟨b, off, rfl, World.block_lt_of_cell? W _ (hcell 0 h0').1, trivial, fun i x hx => ?_⟩
    have hi : i < len0 := by have := (List.getElem?_eq_some_iff.1 hx).1; simpa using this
    have : x = f i := by
      rw [List.getElem?_eq_getElem (by simpa using hi)] at hx
      simpa using hx.symm
    subst this
    exact hcell i hi
end Go.Proofs.YtkoagjfbhkhfkaaDoor
