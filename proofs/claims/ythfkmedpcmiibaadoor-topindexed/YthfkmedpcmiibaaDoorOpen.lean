/- From what a row says of the world when the call begins (the two tables of utf8 as they are laid) to what the walks ask; and a world in which it is so; values that came in. -/
import Derived.Test.YthfkmedpcmiibaaDoorVrow
import Derived.Test.YthfkmedpcmiibaaDoorCards
import Derived.Test.YthfkmedpcmiibaaDoorTie
import Derived.Lib.LaidIn
import Derived.Lib.LaidU8T
import Derived.Deep.DeepHandedRow
import Derived.Deep.DeepWitnessRowRef
import Derived.Deep.Slices
import Derived.Deep.Strs
import Derived.ProofKit
import Derived.SizedLaws
import Derived.PinnedBridge
import Derived.LaidMore
import Derived.OpenShut
import Derived.Lib.SmallJoins
namespace Go.Proofs.YthfkmedpcmiibaaDoor
open Go.ChangeShapes Go.WideShapes Go.ChangeAt Go.RowKit Go.Lib Go.Joins Go.Deep
set_option maxRecDepth 100000

theorem own : ownKnob Tryd.prog.godebug = none := by kernel_rfl
theorem laidOut : laidOutB Tryd.prog = true := by kernel_rfl

/-- The two tables, as the rows list them. -/
def tabs2 : List (String × DataW Unit) := Rows.topIndexedRow.laid
theorem accept_eq : (Rows.laid_unicode_utf8_acceptRanges : DataW Unit) = acceptData := by kernel_rfl
theorem first_eq : Rows.laid_unicode_utf8_first = firstData := Pinned.utf8First_eq

theorem good_of {W : World} (hL : laidMetH Tryd.prog tabs2 W) : Good W := by
  rw [MakeChecks.laidMetH_plain _ _ _ (by kernel_rfl)] at hL
  refine ⟨?_⟩
  have h4 := Lib.laidMet.reads hL (.head _)
  have h3 := Lib.laidMet.reads hL (.tail _ (.head _))
  rw [accept_eq] at h4
  rw [first_eq] at h3
  exact utf8Tabs_of_readsT (U8Types.of196 Tryd.lays196) ⟨by kernel_rfl, by kernel_rfl, by kernel_rfl, by kernel_rfl, by kernel_rfl, by kernel_rfl, by kernel_rfl⟩ h3 h4

/-- A world with the two tables laid. -/
def laidIn (w : World) : World :=
  { w with heap := (w.heap.modify 0 fun
      | .cells _ t frozen => .cells (Lib.firstTab.map fun z => Value.int .u8 z).toArray t frozen
      | o => o).modify 1 fun
      | .cells _ t frozen => .cells ((List.range 16).flatMap fun i => [Value.int .u8 (Lib.accLo i), Value.int .u8 (Lib.accHi i)]).toArray t frozen
      | o => o }

theorem laid_met (os : Os) (args : Array Value) : laidMetH Tryd.prog tabs2 ((laidIn (World.holding Tryd.prog os ⟨#[], #[], []⟩)).forCall (fun _ _ => 0) ⟨#[], args, []⟩).memory := by
  rw [MakeChecks.laidMetH_plain _ _ _ (by kernel_rfl)]
  exact (LaidIn.of_run (l := tabs2) [0, 1] 8 (by kernel_rfl) (by kernel_rfl) (by kernel_rfl) (by kernel_rfl)).met

theorem cells46 : Tryd.prog.cellsOf 56 = 3 := by kernel_rfl
theorem cells44 : Tryd.prog.cellsOf 54 = 1 := by kernel_rfl
theorem cells2 : Tryd.prog.cellsOf 2 = 1 := by kernel_rfl
theorem cells9 : Tryd.prog.cellsOf 9 = 1 := by kernel_rfl

/-- A value as data. -/
def dv {H : Type} (x : Vt) : DataW H := .agg [.lit (.int .u8 x.1), .lit (.int .i64 x.2.1), .lit (.string (bs x.2.2))]

/-- Three cells that read as a value are one. -/
theorem value_cells {H : Type} {enc : TypeId × Value → H} {W : World} {base n : Nat} {spare : Nat → Bool} {held : Bool} {cs : List Value} {x : DataW H × List MemPlace} (h : DataW.trod enc Tryd.prog W base spare held n 56 cs = some x) :
    ∃ y : Vt, cs = [.int .u8 y.1, .int .i64 y.2.1, .string y.2.2] ∧ inI64 y.2.1 ∧ x.1 = dv y := by
  obtain ⟨y0, y1, y2, m, hx, hl, h0, h1, h2⟩ := trod_struct3 Tryd.underlying56 h
  rw [cells46] at hl
  match cs, hl with
  | [c0, c1, c2], _ =>
    simp only [cells44, cells2, cells9] at h0 h1 h2
    obtain ⟨a, e0, x0, _⟩ := DataW.trod_int Tryd.underlying54 h0
    obtain ⟨b, e1, x1, wb⟩ := DataW.trod_int Tryd.underlying2 h1
    obtain ⟨s, e2, x2, _⟩ := DataW.trod_string Tryd.underlying9 h2
    simp at e0 e1 e2
    subst e0 e1 e2
    exact ⟨(a, b, s), rfl, bounds_i64 wb, by rw [hx, x0, x1, x2]; rfl⟩

/-- Values that came in. -/
theorem openValues {H : Type} {enc : TypeId × Value → H} {W : World} {base : Nat} {v : Value} {d : DataW H} {p : List MemPlace} (hv : Value.okWide Tryd.prog W .any base 29 v) (h : DataW.Trod enc Tryd.prog W 0 (fun _ => true) true 29 v d p) :
    ∃ vs : List Vt, SV W v vs ∧ (∀ x ∈ vs, inI64 x.2.1) ∧ (d = .nil → vs = []) ∧ (d = .nil ∨ ∃ es sp, d = .slice es sp ∧ es = vs.map dv) := by
  obtain ⟨a0, len0, cap0, rfl⟩ := okWide_slice Tryd.underlying29 hv
  obtain ⟨fuel, hf⟩ := h
  rcases open_slice Tryd.underlying29 hf with ⟨hcs, hx⟩ | ⟨a, len, cap, m, n, D, Pl, hcs, _, hl, hm, hme, hx, hc⟩
  · simp [Value.cells] at hcs
    obtain ⟨rfl, rfl, rfl⟩ := hcs
    exact ⟨[], .inl ⟨_, _, rfl, rfl⟩, by simp, fun _ => rfl, .inl (congrArg Prod.fst hx)⟩
  · simp [Value.cells] at hcs
    obtain ⟨rfl, rfl, rfl⟩ := hcs
    have hml : len0 ≤ m := by rw [hme]; simp; exact hl
    have hex : ∀ i, i < len0 → ∃ y : Vt, W.cells? 0 (a.add (i * 3)) 3 = some [.int .u8 y.1, .int .i64 y.2.1, .string y.2.2] ∧ inI64 y.2.1 ∧ D i = dv y := by
      intro i hi
      obtain ⟨cs', hcc, ht⟩ := hc i (by omega)
      obtain ⟨y, rfl, hy, hD⟩ := value_cells ht
      rw [cells46] at hcc
      exact ⟨y, hcc, hy, hD⟩
    have hxx : ∃ f : Nat → Vt, ∀ i, i < len0 → W.cells? 0 (a.add (i * 3)) 3 = some [.int .u8 (f i).1, .int .i64 (f i).2.1, .string (f i).2.2] ∧ inI64 (f i).2.1 ∧ D i = dv (f i) := by
      refine ⟨fun i => if hi : i < len0 then Classical.choose (hex i hi) else (0, 0, ⟨#[]⟩), fun i hi => ?_⟩
      have := Classical.choose_spec (hex i hi)
      simp only [hi, dif_pos]
      exact this
    obtain ⟨f, hf2⟩ := hxx
    have hd : d = .slice ((List.range len0).map D) ((List.range (m - len0)).map fun j => D (len0 + j)) := congrArg Prod.fst hx
    refine ⟨(List.range len0).map f, ?_, ?_, (fun e => by rw [hd] at e; cases e), .inr ⟨_, _, hd, ?_⟩⟩
    · by_cases h0 : len0 = 0
      · subst h0
        exact .inl ⟨_, _, rfl, rfl⟩
      · obtain ⟨b, off, spot⟩ := a
        have hspot : spot = none := by
          have hq := (World.cells?_some (hf2 0 (by omega)).1).2.2 0 (by omega)
          have := World.cell?_spot (by simpa using hq)
          simpa [Addr.add] using this
        subst hspot
        refine .inr ⟨b, off, cap0, by simp, by simp; omega, by simpa using hl, hm, fun i x hx => ?_⟩
        have hi : i < len0 := by
          have := (List.getElem?_eq_some_iff.1 hx).1
          simpa using this
        have hxe : f i = x := by simpa [hi] using hx
        subst hxe
        have hs := World.cells?_some (hf2 i hi).1
        rw [add_offv] at hs
        refine ⟨?_, ?_, ?_⟩
        · have := hs.2.2 0 (by omega)
          rw [add_offv] at this
          simpa using this
        · have := hs.2.2 1 (by omega)
          rw [add_offv] at this
          simpa using this
        · have := hs.2.2 2 (by omega)
          rw [add_offv] at this
          simpa using this
    · intro x hx
      obtain ⟨i, hi, rfl⟩ := List.mem_map.1 hx
      exact (hf2 i (List.mem_range.1 hi)).2.1
    · rw [List.map_map]
      apply List.map_congr_left
      intro i hi
      exact (hf2 i (List.mem_range.1 hi)).2.2

theorem weightsAll_mem {H : Type} {P : Program} {e : TypeId} : ∀ {l : List (DataW H)} {d : DataW H}, d ∈ l → ∀ n ∈ d.weights P e, n ∈ DataW.weightsAll P e l
  | d0 :: r, d, hd, n, hn => by
    simp only [DataW.weightsAll, List.mem_append]
    rcases List.mem_cons.1 hd with rfl | h
    · exact .inl hn
    · exact .inr (weightsAll_mem h n hn)

/-- The sizes of values that came in. -/
theorem sized_values {H : Type} {ts : List TypeId} {ds : List (DataW H)} (h : (DataW.weightsEach Tryd.prog ts ds).all (· ≤ reachBytes) = true) {j : Nat} {sp : List (DataW H)} {vs : List Vt} (ht : ts[j]? = some 29) (hd : ds[j]? = some (.slice (vs.map dv) sp)) :
    vs.length ≤ 140737488355328 ∧ ∀ x ∈ vs, x.2.2.size ≤ 140737488355328 := by
  have h2 := reachBytes_lt
  constructor
  · have h1 := sized_slice h ht hd Tryd.underlying29
    rw [show Tryd.prog.bytesOf 56 = 32 by kernel_rfl, List.length_map] at h1
    omega
  · intro x hx
    have hu : Tryd.prog.underlying 56 = _ := Tryd.underlying56
    have hu2 : Tryd.prog.underlying 29 = _ := Tryd.underlying29
    have := List.all_eq_true.1 h _ (DataW.weights_mem_each ht hd x.2.2.size (by
      simp only [DataW.weights, hu2, List.mem_cons, List.mem_append]
      refine .inr (.inl (weightsAll_mem (List.mem_map.2 ⟨x, hx, rfl⟩) _ ?_))
      simp only [dv, DataW.weights, hu, List.map_cons, List.map_nil, DataW.weightsEach, List.mem_append, List.mem_singleton]
      simp))
    simp at this
    omega

end Go.Proofs.YthfkmedpcmiibaaDoor
