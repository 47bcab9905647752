/- Three rows that came in. -/
import Derived.Test.YthfkmedpcmiibaaDoorOpen
import Derived.Test.YthfkmedpcmiibaaDoorRw
namespace Go.Proofs.YthfkmedpcmiibaaDoor
open Go.ChangeShapes Go.WideShapes Go.ChangeAt Go.RowKit Go.Lib Go.Joins Go.Deep
set_option maxRecDepth 100000

/-- Values that came in, in one cell. -/
theorem openCells {H : Type} {enc : TypeId × Value → H} {W : World} {n : Nat} {cs : List Value} {x : DataW H × List MemPlace} (h : DataW.trod enc Tryd.prog W 0 (fun _ => true) true n 29 cs = some x) :
    ∃ (v : Value) (vs : List Vt), cs = [v] ∧ SV W v vs ∧ (∀ y ∈ vs, inI64 y.2.1) ∧ (x.1 = .nil → vs = []) ∧ (x.1 = .nil ∨ ∃ es sp, x.1 = .slice es sp ∧ es = vs.map dv) := by
  rcases open_slice Tryd.underlying29 h with ⟨rfl, hx⟩ | ⟨a, len0, cap0, m, n', D, Pl, rfl, _, hl, hm, hme, hx, hc⟩
  · exact ⟨_, [], rfl, .inl ⟨_, _, rfl, rfl⟩, by simp, fun _ => rfl, .inl (congrArg Prod.fst hx)⟩
  · have hml : len0 ≤ m := by rw [hme]; simp; exact hl
    have hex : ∀ i, i < len0 → ∃ y : Vt, W.cells? 0 (a.add (i * 3)) 3 = some [.int .u8 y.1, .int .i64 y.2.1, .string y.2.2] ∧ inI64 y.2.1 ∧ D i = dv y := by
      intro i hi
      obtain ⟨cs', hcc, ht⟩ := hc i (by omega)
      obtain ⟨y, rfl, hy, hD⟩ := value_cells ht
      rw [cells46] at hcc
      exact ⟨y, hcc, hy, hD⟩
    have hxx : ∃ f : Nat → Vt, ∀ i, i < len0 → W.cells? 0 (a.add (i * 3)) 3 = some [.int .u8 (f i).1, .int .i64 (f i).2.1, .string (f i).2.2] ∧ inI64 (f i).2.1 ∧ D i = dv (f i) := by
      refine ⟨fun i => if hi : i < len0 then Classical.choose (hex i hi) else (0, 0, ⟨#[]⟩), fun i hi => ?_⟩
      have := Classical.choose_spec (hex i hi)
      simp only [hi, dif_pos]
      exact this
    obtain ⟨f, hf2⟩ := hxx
    have hd : x.1 = .slice ((List.range len0).map D) ((List.range (m - len0)).map fun j => D (len0 + j)) := congrArg Prod.fst hx
    refine ⟨_, (List.range len0).map f, rfl, ?_, ?_, (fun e => by rw [hd] at e; cases e), .inr ⟨_, _, hd, ?_⟩⟩
    · by_cases h0 : len0 = 0
      · subst h0
        exact .inl ⟨_, _, rfl, rfl⟩
      · obtain ⟨b, off, spot⟩ := a
        have hspot : spot = none := by
          have hq := (World.cells?_some (hf2 0 (by omega)).1).2.2 0 (by omega)
          have := World.cell?_spot (by simpa using hq)
          simpa [Addr.add] using this
        subst hspot
        refine .inr ⟨b, off, cap0, by simp, by simp; omega, by simpa using hl, hm, fun i x hx => ?_⟩
        have hi : i < len0 := by
          have := (List.getElem?_eq_some_iff.1 hx).1
          simpa using this
        have hxe : f i = x := by simpa [hi] using hx
        subst hxe
        have hs := World.cells?_some (hf2 i hi).1
        rw [add_offv] at hs
        refine ⟨?_, ?_, ?_⟩
        · have := hs.2.2 0 (by omega)
          rw [add_offv] at this
          simpa using this
        · have := hs.2.2 1 (by omega)
          rw [add_offv] at this
          simpa using this
        · have := hs.2.2 2 (by omega)
          rw [add_offv] at this
          simpa using this
    · intro x hx
      obtain ⟨i, hi, rfl⟩ := List.mem_map.1 hx
      exact (hf2 i (List.mem_range.1 hi)).2.1
    · rw [List.map_map]
      apply List.map_congr_left
      intro i hi
      exact (hf2 i (List.mem_range.1 hi)).2.2

theorem cells26 : Tryd.prog.cellsOf 33 = 3 := by kernel_rfl
theorem cells24 : Tryd.prog.cellsOf 31 = 2 := by kernel_rfl
theorem cells22 : Tryd.prog.cellsOf 29 = 1 := by kernel_rfl
/-- A row that came in. -/
def RowIn {H : Type} (W : World) (cs : List Value) (d : DataW H) (v : Value) (vs : List Vt) (f t : Int) : Prop :=
  cs = [v, .int .i64 f, .int .i64 t] ∧ SV W v vs ∧ (∀ y ∈ vs, inI64 y.2.1) ∧ ∃ e s, d = .agg [e, s] ∧ (e = .nil → vs = []) ∧ (e = .nil ∨ ∃ es sp, e = .slice es sp ∧ es = vs.map dv)

theorem openRow {H : Type} {enc : TypeId × Value → H} {W : World} {n : Nat} {cs : List Value} {x : DataW H × List MemPlace} (h : DataW.trod enc Tryd.prog W 0 (fun _ => true) true n 33 cs = some x) :
    ∃ v vs f t, RowIn W cs x.1 v vs f t := by
  obtain ⟨y0, y1, m, hx, hl, h0, h1⟩ := trod_struct2 Tryd.underlying33 h
  rw [cells26] at hl
  match cs, hl with
  | [c0, c1, c2], _ =>
    simp only [cells22, cells24] at h0 h1
    obtain ⟨v, vs, e0, hs, hi, hn, hd⟩ := openCells h0
    obtain ⟨z0, z1, k, _, _, g0, g1⟩ := trod_struct2 Tryd.underlying31 h1
    simp only [show Tryd.prog.cellsOf 3 = 1 by kernel_rfl] at g0 g1
    obtain ⟨a, e1, _, _⟩ := DataW.trod_int Tryd.underlying3 g0
    obtain ⟨b, e2, _, _⟩ := DataW.trod_int Tryd.underlying3 g1
    simp at e0 e1 e2
    subst e0 e1 e2
    exact ⟨c0, vs, a, b, rfl, hs, hi, y0.1, y1.1, by rw [hx], hn, hd⟩

theorem all_less {l m : List Nat} (h : m.all (· ≤ reachBytes) = true) (hs : ∀ n ∈ l, n ∈ m) : l.all (· ≤ reachBytes) = true :=
  List.all_eq_true.2 fun n hn => List.all_eq_true.1 h n (hs n hn)

/-- The sizes of a row that came in. -/
theorem sized_row {H : Type} {W : World} {cs : List Value} {d : DataW H} {v : Value} {vs : List Vt} {f t : Int} (hr : RowIn W cs d v vs f t) (h : (d.weights Tryd.prog 33).all (· ≤ reachBytes) = true) :
    vs.length ≤ 140737488355328 ∧ Few vs := by
  obtain ⟨_, _, hi, e, s, rfl, hn, hd⟩ := hr
  have hz : vs.length ≤ 140737488355328 ∧ ∀ x ∈ vs, x.2.2.size ≤ 140737488355328 := by
    rcases hd with e0 | ⟨es, sp, e0, rfl⟩
    · rw [hn e0]; simp
    · subst e0
      have hu : Tryd.prog.underlying 33 = _ := Tryd.underlying33
      refine sized_values (ts := [29]) (ds := [.slice (vs.map dv) sp]) (all_less h fun n hn => ?_) (j := 0) (sp := sp) rfl rfl
      simp only [DataW.weightsEach, List.append_nil] at hn
      rw [DataW.weights]
      simp only [hu, List.map_cons, List.map_nil, DataW.weightsEach, List.mem_append]
      exact .inl hn
  exact ⟨hz.1, fun x hx => ⟨hi x hx, by have := hz.2 x hx; omega⟩⟩

end Go.Proofs.YthfkmedpcmiibaaDoor
