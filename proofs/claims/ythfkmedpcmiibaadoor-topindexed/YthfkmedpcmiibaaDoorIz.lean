/- A list of rows that came in. -/
import Derived.Test.YthfkmedpcmiibaaDoorArgk
import Derived.Test.YthfkmedpcmiibaaDoorIx
namespace Go.Proofs.YthfkmedpcmiibaaDoor
open Go.ChangeShapes Go.WideShapes Go.ChangeAt Go.RowKit Go.Lib Go.Joins Go.Deep
set_option maxRecDepth 100000
theorem openRowsL {H : Type} {enc : TypeId × Value → H} {W : World} {base : Nat} {v : Value} {d : DataW H} {p : List MemPlace} (hv : Value.okWide Tryd.prog W .any base 22 v) (h : DataW.Trod enc Tryd.prog W 0 (fun _ => true) true 22 v d p)
    (hz : (DataW.weightsEach Tryd.prog [22] [d]).all (· ≤ reachBytes) = true) : ∃ n, InRs W v n := by
  obtain ⟨a0, len0, cap0, rfl⟩ := okWide_slice Tryd.underlying22 hv
  obtain ⟨fuel, hf⟩ := h
  have hu : Tryd.prog.underlying 22 = _ := Tryd.underlying22
  rcases open_slice Tryd.underlying22 hf with ⟨hcs, _⟩ | ⟨a, len, cap, m, n, D, Pl, hcs, _, hl, hm, hme, hx, hc⟩
  · simp [Value.cells] at hcs
    obtain ⟨rfl, rfl, rfl⟩ := hcs
    exact ⟨0, none, 0, rfl, by simp, fun i hi => by omega⟩
  · simp [Value.cells] at hcs
    obtain ⟨rfl, rfl, rfl⟩ := hcs
    have hml : len0 ≤ m := by rw [hme]; simp; exact hl
    have hd : d = .slice ((List.range len0).map D) ((List.range (m - len0)).map fun j => D (len0 + j)) := congrArg Prod.fst hx
    have hex : ∀ i, i < len0 → ∃ (cs : List Value) (u : Value) (vs : List Vt) (f t : Int), W.cells? 0 (a.add (i * 3)) 3 = some cs ∧ RowIn W cs (D i) u vs f t ∧ vs.length ≤ 140737488355328 ∧ Few vs := by
      intro i hi
      obtain ⟨cs', hcc, ht⟩ := hc i (by omega)
      obtain ⟨u, vs, f, t, hr⟩ := openRow ht
      rw [cells26] at hcc
      have hw : ((D i).weights Tryd.prog 33).all (· ≤ reachBytes) = true := all_less hz fun n hn => by
        rw [hd]
        simp only [DataW.weightsEach, DataW.weights, hu, List.append_nil, List.mem_cons, List.mem_append]
        exact .inr (.inl (weightsAll_mem (List.mem_map.2 ⟨i, List.mem_range.2 hi, rfl⟩) _ hn))
      exact ⟨cs', u, vs, f, t, hcc, hr, sized_row hr hw⟩
    refine ⟨len0, some a, cap0, rfl, by unfold maxLen at hm; omega, fun i hi => ?_⟩
    obtain ⟨b, off, spot⟩ := a
    obtain ⟨cs, u, vs, f, t, hcc, ⟨rfl, hsv, _⟩, h1, h2⟩ := hex i hi
    have hspot : spot = none := by
      obtain ⟨cs0, u0, vs0, f0, t0, hcc0, ⟨rfl, _⟩, _⟩ := hex 0 (by omega)
      have hq := (World.cells?_some hcc0).2.2 0 (by omega)
      have := World.cell?_spot (by simpa using hq)
      simpa [Addr.add] using this
    subst hspot
    have hs := World.cells?_some hcc
    rw [add_offv] at hs
    have e0 : W.cell? ⟨b, off + i * 3, none⟩ = some u := by
      have := hs.2.2 0 (by omega)
      rw [add_offv] at this
      simpa using this
    have e1 : W.cell? ⟨b, off + i * 3 + 1, none⟩ = some (.int .i64 f) := by
      have := hs.2.2 1 (by omega)
      rw [add_offv] at this
      simpa using this
    have e2 : W.cell? ⟨b, off + i * 3 + 2, none⟩ = some (.int .i64 t) := by
      have := hs.2.2 2 (by omega)
      rw [add_offv] at this
      simpa using this
    have hb := World.block_lt_of_cell? _ _ e0
    exact ⟨b, off, rfl, u, vs, f, t, fun W' k => ⟨(k.cell (p := ⟨b, off + i * 3, none⟩) hb).trans e0, (k.cell (p := ⟨b, off + i * 3 + 1, none⟩) hb).trans e1, (k.cell (p := ⟨b, off + i * 3 + 2, none⟩) hb).trans e2⟩, hsv, h1, h2⟩
end Go.Proofs.YthfkmedpcmiibaaDoor
