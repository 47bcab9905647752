/- Deeds, texts, a text that came in, with their sizes. -/
import Derived.Test.YtjgdcdeekpeenaaArg
import Derived.HandedShaped
namespace Go.Proofs.Ytjgdcdeekpeenaa
open Go.ChangeShapes Go.WideShapes Go.ChangeAt Go.RowKit Go.Joins Go.Deep
set_option maxRecDepth 100000
variable {H : Type} {enc : TypeId × Value → H} {W : World}
theorem weightsAll_mem {P : Program} {e : TypeId} : ∀ {l : List (DataW H)} {d : DataW H}, d ∈ l → ∀ n ∈ d.weights P e, n ∈ DataW.weightsAll P e l
  | d0 :: r, d, hd, n, hn => by
    simp only [DataW.weightsAll, List.mem_append]
    rcases List.mem_cons.1 hd with rfl | h
    · exact .inl hn
    · exact .inr (weightsAll_mem h n hn)
theorem small_of {l : List Nat} (h : l.all (· ≤ reachBytes) = true) {n : Nat} (hn : n ∈ l) : n ≤ 140737488355328 := by
  have h1 := List.all_eq_true.1 h n hn
  have h2 := reachBytes_lt
  simp at h1
  omega
theorem deed_cellsZ {n : Nat} {cs : List Value} {x : DataW H × List MemPlace} (h : DataW.trod enc Try.prog W 0 (fun _ => true) true n 32 cs = some x) :
    ∃ y : Dd, cs = [.int .i64 y.kind, .int .i64 y.id, .string y.key, .int .i64 y.n] ∧ y.key.size ≤ maxLen ∧ y.key.size ∈ x.1.weights Try.prog 32 := by
  obtain ⟨y0, y1, y2, y3, m, hx, hl, h0, h1, h2, h3⟩ := trod_struct4 Try.underlying32 h
  rw [cellsOf32] at hl
  match cs, hl with
  | [c0, c1, c2, c3], _ =>
    simp only [cellsOf3, cellsOf9] at h0 h1 h2 h3
    obtain ⟨a, e0, _, _⟩ := DataW.trod_int Try.underlying3 h0
    obtain ⟨b, e1, _, _⟩ := DataW.trod_int Try.underlying3 h1
    obtain ⟨s, e2, d2, hs⟩ := DataW.trod_string Try.underlying9 h2
    obtain ⟨c, e3, _, _⟩ := DataW.trod_int Try.underlying3 h3
    simp at e0 e1 e2 e3
    subst e0 e1 e2 e3
    refine ⟨⟨a, b, s, c⟩, rfl, hs, ?_⟩
    have hu : Try.prog.underlying 32 = _ := Try.underlying32
    rw [hx, d2]
    simp only [DataW.weights, hu, List.map_cons, List.map_nil, DataW.weightsEach, List.mem_append, List.mem_singleton]
    exact .inr (.inr (.inl (by simp)))
theorem openDeedsZ {base : Nat} {v : Value} {d : DataW H} {p : List MemPlace} (hv : Value.okWide Try.prog W .any base 22 v) (h : DataW.Trod enc Try.prog W 0 (fun _ => true) true 22 v d p) (hz : (d.weights Try.prog 22).all (· ≤ reachBytes) = true) : ∃ l : List Dd, InD W v l ∧ ∀ x ∈ l, x.key.size ≤ 140737488355328 := by
  obtain ⟨a0, len0, cap0, rfl⟩ := okWide_slice Try.underlying22 hv
  obtain ⟨fuel, hf⟩ := h
  rcases open_slice Try.underlying22 hf with ⟨hcs, _⟩ | ⟨a, len, cap, m, n, D, Pl, hcs, _, hl, hm, hme, hx, hc⟩
  · simp [Value.cells] at hcs
    obtain ⟨rfl, rfl, rfl⟩ := hcs
    exact ⟨[], ⟨none, 0, rfl, fun h => by simp at h⟩, fun x hx => (by cases hx)⟩
  · simp [Value.cells] at hcs
    obtain ⟨rfl, rfl, rfl⟩ := hcs
    have hml : len0 ≤ m := by rw [hme]; simp; exact hl
    have hd : d = .slice ((List.range len0).map D) ((List.range (m - len0)).map fun j => D (len0 + j)) := congrArg Prod.fst hx
    have hex : ∀ i, i < len0 → ∃ y : Dd, W.cells? 0 (a.add (i * 4)) 4 = some [.int .i64 y.kind, .int .i64 y.id, .string y.key, .int .i64 y.n] ∧ y.key.size ≤ maxLen ∧ y.key.size ∈ (D i).weights Try.prog 32 := by
      intro i hi
      obtain ⟨cs', hcc, ht⟩ := hc i (by omega)
      obtain ⟨y, rfl, hy⟩ := deed_cellsZ ht
      rw [cellsOf32] at hcc
      exact ⟨y, hcc, hy⟩
    obtain ⟨f, hf2⟩ : ∃ f : Nat → Dd, ∀ i, i < len0 → W.cells? 0 (a.add (i * 4)) 4 = some [.int .i64 (f i).kind, .int .i64 (f i).id, .string (f i).key, .int .i64 (f i).n] ∧ (f i).key.size ≤ maxLen ∧ (f i).key.size ∈ (D i).weights Try.prog 32 := by
      refine ⟨fun i => if hi : i < len0 then Classical.choose (hex i hi) else ⟨0, 0, ByteArray.empty, 0⟩, fun i hi => ?_⟩
      have := Classical.choose_spec (hex i hi)
      simp only [hi, dif_pos]
      exact this
    refine ⟨(List.range len0).map f, ⟨some a, cap0, by simp, fun h0 => ?_⟩, fun x hx => ?_⟩
    · have h0' : 0 < len0 := by simpa using h0
      obtain ⟨b, off, spot⟩ := a
      have hspot : spot = none := by
        obtain ⟨hq0, _⟩ := hf2 0 h0'
        have hq := (World.cells?_some hq0).2.2 0 (by omega)
        have := World.cell?_spot (by simpa using hq)
        simpa [Addr.add] using this
      subst hspot
      have hcell : ∀ i, i < len0 → (f i).key.size ≤ maxLen ∧ W.cell? ⟨b, off + i * 4, none⟩ = some (.int .i64 (f i).kind) ∧ W.cell? ⟨b, off + i * 4 + 1, none⟩ = some (.int .i64 (f i).id) ∧ W.cell? ⟨b, off + i * 4 + 2, none⟩ = some (.string (f i).key) ∧ W.cell? ⟨b, off + i * 4 + 3, none⟩ = some (.int .i64 (f i).n) := fun i hi => by
        obtain ⟨hq, hB, _⟩ := hf2 i hi
        have hs := World.cells?_some hq
        rw [Addr.add_mid] at hs
        refine ⟨hB, ?_, ?_, ?_, ?_⟩
        · have := hs.2.2 0 (by omega)
          rw [Addr.add_mid] at this
          simpa using this
        · have := hs.2.2 1 (by omega)
          rw [Addr.add_mid] at this
          simpa using this
        · have := hs.2.2 2 (by omega)
          rw [Addr.add_mid] at this
          simpa using this
        · have := hs.2.2 3 (by omega)
          rw [Addr.add_mid] at this
          simpa using this
      refine ⟨b, off, rfl, ?_, fun j x hx => ?_⟩
      · exact World.block_lt_of_cell? W _ (hcell 0 h0').2.1
      · have hj : j < len0 := by have := (List.getElem?_eq_some_iff.1 hx).1; simpa using this
        have hxe : f j = x := by simpa [hj] using hx
        subst hxe
        exact hcell j hj
    · obtain ⟨i, hi, rfl⟩ := List.mem_map.1 hx
      have hi' := List.mem_range.1 hi
      have hu : Try.prog.underlying 22 = _ := Try.underlying22
      refine small_of hz ?_
      rw [hd]
      simp only [DataW.weights, hu, List.mem_cons, List.mem_append]
      exact .inr (.inl (weightsAll_mem (List.mem_map.2 ⟨i, hi, rfl⟩) _ (hf2 i hi').2.2))
theorem openTextsZ {base : Nat} {v : Value} {d : DataW H} {p : List MemPlace} (hv : Value.okWide Try.prog W .any base 43 v) (h : DataW.Trod enc Try.prog W 0 (fun _ => true) true 43 v d p) (hz : (d.weights Try.prog 43).all (· ≤ reachBytes) = true) : ∃ l : List ByteArray, InT W v l ∧ ∀ x ∈ l, x.size ≤ 140737488355328 := by
  obtain ⟨a0, len0, cap0, rfl⟩ := okWide_slice Try.underlying43 hv
  obtain ⟨fuel, hf⟩ := h
  rcases open_strings Try.underlying43 Try.underlying9 cellsOf9 hf with ⟨hcs, _⟩ | ⟨a, len, cap, zs, hcs, _, hl, hm, hz2, hx, hcell, hwf⟩
  · simp [Value.cells] at hcs
    obtain ⟨rfl, rfl, rfl⟩ := hcs
    exact ⟨[], ⟨none, 0, rfl, fun h => by simp at h⟩, fun x hx => (by cases hx)⟩
  · simp [Value.cells] at hcs
    obtain ⟨rfl, rfl, rfl⟩ := hcs
    have hzl : zs.length = cap0 := by simpa using hz2
    have hd : d = .slice (ChangeShapes.strs (zs.take len0)) (ChangeShapes.strs (zs.drop len0)) := congrArg Prod.fst hx
    obtain ⟨z, hz'⟩ : ∃ z : Nat → ByteArray, ∀ i, z i = zs.getD i ByteArray.empty := ⟨fun i => zs.getD i ByteArray.empty, fun _ => rfl⟩
    refine ⟨(List.range len0).map z, ⟨some a, cap0, by simp, fun h0 => ?_⟩, fun x hx => ?_⟩
    · have h0' : 0 < len0 := by simpa using h0
      obtain ⟨b, off, spot⟩ := a
      have hq := hcell 0 (by omega)
      have hspot : spot = none := by simpa [Addr.add] using World.cell?_spot hq
      subst hspot
      refine ⟨b, off, rfl, World.block_lt_of_cell? W _ (by simpa [Addr.add_mid] using hq), fun i x hx => ?_⟩
      have hi : i < len0 := by have := (List.getElem?_eq_some_iff.1 hx).1; simpa using this
      have hxe : z i = x := by simpa [hi] using hx
      have := hcell i (by omega)
      rw [Addr.add_mid, ← hz'] at this
      subst hxe
      refine ⟨?_, this⟩
      rw [hz']
      have hi' : i < zs.length := by omega
      exact hwf _ (by simp [hi'])
    · obtain ⟨i, hi, rfl⟩ := List.mem_map.1 hx
      have hi' := List.mem_range.1 hi
      have hu : Try.prog.underlying 43 = _ := Try.underlying43
      have hu9 : Try.prog.underlying 9 = _ := Try.underlying9
      refine small_of hz ?_
      rw [hd]
      simp only [DataW.weights, hu, List.mem_cons, List.mem_append]
      refine .inr (.inl (weightsAll_mem (d := .lit (.string (z i).data.toList)) ?_ _ (by simp [DataW.weights])))
      unfold ChangeShapes.strs
      refine List.mem_map.2 ⟨z i, ?_, rfl⟩
      rw [hz', List.mem_take_iff_getElem]
      exact ⟨i, by omega, by simp [show i < zs.length by omega]⟩
end Go.Proofs.Ytjgdcdeekpeenaa
