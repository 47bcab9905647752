/- Bytes, deeds, texts that came in. -/
import Derived.Test.YtjgdcdeekpeenaaAr
import Derived.ProofKit
import Derived.ChangeOld
import Derived.OpenShut
import Derived.SliceStrings
import Derived.ChangeMaps5
import Derived.Lib.SmallJoins
import Derived.Deep.Grids
namespace Go.Proofs.Ytjgdcdeekpeenaa
open Go.ChangeShapes Go.WideShapes Go.ChangeAt Go.RowKit Go.Joins Go.Deep
set_option maxRecDepth 100000
theorem own : ownKnob Try.prog.godebug = none := by kernel_rfl
theorem laidOut : laidOutB Try.prog = true := by kernel_rfl
theorem cellsOf3 : Try.prog.cellsOf 3 = 1 := by kernel_rfl
theorem cellsOf5 : Try.prog.cellsOf 5 = 1 := by kernel_rfl
theorem cellsOf9 : Try.prog.cellsOf 9 = 1 := by kernel_rfl
theorem cellsOf32 : Try.prog.cellsOf 32 = 4 := by kernel_rfl
variable {H : Type} {enc : TypeId × Value → H} {W : World}
theorem openBytes {base : Nat} {v : Value} {d : DataW H} {p : List MemPlace} (hv : Value.okWide Try.prog W .any base 53 v) (h : DataW.Trod enc Try.prog W 0 (fun _ => true) true 53 v d p) : ∃ l : List Nat, InU W v l := by
  obtain ⟨a0, len0, cap0, rfl⟩ := okWide_slice Try.underlying53 hv
  obtain ⟨fuel, hf⟩ := h
  rcases open_ints Try.underlying53 Try.underlying5 cellsOf5 hf with ⟨hcs, _⟩ | ⟨a, len, cap, zs, hcs, _, hl, hm, hz, _, hcell, hwf⟩
  · simp [Value.cells] at hcs
    obtain ⟨rfl, rfl, rfl⟩ := hcs
    exact ⟨[], none, 0, rfl, fun h => by simp at h⟩
  · simp [Value.cells] at hcs
    obtain ⟨rfl, rfl, rfl⟩ := hcs
    have hzl : zs.length = cap0 := by simpa using hz
    have hb : ∀ i, i < zs.length → 0 ≤ zs.getD i 0 ∧ zs.getD i 0 ≤ 255 := fun i hi => bounds_u8 (hwf _ (by simp [hi]))
    obtain ⟨z, hz'⟩ : ∃ z : Nat → Int, ∀ i, z i = zs.getD i 0 := ⟨fun i => zs.getD i 0, fun _ => rfl⟩
    refine ⟨(List.range len0).map fun i => (z i).toNat, some a, cap0, by simp, fun h0 => ?_⟩
    have h0' : 0 < len0 := by simpa using h0
    obtain ⟨b, off, spot⟩ := a
    have hq := hcell 0 (by omega)
    have hspot : spot = none := by simpa [Addr.add] using World.cell?_spot hq
    subst hspot
    refine ⟨b, off, rfl, World.block_lt_of_cell? W _ (by simpa [Addr.add_mid] using hq), fun i x hx => ?_⟩
    have hi : i < len0 := by have := (List.getElem?_eq_some_iff.1 hx).1; simpa using this
    have hxe : (z i).toNat = x := by simpa [hi] using hx
    have h1 := hb i (by omega)
    rw [← hz'] at h1
    have := hcell i (by omega)
    rw [Addr.add_mid, ← hz'] at this
    refine ⟨by omega, ?_⟩
    rw [this, ← hxe, show (((z i).toNat : Nat) : Int) = z i by omega]
theorem openTexts {base : Nat} {v : Value} {d : DataW H} {p : List MemPlace} (hv : Value.okWide Try.prog W .any base 43 v) (h : DataW.Trod enc Try.prog W 0 (fun _ => true) true 43 v d p) : ∃ l : List ByteArray, InT W v l := by
  obtain ⟨a0, len0, cap0, rfl⟩ := okWide_slice Try.underlying43 hv
  obtain ⟨fuel, hf⟩ := h
  rcases open_strings Try.underlying43 Try.underlying9 cellsOf9 hf with ⟨hcs, _⟩ | ⟨a, len, cap, zs, hcs, _, hl, hm, hz, _, hcell, hwf⟩
  · simp [Value.cells] at hcs
    obtain ⟨rfl, rfl, rfl⟩ := hcs
    exact ⟨[], none, 0, rfl, fun h => by simp at h⟩
  · simp [Value.cells] at hcs
    obtain ⟨rfl, rfl, rfl⟩ := hcs
    have hzl : zs.length = cap0 := by simpa using hz
    obtain ⟨z, hz'⟩ : ∃ z : Nat → ByteArray, ∀ i, z i = zs.getD i ByteArray.empty := ⟨fun i => zs.getD i ByteArray.empty, fun _ => rfl⟩
    refine ⟨(List.range len0).map z, some a, cap0, by simp, fun h0 => ?_⟩
    have h0' : 0 < len0 := by simpa using h0
    obtain ⟨b, off, spot⟩ := a
    have hq := hcell 0 (by omega)
    have hspot : spot = none := by simpa [Addr.add] using World.cell?_spot hq
    subst hspot
    refine ⟨b, off, rfl, World.block_lt_of_cell? W _ (by simpa [Addr.add_mid] using hq), fun i x hx => ?_⟩
    have hi : i < len0 := by have := (List.getElem?_eq_some_iff.1 hx).1; simpa using this
    have hxe : z i = x := by simpa [hi] using hx
    have := hcell i (by omega)
    rw [Addr.add_mid, ← hz'] at this
    subst hxe
    refine ⟨?_, this⟩
    rw [hz']
    have hi' : i < zs.length := by omega
    exact hwf _ (by simp [hi'])
theorem deed_cells {n : Nat} {cs : List Value} {x : DataW H × List MemPlace} (h : DataW.trod enc Try.prog W 0 (fun _ => true) true n 32 cs = some x) :
    ∃ y : Dd, cs = [.int .i64 y.kind, .int .i64 y.id, .string y.key, .int .i64 y.n] ∧ y.key.size ≤ maxLen := by
  obtain ⟨y0, y1, y2, y3, m, _, hl, h0, h1, h2, h3⟩ := trod_struct4 Try.underlying32 h
  rw [cellsOf32] at hl
  match cs, hl with
  | [c0, c1, c2, c3], _ =>
    simp only [cellsOf3, cellsOf9] at h0 h1 h2 h3
    obtain ⟨a, e0, _, _⟩ := DataW.trod_int Try.underlying3 h0
    obtain ⟨b, e1, _, _⟩ := DataW.trod_int Try.underlying3 h1
    obtain ⟨s, e2, _, hs⟩ := DataW.trod_string Try.underlying9 h2
    obtain ⟨c, e3, _, _⟩ := DataW.trod_int Try.underlying3 h3
    simp at e0 e1 e2 e3
    subst e0 e1 e2 e3
    exact ⟨⟨a, b, s, c⟩, rfl, hs⟩
theorem openDeeds {base : Nat} {v : Value} {d : DataW H} {p : List MemPlace} (hv : Value.okWide Try.prog W .any base 22 v) (h : DataW.Trod enc Try.prog W 0 (fun _ => true) true 22 v d p) : ∃ l : List Dd, InD W v l := by
  obtain ⟨a0, len0, cap0, rfl⟩ := okWide_slice Try.underlying22 hv
  obtain ⟨fuel, hf⟩ := h
  rcases open_slice Try.underlying22 hf with ⟨hcs, _⟩ | ⟨a, len, cap, m, n, D, Pl, hcs, _, hl, hm, hme, _, hc⟩
  · simp [Value.cells] at hcs
    obtain ⟨rfl, rfl, rfl⟩ := hcs
    exact ⟨[], none, 0, rfl, fun h => by simp at h⟩
  · simp [Value.cells] at hcs
    obtain ⟨rfl, rfl, rfl⟩ := hcs
    have hml : len0 ≤ m := by rw [hme]; simp; exact hl
    have hex : ∀ i, i < len0 → ∃ y : Dd, W.cells? 0 (a.add (i * 4)) 4 = some [.int .i64 y.kind, .int .i64 y.id, .string y.key, .int .i64 y.n] ∧ y.key.size ≤ maxLen := by
      intro i hi
      obtain ⟨cs', hcc, ht⟩ := hc i (by omega)
      obtain ⟨y, rfl, hy⟩ := deed_cells ht
      rw [cellsOf32] at hcc
      exact ⟨y, hcc, hy⟩
    obtain ⟨f, hf2⟩ : ∃ f : Nat → Dd, ∀ i, i < len0 → W.cells? 0 (a.add (i * 4)) 4 = some [.int .i64 (f i).kind, .int .i64 (f i).id, .string (f i).key, .int .i64 (f i).n] ∧ (f i).key.size ≤ maxLen := by
      refine ⟨fun i => if hi : i < len0 then Classical.choose (hex i hi) else ⟨0, 0, ByteArray.empty, 0⟩, fun i hi => ?_⟩
      have := Classical.choose_spec (hex i hi)
      simp only [hi, dif_pos]
      exact this
    refine ⟨(List.range len0).map f, some a, cap0, by simp, fun h0 => ?_⟩
    have h0' : 0 < len0 := by simpa using h0
    obtain ⟨b, off, spot⟩ := a
    have hspot : spot = none := by
      obtain ⟨hq0, _⟩ := hf2 0 h0'
      have hq := (World.cells?_some hq0).2.2 0 (by omega)
      have := World.cell?_spot (by simpa using hq)
      simpa [Addr.add] using this
    subst hspot
    have hcell : ∀ i, i < len0 → (f i).key.size ≤ maxLen ∧ W.cell? ⟨b, off + i * 4, none⟩ = some (.int .i64 (f i).kind) ∧ W.cell? ⟨b, off + i * 4 + 1, none⟩ = some (.int .i64 (f i).id) ∧ W.cell? ⟨b, off + i * 4 + 2, none⟩ = some (.string (f i).key) ∧ W.cell? ⟨b, off + i * 4 + 3, none⟩ = some (.int .i64 (f i).n) := fun i hi => by
      obtain ⟨hq, hB⟩ := hf2 i hi
      have hs := World.cells?_some hq
      rw [Addr.add_mid] at hs
      refine ⟨hB, ?_, ?_, ?_, ?_⟩
      · have := hs.2.2 0 (by omega)
        rw [Addr.add_mid] at this
        simpa using this
      · have := hs.2.2 1 (by omega)
        rw [Addr.add_mid] at this
        simpa using this
      · have := hs.2.2 2 (by omega)
        rw [Addr.add_mid] at this
        simpa using this
      · have := hs.2.2 3 (by omega)
        rw [Addr.add_mid] at this
        simpa using this
    refine ⟨b, off, rfl, ?_, fun j x hx => ?_⟩
    · exact World.block_lt_of_cell? W _ (hcell 0 h0').2.1
    · have hj : j < len0 := by have := (List.getElem?_eq_some_iff.1 hx).1; simpa using this
      have hxe : f j = x := by simpa [hj] using hx
      subst hxe
      exact hcell j hj
theorem openStr {base : Nat} {v : Value} {d : DataW H} {p : List MemPlace} (hv : Value.okWide Try.prog W .any base 9 v) (h : DataW.Trod enc Try.prog W 0 (fun _ => true) true 9 v d p) : ∃ s : ByteArray, v = .string s ∧ s.size ≤ maxLen := by
  obtain ⟨s, rfl, _, _, hs⟩ := Go.ChangeMaps.open_string Try.underlying9 hv h
  exact ⟨s, rfl, hs⟩
theorem openBool {base : Nat} {v : Value} {d : DataW H} {p : List MemPlace} (hv : Value.okWide Try.prog W .any base 4 v) (h : DataW.Trod enc Try.prog W 0 (fun _ => true) true 4 v d p) : ∃ b : Bool, v = .bool b := by
  obtain ⟨b, rfl, _⟩ := open_bool Try.underlying4 hv h
  exact ⟨b, rfl⟩
theorem openInt {base : Nat} {v : Value} {d : DataW H} {p : List MemPlace} (hv : Value.okWide Try.prog W .any base 3 v) (h : DataW.Trod enc Try.prog W 0 (fun _ => true) true 3 v d p) : ∃ x : Int, v = .int .i64 x ∧ -9223372036854775808 ≤ x ∧ x ≤ 9223372036854775807 := by
  obtain ⟨z, rfl, _, _, wf⟩ := open_int Try.underlying3 hv h
  exact ⟨z, rfl, bounds_i64 wf⟩
end Go.Proofs.Ytjgdcdeekpeenaa
