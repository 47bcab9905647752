/- Deeds that came in. -/
import Derived.Test.YtnganmekiloigaaPy
import Derived.ProofKit
import Derived.ChangeOld
import Derived.OpenShut
import Derived.Lib.SmallJoins
import Derived.Deep.Grids
namespace Go.Proofs.Ytnganmekiloigaa
open Go.ChangeShapes Go.WideShapes Go.ChangeAt Go.RowKit Go.Joins Go.Deep
set_option maxRecDepth 100000

theorem own : ownKnob Try.prog.godebug = none := by kernel_rfl
theorem laidOut : laidOutB Try.prog = true := by kernel_rfl
theorem cellsOf3 : Try.prog.cellsOf 3 = 1 := by kernel_rfl
theorem cellsOf4 : Try.prog.cellsOf 4 = 1 := by kernel_rfl
theorem cellsOf5 : Try.prog.cellsOf 5 = 1 := by kernel_rfl
theorem cellsOf30 : Try.prog.cellsOf 30 = 1 := by kernel_rfl
theorem cellsOf33 : Try.prog.cellsOf 33 = 1 := by kernel_rfl
theorem cellsOf50 : Try.prog.cellsOf 50 = 4 := by kernel_rfl
variable {H : Type} {enc : TypeId × Value → H} {W : World}

/-- Bytes. -/
theorem openB {fuel : Nat} {c : Value} {x : DataW H × List MemPlace} (h : DataW.trod enc Try.prog W 0 (fun _ => true) true fuel 33 [c] = some x) : ∃ l : Bs, InB W.heap.size W c l := by
  rcases open_ints Try.underlying33 Try.underlying5 cellsOf5 h with ⟨hcs, _⟩ | ⟨a, len, cap, zs, hcs, _, hl, hm, hz, _, hcell, hwf⟩
  · simp at hcs
    subst hcs
    exact ⟨[], none, 0, rfl, by simp, by simp [maxLen], fun h => by simp at h⟩
  · simp at hcs
    subst hcs
    have hzl : zs.length = cap := by simpa using hz
    have hb : ∀ i, i < zs.length → 0 ≤ zs.getD i 0 ∧ zs.getD i 0 ≤ 255 := fun i hi => bounds_u8 (hwf _ (by simp [hi]))
    obtain ⟨l, hlen, hget⟩ : ∃ l : Bs, l.length = len ∧ ∀ i, i < len → ((l.getD i 0).toNat : Int) = zs.getD i 0 := by
      obtain ⟨z, hz'⟩ : ∃ z : Nat → Int, ∀ i, z i = zs.getD i 0 := ⟨fun i => zs.getD i 0, fun _ => rfl⟩
      refine ⟨(List.range len).map fun i => UInt8.ofNat (z i).toNat, by simp, fun i hi => ?_⟩
      have h1 := hb i (by omega)
      rw [← hz'] at h1 ⊢
      have e : ((List.range len).map fun i => UInt8.ofNat (z i).toNat).getD i 0 = UInt8.ofNat (z i).toNat := by simp [hi]
      rw [e, UInt8.toNat_ofNat']
      omega
    refine ⟨l, some a, cap, by rw [hlen], by omega, hm, fun h0 => ?_⟩
    obtain ⟨b, off, spot⟩ := a
    have hq := hcell 0 (by omega)
    have hspot : spot = none := by simpa [Addr.add] using World.cell?_spot hq
    subst hspot
    refine ⟨b, off, rfl, World.block_lt_of_cell? W _ (by simpa [Addr.add_mid] using hq), fun i hi => ?_⟩
    have := hcell i (by omega)
    rw [Addr.add_mid] at this
    rw [this, hget i (by omega)]
/-- Truths. -/
theorem openK {fuel : Nat} {c : Value} {x : DataW H × List MemPlace} (h : DataW.trod enc Try.prog W 0 (fun _ => true) true fuel 30 [c] = some x) : ∃ l : List Bool, InK W.heap.size W c l := by
  rcases open_bools Try.underlying30 Try.underlying4 cellsOf4 h with ⟨hcs, _⟩ | ⟨a, len, cap, B, hcs, _, hl, hm, _, hcell⟩
  · simp at hcs
    subst hcs
    exact ⟨[], none, 0, rfl, by simp, by simp [maxLen], fun h => by simp at h⟩
  · simp at hcs
    subst hcs
    refine ⟨(List.range len).map B, some a, cap, by simp, by simpa using hl, hm, fun h0 => ?_⟩
    have h0' : 0 < len := by simpa using h0
    obtain ⟨b, off, spot⟩ := a
    have hq := hcell 0 (by omega)
    have hspot : spot = none := by simpa [Addr.add] using World.cell?_spot hq
    subst hspot
    refine ⟨b, off, rfl, World.block_lt_of_cell? W _ (by simpa [Addr.add_mid] using hq), fun i hi => ?_⟩
    have hi' : i < len := by simpa using hi
    have := hcell i (by omega)
    rw [Addr.add_mid] at this
    rw [this]
    simp [hi']
/-- Four cells that read as a deed. -/
theorem deed_cells {n : Nat} {cs : List Value} {x : DataW H × List MemPlace} (h : DataW.trod enc Try.prog W 0 (fun _ => true) true n 50 cs = some x) :
    ∃ (y : Deed) (vb vk : Value), cs = [.int .i64 y.1, .int .i64 y.2.1, vb, vk] ∧ InB W.heap.size W vb y.2.2.1 ∧ InK W.heap.size W vk y.2.2.2 ∧ -9223372036854775808 ≤ y.2.1 ∧ y.2.1 ≤ 9223372036854775807 := by
  obtain ⟨y0, y1, y2, y3, m, _, hl, h0, h1, h2, h3⟩ := trod_struct4 Try.underlying50 h
  rw [cellsOf50] at hl
  match cs, hl with
  | [c0, c1, c2, c3], _ =>
    simp only [cellsOf3, cellsOf30, cellsOf33] at h0 h1 h2 h3
    obtain ⟨a, e0, _, _⟩ := DataW.trod_int Try.underlying3 h0
    obtain ⟨b, e1, _, wb⟩ := DataW.trod_int Try.underlying3 h1
    obtain ⟨l, hB⟩ := openB (c := c2) h2
    obtain ⟨kl, hK⟩ := openK (c := c3) h3
    simp at e0 e1
    subst e0 e1
    exact ⟨(a, b, l, kl), c2, c3, rfl, hB, hK, bounds_i64 wb⟩
/-- Deeds. -/
theorem openDeeds {base : Nat} {v : Value} {d : DataW H} {p : List MemPlace} (hv : Value.okWide Try.prog W .any base 22 v) (h : DataW.Trod enc Try.prog W 0 (fun _ => true) true 22 v d p) : ∃ l : List Deed, InD W.heap.size W v l := by
  obtain ⟨a0, len0, cap0, rfl⟩ := okWide_slice Try.underlying22 hv
  obtain ⟨fuel, hf⟩ := h
  rcases open_slice Try.underlying22 hf with ⟨hcs, _⟩ | ⟨a, len, cap, m, n, D, Pl, hcs, _, hl, hm, hme, _, hc⟩
  · simp [Value.cells] at hcs
    obtain ⟨rfl, rfl, rfl⟩ := hcs
    exact ⟨[], none, 0, rfl, by simp, fun h => by simp at h⟩
  · simp [Value.cells] at hcs
    obtain ⟨rfl, rfl, rfl⟩ := hcs
    have hml : len0 ≤ m := by rw [hme]; simp; exact hl
    have hex : ∀ i, i < len0 → ∃ (y : Deed) (vb vk : Value), W.cells? 0 (a.add (i * 4)) 4 = some [.int .i64 y.1, .int .i64 y.2.1, vb, vk] ∧ InB W.heap.size W vb y.2.2.1 ∧ InK W.heap.size W vk y.2.2.2 ∧ -9223372036854775808 ≤ y.2.1 ∧ y.2.1 ≤ 9223372036854775807 := by
      intro i hi
      obtain ⟨cs', hcc, ht⟩ := hc i (by omega)
      obtain ⟨y, vb, vk, rfl, hy⟩ := deed_cells ht
      rw [cellsOf50] at hcc
      exact ⟨y, vb, vk, hcc, hy⟩
    obtain ⟨f, hf2⟩ : ∃ f : Nat → Deed, ∀ i, i < len0 → ∃ vb vk : Value, W.cells? 0 (a.add (i * 4)) 4 = some [.int .i64 (f i).1, .int .i64 (f i).2.1, vb, vk] ∧ InB W.heap.size W vb (f i).2.2.1 ∧ InK W.heap.size W vk (f i).2.2.2 ∧ -9223372036854775808 ≤ (f i).2.1 ∧ (f i).2.1 ≤ 9223372036854775807 := by
      refine ⟨fun i => if hi : i < len0 then Classical.choose (hex i hi) else (0, 0, [], []), fun i hi => ?_⟩
      have := Classical.choose_spec (hex i hi)
      simp only [hi, dif_pos]
      exact this
    refine ⟨(List.range len0).map f, some a, cap0, by simp, by simp; unfold maxLen at hm; omega, fun h0 => ?_⟩
    have h0' : 0 < len0 := by simpa using h0
    obtain ⟨b, off, spot⟩ := a
    have hspot : spot = none := by
      obtain ⟨vb, vk, hq0, _⟩ := hf2 0 h0'
      have hq := (World.cells?_some hq0).2.2 0 (by omega)
      have := World.cell?_spot (by simpa using hq)
      simpa [Addr.add] using this
    subst hspot
    have hcell : ∀ i, i < len0 → DeedAt W.heap.size W b (off + i * 4) (f i) := fun i hi => by
      obtain ⟨vb, vk, hq, hB, hK, hr⟩ := hf2 i hi
      have hs := World.cells?_some hq
      rw [Addr.add_mid] at hs
      refine ⟨vb, vk, ⟨?_, ?_, ?_, ?_⟩, hB, hK, hr⟩
      · have := hs.2.2 0 (by omega)
        rw [Addr.add_mid] at this
        simpa using this
      · have := hs.2.2 1 (by omega)
        rw [Addr.add_mid] at this
        simpa using this
      · have := hs.2.2 2 (by omega)
        rw [Addr.add_mid] at this
        simpa using this
      · have := hs.2.2 3 (by omega)
        rw [Addr.add_mid] at this
        simpa using this
    refine ⟨b, off, rfl, ?_, fun j x hx => ?_⟩
    · obtain ⟨vb, vk, ⟨h1, _⟩, _⟩ := hcell 0 h0'
      exact World.block_lt_of_cell? W _ h1
    · have hj : j < len0 := by have := (List.getElem?_eq_some_iff.1 hx).1; simpa using this
      have hxe : f j = x := by simpa [hj] using hx
      subst hxe
      exact hcell j hj
/-- A small number. -/
theorem openU8 {base : Nat} {v : Value} {d : DataW H} {p : List MemPlace} (hv : Value.okWide Try.prog W .any base 5 v) (h : DataW.Trod enc Try.prog W 0 (fun _ => true) true 5 v d p) : ∃ n : Nat, v = .int .u8 (n : Int) ∧ n < 256 := by
  obtain ⟨z, rfl, _, _, wf⟩ := open_int Try.underlying5 hv h
  have hb := bounds_u8 wf
  exact ⟨z.toNat, by rw [show ((z.toNat : Nat) : Int) = z by omega], by omega⟩
end Go.Proofs.Ytnganmekiloigaa
