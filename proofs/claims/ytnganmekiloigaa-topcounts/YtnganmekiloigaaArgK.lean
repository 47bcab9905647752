/- Lists of truths that came in. -/
import Derived.Test.YtnganmekiloigaaHo
import Derived.Test.YtnganmekiloigaaArgW
namespace Go.Proofs.Ytnganmekiloigaa
open Go.ChangeShapes Go.WideShapes Go.ChangeAt Go.RowKit Go.Joins Go.Deep
set_option maxRecDepth 100000
theorem openKeeps {H : Type} {enc : TypeId × Value → H} {W : World} {base : Nat} {v : Value} {d : DataW H} {p : List MemPlace} (hv : Value.okWide Try.prog W .any base 83 v) (h : DataW.Trod enc Try.prog W 0 (fun _ => true) true 83 v d p) : ∃ ks : List (List Bool), InKK W.heap.size W v ks := by
  obtain ⟨a0, len0, cap0, rfl⟩ := okWide_slice Try.underlying83 hv
  obtain ⟨fuel, hf⟩ := h
  rcases open_slice Try.underlying83 hf with ⟨hcs, _⟩ | ⟨a, len, cap, m, n, D, Pl, hcs, _, hl, hm, hme, _, hc⟩
  · simp [Value.cells] at hcs
    obtain ⟨rfl, rfl, rfl⟩ := hcs
    exact ⟨[], none, 0, rfl, by simp, fun h => by simp at h⟩
  · simp [Value.cells] at hcs
    obtain ⟨rfl, rfl, rfl⟩ := hcs
    have hml : len0 ≤ m := by rw [hme]; simp; exact hl
    have hex : ∀ i, i < len0 → ∃ (vk : Value) (kl : List Bool), W.cells? 0 (a.add i) 1 = some [vk] ∧ InK W.heap.size W vk kl := by
      intro i hi
      obtain ⟨cs', hcc, ht⟩ := hc i (by omega)
      rw [cellsOf30, Nat.mul_one] at hcc
      obtain ⟨c0, rfl⟩ : ∃ c0, cs' = [c0] := by
        have hlen : cs'.length = 1 := (World.cells?_some hcc).2.1
        match cs', hlen with
        | [c0], _ => exact ⟨c0, rfl⟩
      obtain ⟨kl, hk⟩ := openK ht
      exact ⟨c0, kl, hcc, hk⟩
    obtain ⟨f, hf2⟩ : ∃ f : Nat → List Bool, ∀ i, i < len0 → ∃ vk : Value, W.cells? 0 (a.add i) 1 = some [vk] ∧ InK W.heap.size W vk (f i) := by
      refine ⟨fun i => if hi : i < len0 then Classical.choose (Classical.choose_spec (hex i hi)) else [], fun i hi => ?_⟩
      have := Classical.choose_spec (Classical.choose_spec (hex i hi))
      simp only [hi, dif_pos]
      exact ⟨_, this⟩
    refine ⟨(List.range len0).map f, some a, cap0, by simp, by simpa using hl, fun h0 => ?_⟩
    have h0' : 0 < len0 := by simpa using h0
    have hcell : ∀ i, i < len0 → ∃ vk : Value, W.cell? (a.add i) = some vk ∧ InK W.heap.size W vk (f i) := fun i hi => by
      obtain ⟨vk, hq, hk⟩ := hf2 i hi
      have hs := (World.cells?_some hq).2.2 0 (by omega)
      exact ⟨vk, by simpa [Addr.add] using hs, hk⟩
    obtain ⟨b, off, spot⟩ := a
    obtain ⟨vk0, hq0, _⟩ := hcell 0 h0'
    have hspot : spot = none := by simpa [Addr.add] using World.cell?_spot hq0
    subst hspot
    refine ⟨b, off, rfl, World.block_lt_of_cell? W _ (by simpa [Addr.add_mid] using hq0), fun i kl hi => ?_⟩
    have hil : i < len0 := by have := (List.getElem?_eq_some_iff.1 hi).1; simpa using this
    obtain ⟨vk, hq, hk⟩ := hcell i hil
    rw [Addr.add_mid] at hq
    refine ⟨vk, hq, ?_⟩
    have : kl = f i := by simp [hil] at hi; exact hi.symm
    rw [this]; exact hk
end Go.Proofs.Ytnganmekiloigaa
