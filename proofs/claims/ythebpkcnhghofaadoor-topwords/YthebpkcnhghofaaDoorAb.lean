/- Bytes that came in. -/
import Derived.Test.YthebpkcnhghofaaDoorOpen
import Derived.Test.YthebpkcnhghofaaDoorHlp
import Derived.ChangeSlices
namespace Go.Proofs.YthebpkcnhghofaaDoor
open Go.ChangeShapes Go.WideShapes Go.ChangeAt Go.RowKit Go.Lib Go.Joins
set_option maxRecDepth 100000

theorem cells5 : Tryd.prog.cellsOf 5 = 1 := by kernel_rfl
/-- Bytes that came in. -/
theorem openBytes {H : Type} {enc : TypeId × Value → H} {W : World} {base : Nat} {v : Value} {d : DataW H} {p : List MemPlace} (hv : Value.okWide Tryd.prog W .any base 35 v) (h : DataW.Trod enc Tryd.prog W 0 (fun _ => true) true 35 v d p) :
    ∃ l, SB W v l ∧ (d = .nil ∨ ∃ es sp, d = .slice es sp ∧ es.length = l.length) ∧ (d = .nil → l = []) := by
  obtain ⟨a0, len0, cap0, rfl⟩ := okWide_slice Tryd.underlying35 hv
  obtain ⟨fuel, hf⟩ := h
  rcases open_ints Tryd.underlying35 Tryd.underlying5 cells5 hf with ⟨hcs, hx⟩ | ⟨a, len, cap, zs, hcs, _, hl, hm, hz, hx, hcell, hwf⟩
  · simp [Value.cells] at hcs
    obtain ⟨rfl, rfl, rfl⟩ := hcs
    exact ⟨[], .inl ⟨_, _, rfl, rfl⟩, .inl (congrArg Prod.fst hx), fun _ => rfl⟩
  · simp [Value.cells] at hcs
    obtain ⟨rfl, rfl, rfl⟩ := hcs
    have hzl : len0 ≤ zs.length := by rw [hz]; simp; omega
    have hd : d = .slice (lits .u8 (zs.take len0)) (lits .u8 (zs.drop len0)) := by simpa using congrArg Prod.fst hx
    refine ⟨(zs.take len0).map fun z => UInt8.ofNat z.toNat, ?_, .inr ⟨_, _, hd, by simp [lits]⟩, fun e => by rw [hd] at e; cases e⟩
    by_cases h0 : len0 = 0
    · subst h0
      exact .inl ⟨_, _, rfl, by simp⟩
    · have hlen : ((zs.take len0).map fun z => UInt8.ofNat z.toNat).length = len0 := by simp; omega
      obtain ⟨b, off, spot⟩ := a
      have hspot : spot = none := by
        have hq := hcell 0 (by omega)
        have := World.cell?_spot hq
        simpa [Addr.add] using this
      subst hspot
      refine .inr ⟨b, off, cap0, by rw [hlen], by omega, by omega, hm, fun i hi => ?_⟩
      rw [hlen] at hi
      have hq := hcell i (by omega)
      rw [show (⟨b, off, none⟩ : Addr).add i = ⟨b, off + i, none⟩ by unfold Addr.add; split <;> simp_all] at hq
      rw [hq]
      have hzi : i < zs.length := by omega
      have hb := bounds_u8 (hwf (zs[i]) (List.getElem_mem _))
      simp [List.getD, hi, hzi]
      omega
theorem sized_bytes {H : Type} {ts : List TypeId} {ds : List (DataW H)} (h : (DataW.weightsEach Tryd.prog ts ds).all (· ≤ reachBytes) = true) {j : Nat} {es sp : List (DataW H)} (ht : ts[j]? = some 35) (hd : ds[j]? = some (.slice es sp)) : es.length ≤ 140737488351232 := by
  have h1 := sized_slice h ht hd Tryd.underlying35
  rw [show Tryd.prog.bytesOf 5 = 1 by kernel_rfl] at h1
  have h2 : reachBytes ≤ 140737488351232 := by decide
  omega
end Go.Proofs.YthebpkcnhghofaaDoor
