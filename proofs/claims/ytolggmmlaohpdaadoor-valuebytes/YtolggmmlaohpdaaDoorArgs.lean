/- Values and bytes that came in, as the walks want them. -/
import Derived.Test.YtolggmmlaohpdaaDoorOpen
import Derived.ChangeSlices
namespace Go.Proofs.YtolggmmlaohpdaaDoor
open Go.ChangeShapes Go.WideShapes Go.ChangeAt Go.RowKit Go.Lib Go.Joins Go.Deep
set_option maxRecDepth 100000

theorem cells24 : Tryd.prog.cellsOf 24 = 3 := by kernel_rfl
theorem cells43 : Tryd.prog.cellsOf 43 = 9 := by kernel_rfl
theorem cells22 : Tryd.prog.cellsOf 22 = 1 := by kernel_rfl
theorem cells2 : Tryd.prog.cellsOf 2 = 1 := by kernel_rfl
theorem cells9 : Tryd.prog.cellsOf 9 = 1 := by kernel_rfl
theorem cells5 : Tryd.prog.cellsOf 5 = 1 := by kernel_rfl

/-- Three cells that read as a value are one. -/
theorem value_cells {H : Type} {enc : TypeId × Value → H} {W : World} {base n : Nat} {spare : Nat → Bool} {held : Bool} {cs : List Value} {x : DataW H × List MemPlace} (h : DataW.trod enc Tryd.prog W base spare held n 24 cs = some x) :
    ∃ k m s, cs = [.int .u8 k, .int .i64 m, .string s] ∧ inI64 m ∧ x.1 = .agg [.lit (.int .u8 k), .lit (.int .i64 m), .lit (.string (bs s))] := by
  obtain ⟨y0, y1, y2, m, hx, hl, h0, h1, h2⟩ := trod_struct3 Tryd.underlying24 h
  rw [cells24] at hl
  match cs, hl with
  | [c0, c1, c2], _ =>
    simp only [cells22, cells2, cells9] at h0 h1 h2
    obtain ⟨a, e0, x0, _⟩ := DataW.trod_int Tryd.underlying22 h0
    obtain ⟨b, e1, x1, wb⟩ := DataW.trod_int Tryd.underlying2 h1
    obtain ⟨s, e2, x2, _⟩ := DataW.trod_string Tryd.underlying9 h2
    simp at e0 e1 e2
    subst e0 e1 e2
    exact ⟨a, b, s, rfl, bounds_i64 wb, by rw [hx, x0, x1, x2]⟩

theorem openValue {H : Type} {enc : TypeId × Value → H} {W : World} {base : Nat} {v : Value} {d : DataW H} {p : List MemPlace} (hv : Value.okWide Tryd.prog W .any base 24 v) (h : DataW.Trod enc Tryd.prog W 0 (fun _ => true) true 24 v d p) :
    ∃ k n s, v = V k n s ∧ inI64 n ∧ d = .agg [.lit (.int .u8 k), .lit (.int .i64 n), .lit (.string (bs s))] := by
  obtain ⟨cs, rfl, hsz⟩ := okWide_struct Tryd.underlying24 hv
  obtain ⟨fuel, hf⟩ := h
  obtain ⟨k, m, s, hcs, hm, hx⟩ := value_cells hf
  refine ⟨k, m, s, ?_, hm, hx⟩
  obtain ⟨l⟩ := cs
  simp only [Value.cells] at hcs
  subst hcs
  rfl

theorem openThree {H : Type} {enc : TypeId × Value → H} {W : World} {base : Nat} {v : Value} {d : DataW H} {p : List MemPlace} (hv : Value.okWide Tryd.prog W .any base 43 v) (h : DataW.Trod enc Tryd.prog W 0 (fun _ => true) true 43 v d p) :
    ∃ k n s k' n' s' k'' n'' s'', v = .agg #[.int .u8 k, .int .i64 n, .string s, .int .u8 k', .int .i64 n', .string s', .int .u8 k'', .int .i64 n'', .string s''] := by
  have ht : Tryd.prog.underlying 43 = some (.array 3 24) := Tryd.underlying43
  have hvv := hv
  simp only [Value.okWide, ht] at hvv
  obtain ⟨cs, rfl, hsz, _⟩ := hvv
  rw [cells43] at hsz
  obtain ⟨fuel, hf⟩ := h
  obtain ⟨xs, m, _, _, _, hl, hx⟩ := DataW.trod_array ht hf
  have h0 := hx 0 (by omega)
  have h1 := hx 1 (by omega)
  have h2 := hx 2 (by omega)
  match xs, hl with
  | [y0, y1, y2], _ =>
    obtain ⟨l⟩ := cs
    have hl9 : l.length = 9 := by simpa using hsz
    match l, hl9 with
    | [c0, c1, c2, c3, c4, c5, c6, c7, c8], _ =>
      simp [Value.cells, cells24] at h0 h1 h2
      obtain ⟨k, n, s, e0, _, _⟩ := value_cells h0
      obtain ⟨k', n', s', e1, _, _⟩ := value_cells h1
      obtain ⟨k'', n'', s'', e2, _, _⟩ := value_cells h2
      simp at e0 e1 e2
      obtain ⟨rfl, rfl, rfl⟩ := e0
      obtain ⟨rfl, rfl, rfl⟩ := e1
      obtain ⟨rfl, rfl, rfl⟩ := e2
      exact ⟨_, _, _, _, _, _, _, _, _, rfl⟩

theorem sized_value {H : Type} {ts : List TypeId} {ds : List (DataW H)} (h : (DataW.weightsEach Tryd.prog ts ds).all (· ≤ reachBytes) = true) {j : Nat} {a b : DataW H} {l : Bs} (ht : ts[j]? = some 24) (hd : ds[j]? = some (.agg [a, b, .lit (.string l)])) : l.length ≤ 140737488355328 := by
  have hu : Tryd.prog.underlying 24 = _ := Tryd.underlying24
  have := List.all_eq_true.1 h _ (DataW.weights_mem_each ht hd l.length (by
    simp only [DataW.weights, hu, List.map_cons, List.map_nil, DataW.weightsEach, List.mem_append, List.mem_singleton]
    simp))
  have h2 := reachBytes_lt
  simp at this
  omega

/-- Bytes that came in. -/
theorem openBytes {H : Type} {enc : TypeId × Value → H} {W : World} {base : Nat} {v : Value} {d : DataW H} {p : List MemPlace} (hv : Value.okWide Tryd.prog W .any base 37 v) (h : DataW.Trod enc Tryd.prog W 0 (fun _ => true) true 37 v d p) :
    ∃ l, SB W v l ∧ (d = .nil ∨ ∃ es sp, d = .slice es sp ∧ es.length = l.length) ∧ (d = .nil → l = []) := by
  obtain ⟨a0, len0, cap0, rfl⟩ := okWide_slice Tryd.underlying37 hv
  obtain ⟨fuel, hf⟩ := h
  rcases open_ints Tryd.underlying37 Tryd.underlying5 cells5 hf with ⟨hcs, hx⟩ | ⟨a, len, cap, zs, hcs, _, hl, hm, hz, hx, hcell, hwf⟩
  · simp [Value.cells] at hcs
    obtain ⟨rfl, rfl, rfl⟩ := hcs
    exact ⟨[], .inl ⟨_, _, rfl, rfl⟩, .inl (congrArg Prod.fst hx), fun _ => rfl⟩
  · simp [Value.cells] at hcs
    obtain ⟨rfl, rfl, rfl⟩ := hcs
    have hzl : len0 ≤ zs.length := by rw [hz]; simp; omega
    have hd : d = .slice (lits .u8 (zs.take len0)) (lits .u8 (zs.drop len0)) := by simpa using congrArg Prod.fst hx
    refine ⟨(zs.take len0).map fun z => UInt8.ofNat z.toNat, ?_, .inr ⟨_, _, hd, by simp [lits]⟩, fun e => by rw [hd] at e; cases e⟩
    by_cases h0 : len0 = 0
    · subst h0
      exact .inl ⟨_, _, rfl, by simp⟩
    · have hlen : ((zs.take len0).map fun z => UInt8.ofNat z.toNat).length = len0 := by simp; omega
      obtain ⟨b, off, spot⟩ := a
      have hspot : spot = none := by
        have hq := hcell 0 (by omega)
        have := World.cell?_spot hq
        simpa [Addr.add] using this
      subst hspot
      refine .inr ⟨b, off, cap0, by rw [hlen], by omega, by omega, hm, fun i hi => ?_⟩
      rw [hlen] at hi
      have hq := hcell i (by omega)
      rw [show (⟨b, off, none⟩ : Addr).add i = ⟨b, off + i, none⟩ by unfold Addr.add; split <;> simp_all] at hq
      rw [hq]
      have hzi : i < zs.length := by omega
      have hb := bounds_u8 (hwf (zs[i]) (List.getElem_mem _))
      simp [List.getD, hi, hzi]
      omega

theorem sized_bytes {H : Type} {ts : List TypeId} {ds : List (DataW H)} (h : (DataW.weightsEach Tryd.prog ts ds).all (· ≤ reachBytes) = true) {j : Nat} {es sp : List (DataW H)} (ht : ts[j]? = some 37) (hd : ds[j]? = some (.slice es sp)) : es.length ≤ 140737488351232 := by
  have h1 := sized_slice h ht hd Tryd.underlying37
  rw [show Tryd.prog.bytesOf 5 = 1 by kernel_rfl] at h1
  have h2 : reachBytes ≤ 140737488351232 := by decide
  omega

end Go.Proofs.YtolggmmlaohpdaaDoor
