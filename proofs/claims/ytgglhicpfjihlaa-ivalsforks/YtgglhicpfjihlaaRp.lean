/- Items appended. -/
import Derived.Test.YtgglhicpfjihlaaRl
import Derived.ArgAppend
import Derived.Deep.AppendLies
import Derived.Deep.Upon
namespace Go.Proofs.Ytgglhicpfjihlaa
open Go.RowKit Go.Shelf
set_option maxRecDepth 100000
variable {w w' : World} {L L' : List St}
def cellI (x : St) : List Value := [.int .i64 x.f, .int .i64 x.t, .int .i64 x.i]
def cellsI (L : List St) : List Value := L.flatMap cellI
theorem cellsI_length : ∀ L : List St, (cellsI L).length = L.length * 3
  | [] => rfl
  | x :: L => by
    have := cellsI_length L
    rw [show cellsI (x :: L) = cellI x ++ cellsI L by simp [cellsI]]
    simp [this, cellI]; omega
theorem cellsI_app (L M : List St) : cellsI (L ++ M) = cellsI L ++ cellsI M := by simp [cellsI]
theorem cellsI_get : ∀ (L : List St) (i : Nat) (x : St), L[i]? = some x → (cellsI L)[i * 3]? = some (.int .i64 x.f) ∧ (cellsI L)[i * 3 + 1]? = some (.int .i64 x.t) ∧ (cellsI L)[i * 3 + 2]? = some (.int .i64 x.i)
  | [], i, x, h => by simp at h
  | y :: L, 0, x, h => by
    simp only [List.getElem?_cons_zero, Option.some.injEq] at h
    subst h
    exact ⟨rfl, rfl, rfl⟩
  | y :: L, i + 1, x, h => by
    have := cellsI_get L i x (by simpa using h)
    rw [show cellsI (y :: L) = .int .i64 y.f :: .int .i64 y.t :: .int .i64 y.i :: cellsI L by simp [cellsI, cellI], show (i + 1) * 3 = i * 3 + 1 + 1 + 1 by omega]
    exact this
theorem cellsI_one : ∀ u ∈ cellsI L, u.oneCell' = true := by
  intro u hu
  simp only [cellsI, cellI, List.mem_flatMap, List.mem_cons, List.not_mem_nil, or_false] at hu
  obtain ⟨x, hx, rfl | rfl | rfl⟩ := hu <;> rfl
theorem newsI {g o : Nat} (h : ∀ i s, L[i]? = some s → w.cell? ⟨g, o + i * 3, none⟩ = some (.int .i64 s.f) ∧ w.cell? ⟨g, o + i * 3 + 1, none⟩ = some (.int .i64 s.t) ∧ w.cell? ⟨g, o + i * 3 + 2, none⟩ = some (.int .i64 s.i)) : ∀ j u, (cellsI L)[j]? = some u → w.cell? ((⟨g, o, none⟩ : Addr).add j) = some u := fun j u hu => by
  rw [show (⟨g, o, none⟩ : Addr).add j = ⟨g, o + j, none⟩ by unfold Addr.add; split <;> simp_all]
  have hj := (List.getElem?_eq_some_iff.1 hu).1
  rw [cellsI_length] at hj
  obtain ⟨x, hx⟩ : ∃ x, L[j / 3]? = some x := ⟨_, List.getElem?_eq_getElem (by omega)⟩
  obtain ⟨h1, h2, h3⟩ := h (j / 3) x hx
  obtain ⟨e1, e2, e3⟩ := cellsI_get L (j / 3) x hx
  have hm : j % 3 = 0 ∨ j % 3 = 1 ∨ j % 3 = 2 := by omega
  rcases hm with hm | hm | hm
  · rw [show j / 3 * 3 = j by omega] at h1 e1
    rw [e1] at hu; rw [h1, hu]
  · rw [show o + j / 3 * 3 + 1 = o + j by omega] at h2
    rw [show j / 3 * 3 + 1 = j by omega] at e2
    rw [e2] at hu; rw [h2, hu]
  · rw [show o + j / 3 * 3 + 2 = o + j by omega] at h3
    rw [show j / 3 * 3 + 2 = j by omega] at e3
    rw [e3] at hu; rw [h3, hu]
/-- What an append onto an empty literal leaves: nothing, or a row of its own from the block B on. -/
def RU (B : Nat) (w : World) (u : Value) (L : List St) : Prop := (L = [] ∧ ∃ b : Addr, u = .slice (some b) 0 0 ∧ B ≤ b.block ∧ b.block < w.heap.size) ∨ (L ≠ [] ∧ w.ownsRow B 74 3 u L.length (cellsI L))
theorem RU.keep {B : Nat} {u : Value} (h : RU B w u L) (hs : w.heap.size ≤ w'.heap.size) (hk : ∀ k, B ≤ k → k < w.heap.size → w'.heap[k]? = w.heap[k]?) : RU B w' u L := by
  rcases h with ⟨h0, b, h1, h2, h3⟩ | ⟨h0, h1, h2⟩
  · exact .inl ⟨h0, b, h1, h2, Nat.lt_of_lt_of_le h3 hs⟩
  · refine .inr ⟨h0, h1, ?_⟩
    rcases h2 with h2 | ⟨g, cap, cur, rfl, h3, h4, h5⟩
    · exact .inl h2
    · exact .inr ⟨g, cap, cur, rfl, h3, (hk g h3 (Array.getElem?_eq_some_iff.1 h4).1).trans h4, h5⟩
theorem RU.below {B : Nat} {u : Value} (h : RU B w u L) (k : Below w.heap.size w w') : RU B w' u L := h.keep k.size fun b _ hb => k.block b hb
theorem RU.at {B k : Nat} {u : Value} (h : RU B w u L) (hk : u.ownBlock = some k) : B ≤ k ∧ k < w.heap.size := by
  rcases h with ⟨_, b, rfl, h2, h3⟩ | ⟨_, _, h2⟩
  · cases hk; exact ⟨h2, h3⟩
  · rcases h2 with ⟨rfl, _⟩ | ⟨g, cap, cur, rfl, h3, h4, _⟩
    · cases hk
    · cases hk; exact ⟨h3, (Array.getElem?_eq_some_iff.1 h4).1⟩
theorem RU.read {B : Nat} {u : Value} (h : RU B w u L) : LV w u L := by
  rcases h with ⟨rfl, b, rfl, h2, h3⟩ | ⟨h0, h1, h2⟩
  · exact ⟨some b, 0, rfl, fun h => absurd h (by simp)⟩
  · rcases h2 with ⟨rfl, hn⟩ | ⟨g, cap, cur, rfl, _, h3, h4, h5, h6, h7⟩
    · exact absurd (List.length_pos_iff.2 h0) (by omega)
    · refine ⟨_, cap, rfl, fun _ => ⟨g, 0, rfl, (Array.getElem?_eq_some_iff.1 h3).1, fun i x hx => ?_⟩⟩
      obtain ⟨e1, e2, e3⟩ := cellsI_get L i x hx
      have hil := (List.getElem?_eq_some_iff.1 hx).1
      rw [← h7, List.getElem?_take] at e1 e2 e3
      rw [if_pos (by omega)] at e1 e2 e3
      refine ⟨?_, ?_, ?_⟩
      · simpa [World.cell?, h3] using e1
      · simpa [World.cell?, h3] using e2
      · simpa [World.cell?, h3] using e3
theorem info74 : (Try.prog.info? 74).map (fun i => (i.zero, i.size, i.bytes)) = some (some (.agg #[.int .i64 0, .int .i64 0, .int .i64 0]), 3, 24) := by kernel_rfl
theorem run_appI {B : Nat} {u lv : Value} (hU : RU B w u L) (hV : LV w lv L') (hfew : L.length + L'.length ≤ 100000) (hB : B ≤ w.heap.size) : ∃ u' w', (Builtin.append_ #[59, 59] 59 #[u, lv]).run Try.prog w = .ok u' w' ∧ RU B w' u' (L ++ L') ∧ w.grownBy w' u.ownBlock := by
  obtain ⟨a, c, rfl, hat⟩ := hV
  obtain ⟨i, hi, hzz⟩ := Option.map_eq_some_iff.1 info74
  simp only [Prod.mk.injEq] at hzz
  obtain ⟨hz, hs, hb⟩ := hzz
  by_cases h0 : L' = []
  · subst h0
    rw [List.append_nil]
    have hsrc : Src Try.prog i.size 59 (.slice a 0 c) 0 [] w := by
      cases a with
      | none => exact Src.ofNil w Try.underlying59 c
      | some a => exact Src.ofSlice w Try.underlying59 a 0 c [] (by simp) (by simp) (by simp)
    have hform : ∃ b n k, u = .slice b n k ∧ n ≤ k := by
      rcases hU with ⟨_, b, rfl, _, _⟩ | ⟨_, _, h2⟩
      · exact ⟨_, _, _, rfl, Nat.le_refl _⟩
      · rcases h2 with ⟨rfl, hn⟩ | ⟨g, cap, cur, rfl, _, _, h4, _⟩
        · exact ⟨_, _, _, rfl, Nat.le_refl _⟩
        · exact ⟨_, _, _, rfl, h4⟩
    obtain ⟨b, n, k, rfl, hnk⟩ := hform
    exact ⟨_, w, run_append_nothing w 59 59 59 74 i Try.underlying59 hi b n k hnk _ hsrc, hU, ⟨rfl, rfl, rfl, Nat.le_refl _, fun _ _ _ => rfl⟩⟩
  · have hpos : 0 < L'.length := List.length_pos_iff.2 h0
    obtain ⟨g, o, rfl, _, hta⟩ := hat hpos
    have hne : L ++ L' ≠ [] := by simp [h0]
    rcases hU with ⟨rfl, b, rfl, _, _⟩ | ⟨h1, hown⟩
    · obtain ⟨v', w', h1, h2, h3⟩ := run_append_arg_grows (P := Try.prog) w 59 59 74 i _ 3 24 Try.underlying59 hi hz hs hb rfl (by decide) b 0 0 [] rfl (by simp) ⟨g, o, none⟩ L'.length c (cellsI L') (cellsI_length L') (newsI hta) (by omega) (by unfold maxLen; omega) (by omega)
      refine ⟨v', w', h1, .inr ⟨hne, ?_⟩, ⟨h3.os, h3.tape, h3.output, h3.size, fun k hk _ => h3.block k hk (by simp)⟩⟩
      rw [Nat.zero_add, List.nil_append] at h2
      exact ⟨h2.1, h2.2.imp id fun ⟨g', cap, cur, q1, q2, q3⟩ => ⟨g', cap, cur, q1, Nat.le_trans hB q2, q3⟩⟩
    · obtain ⟨g', cap, w', q1, q2, q3, q4, q5⟩ := run_append_lies (P := Try.prog) w 59 59 B 74 i _ 3 24 Try.underlying59 hi hz hs hb rfl (by decide) u L.length (cellsI L) hown ⟨g, o, none⟩ L'.length c (cellsI L') (cellsI_length L') (newsI hta) cellsI_one hpos (by unfold maxLen; omega) (by omega) hB _ rfl
      refine ⟨_, w', q1, .inr ⟨hne, ?_⟩, q3⟩
      rw [List.length_append, cellsI_app]
      exact q2
/-- The world below B stands. -/
theorem grown_below {B : Nat} {u : Value} (hU : RU B w u L) (h : w.grownBy w' u.ownBlock) (hB : B ≤ w.heap.size) : Below B w w' :=
  ⟨h.os, h.tape, h.output, h.size, fun k hk => h.block k (by omega) fun e => by have := (hU.at e.symm).1; omega⟩
/-- The list's front and rest. -/
theorem LV.take {a : Option Addr} {n c : Nat} (h : LV w (.slice a n c) L) {k : Nat} (hk : k ≤ L.length) (c' : Nat) : LV w (.slice a k c') (L.take k) := by
  obtain ⟨a', c0, hv, hc⟩ := h
  simp only [Value.slice.injEq] at hv
  obtain ⟨rfl, -, rfl⟩ := hv
  have hl : (L.take k).length = k := by simp; omega
  refine ⟨a, c', by rw [hl], fun h0 => ?_⟩
  obtain ⟨g, o, rfl, hg, hcc⟩ := hc (by omega)
  refine ⟨g, o, rfl, hg, fun i s hs => hcc i s ?_⟩
  have hi := (List.getElem?_eq_some_iff.1 hs).1
  rw [List.getElem?_take, if_pos (by omega)] at hs
  exact hs
theorem LV.drop {a : Option Addr} {n c : Nat} (h : LV w (.slice a n c) L) {k : Nat} (hk : k < L.length) (c' : Nat) : ∃ g o, a = some ⟨g, o, none⟩ ∧ LV w (.slice (some ⟨g, o + k * 3, none⟩) (L.length - k) c') (L.drop k) := by
  obtain ⟨a', c0, hv, hc⟩ := h
  simp only [Value.slice.injEq] at hv
  obtain ⟨rfl, -, rfl⟩ := hv
  obtain ⟨g, o, rfl, hg, hcc⟩ := hc (by omega)
  refine ⟨g, o, rfl, _, c', by rw [List.length_drop], fun _ => ⟨g, o + k * 3, rfl, hg, fun i s hs => ?_⟩⟩
  rw [List.getElem?_drop] at hs
  have := hcc (k + i) s hs
  rw [show o + (k + i) * 3 = o + k * 3 + i * 3 by rw [Nat.add_mul]; omega] at this
  exact this
end Go.Proofs.Ytgglhicpfjihlaa
