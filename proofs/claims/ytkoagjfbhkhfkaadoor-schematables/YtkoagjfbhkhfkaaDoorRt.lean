/- Tables appended. -/
import Derived.Test.YtkoagjfbhkhfkaaDoorRk
import Derived.ArgAppend
namespace Go.Proofs.YtkoagjfbhkhfkaaDoor
open Go.RowKit Go.Lib
set_option maxRecDepth 100000
variable {w w' : World} {r : Nat} {lv : Value} {L : List Tv} {Q : Nat → Prop}
def cellT (x : Tv) : List Value := [.string (str x.1.n), x.2, .string (str x.1.p), .int .i64 x.1.r]
def cellsT (L : List Tv) : List Value := L.flatMap cellT
theorem cellsT_length : ∀ L : List Tv, (cellsT L).length = L.length * 4
  | [] => rfl
  | x :: L => by
    have := cellsT_length L
    rw [show cellsT (x :: L) = cellT x ++ cellsT L by simp [cellsT]]
    simp [this, cellT]; omega
theorem cellsT_snoc (L : List Tv) (x : Tv) : cellsT (L ++ [x]) = cellsT L ++ cellT x := by simp [cellsT]
theorem cellsT_get : ∀ (L : List Tv) (i : Nat) (x : Tv), L[i]? = some x → (cellsT L)[i * 4]? = some (.string (str x.1.n)) ∧ (cellsT L)[i * 4 + 1]? = some x.2 ∧ (cellsT L)[i * 4 + 2]? = some (.string (str x.1.p)) ∧ (cellsT L)[i * 4 + 3]? = some (.int .i64 x.1.r)
  | [], i, x, h => by simp at h
  | y :: L, 0, x, h => by
    simp only [List.getElem?_cons_zero, Option.some.injEq] at h
    subst h
    exact ⟨rfl, rfl, rfl, rfl⟩
  | y :: L, i + 1, x, h => by
    have := cellsT_get L i x (by simpa using h)
    rw [show cellsT (y :: L) = .string (str y.1.n) :: y.2 :: .string (str y.1.p) :: .int .i64 y.1.r :: cellsT L by simp [cellsT, cellT], show (i + 1) * 4 = i * 4 + 1 + 1 + 1 + 1 by omega]
    exact this
theorem cellsT_one (h : ∀ x ∈ L, ∃ a n c, x.2 = .slice a n c) : ∀ u ∈ cellsT L, u.oneCell' = true := by
  intro u hu
  simp only [cellsT, cellT, List.mem_flatMap, List.mem_cons, List.not_mem_nil, or_false] at hu
  obtain ⟨x, hx, rfl | rfl | rfl | rfl⟩ := hu
  · rfl
  · obtain ⟨a, n, c, he⟩ := h x hx
    rw [he]; rfl
  · rfl
  · rfl
theorem TabsAt.news {g o : Nat} (h : TabsAt w g o L) : ∀ j u, (cellsT L)[j]? = some u → w.cell? ((⟨g, o, none⟩ : Addr).add j) = some u := fun j u hu => by
  rw [show (⟨g, o, none⟩ : Addr).add j = ⟨g, o + j, none⟩ by unfold Addr.add; split <;> simp_all]
  have hj := (List.getElem?_eq_some_iff.1 hu).1
  rw [cellsT_length] at hj
  obtain ⟨x, hx⟩ : ∃ x, L[j / 4]? = some x := ⟨_, List.getElem?_eq_getElem (by omega)⟩
  obtain ⟨h1, h2, h3, h4⟩ := h (j / 4) x hx
  obtain ⟨e1, e2, e3, e4⟩ := cellsT_get L (j / 4) x hx
  have hm : j % 4 = 0 ∨ j % 4 = 1 ∨ j % 4 = 2 ∨ j % 4 = 3 := by omega
  rcases hm with hm | hm | hm | hm
  · rw [show j / 4 * 4 = j by omega] at h1 e1
    rw [e1] at hu; rw [h1, hu]
  · rw [show o + j / 4 * 4 + 1 = o + j by omega] at h2
    rw [show j / 4 * 4 + 1 = j by omega] at e2
    rw [e2] at hu; rw [h2, hu]
  · rw [show o + j / 4 * 4 + 2 = o + j by omega] at h3
    rw [show j / 4 * 4 + 2 = j by omega] at e3
    rw [e3] at hu; rw [h3, hu]
  · rw [show o + j / 4 * 4 + 3 = o + j by omega] at h4
    rw [show j / 4 * 4 + 3 = j by omega] at e4
    rw [e4] at hu; rw [h4, hu]
/-- A row that is owned reads as tables. -/
theorem TL.own {v : Value} {n B : Nat} (h : w.ownsRow B 32 4 v n (cellsT L)) {P : Nat → Prop} (hP : ∀ g, v.ownBlock = some g → P g) (hc : ∀ x ∈ L, SCP P w x.2 x.1.cols) : TL P w v L := by
  obtain ⟨h1, h2⟩ := h
  rw [cellsT_length] at h1
  have hn : L.length = n := by omega
  refine ⟨?_, hc⟩
  rcases h2 with ⟨rfl, rfl⟩ | ⟨g, cap, cur, rfl, _, h3, h4, h5, h6, h7⟩
  · exact ⟨none, 0, by rw [hn], by omega, fun h0 => by omega⟩
  · refine ⟨_, cap, by rw [hn], by omega, fun _ => ⟨g, 0, rfl, (Array.getElem?_eq_some_iff.1 h3).1, hP g rfl, fun i x hx => ?_⟩⟩
    obtain ⟨e1, e2, e3, e4⟩ := cellsT_get L i x hx
    have hil := (List.getElem?_eq_some_iff.1 hx).1
    rw [← h7, List.getElem?_take] at e1 e2 e3 e4
    rw [if_pos (by omega)] at e1 e2 e3 e4
    refine ⟨?_, ?_, ?_, ?_⟩
    · simpa [World.cell?, h3] using e1
    · simpa [World.cell?, h3] using e2
    · simpa [World.cell?, h3] using e3
    · simpa [World.cell?, h3] using e4
theorem info32 : (Tryd.prog.info? 32).map (fun i => (i.zero, i.size, i.bytes)) = some (some TB0, 4, 64) := by kernel_rfl
theorem run_app_nothing (w : World) (ty : TypeId) (b : Addr) (a : Option Addr) (c : Nat) : (Builtin.append_ #[22, 22] ty #[.slice (some b) 0 0, .slice a 0 c]).run Tryd.prog w = .ok (.slice (some b) 0 0) w := by
  obtain ⟨i, hi, hzz⟩ := Option.map_eq_some_iff.1 info32
  have hl : ∀ (x : Addr), (loadCells x 0).run Tryd.prog w = .ok #[] w := fun x => by simpa using run_loadCells_list (P := Tryd.prog) w x [] (by simp)
  cases a <;> simp [Builtin.append_, run_underlying Tryd.underlying22, sizeOf, typeInfo, hi, Builtin.lenOf, Builtin.firstCells, hl, storeCells]
/-- What the first append leaves: nothing, or a row of its own from the block B on. -/
def RU (B : Nat) (w : World) (u : Value) (L : List Tv) : Prop := (L = [] ∧ ∃ b : Addr, u = .slice (some b) 0 0 ∧ B ≤ b.block ∧ b.block < w.heap.size) ∨ (L ≠ [] ∧ w.ownsRow B 32 4 u L.length (cellsT L))
theorem RU.keep {B : Nat} {u : Value} (h : RU B w u L) (hs : w.heap.size ≤ w'.heap.size) (hk : ∀ k, B ≤ k → k < w.heap.size → w'.heap[k]? = w.heap[k]?) : RU B w' u L := by
  rcases h with ⟨h0, b, h1, h2, h3⟩ | ⟨h0, h1, h2⟩
  · exact .inl ⟨h0, b, h1, h2, Nat.lt_of_lt_of_le h3 hs⟩
  · refine .inr ⟨h0, h1, ?_⟩
    rcases h2 with h2 | ⟨g, cap, cur, rfl, h3, h4, h5⟩
    · exact .inl h2
    · exact .inr ⟨g, cap, cur, rfl, h3, (hk g h3 (Array.getElem?_eq_some_iff.1 h4).1).trans h4, h5⟩
theorem RU.at {B k : Nat} {u : Value} (h : RU B w u L) (hk : u.ownBlock = some k) : B ≤ k ∧ k < w.heap.size := by
  rcases h with ⟨_, b, rfl, h2, h3⟩ | ⟨_, _, h2⟩
  · cases hk; exact ⟨h2, h3⟩
  · rcases h2 with ⟨rfl, _⟩ | ⟨g, cap, cur, rfl, h3, h4, _⟩
    · cases hk
    · cases hk; exact ⟨h3, (Array.getElem?_eq_some_iff.1 h4).1⟩
theorem run_app0 {P : Nat → Prop} (hTL : TL P w lv L) (hfew : L.length ≤ 3) (B : Nat) (hB : B ≤ w.heap.size) (b : Addr) (hb1 : B ≤ b.block) (hb2 : b.block < w.heap.size) : ∃ u w', (Builtin.append_ #[22, 22] 22 #[.slice (some b) 0 0, lv]).run Tryd.prog w = .ok u w' ∧ RU B w' u L ∧ w.grownBy w' none := by
  obtain ⟨⟨a, c, rfl, _, hat⟩, hcols⟩ := hTL
  by_cases h0 : L = []
  · subst h0
    exact ⟨_, w, run_app_nothing w 22 b a c, .inl ⟨rfl, b, rfl, hb1, hb2⟩, ⟨rfl, rfl, rfl, Nat.le_refl _, fun _ _ _ => rfl⟩⟩
  · have hpos : 0 < L.length := List.length_pos_iff.2 h0
    obtain ⟨g, o, rfl, _, _, hta⟩ := hat hpos
    obtain ⟨i, hi, hzz⟩ := Option.map_eq_some_iff.1 info32
    simp only [Prod.mk.injEq] at hzz
    obtain ⟨hz, hs, hb⟩ := hzz
    obtain ⟨v', w', h1, h2, h3⟩ := run_append_arg_grows (P := Tryd.prog) w 22 22 32 i _ 4 64 Tryd.underlying22 hi hz hs hb rfl (by decide) b 0 0 [] rfl (by simp) ⟨g, o, none⟩ L.length c (cellsT L) (cellsT_length L) hta.news (by omega) (by unfold maxLen; omega) (by omega)
    refine ⟨v', w', h1, .inr ⟨h0, ?_⟩, h3⟩
    rw [Nat.zero_add, List.nil_append] at h2
    exact ⟨h2.1, h2.2.imp id fun ⟨g', cap, cur, q1, q2, q3⟩ => ⟨g', cap, cur, q1, Nat.le_trans hB q2, q3⟩⟩
theorem run_app1 {B : Nat} {u : Value} (hU : RU B w u L) (hfew : L.length ≤ 3) (hB : B ≤ w.heap.size) {e : Nat} {x : Tv} (hx : ∃ a n c, x.2 = .slice a n c) (he : Blk w e (cellT x) 32) : ∃ g cap w', (Builtin.append_ #[22, 22] 22 #[u, .slice (some ⟨e, 0, none⟩) 1 1]).run Tryd.prog w = .ok (.slice (some ⟨g, 0, none⟩) (L.length + 1) cap) w' ∧ w'.ownsRow B 32 4 (.slice (some ⟨g, 0, none⟩) (L.length + 1) cap) (L.length + 1) (cellsT (L ++ [x])) ∧ w.grownBy w' u.ownBlock ∧ B ≤ g := by
  obtain ⟨i, hi, hzz⟩ := Option.map_eq_some_iff.1 info32
  simp only [Prod.mk.injEq] at hzz
  obtain ⟨hz, hs, hb⟩ := hzz
  have hone : ∀ v ∈ cellT x, v.oneCell' = true := by
    have := cellsT_one (L := [x]) (by simpa using hx)
    simpa [cellsT] using this
  rw [cellsT_snoc]
  rcases hU with ⟨rfl, b, rfl, _, _⟩ | ⟨h0, hown⟩
  · obtain ⟨v', w', h1, h2, h3⟩ := run_append_arg_grows (P := Tryd.prog) w 22 22 32 i _ 4 64 Tryd.underlying22 hi hz hs hb rfl (by decide) b 0 0 [] rfl (by simp) ⟨e, 0, none⟩ 1 1 (cellT x) rfl (World.news_of_block he) (by omega) (by unfold maxLen; omega) (by omega)
    obtain ⟨g, cap, rfl, hg, _⟩ := h2.form (by omega)
    refine ⟨g, cap, w', h1, ⟨h2.1, h2.2.imp id fun ⟨g', cap, cur, q1, q2, q3⟩ => ⟨g', cap, cur, q1, Nat.le_trans hB q2, q3⟩⟩, ⟨h3.os, h3.tape, h3.output, h3.size, fun k hk _ => h3.block k hk (by simp)⟩, Nat.le_trans hB hg⟩
  · obtain ⟨g, cap, w', h1, h2, h3, h4, h5⟩ := run_append_lies (P := Tryd.prog) w 22 22 B 32 i _ 4 64 Tryd.underlying22 hi hz hs hb rfl (by decide) u L.length (cellsT L) hown ⟨e, 0, none⟩ 1 1 (cellT x) rfl (World.news_of_block he) hone (by decide) (by unfold maxLen; omega) (by omega) hB _ rfl
    refine ⟨g, cap, w', h1, h2, h3, ?_⟩
    obtain ⟨_, _, hq, hg, _⟩ := h2.form (by omega)
    cases hq
    exact hg
end Go.Proofs.YtkoagjfbhkhfkaaDoor
