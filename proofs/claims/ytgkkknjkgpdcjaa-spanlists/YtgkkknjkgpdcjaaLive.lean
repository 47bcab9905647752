/- live: what must be whatever is asked. -/
import Derived.Test.YtgkkknjkgpdcjaaCount
namespace Go.Proofs.Ytgkkknjkgpdcjaa
open Go.RowKit

theorem Own.two {w : World} {B : Nat} {v : Value} {a b c d : Int} (h : Own w B v [(a, b), (c, d)]) : ∃ g cap, v = .slice (some ⟨g, 0, none⟩) 2 cap ∧ (2 ≤ cap ∧ cap ≤ maxLen) ∧ B ≤ g ∧ g < w.heap.size ∧
    w.cell? ⟨g, 0, none⟩ = some (.int .i64 a) ∧ w.cell? ⟨g, 1, none⟩ = some (.int .i64 b) ∧ w.cell? ⟨g, 2, none⟩ = some (.int .i64 c) ∧ w.cell? ⟨g, 3, none⟩ = some (.int .i64 d) := by
  have hs := h
  obtain ⟨_, h2⟩ := h
  rcases h2 with ⟨_, hn⟩ | ⟨g, cap, cur, rfl, hb, hg, hnc, hcm, hcs, htake⟩
  · simp at hn
  · refine ⟨g, cap, rfl, ⟨hnc, hcm⟩, hb, (Array.getElem?_eq_some_iff.1 hg).1, ?_⟩
    rcases hs.srow with ⟨h0, _⟩ | ⟨b', off, cap', hv, _, _, _, hc⟩
    · simp at h0
    · simp only [Value.slice.injEq, Option.some.injEq, Addr.mk.injEq] at hv
      obtain ⟨⟨rfl, rfl, _⟩, _⟩ := hv
      have c0 := hc 0 (by simp)
      have c1 := hc 1 (by simp)
      simp at c0 c1
      exact ⟨c0.1, c0.2, c1.1, c1.2⟩

theorem has_two (p : Int) : Has [(3, 5), (0, 3), (7, 8)] p ↔ Pt [(0, 5), (7, 8)] p := by
  have e : rights [(3, 5), (0, 3), (7, 8)] = [(3, 5), (0, 3), (7, 8)] := by decide
  unfold Has
  rw [e]
  simp only [pt_cons]
  constructor
  · rintro (h | h | h | h)
    · exact .inl (by omega)
    · exact .inl (by omega)
    · exact .inr (.inl h)
    · exact absurd h (pt_nil _)
  · rintro (h | h | h)
    · by_cases h3 : 3 ≤ p
      · exact .inl (by omega)
      · exact .inr (.inl (by omega))
    · exact .inr (.inr (.inl h))
    · exact absurd h (pt_nil _)
theorem canon_two : Canon [(0, 5), (7, 8)] := ⟨by decide, by simp⟩
theorem has_two' (p : Int) : Has [(0, 5), (7, 8)] p ↔ Pt [(0, 5), (7, 8)] p := by
  have e : rights [(0, 5), (7, 8)] = [(0, 5), (7, 8)] := by decide
  unfold Has; rw [e]

theorem liveMinus (w : World) : Calls Try.prog 22 #[.agg #[.int .i64 0, .int .i64 10], .agg #[.int .i64 3, .int .i64 5]] w fun e w' => ∃ g cap, e = .returned (.slice (some ⟨g, 0, none⟩) 2 cap) ∧ (2 ≤ cap ∧ cap ≤ maxLen) ∧
    w.heap.size ≤ g ∧ g < w'.heap.size ∧ w'.cell? ⟨g, 0, none⟩ = some (.int .i64 0) ∧ w'.cell? ⟨g, 1, none⟩ = some (.int .i64 3) ∧ w'.cell? ⟨g, 2, none⟩ = some (.int .i64 5) ∧ w'.cell? ⟨g, 3, none⟩ = some (.int .i64 10) ∧ Below w.heap.size w w' := by
  refine (minus22 0 10 3 5 w).mono ?_
  rintro e w' ⟨v, rfl, ho, hb⟩
  have e : minusL 0 10 3 5 = [(0, 3), (5, 10)] := by decide
  rw [e] at ho
  obtain ⟨g, cap, rfl, h0, h1, h2, h3, h4, h5, h6⟩ := ho.two
  exact ⟨g, cap, rfl, h0, h1, h2, h3, h4, h5, h6, hb⟩

theorem liveJoin (v : Value) (w : World) (h : SRow w v [(3, 5), (0, 3), (7, 8)]) : Calls Try.prog 24 #[v] w fun e w' => ∃ g cap, e = .returned (.slice (some ⟨g, 0, none⟩) 2 cap) ∧ (2 ≤ cap ∧ cap ≤ maxLen) ∧
    w.heap.size ≤ g ∧ g < w'.heap.size ∧ w'.cell? ⟨g, 0, none⟩ = some (.int .i64 0) ∧ w'.cell? ⟨g, 1, none⟩ = some (.int .i64 5) ∧ w'.cell? ⟨g, 2, none⟩ = some (.int .i64 7) ∧ w'.cell? ⟨g, 3, none⟩ = some (.int .i64 8) ∧ Below w.heap.size w w' := by
  refine (join24 v _ w (by decide) h).mono ?_
  rintro e w' ⟨v', ys, rfl, hc, hp, _, ho, hb⟩
  have e : ys = [(0, 5), (7, 8)] := canon_unique _ _ hc canon_two (fun p => by rw [hp, has_two])
  rw [e] at ho
  obtain ⟨g, cap, rfl, h0, h1, h2, h3, h4, h5, h6⟩ := ho.two
  exact ⟨g, cap, rfl, h0, h1, h2, h3, h4, h5, h6, hb⟩

theorem liveCount (g cap : Nat) (w : World) (hg : g < w.heap.size) (hcap : 2 ≤ cap ∧ cap ≤ maxLen) (h0 : w.cell? ⟨g, 0, none⟩ = some (.int .i64 0)) (h1 : w.cell? ⟨g, 1, none⟩ = some (.int .i64 5)) (h2 : w.cell? ⟨g, 2, none⟩ = some (.int .i64 7)) (h3 : w.cell? ⟨g, 3, none⟩ = some (.int .i64 8)) :
    Calls Try.prog 30 #[.slice (some ⟨g, 0, none⟩) 2 cap] w fun e w' => e = .returned (.int .i64 6) ∧ Below w.heap.size w w' := by
  have hs : SRow w (.slice (some ⟨g, 0, none⟩) 2 cap) [(0, 5), (7, 8)] := .inr ⟨g, 0, cap, rfl, hcap.1, hcap.2, hg, fun i hi => by
    match i, hi with
    | 0, _ => exact ⟨by simpa using h0, by simpa using h1⟩
    | 1, _ => exact ⟨by simpa using h2, by simpa using h3⟩⟩
  refine (count30 _ _ w (by decide) hs).mono ?_
  rintro e w' ⟨ys, rfl, hc, hp, hb⟩
  have e : ys = [(0, 5), (7, 8)] := canon_unique _ _ hc canon_two (fun p => by rw [hp, has_two'])
  rw [e]
  exact ⟨rfl, hb⟩

theorem srow_three (w : World) (x1 x2 x3 x4 x5 x6 : Int) : SRow (w.alloc (.cells #[.int .i64 x1, .int .i64 x2, .int .i64 x3, .int .i64 x4, .int .i64 x5, .int .i64 x6] 23)) (.slice (some ⟨w.heap.size, 0, none⟩) 3 3) [(x1, x2), (x3, x4), (x5, x6)] :=
  .inr ⟨w.heap.size, 0, 3, rfl, by simp, by unfold maxLen; omega, by simp, fun i hi => by
    match i, hi with
    | 0, _ => simp
    | 1, _ => simp
    | 2, _ => simp⟩

set_option maxHeartbeats 1000000 in
theorem live11 (w : World) : Calls Try.prog 11 #[] w fun e w' => e = .returned (.bool true) ∧ Below w.heap.size w w' := by
  go_enter Try.func11, Try.ntmps11
  go_wp2_with (first
    | (go_at_call 22; refine (liveMinus _).mono ?_; rintro e w1 ⟨g, cap, rfl, _, hg1, hg2, a1, a2, a3, a4, hb1⟩)
    | fail)
  refine (liveJoin _ _ (srow_three w1 3 5 0 3 7 8)).mono ?_
  rintro e w2 ⟨j, cj, rfl, hcj, hj1, hj2, d1, d2, d3, d4, hb2⟩
  have hs2 := hb2.size
  simp only [World.size_alloc] at hs2 hj1
  have hA := fun k => (hb2.cell (p := ⟨g, k, none⟩) (by simp; omega)).trans ((below1 w1 _).cell (p := ⟨g, k, none⟩) hg2)
  replace a1 := (hA 0).trans a1
  replace a2 := (hA 1).trans a2
  replace a3 := (hA 2).trans a3
  have hgl : g < w2.heap.size := by omega
  have hbw : Below w.heap.size w w2 := (below_alloc hb1 _).trans (hb2.mono (by simp; omega))
  clear hA a4 hb1 hb2 hs2 hj1 hg1 hg2
  go_wp2_with (first
    | (go_at_call 18; refine (meet18 0 3 3 4 _).mono ?_; rintro e w3 ⟨rfl, hb3⟩; rw [show meetB 0 3 3 4 = true from by decide])
    | fail)
  have hs3 := hb3.size
  have hD := fun k => hb3.cell (p := ⟨j, k, none⟩) hj2
  refine (liveCount j cj w3 (by omega) hcj ((hD 0).trans d1) ((hD 1).trans d2) ((hD 2).trans d3) ((hD 3).trans d4)).mono ?_
  rintro e w4 ⟨rfl, hb4⟩
  have hbw4 : Below w.heap.size w w4 := hbw.trans ((hb3.mono hbw.size).trans (hb4.mono (Nat.le_trans hbw.size hs3)))
  clear hD d1 d2 d3 d4 a1 a2 a3 hb3 hb4 hs3 hgl hj2 hbw
  go_wp2_with (go_at_call 12; refine (right12 4 4 _).mono ?_; rintro e w5 ⟨rfl, rfl⟩; rw [show rightB 4 4 = false from by decide])
  go_ret
  exact ⟨rfl, below_alloc hbw4 _⟩

end Go.Proofs.Ytgkkknjkgpdcjaa
