/- live. -/
import Derived.Test.YtpagnphabchfcaaLv0
namespace Go.Proofs.Ytpagnphabchfcaa
open Go.RowKit Go.Shelf
set_option maxRecDepth 100000
theorem rl_live (w : World) : RL ((w.alloc (.cells #[.int .u8 1, .int .i64 1, .string ⟨#[]⟩] 54)).alloc (.cells #[.slice (some ⟨w.heap.size, 0, none⟩) 1 1, .int .i64 3, .int .i64 5, .slice (some ⟨w.heap.size, 0, none⟩) 1 1, .int .i64 0, .int .i64 3] 34)) (fun _ => False) (.slice (some ⟨w.heap.size + 1, 0, none⟩) 2 2) [(.slice (some ⟨w.heap.size, 0, none⟩) 1 1, one, 3, 5), (.slice (some ⟨w.heap.size, 0, none⟩) 1 1, one, 0, 3)] := by
  have b1 := (blk_new w [.int .u8 1, .int .i64 1, .string ⟨#[]⟩] 54).below (al _ (.cells #[.slice (some ⟨w.heap.size, 0, none⟩) 1 1, .int .i64 3, .int .i64 5, .slice (some ⟨w.heap.size, 0, none⟩) 1 1, .int .i64 0, .int .i64 3] 34))
  have b2 := blk_at (w.alloc (.cells #[.int .u8 1, .int .i64 1, .string ⟨#[]⟩] 54)) [.slice (some ⟨w.heap.size, 0, none⟩) 1 1, .int .i64 3, .int .i64 5, .slice (some ⟨w.heap.size, 0, none⟩) 1 1, .int .i64 0, .int .i64 3] 34 (g := w.heap.size + 1) (by simp)
  have hs : SV ((w.alloc (.cells #[.int .u8 1, .int .i64 1, .string ⟨#[]⟩] 54)).alloc (.cells #[.slice (some ⟨w.heap.size, 0, none⟩) 1 1, .int .i64 3, .int .i64 5, .slice (some ⟨w.heap.size, 0, none⟩) 1 1, .int .i64 0, .int .i64 3] 34)) (fun _ => False) (.slice (some ⟨w.heap.size, 0, none⟩) 1 1) one := by
    refine ⟨_, _, rfl, fun _ => ⟨w.heap.size, 0, rfl, by simp; omega, id, fun i x hx => ?_⟩⟩
    match i with
    | 0 =>
      simp [one] at hx
      subst hx
      exact ⟨b1.cell 0, b1.cell 1, b1.cell 2⟩
    | i + 1 => simp [one] at hx
  refine ⟨⟨_, _, rfl, fun _ => ⟨w.heap.size + 1, 0, rfl, by simp, id, fun i e he => ?_⟩⟩, fun e he => ?_⟩
  · match i with
    | 0 =>
      simp at he
      subst he
      exact ⟨b2.cell 0, b2.cell 1, b2.cell 2⟩
    | 1 =>
      simp at he
      subst he
      exact ⟨b2.cell 3, b2.cell 4, b2.cell 5⟩
    | i + 2 => simp at he
  · simp at he
    rcases he with rfl | rfl <;> exact hs
theorem one_row {es : List El} {r : Rw} (h : rws es = [r]) : ∃ v, es = [(v, r)] := by
  match es, h with
  | [(v, r')], h =>
    simp [rws] at h
    subst h
    exact ⟨v, rfl⟩
set_option maxHeartbeats 4000000 in
theorem live13 (w : World) : Calls Try.prog 13 #[] w fun e w' => e = .returned (.bool true) ∧ Below w.heap.size w w' := by
  have hR0 := rl_live w
  have k7 := canon7 hR0 (by simp) (by intro e he; simp at he; rcases he with rfl | rfl <;> simp [one])
  rw [show rws [(.slice (some ⟨w.heap.size, 0, none⟩) 1 1, one, 3, 5), (.slice (some ⟨w.heap.size, 0, none⟩) 1 1, one, 0, 3)] = [(one, 3, 5), (one, 0, 3)] from rfl, canon_live] at k7
  have K0 : Below w.heap.size w ((w.alloc (.cells #[.int .u8 1, .int .i64 1, .string ⟨#[]⟩] 54)).alloc (.cells #[.slice (some ⟨w.heap.size, 0, none⟩) 1 1, .int .i64 3, .int .i64 5, .slice (some ⟨w.heap.size, 0, none⟩) 1 1, .int .i64 0, .int .i64 3] 34)) := bal (al _ _) _
  go_enter Try.func13, Try.ntmps13
  go_wp2_with (first
    | (go_at_call 7; (with_reducible refine k7.mono ?_); rintro e w2 ⟨v1, x1, rfl, hO1, hE1, hB1⟩; obtain ⟨sv1, rfl⟩ := one_row hE1; have hR1 := RL.bound (OwnR.rl hO1); obtain ⟨a1, c1, hv1⟩ := hR1.form; subst hv1; simp only [List.length_cons, List.length_nil, Nat.zero_add] at hR1 hO1; have k27 := new27 w2))
  go_at_call 27
  (with_reducible refine k27.mono ?_)
  rintro e w3 ⟨s, m, rfl, hSM, hs, hm, hB3⟩
  have hR3 := hR1.below hB3
  have k28 := put28 (n := ⟨#[116]⟩) hSM (by simp) (by unfold maxLen; decide) (by rw [Lib.toList_data]; rfl) hR3 (by simp) (by intro e he; simp at he; subst he; simp [one])
  go_wp2_with fail
  go_at_call 28
  (with_reducible refine k28.mono ?_)
  rintro e w4 ⟨rfl, v2, es2, hSM2, hn2, hO2, hE2, hK2⟩
  rw [show rws [(sv1, one, 0, 5)] = [(one, 0, 5)] from rfl, sort_one] at hE2
  obtain ⟨sv2, rfl⟩ := one_row hE2
  have hR4 := hR3.keep (hK2.mono (fun b _ q => (.inr (by rw [q]; exact hm) : False ∨ w2.heap.size ≤ b))) (fun _ _ h => h)
  have k29 := get29 (n := ⟨#[116]⟩) hSM2 (by unfold maxLen; decide) (x := (bs ⟨#[116]⟩, v2)) (by simp [fnd]) (OwnR.rl hO2) (by simp) (by intro e he; simp at he; subst he; simp [one])
  have K4 : Below w.heap.size w w4 := (bmore K0 (bmore hB1 hB3)).trans (hK2.below (by have := (bmore K0 (bmore hB1 hB3)).size; omega) (fun b hb q => by have := (bmore K0 hB1).size; omega))
  go_wp2_with fail
  go_at_call 29
  (with_reducible refine k29.mono ?_)
  rintro e w5 ⟨v5, es5, rfl, hn5, hO5, hE5, hB5⟩
  rw [show rws [(sv2, one, 0, 5)] = [(one, 0, 5)] from rfl] at hE5
  obtain ⟨sv5, rfl⟩ := one_row hE5
  have hR5 := hR4.below hB5
  have hQ5 := RL.bound (OwnR.rl hO5)
  obtain ⟨a5, c5, hv5⟩ := hQ5.form
  subst hv5
  have K5 := bmore K4 hB5
  simp only [List.length_cons, List.length_nil, Nat.zero_add] at hQ5
  obtain ⟨g1, o1, rfl, _, _, _, _, d2⟩ := hR5.get (k := 0) rfl
  simp only [Nat.zero_mul, Nat.add_zero] at d2
  have HR : Hid (∀ W, Below w5.heap.size w5 W → RL W (fun _ => False) (.slice (some ⟨g1, o1, none⟩) 1 c1) [(sv1, one, 0, 5)]) := fun W k => (hR5.below k).mono (fun _ _ h => h.elim)
  have HQ : Hid (∀ W, Below w5.heap.size w5 W → RL W (fun _ => False) (.slice a5 1 c5) [(sv5, one, 0, 5)]) := fun W k => (hQ5.below k).mono (fun _ _ h => h.elim)
  have hv1 : ∀ (v : Value), ∀ e ∈ [((v, one, 0, 5) : El)], e.2.1.length ≤ 1000 := by intro v e he; simp at he; subst he; simp [one]
  have H9 : Hid (∀ W, Below w5.heap.size w5 W → Calls Try.prog 9 #[.slice (some ⟨g1, o1, none⟩) 1 c1, .int .i64 4] W fun e w' => (∃ a c, e = .returned (.slice a 1 c)) ∧ Below W.heap.size W w') := fun W k => (at9 (p := 4) (HR.out W k) (by simp) (hv1 _)).mono (by
    rintro e w' ⟨v, vv, rfl, h1, _, h3, h4⟩
    obtain ⟨a, n, c, rfl⟩ := rowForm h1
    have hl : vv.length = 1 := by
      have := congrArg List.length h3
      rw [show rws [(sv1, one, 0, 5)] = [(one, 0, 5)] from rfl, at_live] at this
      simpa using this
    refine ⟨⟨a, c, ?_⟩, h4⟩
    rw [hl] at h1
    obtain ⟨_, ⟨h, q⟩ | ⟨g, cap, cur, h, _⟩⟩ := h1
    · cases q
    · cases h; rfl)
  have H11 : Hid (∀ W, Below w5.heap.size w5 W → Calls Try.prog 11 #[.slice (some ⟨g1, o1, none⟩) 1 c1] W fun e w' => (∃ a c, e = .returned (.slice a 2 c)) ∧ Below W.heap.size W w') := fun W k => (points11 (HR.out W k) (by simp)).mono (by
    rintro e w' ⟨v, rfl, h1, h4⟩
    rw [show rws [(sv1, one, 0, 5)] = [(one, 0, 5)] from rfl, points_live] at h1
    refine ⟨?_, h4⟩
    obtain ⟨_, ⟨h, q⟩ | ⟨g, cap, cur, h, _⟩⟩ := h1
    · cases q
    · exact ⟨_, _, by rw [h]; rfl⟩)
  have H15 : Hid (∀ W, Below w5.heap.size w5 W → Calls Try.prog 15 #[.slice (some ⟨g1, o1, none⟩) 1 c1, .slice a5 1 c5] W fun e w' => e = .returned (.bool true) ∧ Below W.heap.size W w') := fun W k => (same15 (HR.out W k) (HQ.out W k) (by simp) (by simp) (hv1 _) (hv1 _)).mono (by
    rintro e w' ⟨rfl, h⟩
    exact ⟨by simp [rws], h⟩)
  have H14 : Hid (∀ W, Below w5.heap.size w5 W → Calls Try.prog 14 #[.slice (some ⟨g1, o1, none⟩) 1 c1, .slice none 0 0] W fun e w' => (∃ a c, e = .returned (.slice a 1 c)) ∧ Below W.heap.size W w') := fun W k => (less14 (HR.out W k) (RL.nil none 0) (by simp) (by simp) (hv1 _) (by intro e he; cases he)).mono (by
    rintro e w' ⟨v, x, rfl, h1, h2, h4⟩
    rw [show rws [(sv1, one, 0, 5)] = [(one, 0, 5)] from rfl, show rws ([] : List El) = [] from rfl, show lessR [(one, 0, 5)] [] = [(one, 0, 5)] by unfold lessR; rw [sort_one, show sortR [] = [] by simp [sortR], lessL_nil]; simp [lessL]] at h2
    obtain ⟨sv, rfl⟩ := one_row h2
    obtain ⟨a, c, h⟩ := h1.rl.form
    exact ⟨⟨a, c, by rw [h]; rfl⟩, h4⟩)
  have B5 : Below w5.heap.size w5 w5 := Below.refl _ _
  clear hR0 hR1 hR3 hR4 hR5 hQ5 hO1 hO2 hO5 hSM hSM2 hK2 hE1 hE2 hE5 hv1 k7 k27 k28 k29 hn2 hn5
  go_wp2_with (first
    | (go_at_call 9; (with_reducible refine (H9.out _ B5).mono ?_); rintro e w6 ⟨⟨a6, c6, rfl⟩, hB6⟩; have B6 := bmore B5 hB6)
    | (go_at_call 11; (with_reducible refine (H11.out _ B6).mono ?_); rintro e w7 ⟨⟨a7, c7, rfl⟩, hB7⟩; have B7 := bmore B6 hB7)
    | (go_at_call 15; (with_reducible refine (H15.out _ B7).mono ?_); rintro e w8 ⟨rfl, hB8⟩; have B8 := bmore B7 hB8)
    | (go_at_call 14; (with_reducible refine (H14.out _ B8).mono ?_); rintro e w9 ⟨⟨a9, c9, rfl⟩, hB9⟩; have B9 := bmore B8 hB9))
  go_ret
  exact ⟨rfl, bmore K5 B9⟩
end Go.Proofs.Ytpagnphabchfcaa
