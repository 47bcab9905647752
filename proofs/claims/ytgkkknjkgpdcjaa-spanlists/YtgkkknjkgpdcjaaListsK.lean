/- SpanLists: the contracts that the law's region asks for, over one predicate. -/
import Derived.Test.YtgkkknjkgpdcjaaRefm
namespace Go.Proofs.Ytgkkknjkgpdcjaa
open Go.RowKit

/-- a slice that reads as the canonical list of these points -/
def CRow (W : World) (v : Value) (P : Int → Prop) : Prop := ∃ ys, Canon ys ∧ ys.length ≤ 100000 ∧ (∀ p, Pt ys p ↔ P p) ∧ SRow W v ys
theorem CRow.step {W W' : World} {v : Value} {P : Int → Prop} (h : CRow W v P) (hb : Below W.heap.size W W') : CRow W' v P := by
  obtain ⟨ys, h1, h2, h3, h4⟩ := h
  exact ⟨ys, h1, h2, h3, h4.below hb h4.lt⟩

theorem pt_one' (a b p : Int) : Pt [(a, b)] p ↔ a ≤ p ∧ p < b := by rw [pt_cons]; simp [pt_nil]
theorem has_one (c d p : Int) : Has [(c, d)] p ↔ hasB c d p = true := by
  unfold Has
  rw [← ptB_iff, one_pt]
theorem hasB_iff (a b p : Int) : hasB a b p = true ↔ rightB a b = true ∧ a ≤ p ∧ p < b := by
  unfold hasB; simp only [Bool.and_eq_true, decide_eq_true_eq]

theorem minus_canon (a b c d : Int) : Canon (minusL a b c d) ∧ (minusL a b c d).length ≤ 2 ∧ ∀ p, Pt (minusL a b c d) p ↔ hasB a b p = true ∧ ¬ Has [(c, d)] p := by
  by_cases h1 : rightB a b = true
  · have r := (rightB_iff _ _).1 h1
    by_cases h2 : bothB a b c d = true
    · have q := h2
      simp only [bothB, Bool.and_eq_true, decide_eq_true_eq] at q
      have r2 := (rightB_iff _ _).1 q.2.1
      have eF : bothF a b c d = max a c := by simp [bothF, h2]
      have eT : bothT a b c d = min b d := by simp [bothT, h2]
      have eM : minusL a b c d = addP (addP [] a (max a c)) (min b d) b := by simp [minusL, h1, h2, eF, eT]
      rw [eM]
      have hc1 : Canon (addP [] a (max a c)) := addP_canon ⟨by simp, by simp⟩ (by simp) r.1 (by omega)
      refine ⟨addP_canon hc1 (fun y hy => ?_) (by omega) r.2.2, ?_, fun p => ?_⟩
      · rcases addP_mem hy with h | h
        · simp at h
        · subst h; simp only; omega
      · have := addP_len (addP [] a (max a c)) (min b d) b
        have := addP_len [] a (max a c)
        simp at *; omega
      · rw [addP_pt, addP_pt, has_one, hasB_iff, hasB_iff]
        simp only [pt_nil, false_or, h1, q.2.1, true_and]
        omega
    · have eM : minusL a b c d = [(a, b)] := by simp [minusL, h1, h2]
      rw [eM]
      refine ⟨⟨by simpa using h1, by simp⟩, by simp, fun p => ?_⟩
      rw [pt_one', has_one, hasB_iff, hasB_iff]
      simp only [h1, true_and]
      refine ⟨fun h => ⟨h, fun ⟨h3, h4⟩ => h2 ?_⟩, fun h => h.1⟩
      simp only [bothB, h1, h3, Bool.true_and, decide_eq_true_eq]; omega
  · have eM : minusL a b c d = [] := by simp [minusL, h1]
    rw [eM]
    exact ⟨⟨by simp, by simp⟩, by simp, fun p => by simp [pt_nil, hasB_iff, h1]⟩

theorem gaps27_form (v : Value) (xs : List (Int × Int)) (a b : Int) (w : World) (hl : xs.length ≤ 100000) (h : SRow w v xs) :
    Calls Try.prog 27 #[v, .agg #[.int .i64 a, .int .i64 b]] w fun e w' => ∃ p n cap, e = .returned (.slice p n cap) ∧ n ≤ 2001 ∧ Hid (n = 0 ↔ ∀ p, hasB a b p = true → Has xs p) ∧ Below w.heap.size w w' := by
  refine (gaps27 v xs a b w hl h).mono ?_
  rintro e w' ⟨v', gs, rfl, hc, hp, hlen, ho, hb⟩
  obtain ⟨p, cap, rfl, _⟩ := ho.srow.form
  refine ⟨p, _, cap, rfl, hlen, ?_, hb⟩
  constructor
  · intro h0 p hh
    have : gs = [] := List.eq_nil_of_length_eq_zero h0
    subst this
    exact Classical.byContradiction fun hn => pt_nil p ((hp p).2 ⟨hh, hn⟩)
  · intro h
    rw [canon_nil hc (fun p hpp => ((hp p).1 hpp).2 (h p ((hp p).1 hpp).1))]; rfl

set_option maxHeartbeats 1000000 in
theorem covers29 (v : Value) (xs : List (Int × Int)) (a b : Int) (w : World) (hl : xs.length ≤ 100000) (h : SRow w v xs) :
    Calls Try.prog 29 #[v, .agg #[.int .i64 a, .int .i64 b]] w fun e w' => ∃ r, e = .returned (.bool r) ∧ (r = true ↔ rightB a b = true ∧ ∀ p, a ≤ p → p < b → Has xs p) ∧ Below w.heap.size w w' := by
  have hB : SRow (w.alloc (.cells #[.int .i64 a, .int .i64 b] 23)) v xs := h.below (below1 w _) h.lt
  have hB2 : SRow ((w.alloc (.cells #[.int .i64 a, .int .i64 b] 23)).alloc (.cells #[.int .i64 a, .int .i64 b] 23)) v xs := hB.below (below1 _ _) hB.lt
  have hbw : Below w.heap.size w ((w.alloc (.cells #[.int .i64 a, .int .i64 b] 23)).alloc (.cells #[.int .i64 a, .int .i64 b] 23)) := below_alloc (below1 _ _) _
  have hg := gaps27_form v xs a b _ hl hB2
  clear h hB hB2
  cases hr : rightB a b
  · clear hg
    go_enter Try.func29, Try.ntmps29
    go_wp2_with (go_at_call 13; refine (right13 _ _ _).mono ?_; rintro e w' ⟨rfl, rfl⟩; rw [hr])
    go_ret
    exact ⟨false, rfl, by simp, hbw⟩
  · go_enter Try.func29, Try.ntmps29
    have ka := (bc (below1 (w.alloc (.cells #[.int .i64 a, .int .i64 b] 23)) (.cells #[.int .i64 a, .int .i64 b] 23)) w.heap.size 0 (by simp)).trans (box1 _ _ _).1
    have kb := (bc (below1 (w.alloc (.cells #[.int .i64 a, .int .i64 b] 23)) (.cells #[.int .i64 a, .int .i64 b] 23)) w.heap.size 1 (by simp)).trans (box1 _ _ _).2
    go_wp2_with (go_at_call 13; refine (right13 _ _ _).mono ?_; rintro e w' ⟨rfl, rfl⟩; rw [hr])
    refine hg.mono ?_
    rintro e w2 ⟨p, n, cap, rfl, hn, HN, hb2⟩
    clear hg
    have HE : Hid ((∀ p, hasB a b p = true → Has xs p) ↔ ∀ p, a ≤ p → p < b → Has xs p) := by
      constructor
      · exact fun h p h1 h2 => h p ((hasB_iff _ _ _).2 ⟨hr, h1, h2⟩)
      · exact fun h p hp => h p ((hasB_iff _ _ _).1 hp).2.1 ((hasB_iff _ _ _).1 hp).2.2
    by_cases h0 : n = 0
    · have H1 := hidA (HE.out.1 (HN.out.1 h0))
      subst h0
      clear HE HN
      go_wp2
      go_ret
      exact ⟨true, rfl, by simpa using H1.out, hbw.trans (hb2.mono hbw.size)⟩
    · have H1 : Hid (¬ ∀ p, a ≤ p → p < b → Has xs p) := fun h => h0 (HN.out.2 (HE.out.2 h))
      have hd : decide ((n : Int) = 0) = false := by simp; omega
      have hn1 : ¬ (n : Int) = 0 := by omega
      clear HE HN
      go_wp2
      go_ret
      exact ⟨(n : Int) == 0, rfl, ⟨fun h => absurd (by simpa using h) h0, fun h => absurd h.2 H1.out⟩, hbw.trans (hb2.mono hbw.size)⟩

end Go.Proofs.Ytgkkknjkgpdcjaa
