/- What is left of a span, by its points. -/
import Derived.Test.YthalgnfffcimhaaJf
import Derived.Test.YthalgnfffcimhaaMi
namespace Go.Proofs.Ythalgnfffcimhaa.Sp
open Go.RowKit Go.Shelf
set_option maxRecDepth 100000
theorem addP_pt (gs : List (Int × Int)) (f x : Int) (p : Int) : Pt (addP gs f x) p ↔ Pt gs p ∨ (f ≤ p ∧ p < x) := by
  unfold addP
  by_cases h : f < x
  · rw [if_pos h, pt_append, pt_cons]; simp [pt_nil]
  · rw [if_neg h]
    constructor
    · exact .inl
    · rintro (h2 | h2)
      · exact h2
      · omega
theorem addP_canon {gs : List (Int × Int)} {f x : Int} (h : Canon gs) (he : ∀ y, y ∈ gs → y.2 < f) (hf : -1000 ≤ f) (hx : x ≤ 1000) : Canon (addP gs f x) := by
  unfold addP
  by_cases hl : f < x
  · rw [if_pos hl]
    refine ⟨fun y hy => ?_, ?_⟩
    · rcases List.mem_append.1 hy with hy | hy
      · exact h.1 y hy
      · rw [List.mem_singleton.1 hy, rightB_iff]; omega
    · rw [List.pairwise_append]
      exact ⟨h.2, by simp, fun y hy z hz => by rw [List.mem_singleton.1 hz]; exact he y hy⟩
  · rw [if_neg hl]; exact h
theorem addP_mem {gs : List (Int × Int)} {f x : Int} {y : Int × Int} (h : y ∈ addP gs f x) : y ∈ gs ∨ y = (f, x) := by
  unfold addP at h
  split at h
  · simpa using h
  · exact .inl h
theorem addP_len (gs : List (Int × Int)) (f x : Int) : (addP gs f x).length ≤ gs.length + 1 := by
  unfold addP; split <;> simp
theorem pt_one' (a b p : Int) : Pt [(a, b)] p ↔ a ≤ p ∧ p < b := by rw [pt_cons]; simp [pt_nil]
theorem hasB_iff (a b p : Int) : hasB a b p = true ↔ rightB a b = true ∧ a ≤ p ∧ p < b := by
  unfold hasB; simp only [Bool.and_eq_true, decide_eq_true_eq]
theorem minus_canon (a b c d : Int) : Canon (minusL a b c d) ∧ (minusL a b c d).length ≤ 2 ∧ ∀ p, Pt (minusL a b c d) p ↔ hasB a b p = true ∧ ¬ hasB c d p = true := by
  by_cases h1 : rightB a b = true
  · have r := (rightB_iff _ _).1 h1
    by_cases h2 : bothB a b c d = true
    · have q := h2
      simp only [bothB, Bool.and_eq_true, decide_eq_true_eq] at q
      have r2 := (rightB_iff _ _).1 q.2.1
      have eF : bothF a b c d = max a c := by simp [bothF, h2]
      have eT : bothT a b c d = min b d := by simp [bothT, h2]
      have eM : minusL a b c d = addP (addP [] a (max a c)) (min b d) b := by simp [minusL, h1, h2, eF, eT]
      rw [eM]
      have hc1 : Canon (addP [] a (max a c)) := addP_canon ⟨by simp, by simp⟩ (by simp) r.1 (by omega)
      refine ⟨addP_canon hc1 (fun y hy => ?_) (by omega) r.2.2, ?_, fun p => ?_⟩
      · rcases addP_mem hy with h | h
        · simp at h
        · subst h; simp only; omega
      · have := addP_len (addP [] a (max a c)) (min b d) b
        have := addP_len [] a (max a c)
        simp at *; omega
      · rw [addP_pt, addP_pt, hasB_iff, hasB_iff]
        simp only [pt_nil, false_or, h1, q.2.1, true_and]
        omega
    · have eM : minusL a b c d = [(a, b)] := by simp [minusL, h1, h2]
      rw [eM]
      refine ⟨⟨by simpa using h1, by simp⟩, by simp, fun p => ?_⟩
      rw [pt_one', hasB_iff, hasB_iff]
      simp only [h1, true_and]
      refine ⟨fun h => ⟨h, fun ⟨h3, h4⟩ => h2 ?_⟩, fun h => h.1⟩
      simp only [bothB, h1, h3, Bool.true_and, decide_eq_true_eq]; omega
  · have eM : minusL a b c d = [] := by simp [minusL, h1]
    rw [eM]
    exact ⟨⟨by simp, by simp⟩, by simp, fun p => by simp [pt_nil, hasB_iff, h1]⟩
end Go.Proofs.Ythalgnfffcimhaa.Sp
