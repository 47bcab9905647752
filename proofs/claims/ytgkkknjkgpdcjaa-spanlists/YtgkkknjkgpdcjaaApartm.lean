/- Lists of spans no two of which have a point together: the order does not matter, neighbours are enough. -/
import Derived.Test.YtgkkknjkgpdcjaaJoin
namespace Go.Proofs.Ytgkkknjkgpdcjaa
open Go.RowKit

/-- no two have a point together -/
def Loose (x y : Int × Int) : Prop := bothB x.1 x.2 y.1 y.2 = false
def Apart (xs : List (Int × Int)) : Prop := xs.Pairwise Loose

theorem bothB_swap (a b c d : Int) : bothB a b c d = bothB c d a b := by
  rw [Bool.eq_iff_iff]
  simp only [bothB, Bool.and_eq_true, decide_eq_true_eq]
  constructor
  · rintro ⟨h1, h2, h3⟩; exact ⟨h2, h1, by omega⟩
  · rintro ⟨h1, h2, h3⟩; exact ⟨h2, h1, by omega⟩
theorem Loose.swap {x y : Int × Int} (h : Loose x y) : Loose y x := by unfold Loose at *; rw [bothB_swap]; exact h
theorem loose_wrong {x y : Int × Int} (h : rightB x.1 x.2 = false) : Loose x y := by simp [Loose, bothB, h]

theorem apart_rights (xs : List (Int × Int)) : Apart (rights xs) ↔ Apart xs := by
  induction xs with
  | nil => simp [Apart, rights]
  | cons x r ih =>
    unfold Apart rights at *
    rw [List.filter_cons]
    by_cases hx : rightB x.1 x.2 = true
    · rw [if_pos hx, List.pairwise_cons, List.pairwise_cons, ih]
      refine and_congr_left fun _ => ⟨fun h y hy => ?_, fun h y hy => h y (List.mem_filter.1 hy).1⟩
      by_cases h2 : rightB y.1 y.2 = true
      · exact h y (List.mem_filter.2 ⟨hy, h2⟩)
      · exact (loose_wrong (by simpa using h2)).swap
    · rw [if_neg hx, List.pairwise_cons, ih]
      exact ⟨fun h => ⟨fun y _ => loose_wrong (by simpa using hx), h⟩, fun h => h.2⟩

theorem apart_perm {xs ys : List (Int × Int)} (h : ys.Perm (rights xs)) : Apart ys ↔ Apart xs := by
  rw [← apart_rights xs]
  exact h.pairwise_iff (fun h => h.swap)

theorem loose_rights {x y : Int × Int} (hx : rightB x.1 x.2 = true) (hy : rightB y.1 y.2 = true) (hs : x.1 ≤ y.1) : Loose x y ↔ x.2 ≤ y.1 := by
  have h1 := (rightB_iff _ _).1 hx
  have h2 := (rightB_iff _ _).1 hy
  simp only [Loose, bothB, hx, hy, Bool.true_and, decide_eq_false_iff_not]
  omega

theorem apart_near {ys : List (Int × Int)} (hr : ∀ x, x ∈ ys → rightB x.1 x.2 = true) (hs : Rising ys)
    (h : ∀ k, (hk : k + 1 < ys.length) → Loose ys[k] ys[k + 1]) : Apart ys := by
  unfold Apart
  rw [List.pairwise_iff_getElem]
  intro i j hi hj hij
  have h1 := h i (by omega)
  rw [loose_rights (hr _ (List.getElem_mem _)) (hr _ (List.getElem_mem _)) (hs _ _ (by omega) (by omega))] at h1
  rw [loose_rights (hr _ (List.getElem_mem _)) (hr _ (List.getElem_mem _)) (hs _ _ hj hij)]
  rcases (show i + 1 = j ∨ i + 1 < j by omega) with rfl | h2
  · exact h1
  · have := hs (i + 1) j hj h2; omega

theorem apart_get {ys : List (Int × Int)} (h : Apart ys) (i j : Nat) (hi : i < ys.length) (hj : j < ys.length) (hij : i < j) : Loose ys[i] ys[j] := by
  unfold Apart at h
  rw [List.pairwise_iff_getElem] at h
  exact h i j hi hj hij

theorem canon_apart {ys : List (Int × Int)} (h : Canon ys) : Apart ys := by
  unfold Apart
  rw [List.pairwise_iff_getElem]
  intro i j hi hj hij
  have hp := h.2
  rw [List.pairwise_iff_getElem] at hp
  have h1 := hp i j hi hj hij
  have r1 := (rightB_iff _ _).1 (h.1 _ (List.getElem_mem hi))
  have r2 := (rightB_iff _ _).1 (h.1 _ (List.getElem_mem hj))
  rw [loose_rights (h.1 _ (List.getElem_mem hi)) (h.1 _ (List.getElem_mem hj)) (by omega)]
  omega

end Go.Proofs.Ytgkkknjkgpdcjaa
