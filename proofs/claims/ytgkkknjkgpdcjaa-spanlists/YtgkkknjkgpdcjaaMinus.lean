/- span.Minus: what is left of one. -/
import Derived.Test.YtgkkknjkgpdcjaaJoin
import Derived.Deep.RegionHeld3
namespace Go.Proofs.Ytgkkknjkgpdcjaa
open Go.RowKit

def minusL (a b c d : Int) : List (Int × Int) := if rightB a b = true then (if bothB a b c d = true then addP (addP [] a (bothF a b c d)) (bothT a b c d) b else [(a, b)]) else []

theorem Own.one (w : World) (a b : Int) : Own (w.alloc (.cells #[.int .i64 a, .int .i64 b] 23)) w.heap.size (.slice (some ⟨w.heap.size, 0, none⟩) 1 1) [(a, b)] :=
  ⟨rfl, .inr ⟨w.heap.size, 1, _, rfl, Nat.le_refl _, heap_alloc_new w _, Nat.le_refl _, by unfold maxLen; omega, rfl, rfl⟩⟩

theorem own1 (w1 : World) (o : Obj) (a b : Int) (B : Nat) (h : B ≤ (w1.alloc o).heap.size) : Own ((w1.alloc o).alloc (.cells #[.int .i64 a, .int .i64 b] 23)) B (.slice (some ⟨w1.heap.size + 1, 0, none⟩) 1 1) [(a, b)] := by
  have := (Own.one (w1.alloc o) a b).base h
  simpa using this

theorem box1 (w : World) (a b : Int) : (w.alloc (.cells #[.int .i64 a, .int .i64 b] 23)).cell? ⟨w.heap.size, 0, none⟩ = some (.int .i64 a) ∧ (w.alloc (.cells #[.int .i64 a, .int .i64 b] 23)).cell? ⟨w.heap.size, 1, none⟩ = some (.int .i64 b) := by simp
theorem box3 (w : World) (a b : Int) (o1 o2 : Obj) : (((w.alloc (.cells #[.int .i64 a, .int .i64 b] 23)).alloc o1).alloc o2).cell? ⟨w.heap.size, 0, none⟩ = some (.int .i64 a) ∧ (((w.alloc (.cells #[.int .i64 a, .int .i64 b] 23)).alloc o1).alloc o2).cell? ⟨w.heap.size, 1, none⟩ = some (.int .i64 b) := by
  have h1 := fun k => (below1 ((w.alloc (.cells #[.int .i64 a, .int .i64 b] 23)).alloc o1) o2).cell (p := ⟨w.heap.size, k, none⟩) (by simp; omega)
  have h2 := fun k => (below1 (w.alloc (.cells #[.int .i64 a, .int .i64 b] 23)) o1).cell (p := ⟨w.heap.size, k, none⟩) (by simp)
  exact ⟨(h1 0).trans ((h2 0).trans (box1 _ _ _).1), (h1 1).trans ((h2 1).trans (box1 _ _ _).2)⟩

set_option maxHeartbeats 1000000 in
theorem minus22 (a b c d : Int) (w : World) :
    Calls Try.prog 22 #[.agg #[.int .i64 a, .int .i64 b], .agg #[.int .i64 c, .int .i64 d]] w fun e w' => ∃ v', e = .returned v' ∧ Own w' w.heap.size v' (minusL a b c d) ∧ Below w.heap.size w w' := by
  cases h1 : rightB a b
  · have hm : minusL a b c d = [] := by simp [minusL, h1]
    rw [hm]; clear hm
    go_enter Try.func22, Try.ntmps22
    go_wp2_with (go_at_call 12; refine (right12 _ _ _).mono ?_; rintro e w' ⟨rfl, rfl⟩; rw [h1])
    go_ret
    exact ⟨_, rfl, Own.nil _ _, by repeat (first | exact below1 _ _ | refine below_alloc ?_ _)⟩
  · cases h2 : bothB a b c d
    · have hm : minusL a b c d = [(a, b)] := by simp [minusL, h1, h2]
      rw [hm]; clear hm
      go_enter Try.func22, Try.ntmps22
      go_wp2_with (first | (go_at_call 12; refine (right12 _ _ _).mono ?_; rintro e w' ⟨rfl, rfl⟩; rw [h1]) | (go_at_call 9; refine (both9 _ _ _ _ _).mono ?_; rintro e w1 ⟨rfl, hb1⟩; rw [h2]; obtain ⟨hc, hf⟩ := bcell hb1; have hz : w.heap.size < w1.heap.size := by (have := hb1.size; simp at this; omega)))
      have hbb : Below w.heap.size w (w1.alloc (.cells #[.int .i64 (bothF a b c d), .int .i64 (bothT a b c d)] 23)) := below_alloc ((below_alloc (below_alloc (below1 _ _) _) _).trans (hb1.mono (by simp; omega))) _
      go_ret
      exact ⟨_, rfl, own1 _ _ _ _ _ hbb.size, below_alloc hbb _⟩
    · have hm : minusL a b c d = addP (addP [] a (bothF a b c d)) (bothT a b c d) b := by simp [minusL, h1, h2]
      rw [hm]; clear hm
      have hb9 := fun w => both9 a b c d w
      rw [h2] at hb9
      generalize bothF a b c d = x at hb9 ⊢
      generalize bothT a b c d = y at hb9 ⊢
      go_enter Try.func22, Try.ntmps22
      go_wp2_with (first | (go_at_call 12; refine (right12 _ _ _).mono ?_; rintro e w' ⟨rfl, rfl⟩; rw [h1]) | (go_at_call 9; refine (hb9 _).mono ?_; rintro e w1 ⟨rfl, hb1⟩; obtain ⟨hc, hf⟩ := bcell hb1; have hz : w.heap.size < w1.heap.size := by (have := hb1.size; simp at this; omega)))
      have hbb : Below w.heap.size w (w1.alloc (.cells #[.int .i64 x, .int .i64 y] 23)) := below_alloc ((below_alloc (below_alloc (below1 _ _) _) _).trans (hb1.mono (by simp; omega))) _
      have ka : w1.cell? ⟨w.heap.size, 0, none⟩ = some (.int .i64 a) := (hc w.heap.size 0 (by simp; omega)).trans (box3 _ _ _ _ _).1
      have kb : w1.cell? ⟨w.heap.size, 1, none⟩ = some (.int .i64 b) := (hc w.heap.size 1 (by simp; omega)).trans (box3 _ _ _ _ _).2
      have ka1 : (w1.alloc (.cells #[.int .i64 x, .int .i64 y] 23)).cell? ⟨w.heap.size, 0, none⟩ = some (.int .i64 a) := ((below1 w1 _).cell (p := ⟨w.heap.size, 0, none⟩) hz).trans ka
      have kb1 : (w1.alloc (.cells #[.int .i64 x, .int .i64 y] 23)).cell? ⟨w.heap.size, 1, none⟩ = some (.int .i64 b) := ((below1 w1 _).cell (p := ⟨w.heap.size, 1, none⟩) hz).trans kb
      have kx1 : (w1.alloc (.cells #[.int .i64 x, .int .i64 y] 23)).cell? ⟨w1.heap.size, 0, none⟩ = some (.int .i64 x) := by simp
      have ky1 : (w1.alloc (.cells #[.int .i64 x, .int .i64 y] 23)).cell? ⟨w1.heap.size, 1, none⟩ = some (.int .i64 y) := by simp
      have hz4 : w.heap.size < (w1.alloc (.cells #[.int .i64 x, .int .i64 y] 23)).heap.size := by simp; omega
      have hz5 : w1.heap.size < (w1.alloc (.cells #[.int .i64 x, .int .i64 y] 23)).heap.size := by simp
      clear hb1 hc hf hb9 ka kb
      obtain ⟨W, hW⟩ : ∃ W, w1.alloc (.cells #[.int .i64 x, .int .i64 y] 23) = W := ⟨_, rfl⟩
      rw [hW] at ka1 kb1 kx1 ky1 hz4 hz5 hbb ⊢
      clear hW hz
      have hA1 := addPiece36 (.slice none 0 0) [] a x W.drew W.heap.size (Own.nil _ _) (Nat.le_refl _) (by simp)
      go_region_held3 (fun w' => w'.cell? ⟨w.heap.size, 0, none⟩ = some (.int .i64 a) ∧ w'.cell? ⟨w.heap.size, 1, none⟩ = some (.int .i64 b) ∧ w'.cell? ⟨w1.heap.size, 0, none⟩ = some (.int .i64 x) ∧ w'.cell? ⟨w1.heap.size, 1, none⟩ = some (.int .i64 y)) (go_keep)
        (first
        | (go_at_call_of 36 (Value.slice none 0 0); refine hA1.mono ?_; rintro e w2 ⟨v2, rfl, ho2, hb2⟩; have ka2 := (hb2.cell (p := ⟨w.heap.size, 0, none⟩) hz4).trans ka1; have kb2 := (hb2.cell (p := ⟨w.heap.size, 1, none⟩) hz4).trans kb1; have kx2 := (hb2.cell (p := ⟨w1.heap.size, 0, none⟩) hz5).trans kx1; have ky2 := (hb2.cell (p := ⟨w1.heap.size, 1, none⟩) hz5).trans ky1)
        | (go_at_call 36; refine (addPiece36 v2 (addP [] a x) y b w2 W.heap.size ho2 hb2.size (by unfold addP; split <;> simp)).mono ?_; rintro e w3 ⟨v3, rfl, ho3, hb3⟩; have ka3 := (hb3.cell (p := ⟨w.heap.size, 0, none⟩) hz4).trans ka2; have kb3 := (hb3.cell (p := ⟨w.heap.size, 1, none⟩) hz4).trans kb2; have kx3 := (hb3.cell (p := ⟨w1.heap.size, 0, none⟩) hz5).trans kx2; have ky3 := (hb3.cell (p := ⟨w1.heap.size, 1, none⟩) hz5).trans ky2))
      go_wp2
      go_ret
      exact ⟨_, rfl, ho3.base hbb.size, hbb.trans ((below_drewN (Below.refl _ _) 1).trans ((hb2.mono hbb.size).trans (hb3.mono hbb.size)))⟩

end Go.Proofs.Ytgkkknjkgpdcjaa
