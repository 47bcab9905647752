/- Span's Both, Overlaps, Minus. -/
import Derived.Test.YthalgnfffcimhaaJb
namespace Go.Proofs.Ythalgnfffcimhaa.Sp
open Go.RowKit Go.Shelf
set_option maxRecDepth 100000
set_option maxHeartbeats 400000 in
theorem both9 (a b c d : Int) (w : World) :
    Calls Try.prog 18 #[.agg #[.int .i64 a, .int .i64 b], .agg #[.int .i64 c, .int .i64 d]] w fun e w' => e = .returned (.tuple #[.agg #[.int .i64 (bothF a b c d), .int .i64 (bothT a b c d)], .bool (bothB a b c d)]) ∧ Below w.heap.size w w' := by
  cases h1 : rightB a b
  · have hb : bothB a b c d = false := by simp [bothB, h1]
    simp only [bothF, bothT, hb]; clear hb
    go_enter Try.func18, Try.ntmps18
    go_wp2_with (go_at_call 33; refine (right12 _ _ _).mono ?_; rintro e w' ⟨rfl, rfl⟩; rw [h1])
    exact bodyPost_ret (v := .tuple #[.agg #[.int .i64 0, .int .i64 0], .bool false]) (by simp [results, Try.results18, go_sem]) rfl ⟨rfl, by repeat (first | exact below1 _ _ | refine below_alloc ?_ _)⟩
  · cases h2 : rightB c d
    · have hb : bothB a b c d = false := by simp [bothB, h2]
      simp only [bothF, bothT, hb]; clear hb
      go_enter Try.func18, Try.ntmps18
      go_wp2_with (go_at_call 33; refine (right12 _ _ _).mono ?_; rintro e w' ⟨rfl, rfl⟩; first | rw [h1] | rw [h2])
      exact bodyPost_ret (v := .tuple #[.agg #[.int .i64 0, .int .i64 0], .bool false]) (by simp [results, Try.results18, go_sem]) rfl ⟨rfl, by repeat (first | exact below1 _ _ | refine below_alloc ?_ _)⟩
    · obtain ⟨x, hx⟩ : ∃ x, max a c = x := ⟨_, rfl⟩
      obtain ⟨y, hy⟩ : ∃ y, min b d = y := ⟨_, rfl⟩
      have ex : x = max a c := by omega
      have ey : y = min b d := by omega
      cases h3 : rightB x y
      · obtain ⟨e1, e2, e3⟩ := both_no h1 h2 ex ey (by simp [h3])
        rw [e1, e2, e3]; clear e1 e2 e3 ex ey
        go_enter Try.func18, Try.ntmps18
        go_wp2_with (go_at_call 33; refine (right12 _ _ _).mono ?_; rintro e w' ⟨rfl, rfl⟩; first | rw [h1] | rw [h2] | rw [h3])
        exact bodyPost_ret (v := .tuple #[.agg #[.int .i64 0, .int .i64 0], .bool false]) (by simp [results, Try.results18, go_sem]) rfl ⟨rfl, by repeat (first | exact below1 _ _ | refine below_alloc ?_ _)⟩
      · obtain ⟨e1, e2, e3⟩ := both_yes h1 h2 ex ey h3
        rw [e1, e2, e3]; clear e1 e2 e3 ex ey
        go_enter Try.func18, Try.ntmps18
        go_wp2_with (go_at_call 33; refine (right12 _ _ _).mono ?_; rintro e w' ⟨rfl, rfl⟩; first | rw [h1] | rw [h2] | rw [h3])
        exact bodyPost_ret (v := .tuple #[.agg #[.int .i64 x, .int .i64 y], .bool true]) (by simp [results, Try.results18, go_sem]) rfl ⟨rfl, by repeat (first | exact below1 _ _ | refine below_alloc ?_ _)⟩

theorem addPiece36 (v : Value) (xs : List (Int × Int)) (a b : Int) (w : World) (B : Nat) (hown : Own w B v xs) (hB : B ≤ w.heap.size) (hl : xs.length ≤ 100000) :
    Calls Try.prog 45 #[v, .int .i64 a, .int .i64 b] w fun e w' => ∃ v', e = .returned v' ∧ Own w' B v' (addP xs a b) ∧ Below B w w' := by
  by_cases h : a < b
  · have hx : addP xs a b = xs ++ [(a, b)] := by simp [addP, h]
    rw [hx]; clear hx
    obtain ⟨i0, hi, hz0, hz1, hz2⟩ := info_parts' Try.info27
    go_enter Try.func45, Try.ntmps45
    go_wp2_with (at_builtin; refine wpList_append_own _ rfl _ _ 57 rfl B 27 i0 (.agg #[.int .i64 0, .int .i64 0]) 2 16 Try.underlying57 hi hz0 hz1 hz2 rfl (by decide) _ _ _ rfl (World.ownsRow.alloc hown _) ⟨w.heap.size, 0, none⟩ 1 1 [.int .i64 a, .int .i64 b] rfl rfl ?c1 ?c2 ?c3 ?c4 ?c5 ?_)
    case c1 =>
      intro j u hj
      match j, hj with
      | 0, hj => simp at hj; subst hj; simp [Addr.add]
      | 1, hj => simp at hj; subst hj; simp [Addr.add]
    case c2 => intro u hu; simp at hu; rcases hu with rfl | rfl <;> rfl
    case c3 => unfold maxLen; omega
    case c4 => omega
    case c5 => simp; omega
    · intro v' w1 hown' hgrow _
      have R1 : Own w1 B v' (xs ++ [(a, b)]) := by
        unfold Own; rw [cells2_append]; simpa [cells2, enc2] using hown'
      have R2 : Below B w w1 := ((Below.refl B w).alloc hB _).grown hgrow (by simp; omega) (fun k hk => (World.ownsRow.lt hown k hk).1)
      clear hown' hgrow
      go_wp2
      go_ret
      exact ⟨_, rfl, R1, R2⟩
  · have hx : addP xs a b = xs := by simp [addP, h]
    rw [hx]; clear hx
    go_enter Try.func45, Try.ntmps45
    go_wp2
    go_ret
    exact ⟨_, rfl, hown, Below.refl _ _⟩


def minusL (a b c d : Int) : List (Int × Int) := if rightB a b = true then (if bothB a b c d = true then addP (addP [] a (bothF a b c d)) (bothT a b c d) b else [(a, b)]) else []

theorem Own.one (w : World) (a b : Int) : Own (w.alloc (.cells #[.int .i64 a, .int .i64 b] 27)) w.heap.size (.slice (some ⟨w.heap.size, 0, none⟩) 1 1) [(a, b)] :=
  ⟨rfl, .inr ⟨w.heap.size, 1, _, rfl, Nat.le_refl _, World.alloc_heap_new w _, Nat.le_refl _, by unfold maxLen; omega, rfl, rfl⟩⟩

theorem own1 (w1 : World) (o : Obj) (a b : Int) (B : Nat) (h : B ≤ (w1.alloc o).heap.size) : Own ((w1.alloc o).alloc (.cells #[.int .i64 a, .int .i64 b] 27)) B (.slice (some ⟨w1.heap.size + 1, 0, none⟩) 1 1) [(a, b)] := by
  have := (Own.one (w1.alloc o) a b).base h
  simpa using this

theorem box1 (w : World) (a b : Int) : (w.alloc (.cells #[.int .i64 a, .int .i64 b] 27)).cell? ⟨w.heap.size, 0, none⟩ = some (.int .i64 a) ∧ (w.alloc (.cells #[.int .i64 a, .int .i64 b] 27)).cell? ⟨w.heap.size, 1, none⟩ = some (.int .i64 b) := by simp
theorem box3 (w : World) (a b : Int) (o1 o2 : Obj) : (((w.alloc (.cells #[.int .i64 a, .int .i64 b] 27)).alloc o1).alloc o2).cell? ⟨w.heap.size, 0, none⟩ = some (.int .i64 a) ∧ (((w.alloc (.cells #[.int .i64 a, .int .i64 b] 27)).alloc o1).alloc o2).cell? ⟨w.heap.size, 1, none⟩ = some (.int .i64 b) := by
  have h1 := fun k => (below1 ((w.alloc (.cells #[.int .i64 a, .int .i64 b] 27)).alloc o1) o2).cell (p := ⟨w.heap.size, k, none⟩) (by simp; omega)
  have h2 := fun k => (below1 (w.alloc (.cells #[.int .i64 a, .int .i64 b] 27)) o1).cell (p := ⟨w.heap.size, k, none⟩) (by simp)
  exact ⟨(h1 0).trans ((h2 0).trans (box1 _ _ _).1), (h1 1).trans ((h2 1).trans (box1 _ _ _).2)⟩

set_option maxHeartbeats 1000000 in
theorem minus22 (a b c d : Int) (w : World) :
    Calls Try.prog 30 #[.agg #[.int .i64 a, .int .i64 b], .agg #[.int .i64 c, .int .i64 d]] w fun e w' => ∃ v', e = .returned v' ∧ Own w' w.heap.size v' (minusL a b c d) ∧ Below w.heap.size w w' := by
  cases h1 : rightB a b
  · have hm : minusL a b c d = [] := by simp [minusL, h1]
    rw [hm]; clear hm
    go_enter Try.func30, Try.ntmps30
    go_wp2_with (go_at_call 33; refine (right12 _ _ _).mono ?_; rintro e w' ⟨rfl, rfl⟩; rw [h1])
    go_ret
    exact ⟨_, rfl, Own.nil _ _, by repeat (first | exact below1 _ _ | refine below_alloc ?_ _)⟩
  · cases h2 : bothB a b c d
    · have hm : minusL a b c d = [(a, b)] := by simp [minusL, h1, h2]
      rw [hm]; clear hm
      go_enter Try.func30, Try.ntmps30
      go_wp2_with (first | (go_at_call 33; refine (right12 _ _ _).mono ?_; rintro e w' ⟨rfl, rfl⟩; rw [h1]) | (go_at_call 18; refine (both9 _ _ _ _ _).mono ?_; rintro e w1 ⟨rfl, hb1⟩; rw [h2]; obtain ⟨hc, hf⟩ := bcell hb1; have hz : w.heap.size < w1.heap.size := by (have := hb1.size; simp at this; omega)))
      have hbb : Below w.heap.size w (w1.alloc (.cells #[.int .i64 (bothF a b c d), .int .i64 (bothT a b c d)] 27)) := below_alloc ((below_alloc (below_alloc (below1 _ _) _) _).trans (hb1.mono (by simp; omega))) _
      go_ret
      exact ⟨_, rfl, own1 _ _ _ _ _ hbb.size, below_alloc hbb _⟩
    · have hm : minusL a b c d = addP (addP [] a (bothF a b c d)) (bothT a b c d) b := by simp [minusL, h1, h2]
      rw [hm]; clear hm
      have hb9 := fun w => both9 a b c d w
      rw [h2] at hb9
      generalize bothF a b c d = x at hb9 ⊢
      generalize bothT a b c d = y at hb9 ⊢
      go_enter Try.func30, Try.ntmps30
      go_wp2_with (first | (go_at_call 33; refine (right12 _ _ _).mono ?_; rintro e w' ⟨rfl, rfl⟩; rw [h1]) | (go_at_call 18; refine (hb9 _).mono ?_; rintro e w1 ⟨rfl, hb1⟩; obtain ⟨hc, hf⟩ := bcell hb1; have hz : w.heap.size < w1.heap.size := by (have := hb1.size; simp at this; omega)))
      have hbb : Below w.heap.size w (w1.alloc (.cells #[.int .i64 x, .int .i64 y] 27)) := below_alloc ((below_alloc (below_alloc (below1 _ _) _) _).trans (hb1.mono (by simp; omega))) _
      have ka : w1.cell? ⟨w.heap.size, 0, none⟩ = some (.int .i64 a) := (hc w.heap.size 0 (by simp; omega)).trans (box3 _ _ _ _ _).1
      have kb : w1.cell? ⟨w.heap.size, 1, none⟩ = some (.int .i64 b) := (hc w.heap.size 1 (by simp; omega)).trans (box3 _ _ _ _ _).2
      have ka1 : (w1.alloc (.cells #[.int .i64 x, .int .i64 y] 27)).cell? ⟨w.heap.size, 0, none⟩ = some (.int .i64 a) := ((below1 w1 _).cell (p := ⟨w.heap.size, 0, none⟩) hz).trans ka
      have kb1 : (w1.alloc (.cells #[.int .i64 x, .int .i64 y] 27)).cell? ⟨w.heap.size, 1, none⟩ = some (.int .i64 b) := ((below1 w1 _).cell (p := ⟨w.heap.size, 1, none⟩) hz).trans kb
      have kx1 : (w1.alloc (.cells #[.int .i64 x, .int .i64 y] 27)).cell? ⟨w1.heap.size, 0, none⟩ = some (.int .i64 x) := by simp
      have ky1 : (w1.alloc (.cells #[.int .i64 x, .int .i64 y] 27)).cell? ⟨w1.heap.size, 1, none⟩ = some (.int .i64 y) := by simp
      have hz4 : w.heap.size < (w1.alloc (.cells #[.int .i64 x, .int .i64 y] 27)).heap.size := by simp; omega
      have hz5 : w1.heap.size < (w1.alloc (.cells #[.int .i64 x, .int .i64 y] 27)).heap.size := by simp
      clear hb1 hc hf hb9 ka kb
      obtain ⟨W, hW⟩ : ∃ W, w1.alloc (.cells #[.int .i64 x, .int .i64 y] 27) = W := ⟨_, rfl⟩
      rw [hW] at ka1 kb1 kx1 ky1 hz4 hz5 hbb ⊢
      clear hW hz
      have hA1 := addPiece36 (.slice none 0 0) [] a x W.drew W.heap.size (Own.nil _ _) (Nat.le_refl _) (by simp)
      go_region_held3 (fun w' => w'.cell? ⟨w.heap.size, 0, none⟩ = some (.int .i64 a) ∧ w'.cell? ⟨w.heap.size, 1, none⟩ = some (.int .i64 b) ∧ w'.cell? ⟨w1.heap.size, 0, none⟩ = some (.int .i64 x) ∧ w'.cell? ⟨w1.heap.size, 1, none⟩ = some (.int .i64 y)) (go_keep)
        (first
        | (go_at_call_of 45 (Value.slice none 0 0); refine hA1.mono ?_; rintro e w2 ⟨v2, rfl, ho2, hb2⟩; have ka2 := (hb2.cell (p := ⟨w.heap.size, 0, none⟩) hz4).trans ka1; have kb2 := (hb2.cell (p := ⟨w.heap.size, 1, none⟩) hz4).trans kb1; have kx2 := (hb2.cell (p := ⟨w1.heap.size, 0, none⟩) hz5).trans kx1; have ky2 := (hb2.cell (p := ⟨w1.heap.size, 1, none⟩) hz5).trans ky1)
        | (go_at_call 45; refine (addPiece36 v2 (addP [] a x) y b w2 W.heap.size ho2 hb2.size (by unfold addP; split <;> simp)).mono ?_; rintro e w3 ⟨v3, rfl, ho3, hb3⟩; have ka3 := (hb3.cell (p := ⟨w.heap.size, 0, none⟩) hz4).trans ka2; have kb3 := (hb3.cell (p := ⟨w.heap.size, 1, none⟩) hz4).trans kb2; have kx3 := (hb3.cell (p := ⟨w1.heap.size, 0, none⟩) hz5).trans kx2; have ky3 := (hb3.cell (p := ⟨w1.heap.size, 1, none⟩) hz5).trans ky2))
      go_wp2
      go_ret
      exact ⟨_, rfl, ho3.base hbb.size, hbb.trans ((below_drewN (Below.refl _ _) 1).trans ((hb2.mono hbb.size).trans (hb3.mono hbb.size)))⟩


theorem overlaps43 (a b c d : Int) (w : World) :
    Calls Try.prog 43 #[.agg #[.int .i64 a, .int .i64 b], .agg #[.int .i64 c, .int .i64 d]] w fun e w' => e = .returned (.bool (bothB a b c d)) ∧ Below w.heap.size w w' := by
  go_enter Try.func43, Try.ntmps43
  go_wp2_with (go_at_call 18; refine (both9 _ _ _ _ _).mono ?_; rintro e w1 ⟨rfl, hb1⟩)
  go_ret
  exact ⟨rfl, below_alloc ((below_alloc (below1 _ _) _).trans (hb1.mono (by simp; omega))) _⟩
end Go.Proofs.Ythalgnfffcimhaa.Sp
