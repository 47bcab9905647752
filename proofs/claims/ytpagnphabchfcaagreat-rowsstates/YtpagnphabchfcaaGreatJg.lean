/- The document's Right, Both, Has; the program's Both. -/
import Derived.Test.YtpagnphabchfcaaGreatGb
namespace Go.Proofs.YtpagnphabchfcaaGreat.Sp
open Go.RowKit Go.Shelf
set_option maxRecDepth 100000
theorem bc {B : Nat} {w w' : World} (h : Below B w w') (g k : Nat) (hg : g < B) : w'.cell? ⟨g, k, none⟩ = w.cell? ⟨g, k, none⟩ := h.cell (p := ⟨g, k, none⟩) hg

set_option maxHeartbeats 400000 in
theorem right13 (a b : Int) (w : World) :
    Calls Tryz.prog 55 #[.agg #[.int .i64 a, .int .i64 b]] w fun e w' => e = .returned (.bool (rightB a b)) ∧ w' = w.alloc (.cells #[.int .i64 a, .int .i64 b] 39) := by
  cases hr : rightB a b
  · rw [rightB_no] at hr
    by_cases h1 : -1000 ≤ a
    · by_cases h2 : a < b
      · have h3 : ¬ b ≤ 1000 := by omega
        clear hr
        go_enter Tryz.func55, Tryz.ntmps55
        go_wp2
        go_ret
        exact ⟨rfl, rfl⟩
      · clear hr
        go_enter Tryz.func55, Tryz.ntmps55
        go_wp2
        go_ret
        exact ⟨rfl, rfl⟩
    · clear hr
      go_enter Tryz.func55, Tryz.ntmps55
      go_wp2
      go_ret
      exact ⟨rfl, rfl⟩
  · rw [rightB_iff] at hr
    obtain ⟨h1, h2, h3⟩ := hr
    go_enter Tryz.func55, Tryz.ntmps55
    go_wp2
    go_ret
    exact ⟨rfl, rfl⟩

set_option maxHeartbeats 400000 in
theorem both9 (a b c d : Int) (w : World) :
    Calls Tryz.prog 65 #[.agg #[.int .i64 a, .int .i64 b], .agg #[.int .i64 c, .int .i64 d]] w fun e w' => e = .returned (.tuple #[.agg #[.int .i64 (bothF a b c d), .int .i64 (bothT a b c d)], .bool (bothB a b c d)]) ∧ Below w.heap.size w w' := by
  cases h1 : rightB a b
  · have hb : bothB a b c d = false := by simp [bothB, h1]
    simp only [bothF, bothT, hb]; clear hb
    go_enter Tryz.func65, Tryz.ntmps65
    go_wp2_with (go_at_call 52; refine (right12 _ _ _).mono ?_; rintro e w' ⟨rfl, rfl⟩; rw [h1])
    exact bodyPost_ret (v := .tuple #[.agg #[.int .i64 0, .int .i64 0], .bool false]) (by simp [results, Tryz.results65, go_sem]) rfl ⟨rfl, by repeat (first | exact below1 _ _ | refine below_alloc ?_ _)⟩
  · cases h2 : rightB c d
    · have hb : bothB a b c d = false := by simp [bothB, h2]
      simp only [bothF, bothT, hb]; clear hb
      go_enter Tryz.func65, Tryz.ntmps65
      go_wp2_with (go_at_call 52; refine (right12 _ _ _).mono ?_; rintro e w' ⟨rfl, rfl⟩; first | rw [h1] | rw [h2])
      exact bodyPost_ret (v := .tuple #[.agg #[.int .i64 0, .int .i64 0], .bool false]) (by simp [results, Tryz.results65, go_sem]) rfl ⟨rfl, by repeat (first | exact below1 _ _ | refine below_alloc ?_ _)⟩
    · obtain ⟨x, hx⟩ : ∃ x, max a c = x := ⟨_, rfl⟩
      obtain ⟨y, hy⟩ : ∃ y, min b d = y := ⟨_, rfl⟩
      have ex : x = max a c := by omega
      have ey : y = min b d := by omega
      cases h3 : rightB x y
      · obtain ⟨e1, e2, e3⟩ := both_no h1 h2 ex ey (by simp [h3])
        rw [e1, e2, e3]; clear e1 e2 e3 ex ey
        go_enter Tryz.func65, Tryz.ntmps65
        go_wp2_with (go_at_call 52; refine (right12 _ _ _).mono ?_; rintro e w' ⟨rfl, rfl⟩; first | rw [h1] | rw [h2] | rw [h3])
        exact bodyPost_ret (v := .tuple #[.agg #[.int .i64 0, .int .i64 0], .bool false]) (by simp [results, Tryz.results65, go_sem]) rfl ⟨rfl, by repeat (first | exact below1 _ _ | refine below_alloc ?_ _)⟩
      · obtain ⟨e1, e2, e3⟩ := both_yes h1 h2 ex ey h3
        rw [e1, e2, e3]; clear e1 e2 e3 ex ey
        go_enter Tryz.func65, Tryz.ntmps65
        go_wp2_with (go_at_call 52; refine (right12 _ _ _).mono ?_; rintro e w' ⟨rfl, rfl⟩; first | rw [h1] | rw [h2] | rw [h3])
        exact bodyPost_ret (v := .tuple #[.agg #[.int .i64 x, .int .i64 y], .bool true]) (by simp [results, Tryz.results65, go_sem]) rfl ⟨rfl, by repeat (first | exact below1 _ _ | refine below_alloc ?_ _)⟩

set_option maxHeartbeats 400000 in
theorem both10 (a b c d : Int) (w : World) :
    Calls Tryz.prog 66 #[.agg #[.int .i64 a, .int .i64 b], .agg #[.int .i64 c, .int .i64 d]] w fun e w' => e = .returned (.tuple #[.agg #[.int .i64 (bothF a b c d), .int .i64 (bothT a b c d)], .bool (bothB a b c d)]) ∧ Below w.heap.size w w' := by
  cases h1 : rightB a b
  · have hb : bothB a b c d = false := by simp [bothB, h1]
    simp only [bothF, bothT, hb]; clear hb
    go_enter Tryz.func66, Tryz.ntmps66
    go_wp2_with (go_at_call 55; refine (right13 _ _ _).mono ?_; rintro e w' ⟨rfl, rfl⟩; rw [h1])
    exact bodyPost_ret (v := .tuple #[.agg #[.int .i64 0, .int .i64 0], .bool false]) (by simp [results, Tryz.results66, go_sem]) rfl ⟨rfl, by repeat (first | exact below1 _ _ | refine below_alloc ?_ _)⟩
  · cases h2 : rightB c d
    · have hb : bothB a b c d = false := by simp [bothB, h2]
      simp only [bothF, bothT, hb]; clear hb
      go_enter Tryz.func66, Tryz.ntmps66
      go_wp2_with (go_at_call 55; refine (right13 _ _ _).mono ?_; rintro e w' ⟨rfl, rfl⟩; first | rw [h1] | rw [h2])
      exact bodyPost_ret (v := .tuple #[.agg #[.int .i64 0, .int .i64 0], .bool false]) (by simp [results, Tryz.results66, go_sem]) rfl ⟨rfl, by repeat (first | exact below1 _ _ | refine below_alloc ?_ _)⟩
    · obtain ⟨x, hx⟩ : ∃ x, max a c = x := ⟨_, rfl⟩
      obtain ⟨y, hy⟩ : ∃ y, min b d = y := ⟨_, rfl⟩
      have ex : x = max a c := by omega
      have ey : y = min b d := by omega
      by_cases h3 : y ≤ x
      · obtain ⟨e1, e2, e3⟩ := both_no h1 h2 ex ey (by rw [rightB_iff]; omega)
        rw [e1, e2, e3]; clear e1 e2 e3 ex ey
        go_enter Tryz.func66, Tryz.ntmps66
        go_wp2_with (go_at_call 55; refine (right13 _ _ _).mono ?_; rintro e w' ⟨rfl, rfl⟩; first | rw [h1] | rw [h2])
        exact bodyPost_ret (v := .tuple #[.agg #[.int .i64 0, .int .i64 0], .bool false]) (by simp [results, Tryz.results66, go_sem]) rfl ⟨rfl, by repeat (first | exact below1 _ _ | refine below_alloc ?_ _)⟩
      · obtain ⟨e1, e2, e3⟩ := both_yes h1 h2 ex ey (by rw [rightB_iff] at *; omega)
        rw [e1, e2, e3]; clear e1 e2 e3 ex ey
        go_enter Tryz.func66, Tryz.ntmps66
        go_wp2_with (go_at_call 55; refine (right13 _ _ _).mono ?_; rintro e w' ⟨rfl, rfl⟩; first | rw [h1] | rw [h2])
        exact bodyPost_ret (v := .tuple #[.agg #[.int .i64 x, .int .i64 y], .bool true]) (by simp [results, Tryz.results66, go_sem]) rfl ⟨rfl, by repeat (first | exact below1 _ _ | refine below_alloc ?_ _)⟩

set_option maxHeartbeats 400000 in
theorem has15 (a b p : Int) (w : World) :
    Calls Tryz.prog 68 #[.agg #[.int .i64 a, .int .i64 b], .int .i64 p] w fun e w' => e = .returned (.bool (hasB a b p)) ∧ Below w.heap.size w w' := by
  cases h1 : rightB a b
  · have hb : hasB a b p = false := by simp [hasB, h1]
    rw [hb]; clear hb
    go_enter Tryz.func68, Tryz.ntmps68
    go_wp2_with (go_at_call 55; refine (right13 _ _ _).mono ?_; rintro e w' ⟨rfl, rfl⟩; first | rw [h1])
    go_ret
    exact ⟨rfl, by repeat (first | exact below1 _ _ | refine below_alloc ?_ _)⟩
  · by_cases h2 : a ≤ p
    · by_cases h3 : p < b
      · have hb : hasB a b p = true := by simp [hasB, h1, h2, h3]
        rw [hb]; clear hb
        go_enter Tryz.func68, Tryz.ntmps68
        go_wp2_with (go_at_call 55; refine (right13 _ _ _).mono ?_; rintro e w' ⟨rfl, rfl⟩; first | rw [h1])
        go_ret
        exact ⟨rfl, by repeat (first | exact below1 _ _ | refine below_alloc ?_ _)⟩
      · have hb : hasB a b p = false := by simp [hasB, h3]
        replace h3 : decide (p < b) = false := by simpa using h3
        rw [hb]; clear hb
        go_enter Tryz.func68, Tryz.ntmps68
        go_wp2_with (go_at_call 55; refine (right13 _ _ _).mono ?_; rintro e w' ⟨rfl, rfl⟩; first | rw [h1])
        go_ret
        exact ⟨rfl, by repeat (first | exact below1 _ _ | refine below_alloc ?_ _)⟩
    · have hb : hasB a b p = false := by simp [hasB, h2]
      rw [hb]; clear hb
      go_enter Tryz.func68, Tryz.ntmps68
      go_wp2_with (go_at_call 55; refine (right13 _ _ _).mono ?_; rintro e w' ⟨rfl, rfl⟩; first | rw [h1])
      go_ret
      exact ⟨rfl, by repeat (first | exact below1 _ _ | refine below_alloc ?_ _)⟩

end Go.Proofs.YtpagnphabchfcaaGreat.Sp
