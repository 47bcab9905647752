/- Contracts of the small functions of span and of its reference: Right, Has, Both, Overlaps, Meets: each answers what the plain functions on numbers say, and turns no old memory. -/
import Derived.Test.YthalgnfffcimhaaCo
import Derived.WalkKit
import Derived.WalkSpells
import Derived.WalkLawsBesides
import Derived.Deep.QuietTactic
import Derived.BigQuiet
namespace Go.Proofs.Ythalgnfffcimhaa.Sp
open Go.RowKit

/-- is a span right? -/
def rightB (a b : Int) : Bool := decide (-1000 ≤ a) && (decide (a < b) && decide (b ≤ 1000))
theorem rightB_iff (a b : Int) : rightB a b = true ↔ -1000 ≤ a ∧ a < b ∧ b ≤ 1000 := by simp [rightB]
theorem rightB_no (a b : Int) : rightB a b = false ↔ ¬ (-1000 ≤ a ∧ a < b ∧ b ≤ 1000) := by rw [← rightB_iff]; simp

theorem bcell {W w1 : World} (hb : Below W.heap.size W w1) : (∀ b o, b < W.heap.size → w1.cell? ⟨b, o, none⟩ = W.cell? ⟨b, o, none⟩) ∧ (∀ b o, b < W.heap.size → w1.frozen? ⟨b, o, none⟩ = W.frozen? ⟨b, o, none⟩) :=
  ⟨fun b o h => hb.cell (p := ⟨b, o, none⟩) h, fun b o h => hb.frozen (p := ⟨b, o, none⟩) h⟩

set_option maxHeartbeats 400000 in
theorem right12 (a b : Int) (w : World) :
    Calls Try.prog 33 #[.agg #[.int .i64 a, .int .i64 b]] w fun e w' => e = .returned (.bool (rightB a b)) ∧ w' = w.alloc (.cells #[.int .i64 a, .int .i64 b] 27) := by
  cases hr : rightB a b
  · rw [rightB_no] at hr
    by_cases h1 : -1000 ≤ a
    · by_cases h2 : a < b
      · have h3 : ¬ b ≤ 1000 := by omega
        clear hr
        go_enter Try.func33, Try.ntmps33
        go_wp2
        go_ret
        exact ⟨rfl, rfl⟩
      · clear hr
        go_enter Try.func33, Try.ntmps33
        go_wp2
        go_ret
        exact ⟨rfl, rfl⟩
    · clear hr
      go_enter Try.func33, Try.ntmps33
      go_wp2
      go_ret
      exact ⟨rfl, rfl⟩
  · rw [rightB_iff] at hr
    obtain ⟨h1, h2, h3⟩ := hr
    go_enter Try.func33, Try.ntmps33
    go_wp2
    go_ret
    exact ⟨rfl, rfl⟩

/-- what both spans have -/
def bothB (a b c d : Int) : Bool := rightB a b && (rightB c d && decide (max a c < min b d))
def bothF (a b c d : Int) : Int := if bothB a b c d then max a c else 0
def bothT (a b c d : Int) : Int := if bothB a b c d then min b d else 0

theorem both_yes {a b c d x y : Int} (h1 : rightB a b = true) (h2 : rightB c d = true) (hx : x = max a c) (hy : y = min b d) (h3 : rightB x y = true) :
    bothB a b c d = true ∧ bothF a b c d = x ∧ bothT a b c d = y := by
  subst hx hy
  have hb : bothB a b c d = true := by
    rw [rightB_iff] at h3
    simp only [bothB, h1, h2, Bool.true_and, decide_eq_true_eq]; omega
  simp [bothF, bothT, hb]
theorem both_no {a b c d x y : Int} (h1 : rightB a b = true) (h2 : rightB c d = true) (hx : x = max a c) (hy : y = min b d) (h3 : ¬ rightB x y = true) :
    bothB a b c d = false ∧ bothF a b c d = 0 ∧ bothT a b c d = 0 := by
  subst hx hy
  have hb : bothB a b c d = false := by
    rw [rightB_iff] at h1 h2 h3
    have e1 : rightB a b = true := (rightB_iff _ _).2 h1
    have e2 : rightB c d = true := (rightB_iff _ _).2 h2
    simp only [bothB, e1, e2, Bool.true_and, decide_eq_false_iff_not]; omega
  simp [bothF, bothT, hb]

theorem below1 (w : World) (o : Obj) : Below w.heap.size w (w.alloc o) := (Below.refl _ _).alloc (Nat.le_refl _) _
theorem below_alloc {w w1 : World} (h : Below w.heap.size w w1) (o : Obj) : Below w.heap.size w (w1.alloc o) := h.alloc h.size _

/-- has a span a point? -/
def hasB (a b p : Int) : Bool := rightB a b && (decide (a ≤ p) && decide (p < b))
/-- do two meet? -/
def meetB (a b c d : Int) : Bool := rightB a b && (rightB c d && decide (b = c))

end Go.Proofs.Ythalgnfffcimhaa.Sp
