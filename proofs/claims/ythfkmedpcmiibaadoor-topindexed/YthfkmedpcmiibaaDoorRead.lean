/- value.Read of any bytes, and the reference's. -/
import Derived.Test.YthfkmedpcmiibaaDoorRd
namespace Go.Proofs.YthfkmedpcmiibaaDoor
open Go.RowKit Go.Lib

/-- What Read answers: kind, number, text, count, error. -/
def rdV (l : Bs) : Int × Int × Bs × Nat × Nat := if rightV (begunV l).1 (begunV l).2.1 (begunV l).2.2.1 then ((begunV l).1, (begunV l).2.1, (begunV l).2.2.1, (begunV l).2.2.2, 0) else (0, 0, [], 0, 3)

theorem begunV_len (l : Bs) : (begunV l).2.2.1.length ≤ l.length := by
  unfold begunV
  split
  · simp
  · split
    · split <;> simp
    · split
      · split
        · simp
        · rename_i h
          have := (cutZ_take h).1
          simp only [List.length_cons]; omega
      · simp

/-- The result's block as it was laid, and what becomes of it. -/
theorem res_cells {w w1 w2 : World} {o o' : Obj} (h1 : Below (w.alloc o).heap.size (w.alloc o) w1) (h2 : Below (w1.alloc o').heap.size (w1.alloc o') w2) (i : Nat) :
    w2.cell? ⟨w.heap.size, i, none⟩ = (w.alloc o).cell? ⟨w.heap.size, i, none⟩ ∧ w2.frozen? ⟨w.heap.size, i, none⟩ = (w.alloc o).frozen? ⟨w.heap.size, i, none⟩ := by
  have hz := h1.size
  simp at hz
  have b1 : Below (w.alloc o).heap.size (w.alloc o) (w1.alloc o') := h1.alloc (by simp; omega) o'
  have b2 := bmore b1 h2
  exact ⟨b2.cell (p := ⟨w.heap.size, i, none⟩) (by simp), b2.frozen (p := ⟨w.heap.size, i, none⟩) (by simp)⟩
theorem two_below {w w1 w2 : World} {o o' : Obj} (h1 : Below (w.alloc o).heap.size (w.alloc o) w1) (h2 : Below (w1.alloc o').heap.size (w1.alloc o') w2) : Below w.heap.size w w2 :=
  bmore (bmore (bmore (al w o) h1) (al w1 o')) h2
/-- What was laid last, behind a call. -/
theorem new_cells {w1 w2 : World} {o' : Obj} (h2 : Below (w1.alloc o').heap.size (w1.alloc o') w2) (i : Nat) :
    w2.cell? ⟨w1.heap.size, i, none⟩ = (w1.alloc o').cell? ⟨w1.heap.size, i, none⟩ ∧ w2.frozen? ⟨w1.heap.size, i, none⟩ = (w1.alloc o').frozen? ⟨w1.heap.size, i, none⟩ :=
  ⟨h2.cell (p := ⟨w1.heap.size, i, none⟩) (by simp), h2.frozen (p := ⟨w1.heap.size, i, none⟩) (by simp)⟩
theorem set3 {w W : World} (h : Below w.heap.size w W) (x0 x1 x2 : Value) : Below w.heap.size w (((W.setCell ⟨w.heap.size, 0, none⟩ x0).setCell ⟨w.heap.size, 1, none⟩ x1).setCell ⟨w.heap.size, 2, none⟩ x2) :=
  ((h.setCell (Nat.le_refl _) x0).setCell (Nat.le_refl _) x1).setCell (Nat.le_refl _) x2

set_option maxRecDepth 100000 in
set_option maxHeartbeats 4000000 in
theorem read23 (v : Value) (l : Bs) (w : World) (hm : l.length ≤ 140737488355328) (hsb : SB w v l) (hg : Good w) :
    Calls Tryd.prog 71 #[v] w fun e w' => e = .returned (.tuple #[V (rdV l).1 (rdV l).2.1 (str (rdV l).2.2.1), .int .i64 ((rdV l).2.2.2.1 : Nat), .int .i64 ((rdV l).2.2.2.2 : Nat)]) ∧ Below w.heap.size w w' := by
  have c38 : ∀ o, Calls Tryd.prog 72 #[v] (w.alloc o) fun e w' => e = .returned (.tuple #[V (begunV l).1 (begunV l).2.1 (str (begunV l).2.2.1), .int .i64 ((begunV l).2.2.2 : Nat)]) ∧ Below (w.alloc o).heap.size (w.alloc o) w' := fun o =>
    begun38 v l _ (by unfold maxLen; omega) (hsb.below (al _ _))
  have hz : (str (begunV l).2.2.1).size < 4611686018427387904 := by rw [str_size]; have := begunV_len l; omega
  have c12 : ∀ w1, Good w1 → Calls Tryd.prog 27 #[V (begunV l).1 (begunV l).2.1 (str (begunV l).2.2.1)] w1 fun e w' => e = .returned (.bool (rightV (begunV l).1 (begunV l).2.1 (begunV l).2.2.1)) ∧ Below w1.heap.size w1 w' := fun w1 h => by
    have := rightv12 (begunV l).1 (begunV l).2.1 (str (begunV l).2.2.1) w1 hz h
    rw [bs_str] at this
    exact this
  unfold rdV
  clear hsb hz
  generalize (begunV l).1 = k at *
  generalize (begunV l).2.1 = n at *
  generalize (begunV l).2.2.1 = x at *
  generalize (begunV l).2.2.2 = cnt at *
  have hgo : ∀ o, Good (w.alloc o) := fun o => hg.below (al _ _)
  cases hR : rightV k n x
  · rw [hR] at c12
    simp only [Bool.false_eq_true, if_false]
    go_enter Tryd.func71, Tryd.ntmps71
    go_wp2_with (first
      | (go_at_call 72; refine (c38 _).mono ?_; rintro e w1 ⟨rfl, hb⟩)
      | (go_at_call 27; refine (c12 _ (((hgo _).below hb).below (al _ _))).mono ?_; rintro e w2 ⟨rfl, hb2⟩; have e0 := res_cells hb hb2 0; have e1 := res_cells hb hb2 1; have e2 := res_cells hb hb2 2; simp at e0 e1 e2; obtain ⟨e0, f0⟩ := e0; obtain ⟨e1, f1⟩ := e1; obtain ⟨e2, f2⟩ := e2))
    exact bodyPost_ret (v := .tuple #[V 0 0 ⟨#[]⟩, .int .i64 0, .int .i64 3]) (by simp [results, Tryd.results71, go_sem, e0, e1, e2]) rfl ⟨rfl, set3 (two_below hb hb2) _ _ _⟩
  · rw [hR] at c12
    simp only [if_true]
    go_enter Tryd.func71, Tryd.ntmps71
    go_wp2_with (first
      | (go_at_call 72; refine (c38 _).mono ?_; rintro e w1 ⟨rfl, hb⟩)
      | (go_at_call 27; refine (c12 _ (((hgo _).below hb).below (al _ _))).mono ?_; rintro e w2 ⟨rfl, hb2⟩; have e0 := res_cells hb hb2 0; have e1 := res_cells hb hb2 1; have e2 := res_cells hb hb2 2; simp at e0 e1 e2; obtain ⟨e0, f0⟩ := e0; obtain ⟨e1, f1⟩ := e1; obtain ⟨e2, f2⟩ := e2; have g0 := (new_cells hb2 0).1; have g1 := (new_cells hb2 1).1; have g2 := (new_cells hb2 2).1; simp at g0 g1 g2))
    exact bodyPost_ret (v := .tuple #[V k n (str x), .int .i64 (cnt : Int), .int .i64 0]) (by simp [results, Tryd.results71, go_sem, e0, e1, e2]) rfl ⟨rfl, set3 (two_below hb hb2) _ _ _⟩

end Go.Proofs.YthfkmedpcmiibaaDoor
