/- The reference's Print. -/
import Derived.Test.YtipnaphikbjhbaaDoorDig3
import Derived.Deep.RegionHeld3
namespace Go.Proofs.YtipnaphikbjhbaaDoor
open Go.RowKit Go.Lib Go.Joins

theorem below_drewN {B : Nat} {a w : World} (h : Below B a w) (n : Nat) : Below B a (w.drewN n) := h.trans ⟨rfl, rfl, rfl, Nat.le_refl _, fun _ _ => rfl⟩
set_option maxRecDepth 100000 in
set_option maxHeartbeats 4000000 in
theorem print10 (k n : Int) (s : ByteArray) (w : World) (hs : s.size < 4611686018427387904) (hn : inI64 n) (hg : Good w) :
    Calls Tryd.prog 70 #[V k n s] w fun e w' => e = .returned (.tuple #[.string (str (prV k n (bs s)).1), .int .i64 ((prV k n (bs s)).2 : Nat)]) ∧ Below w.heap.size w w' := by
  have hgo : ∀ o, Good (w.alloc o) := fun o => hg.below (al _ _)
  have c13 := fun w1 h => rightv13 k n s w1 hs h
  cases hR : rightV k n (bs s)
  · rw [hR] at c13
    rw [prV_no hR]
    go_enter Tryd.func70, Tryd.ntmps70
    go_wp2_with (go_at_call 74; refine (c13 _ (hgo _)).mono ?_; rintro e w1 ⟨rfl, hb⟩)
    go_ret2
    exact ⟨rfl, bmore (al _ _) hb⟩
  · rw [hR] at c13
    rw [prV_yes hR]
    rcases rightV_cases hR with ⟨rfl, he⟩ | ⟨rfl, rfl, hr⟩
    · rw [printV_int]
      have c17 := digits17 _ n (Nat.le_refl _) hn
      clear hR
      go_enter Tryd.func70, Tryd.ntmps70
      go_wp2_with (first
        | (go_at_call 74; refine (c13 _ (hgo _)).mono ?_; rintro e w1 ⟨rfl, hb⟩; have g0 := (new_cells hb 0).1; have g1 := (new_cells hb 1).1; simp at g0 g1)
        | (go_at_call 76; refine (c17 _).mono ?_; rintro e w2 ⟨rfl, rfl⟩))
      go_ret2
      exact ⟨rfl, bmore (al _ _) hb⟩
    · rw [printV_text]
      have hsz : s.size ≤ 32 := right_len hr
      have c26 : ∀ w1, Good w1 → Calls Tryd.prog 75 #[.string s] w1 fun e w' => e = .returned (.tuple #[.string (str (39 :: dbl (bs s) ++ [39])), .int .i64 0]) ∧ Below w1.heap.size w1 w' := fun w1 h => by
        have := quote26 s w1 (by omega) h
        rw [quoteR_yes hr] at this
        exact this
      clear hR
      go_enter Tryd.func70, Tryd.ntmps70
      go_wp2_with (first
        | (go_at_call 74; refine (c13 _ (hgo _)).mono ?_; rintro e w1 ⟨rfl, hb⟩; have g0 := (new_cells hb 0).1; have g1 := (new_cells hb 2).1; simp at g0 g1)
        | (go_at_call 75; refine (c26 _ ((hgo _).below hb)).mono ?_; rintro e w2 ⟨rfl, hb2⟩))
      go_ret2
      exact ⟨rfl, bmore (bmore (al _ _) hb) hb2⟩
end Go.Proofs.YtipnaphikbjhbaaDoor
