/- The reference's Key: the walk. -/
import Derived.Test.YtipnaphikbjhbaaDoorKey2
namespace Go.Proofs.YtipnaphikbjhbaaDoor
open Go.RowKit Go.Lib

set_option maxRecDepth 100000 in
set_option maxHeartbeats 4000000 in
theorem key16 (s : ByteArray) (w : World) (hg : Good w) :
    Calls Tryd.prog 67 #[.string s] w fun e w' => e = .returned (.bool (keyR (bs s))) ∧ Below w.heap.size w w' := by
  have c33 := split33 w hg
  have hB : Below w.heap.size w (w.alloc (.cells kwCells 9)) := (Below.refl _ _).alloc (Nat.le_refl _) _
  have hcell : ∀ k, k < 29 → (w.alloc (.cells kwCells 9)).cell? ⟨w.heap.size, k, none⟩ = some (.string (str (words.getD k []))) := fun k hk => by
    rw [World.cell?_alloc_at _ _ _ _ rfl]; exact kwCells_get k hk
  generalize hw1 : w.alloc (.cells kwCells 9) = w1 at c33 hB hcell
  go_enter Tryd.func67, Tryd.ntmps67
  go_wp2_with (go_at_call 73; refine c33.mono ?_; rintro e w2 ⟨rfl, rfl⟩)
  go_loopw [4] (fun i wr => ∃ k : Nat, wr = w2 ∧ k ≤ 29 ∧ i = .int .i64 (k : Int) ∧ ∀ j, j < k → words.getD j [] ≠ bs s) (fun i _ => 29 - (Lib.intOf i).toNat)
  case atStart => exact ⟨0, rfl, Nat.zero_le _, rfl, fun j hj => absurd hj (Nat.not_lt_zero _)⟩
  case round =>
    obtain ⟨k, rfl, hk, rfl, hno⟩ := hrel
    by_cases hlt : k < 29
    · have hlz : (k : Int) < 29 := by omega
      have hc := hcell k hlt
      obtain ⟨x, hx⟩ : ∃ x, words.getD k [] = x := ⟨_, rfl⟩
      rw [hx] at hc
      have hadd : wrap64 ((k : Int) + 1) = (k : Int) + 1 := by rw [IntWalk.wrap64_in _ ⟨by omega, by omega⟩]
      have HX : Hid (words.getD k [] = x) := hx
      clear hx
      by_cases he : x = bs s
      · have hr := key_at (bs s) k hlt (HX.out.trans he)
        obtain rfl : str x = s := by rw [he, str_bs]
        have HR : Hid (keyR (bs (str x)) = true) := hr
        clear hr hcell hno he
        go_wp2
        go_ret
        exact ⟨by rw [show keyR (bs (str x)) = true from HR]; rfl, hB⟩
      · have hd : ((str x).data == s.data) = false := by
          rw [beq_eq_false_iff_ne]
          intro e
          exact he (by rw [← bs_str x]; unfold bs; rw [e])
        have hd2 : ((str x).toList == s.toList) = false := by
          rw [toList_data, toList_data, beq_eq_false_iff_ne]
          intro e
          exact he (by rw [← bs_str x]; exact e)
        obtain ⟨X, hX⟩ : ∃ X, str x = X := ⟨_, rfl⟩
        rw [hX] at hc hd hd2
        have HN : Hid (∀ j, j < k + 1 → words.getD j [] ≠ bs s) := fun j hj => by
          rcases Nat.lt_or_eq_of_le (Nat.le_of_lt_succ hj) with h | h
          · exact hno j h
          · rw [h, show words.getD k [] = x from HX]; exact he
        clear hX hno hcell
        go_wp2
        go_roundw
        case rel => exact ⟨k + 1, by trivial, by omega, by simp, HN⟩
        case measure =>
          simp [Lib.intOf]
          omega
    · have hlz : ¬ ((k : Int) < 29) := by omega
      have hr := key_upto (bs s) (fun j hj => hno j (by omega))
      have HR : Hid (keyR (bs s) = false) := hr
      clear hr hno hcell
      go_wp2
      go_ret
      exact ⟨by rw [show keyR (bs s) = false from HR]; rfl, hB⟩

end Go.Proofs.YtipnaphikbjhbaaDoor
