/- The reference's Print; the law ValueTells: in every good world it answers true. -/
import Derived.Test.YtolggmmlaohpdaaDoorDig3
import Derived.Test.YtolggmmlaohpdaaDoorOrder
import Derived.Deep.RegionHeld3
namespace Go.Proofs.YtolggmmlaohpdaaDoor
open Go.RowKit Go.Lib Go.Joins

set_option maxRecDepth 100000 in
set_option maxHeartbeats 4000000 in
theorem print10 (k n : Int) (s : ByteArray) (w : World) (hs : s.size < 4611686018427387904) (hn : inI64 n) (hg : Good w) :
    Calls Tryd.prog 10 #[V k n s] w fun e w' => e = .returned (.tuple #[.string (str (prV k n (bs s)).1), .int .i64 ((prV k n (bs s)).2 : Nat)]) ∧ Below w.heap.size w w' := by
  have hgo : ∀ o, Good (w.alloc o) := fun o => hg.below (al _ _)
  have c13 := fun w1 h => rightv13 k n s w1 hs h
  cases hR : rightV k n (bs s)
  · rw [hR] at c13
    rw [prV_no hR]
    go_enter Tryd.func10, Tryd.ntmps10
    go_wp2_with (go_at_call 13; refine (c13 _ (hgo _)).mono ?_; rintro e w1 ⟨rfl, hb⟩)
    go_ret2
    exact ⟨rfl, bmore (al _ _) hb⟩
  · rw [hR] at c13
    rw [prV_yes hR]
    rcases rightV_cases hR with ⟨rfl, he⟩ | ⟨rfl, rfl, hr⟩
    · rw [printV_int]
      have c17 := digits17 _ n (Nat.le_refl _) hn
      clear hR
      go_enter Tryd.func10, Tryd.ntmps10
      go_wp2_with (first
        | (go_at_call 13; refine (c13 _ (hgo _)).mono ?_; rintro e w1 ⟨rfl, hb⟩; have g0 := (new_cells hb 0).1; have g1 := (new_cells hb 1).1; simp at g0 g1)
        | (go_at_call 17; refine (c17 _).mono ?_; rintro e w2 ⟨rfl, rfl⟩))
      go_ret2
      exact ⟨rfl, bmore (al _ _) hb⟩
    · rw [printV_text]
      have hsz : s.size ≤ 32 := right_len hr
      have c26 : ∀ w1, Good w1 → Calls Tryd.prog 26 #[.string s] w1 fun e w' => e = .returned (.tuple #[.string (str (39 :: dbl (bs s) ++ [39])), .int .i64 0]) ∧ Below w1.heap.size w1 w' := fun w1 h => by
        have := quote26 s w1 (by omega) h
        rw [quoteR_yes hr] at this
        exact this
      clear hR
      go_enter Tryd.func10, Tryd.ntmps10
      go_wp2_with (first
        | (go_at_call 13; refine (c13 _ (hgo _)).mono ?_; rintro e w1 ⟨rfl, hb⟩; have g0 := (new_cells hb 0).1; have g1 := (new_cells hb 2).1; simp at g0 g1)
        | (go_at_call 26; refine (c26 _ ((hgo _).below hb)).mono ?_; rintro e w2 ⟨rfl, hb2⟩))
      go_ret2
      exact ⟨rfl, bmore (bmore (al _ _) hb) hb2⟩

set_option maxRecDepth 100000 in
set_option maxHeartbeats 4000000 in
theorem tells3 (k n : Int) (s : ByteArray) (k' n' : Int) (s' : ByteArray) (w : World) (hn : inI64 n) (hz : s.size ≤ 140737488355328) (hg : Good w) :
    Calls Tryd.prog 3 #[V k n s, V k' n' s'] w fun e w' => e = .returned (.bool true) ∧ Below w.heap.size w w' := by
  have hk := Two.start hg k n s k' n' s'
  have tb : ∀ {f args W v}, Two w w.heap.size k n s k' n' s' W → Calls Tryd.prog f args W (fun e w' => e = .returned v ∧ Below W.heap.size W w') → Calls Tryd.prog f args W fun e w' => e = .returned v ∧ Two w w.heap.size k n s k' n' s' w' := fun h c =>
    c.mono (by rintro e w' ⟨h1, h2⟩; exact ⟨h1, h.below h2⟩)
  have kL : ∀ W, Two w w.heap.size k n s k' n' s' W → Calls Tryd.prog 11 #[] W fun e w' => e = .returned (.bool true) ∧ Two w w.heap.size k n s k' n' s' w' := fun W h =>
    (live11 (St.start h.2.2.1)).mono (by rintro e w' ⟨h1, h2⟩; exact ⟨h1, h.below h2.2⟩)
  obtain ⟨R, hR⟩ : ∃ R, rightV k n (bs s) = R := ⟨_, rfl⟩
  obtain ⟨C, hC⟩ : ∃ C, cmpV k n (bs s) k' n' (bs s') = C := ⟨_, rfl⟩
  obtain ⟨D, hD⟩ : ∃ D, str (itoa n) = D := ⟨_, rfl⟩
  obtain ⟨P, hP⟩ : ∃ P, str (prV k n (bs s)).1 = P := ⟨_, rfl⟩
  obtain ⟨E, hE⟩ : ∃ E, (prV k n (bs s)).2 = E := ⟨_, rfl⟩
  have k9 : ∀ W, Two w w.heap.size k n s k' n' s' W → Calls Tryd.prog 9 #[V k n s] W fun e w' => e = .returned (.tuple #[.string P, .int .i64 (E : Int)]) ∧ Two w w.heap.size k n s k' n' s' w' := fun W h => tb h (by rw [← hP, ← hE]; exact print9 k n s W (by omega) hn h.2.2.1)
  have k10 : ∀ W, Two w w.heap.size k n s k' n' s' W → Calls Tryd.prog 10 #[V k n s] W fun e w' => e = .returned (.tuple #[.string P, .int .i64 (E : Int)]) ∧ Two w w.heap.size k n s k' n' s' w' := fun W h => tb h (by rw [← hP, ← hE]; exact print10 k n s W (by omega) hn h.2.2.1)
  have k12 : ∀ W, Two w w.heap.size k n s k' n' s' W → Calls Tryd.prog 12 #[V k n s] W fun e w' => e = .returned (.bool R) ∧ Two w w.heap.size k n s k' n' s' w' := fun W h => tb h (by rw [← hR]; exact rightv12 k n s W (by omega) h.2.2.1)
  have k13 : ∀ W, Two w w.heap.size k n s k' n' s' W → Calls Tryd.prog 13 #[V k n s] W fun e w' => e = .returned (.bool R) ∧ Two w w.heap.size k n s k' n' s' w' := fun W h => tb h (by rw [← hR]; exact rightv13 k n s W (by omega) h.2.2.1)
  have k14 : ∀ W, Two w w.heap.size k n s k' n' s' W → Calls Tryd.prog 14 #[V k n s, V k' n' s'] W fun e w' => e = .returned (.int .i64 C) ∧ Two w w.heap.size k n s k' n' s' w' := fun W h => tb h (by rw [← hC]; exact compare14 k n s k' n' s' W)
  have k15 : ∀ W, Two w w.heap.size k n s k' n' s' W → Calls Tryd.prog 15 #[V k n s, V k' n' s'] W fun e w' => e = .returned (.int .i64 C) ∧ Two w w.heap.size k n s k' n' s' w' := fun W h => tb h (by rw [← hC]; exact compare15 k n s k' n' s' W)
  have k16 : ∀ W, Two w w.heap.size k n s k' n' s' W → Calls Tryd.prog 16 #[.int .i64 n] W fun e w' => e = .returned (.string D) ∧ Two w w.heap.size k n s k' n' s' w' := fun W h => tb h (by rw [← hD]; exact digits16 n hn W)
  have k17 : ∀ W, Two w w.heap.size k n s k' n' s' W → Calls Tryd.prog 17 #[.int .i64 n] W fun e w' => e = .returned (.string D) ∧ Two w w.heap.size k n s k' n' s' w' := fun W h => (digits17 _ n (Nat.le_refl _) hn W).mono (by rintro e w' ⟨h1, rfl⟩; exact ⟨by rw [h1, hD], h⟩)
  clear tb hR hC hD hP hE hn hz hg
  generalize hB : w.heap.size = B at *
  obtain ⟨c0, c1, c2, c3, c4, c5⟩ := hk.1
  go_enter Tryd.func3, Tryd.ntmps3
  go_wp2_with (first
    | (go_at_call 9; refine (k9 _ hk).mono ?_; rintro e w1 ⟨rfl, hk1⟩; clear hk k9 c0 c1 c2 c3 c4 c5; obtain ⟨d0, d1, d2, d3, d4, d5⟩ := hk1.1)
    | (go_at_call 10; refine (k10 _ hk1).mono ?_; rintro e w2 ⟨rfl, hk2⟩; clear hk1 k10 d0 d1 d2 d3 d4 d5))
  replace hk2 : Two w B k n s k' n' s' w2.drew := hk2.below (Below.refl _ _).drew
  go_region_held3 (fun W => W.cell? ⟨B, 0, none⟩ = some (.int .u8 k) ∧ W.cell? ⟨B, 1, none⟩ = some (.int .i64 n) ∧ W.cell? ⟨B, 2, none⟩ = some (.string s) ∧
   W.cell? ⟨B + 1, 0, none⟩ = some (.int .u8 k') ∧ W.cell? ⟨B + 1, 1, none⟩ = some (.int .i64 n') ∧ W.cell? ⟨B + 1, 2, none⟩ = some (.string s')) (exact hk2.1)
    (first
    | (go_at_call 11; refine (kL _ hk2).mono ?_; rintro e wk ⟨rfl, hk2⟩)
    | (go_at_call 12; refine (k12 _ hk2).mono ?_; rintro e wk ⟨rfl, hk2⟩)
    | (go_at_call 13; refine (k13 _ hk2).mono ?_; rintro e wk ⟨rfl, hk2⟩)
    | (go_at_call 14; refine (k14 _ hk2).mono ?_; rintro e wk ⟨rfl, hk2⟩)
    | (go_at_call 15; refine (k15 _ hk2).mono ?_; rintro e wk ⟨rfl, hk2⟩)
    | (go_at_call 16; refine (k16 _ hk2).mono ?_; rintro e wk ⟨rfl, hk2⟩)
    | (go_at_call 17; refine (k17 _ hk2).mono ?_; rintro e wk ⟨rfl, hk2⟩))
  go_wp2
  go_ret
  exact ⟨rfl, hB ▸ hk2.2.2.2⟩

end Go.Proofs.YtolggmmlaohpdaaDoor
