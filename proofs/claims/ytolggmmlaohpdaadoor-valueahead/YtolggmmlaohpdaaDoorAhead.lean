/- The law ValueAhead: in every good world it answers true. -/
import Derived.Test.YtolggmmlaohpdaaDoorLive
import Derived.Deep.RegionHeld3
namespace Go.Proofs.YtolggmmlaohpdaaDoor
open Go.RowKit Go.Lib Go.Joins

/-- Nine cells of three values, and what the calls keep. -/
def Nine (w0 : World) (B : Nat) (k n : Int) (s : ByteArray) (k' n' : Int) (s' : ByteArray) (k'' n'' : Int) (s'' : ByteArray) (W : World) : Prop :=
  (W.cell? ⟨B, 0, none⟩ = some (.int .u8 k) ∧ W.cell? ⟨B, 1, none⟩ = some (.int .i64 n) ∧ W.cell? ⟨B, 2, none⟩ = some (.string s) ∧
   W.cell? ⟨B, 3, none⟩ = some (.int .u8 k') ∧ W.cell? ⟨B, 4, none⟩ = some (.int .i64 n') ∧ W.cell? ⟨B, 5, none⟩ = some (.string s') ∧
   W.cell? ⟨B, 6, none⟩ = some (.int .u8 k'') ∧ W.cell? ⟨B, 7, none⟩ = some (.int .i64 n'') ∧ W.cell? ⟨B, 8, none⟩ = some (.string s'')) ∧ B < W.heap.size ∧ St w0 W
theorem Nine.below {w0 : World} {B : Nat} {k n : Int} {s : ByteArray} {k' n' : Int} {s' : ByteArray} {k'' n'' : Int} {s'' : ByteArray} {W W' : World} (h : Nine w0 B k n s k' n' s' k'' n'' s'' W) (b : Below W.heap.size W W') : Nine w0 B k n s k' n' s' k'' n'' s'' W' := by
  obtain ⟨⟨h0, h1, h2, h3, h4, h5, h6, h7, h8⟩, hB, hst⟩ := h
  have c := fun i => b.cell (p := ⟨B, i, none⟩) hB
  exact ⟨⟨(c 0).trans h0, (c 1).trans h1, (c 2).trans h2, (c 3).trans h3, (c 4).trans h4, (c 5).trans h5, (c 6).trans h6, (c 7).trans h7, (c 8).trans h8⟩, Nat.lt_of_lt_of_le hB b.size, hst.more b⟩

set_option maxRecDepth 100000 in
set_option maxHeartbeats 4000000 in
theorem ahead8 (k n : Int) (s : ByteArray) (k' n' : Int) (s' : ByteArray) (k'' n'' : Int) (s'' : ByteArray) (w : World) (hg : Good w) :
    Calls Tryd.prog 8 #[.agg #[.int .u8 k, .int .i64 n, .string s, .int .u8 k', .int .i64 n', .string s', .int .u8 k'', .int .i64 n'', .string s'']] w fun e w' => e = .returned (.bool true) ∧ Below w.heap.size w w' := by
  have hst := St.start hg
  have t1 := cmpV_turn k n (bs s) k' n' (bs s')
  have t2 := cmpV_three k n (bs s) k' n' (bs s')
  have t3 := cmpV_three k' n' (bs s') k'' n'' (bs s'')
  have t4 := cmpV_three k n (bs s) k'' n'' (bs s'')
  have t5 := cmpV_trans k n (bs s) k' n' (bs s') k'' n'' (bs s'')
  have t6 := cmpV_self k'' n'' (bs s'')
  obtain ⟨A, hA⟩ : ∃ A, cmpV k n (bs s) k' n' (bs s') = A := ⟨_, rfl⟩
  obtain ⟨C, hC⟩ : ∃ A, cmpV k' n' (bs s') k'' n'' (bs s'') = A := ⟨_, rfl⟩
  obtain ⟨D, hD⟩ : ∃ A, cmpV k n (bs s) k'' n'' (bs s'') = A := ⟨_, rfl⟩
  rw [hA] at t1 t2 t5
  rw [hC] at t3 t5
  rw [hD] at t4 t5
  have kG : ∀ k1 n1 s1 k2 n2 s2 W, Nine w w.heap.size k n s k' n' s' k'' n'' s'' W → Calls Tryd.prog 14 #[V k1 n1 s1, V k2 n2 s2] W fun e w' => e = .returned (.int .i64 (cmpV k1 n1 (bs s1) k2 n2 (bs s2))) ∧ Nine w w.heap.size k n s k' n' s' k'' n'' s'' w' := fun k1 n1 s1 k2 n2 s2 W h =>
    (compare14 k1 n1 s1 k2 n2 s2 W).mono (by rintro e w' ⟨h1, h2⟩; exact ⟨h1, h.below h2⟩)
  have kL : ∀ W, Nine w w.heap.size k n s k' n' s' k'' n'' s'' W → Calls Tryd.prog 11 #[] W fun e w' => e = .returned (.bool true) ∧ Nine w w.heap.size k n s k' n' s' k'' n'' s'' w' := fun W h =>
    (live11 (St.start h.2.2.1)).mono (by rintro e w' ⟨h1, h2⟩; exact ⟨h1, h.below h2.2⟩)
  have hk : Nine w w.heap.size k n s k' n' s' k'' n'' s'' (w.alloc (.cells #[.int .u8 k, .int .i64 n, .string s, .int .u8 k', .int .i64 n', .string s', .int .u8 k'', .int .i64 n'', .string s''] 43)) := by
    refine ⟨⟨?_, ?_, ?_, ?_, ?_, ?_, ?_, ?_, ?_⟩, by simp, hst.alloc _⟩ <;> exact World.cell?_alloc_at _ _ _ _ rfl
  clear hst hg
  generalize hB : w.heap.size = B at *
  go_enter Tryd.func8, Tryd.ntmps8
  go_wp2_with fail
  generalize w.alloc (.cells #[.int .u8 k, .int .i64 n, .string s, .int .u8 k', .int .i64 n', .string s', .int .u8 k'', .int .i64 n'', .string s''] 43) = W at hk ⊢
  replace hk : Nine w B k n s k' n' s' k'' n'' s'' W.drew := hk.below (Below.refl _ _).drew
  go_region_held3 (fun W => W.cell? ⟨B, 0, none⟩ = some (.int .u8 k) ∧ W.cell? ⟨B, 1, none⟩ = some (.int .i64 n) ∧ W.cell? ⟨B, 2, none⟩ = some (.string s) ∧
   W.cell? ⟨B, 3, none⟩ = some (.int .u8 k') ∧ W.cell? ⟨B, 4, none⟩ = some (.int .i64 n') ∧ W.cell? ⟨B, 5, none⟩ = some (.string s') ∧
   W.cell? ⟨B, 6, none⟩ = some (.int .u8 k'') ∧ W.cell? ⟨B, 7, none⟩ = some (.int .i64 n'') ∧ W.cell? ⟨B, 8, none⟩ = some (.string s'')) (exact hk.1)
    (first | (go_at_call 14; refine (kG _ _ _ _ _ _ _ hk).mono ?_; rintro e wk ⟨rfl, hk⟩))
  rcases t2 with rfl | rfl | rfl <;> rcases t3 with rfl | rfl | rfl <;> rcases t4 with rfl | rfl | rfl <;> first | exact absurd (t5 (by decide) (by decide)) (by decide) | skip
  all_goals
    clear t5
    go_wp2_with (first
      | (go_at_call 11; refine (kL _ hk).mono ?_; rintro e w1 ⟨rfl, hk1⟩; clear hk; obtain ⟨c0, c1, c2, c3, c4, c5, c6, c7, c8⟩ := hk1.1)
      | (go_at_call 14; refine (kG _ _ _ _ _ _ _ hk1).mono ?_; rintro e w2 ⟨rfl, hk2⟩; clear hk1; obtain ⟨d0, d1, d2, d3, d4, d5, d6, d7, d8⟩ := hk2.1)
      | (go_at_call 14; refine (kG _ _ _ _ _ _ _ hk2).mono ?_; rintro e w3 ⟨rfl, hk3⟩))
    go_ret
    exact ⟨rfl, hB ▸ hk3.2.2.2⟩

end Go.Proofs.YtolggmmlaohpdaaDoor
