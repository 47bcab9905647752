/- The law DiskCuts. -/
import Derived.Test.YtffkpomnbanaoaaLv
namespace Go.Proofs.Ytffkpomnbanaoaa
open Go.RowKit
set_option maxRecDepth 100000
variable {B0 d s r : Nat} {D : Dk}

theorem Two.alone {w : World} (h : Two B0 d s r D w) : Alone B0 w d s D [] := by
  obtain ⟨wv, lv, xv, hb⟩ := h
  exact ⟨wv, hb.pd, fun g hg => by simp at hg, hb.pb, hb.sz⟩
/-- Cut behind k, of which m are done. -/
structure CutSt (D : Dk) (k m : Nat) : Prop where
  secs : D.secs.length = 4
  cut : D.cut = true
  left : D.left = (k : Int) - (m : Int)
  off : D.off = false
  wait : D.wait.length ≤ m
theorem cutst_spend {k m : Nat} (h : CutSt D k m) (hm : m < k) : D.spend = (true, { D with left := (k : Int) - ((m + 1 : Nat) : Int) }) := by
  unfold Dk.spend
  rw [if_pos h.cut, if_neg (by rw [h.left]; omega), h.left]
  rw [show (k : Int) - (m : Int) - 1 = (k : Int) - ((m + 1 : Nat) : Int) by omega]
theorem cutst_write {k m : Nat} (h : CutSt D k m) (hm : m < k) : (D.write 0 []).1 = 0 ∧ CutSt (D.write 0 []).2 k (m + 1) := by
  have hr : D.reach 0 = 0 := by
    unfold Dk.reach
    rw [h.off, if_neg (by simp), if_pos (by rw [h.secs]; omega)]
  unfold Dk.write
  rw [if_pos hr, if_pos (by simp), cutst_spend h hm]
  exact ⟨rfl, h.secs, h.cut, rfl, h.off, by have := h.wait; simp; omega⟩
theorem cutst_flush {k m : Nat} (h : CutSt D k m) (hm : m < k) : D.flush.1 = 0 ∧ CutSt D.flush.2 k (m + 1) := by
  unfold Dk.flush
  rw [if_neg (by rw [h.off]; simp), cutst_spend h hm]
  exact ⟨rfl, by simp [land_length, h.secs], h.cut, rfl, h.off, by simp⟩
theorem cutst_end {k : Nat} (h : CutSt D k k) : (D.write 1 []).1 = 7 ∧ (D.write 1 []).2.off = true ∧ (D.write 1 []).2.flush.1 = 7 ∧ (D.write 1 []).2.wait.length ≤ k := by
  have hr : D.reach 1 = 0 := by
    unfold Dk.reach
    rw [h.off, if_neg (by simp), if_pos (by rw [h.secs]; omega)]
  have hs : D.spend = (false, { D with off := true }) := by
    unfold Dk.spend
    rw [if_pos h.cut, if_pos (by rw [h.left]; omega)]
  have hw : D.write 1 [] = (7, { D with off := true }) := by
    unfold Dk.write
    rw [if_pos hr, if_pos (by simp), hs]
    rfl
  rw [hw]
  exact ⟨rfl, rfl, by simp [Dk.flush], h.wait⟩
theorem cutst_start (l : List Deed) (k : Nat) : CutSt (((played l).crash []).doCut (k : Int)) k 0 := by
  unfold Dk.doCut
  rw [if_neg (by simp [Dk.crash])]
  refine ⟨by simp [Dk.crash, land_length, (played_secs l).1], rfl, ?_, rfl, by simp [Dk.crash]⟩
  show max (k : Int) 0 = (k : Int) - ((0 : Nat) : Int)
  omega

set_option maxHeartbeats 2000000 in
theorem cuts6 (W : World) (v : Value) (l : List Deed) (hv : InD W.heap.size W v l) (n : Nat) (hn : n < 256) :
    Calls Try.prog 6 #[v, .int .u8 (n : Int)] W fun e w' => e = .returned (.bool true) ∧ Below W.heap.size W w' := by
  have c15 := play15 v l hv
  have hps := played_secs (l.take 40)
  have hpl : (l.take 40).length ≤ 40 := by rw [List.length_take]; omega
  obtain ⟨va, vc, hve, _⟩ := hv
  subst hve
  generalize l.length = ln at *
  obtain ⟨k, hk⟩ : ∃ k, n % 9 = k := ⟨_, rfl⟩
  have hkl : k < 9 := by omega
  have hst := cutst_start (l.take 40) k
  have HA0 : Hid (∀ w d s r, Two W.heap.size d s r (played (l.take 40)) w → Calls Try.prog 18 #[.pointer (some ⟨d, 0, none⟩), .slice none 0 0] w fun e w' => e = .returned (.tuple #[]) ∧ Alone W.heap.size w' d s ((played (l.take 40)).crash []) [] ∧ Kept [] w w' ∧ Below W.heap.size w w') := fun w d s r h => alone18 h.alone _ [] (.inl ⟨none, 0, rfl, rfl⟩) (fun a n c e _ => by cases e) (by omega)
  have HA1 : Hid (∀ w d s, Alone W.heap.size w d s ((played (l.take 40)).crash []) [] → Calls Try.prog 23 #[.pointer (some ⟨d, 0, none⟩), .int .i64 (k : Int)] w fun e w' => e = .returned (.tuple #[]) ∧ Alone W.heap.size w' d s (((played (l.take 40)).crash []).doCut (k : Int)) [] ∧ Kept [] w w' ∧ Below W.heap.size w w') := fun w d s h => alone23 h (k : Int) (by omega)
  have HL : Hid (∀ w, Calls Try.prog 16 #[] w fun e w' => e = .returned (.bool true) ∧ Below w.heap.size w w') := live16
  generalize ((played (l.take 40)).crash []).doCut (k : Int) = Dc at *
  generalize (played (l.take 40)).crash [] = Dp at *
  generalize played (l.take 40) = Dq at *
  have HB2 : Hid (∀ w w' d s r, Two W.heap.size d s r Dq w → Below w.heap.size w w' → Two W.heap.size d s r Dq w') := fun w w' d s r h hB => by
    obtain ⟨wv, lv, xv, hb⟩ := h
    exact ⟨wv, lv, xv, hb.below hB⟩
  have hmod : ((n : Int)) % 9 = (k : Int) := by omega
  have htmod : Int.tmod (n : Int) 9 = (k : Int) := by rw [Int.tmod_eq_emod_of_nonneg (by omega)]; exact hmod
  clear hps hpl hk
  go_enter Try.func6, Try.ntmps6
  go_wp2_with (first
    | (go_at_call 15; (refine c15.mono ?_; rintro e w1 ⟨d, s, r, rfl, T1, F1⟩))
    | (go_at_call 16; (refine (HL.out w1).mono ?_; rintro e w2 ⟨rfl, B2⟩; have T2 := HB2.out _ _ _ _ _ T1 B2; have F2 := F1.trans (B2.mono F1.size); clear T1 F1 B2))
    | (go_at_call 18; (refine (HA0.out w2 _ _ _ T2).mono ?_; rintro e w3 ⟨rfl, A3, _, B3⟩; have F3 := F2.trans B3; clear T2 F2 B3))
    | (go_at_call 23; (refine (HA1.out w3 _ _ A3).mono ?_; rintro e w4 ⟨rfl, A4, _, B4⟩; have F4 := F3.trans B4; clear A3 F3 B4)))
  go_loopw [9] (fun p wr => ∃ m : Nat, m ≤ k ∧ p = .int .i64 (m : Int) ∧ (∃ D, Alone W.heap.size wr d s D [] ∧ CutSt D k m) ∧ Below W.heap.size W wr) (fun p _ => k - (intOf p).toNat)
  case atStart => exact ⟨0, by omega, rfl, ⟨_, A4, hst⟩, F4⟩
  case round =>
    obtain ⟨m, hm, rfl, ⟨D, hA, hC⟩, hB⟩ := hrel
    by_cases hlt : m < k
    · have hlt1 : (m : Int) < (k : Int) := by omega
      have c20 := alone20 hA
      rw [hC.off] at c20
      have hwl := hC.wait
      by_cases hev : m % 2 = 0
      · have c22 := alone22 hA 0 (.slice none 0 0) [] (.inl ⟨none, 0, rfl, rfl⟩) (fun a n c e _ => by cases e) (by omega)
        obtain ⟨hw1, hw2⟩ := cutst_write hC hlt
        rw [hw1] at c22
        have ht : Int.tmod (m : Int) 2 = 0 := by rw [Int.tmod_eq_emod_of_nonneg (by omega)]; omega
        generalize (D.write 0 []).2 = D' at *
        clear hw1 hC
        go_wp2_with (first
          | (go_at_call 20; (refine c20.mono ?_; rintro e w5 ⟨rfl, rfl⟩))
          | (go_at_call 22; (refine c22.mono ?_; rintro e w6 ⟨rfl, A6, _, B6⟩)))
        go_roundw
        case rel => exact ⟨m + 1, by omega, by simp, ⟨_, A6, hw2⟩, hB.trans B6⟩
        case measure => simp only [intOf]; omega
      · have c24 := alone24 hA (by omega)
        obtain ⟨hw1, hw2⟩ := cutst_flush hC hlt
        rw [hw1] at c24
        have ht : Int.tmod (m : Int) 2 = 1 := by rw [Int.tmod_eq_emod_of_nonneg (by omega)]; omega
        generalize D.flush.2 = D' at *
        clear hw1 hC
        go_wp2_with (first
          | (go_at_call 20; (refine c20.mono ?_; rintro e w5 ⟨rfl, rfl⟩))
          | (go_at_call 24; (refine c24.mono ?_; rintro e w6 ⟨rfl, A6, _, B6⟩)))
        go_roundw
        case rel => exact ⟨m + 1, by omega, by simp, ⟨_, A6, hw2⟩, hB.trans B6⟩
        case measure => simp only [intOf]; omega
    · have hlt1 : ¬ (m : Int) < (k : Int) := by omega
      obtain rfl : m = k := by omega
      have c20 := alone20 hA
      rw [hC.off] at c20
      have hwl := hC.wait
      have c22 := alone22 hA 1 (.slice none 0 0) [] (.inl ⟨none, 0, rfl, rfl⟩) (fun a n c e _ => by cases e) (by omega)
      obtain ⟨e1, e2, e3, e4⟩ := cutst_end hC
      rw [e1] at c22
      have H20 : Hid (∀ w, Alone W.heap.size w d s (D.write 1 []).2 [] → Calls Try.prog 20 #[.pointer (some ⟨d, 0, none⟩)] w fun e w' => e = .returned (.bool true) ∧ w' = w) := fun w h => by
        have := alone20 h
        rw [e2] at this
        exact this
      have H24 : Hid (∀ w, Alone W.heap.size w d s (D.write 1 []).2 [] → Calls Try.prog 24 #[.pointer (some ⟨d, 0, none⟩)] w fun e w' => e = .returned (.int .i64 7) ∧ Below W.heap.size w w') := fun w h => by
        have := alone24 h (by omega)
        rw [e3] at this
        refine this.mono ?_
        rintro e w' ⟨h1, _, _, h2⟩
        exact ⟨h1, h2⟩
      generalize (D.write 1 []).2 = D' at *
      clear e1 e2 e3 e4 hC
      go_wp2_with (first
        | (go_at_call 20; (refine c20.mono ?_; rintro e w5 ⟨rfl, rfl⟩; clear c20))
        | (go_at_call 22; (refine c22.mono ?_; rintro e w6 ⟨rfl, A6, _, B6⟩; clear c22))
        | (go_at_call 20; (refine (H20.out w6 A6).mono ?_; rintro e w7 ⟨rfl, rfl⟩))
        | (go_at_call 24; (refine (H24.out _ A6).mono ?_; rintro e w8 ⟨rfl, B8⟩)))
      go_ret
      exact ⟨rfl, hB.trans (B6.trans B8)⟩
end Go.Proofs.Ytffkpomnbanaoaa
