/- The law ValueOrder: in every good world it answers true. -/
import Derived.Test.YtolggmmlaohpdaaDoorLive
import Derived.Test.YtolggmmlaohpdaaDoorPrs2
import Derived.Deep.QuietTactic
import Derived.BigQuiet
namespace Go.Proofs.YtolggmmlaohpdaaDoor
open Go.RowKit Go.Lib Go.Joins

/-- Two values in two blocks of the call's, and what the calls keep. -/
def Two (w0 : World) (B : Nat) (k n : Int) (s : ByteArray) (k' n' : Int) (s' : ByteArray) (W : World) : Prop :=
  (W.cell? ⟨B, 0, none⟩ = some (.int .u8 k) ∧ W.cell? ⟨B, 1, none⟩ = some (.int .i64 n) ∧ W.cell? ⟨B, 2, none⟩ = some (.string s) ∧
   W.cell? ⟨B + 1, 0, none⟩ = some (.int .u8 k') ∧ W.cell? ⟨B + 1, 1, none⟩ = some (.int .i64 n') ∧ W.cell? ⟨B + 1, 2, none⟩ = some (.string s')) ∧ B + 1 < W.heap.size ∧ St w0 W
theorem Two.below {w0 : World} {B : Nat} {k n : Int} {s : ByteArray} {k' n' : Int} {s' : ByteArray} {W W' : World} (h : Two w0 B k n s k' n' s' W) (b : Below W.heap.size W W') : Two w0 B k n s k' n' s' W' := by
  obtain ⟨⟨h0, h1, h2, h3, h4, h5⟩, hB, hst⟩ := h
  have c := fun i => b.cell (p := ⟨B, i, none⟩) (show B < W.heap.size by omega)
  have d := fun i => b.cell (p := ⟨B + 1, i, none⟩) hB
  exact ⟨⟨(c 0).trans h0, (c 1).trans h1, (c 2).trans h2, (d 0).trans h3, (d 1).trans h4, (d 2).trans h5⟩, Nat.lt_of_lt_of_le hB b.size, hst.more b⟩
theorem Two.start {w : World} (hg : Good w) (k n : Int) (s : ByteArray) (k' n' : Int) (s' : ByteArray) : Two w w.heap.size k n s k' n' s' ((w.alloc (.cells #[.int .u8 k, .int .i64 n, .string s] 24)).alloc (.cells #[.int .u8 k', .int .i64 n', .string s'] 24)) := by
  refine ⟨⟨?_, ?_, ?_, ?_, ?_, ?_⟩, by simp, ((St.start hg).alloc _).alloc _⟩
  · rw [World.cell?_alloc_old _ _ _ (by simp)]; exact World.cell?_alloc_at _ _ _ _ rfl
  · rw [World.cell?_alloc_old _ _ _ (by simp)]; exact World.cell?_alloc_at _ _ _ _ rfl
  · rw [World.cell?_alloc_old _ _ _ (by simp)]; exact World.cell?_alloc_at _ _ _ _ rfl
  · exact World.cell?_alloc_at _ _ _ _ (by simp)
  · exact World.cell?_alloc_at _ _ _ _ (by simp)
  · exact World.cell?_alloc_at _ _ _ _ (by simp)

theorem below_drewN {B : Nat} {a w : World} (h : Below B a w) (n : Nat) : Below B a (w.drewN n) := h.trans ⟨rfl, rfl, rfl, Nat.le_refl _, fun _ _ => rfl⟩
theorem bs_inj {s s' : ByteArray} (h : bs s = bs s') : s = s' := by rw [← str_bs s, h, str_bs]
theorem bytesV_pos (k n : Int) (l : Bs) : 0 < (bytesV k n l).length := by unfold bytesV; split <;> simp [be8_length]

set_option maxRecDepth 100000 in
set_option maxHeartbeats 4000000 in
theorem order7 (k n : Int) (s : ByteArray) (k' n' : Int) (s' : ByteArray) (w : World) (hn : inI64 n) (hn' : inI64 n') (hz : s.size ≤ 140737488355328) (hz' : s'.size ≤ 140737488355328) (hg : Good w) :
    Calls Tryd.prog 7 #[V k n s, V k' n' s'] w fun e w' => e = .returned (.bool true) ∧ Below w.heap.size w w' := by
  have hk := Two.start hg k n s k' n' s'
  have kL : ∀ W, Two w w.heap.size k n s k' n' s' W → Calls Tryd.prog 11 #[] W fun e w' => e = .returned (.bool true) ∧ Two w w.heap.size k n s k' n' s' w' := fun W h =>
    (live11 (St.start h.2.2.1)).mono (by rintro e w' ⟨h1, h2⟩; exact ⟨h1, h.below h2.2⟩)
  have kC : ∀ W, Two w w.heap.size k n s k' n' s' W → Calls Tryd.prog 14 #[V k n s, V k' n' s'] W fun e w' => e = .returned (.int .i64 (cmpV k n (bs s) k' n' (bs s'))) ∧ Below W.heap.size W w' := fun W h =>
    compare14 k n s k' n' s' W
  cases hR : rightV k n (bs s)
  · -- the first one can't be
    have kA : ∀ W, Two w w.heap.size k n s k' n' s' W → Calls Tryd.prog 21 #[V k n s] W fun e w' => e = .returned (.tuple #[.slice none 0 0, .int .i64 3]) ∧ Two w w.heap.size k n s k' n' s' w' := fun W h =>
      (bytes_no k n s W (by omega) hR h.2.2.1).mono (by rintro e w' ⟨h1, h2⟩; exact ⟨h1, h.below h2⟩)
    have kB : ∀ W, Two w w.heap.size k n s k' n' s' W → Calls Tryd.prog 21 #[V k' n' s'] W fun e w' => ∃ v er, e = .returned (.tuple #[v, .int .i64 er]) ∧ Two w w.heap.size k n s k' n' s' w' := fun W h => by
      cases hR' : rightV k' n' (bs s')
      · exact (bytes_no k' n' s' W (by omega) hR' h.2.2.1).mono (by rintro e w' ⟨h1, h2⟩; exact ⟨_, _, h1, h.below h2⟩)
      · exact (bytes_yes k' n' s' W hn' hR' h.2.2.1).mono (by rintro e w' ⟨v, h1, _, h2⟩; exact ⟨_, _, h1, h.below h2⟩)
    clear kC hR hg hn hn' hz hz'
    generalize hB : w.heap.size = B at *
    obtain ⟨c0, c1, c2, c3, c4, c5⟩ := hk.1
    go_enter Tryd.func7, Tryd.ntmps7
    go_wp2_with (first
      | (go_at_call 21; refine (kA _ hk).mono ?_; rintro e w1 ⟨rfl, hk1⟩; clear hk kA; obtain ⟨d0, d1, d2, d3, d4, d5⟩ := hk1.1)
      | (go_at_call 21; refine (kB _ hk1).mono ?_; rintro e w2 ⟨v2, er, rfl, hk2⟩; clear hk1 kB)
      | (go_at_call 11; refine (kL _ hk2).mono ?_; rintro e w3 ⟨rfl, hk3⟩))
    go_ret
    exact ⟨rfl, hB ▸ hk3.2.2.2⟩
  · have kA : ∀ W, Two w w.heap.size k n s k' n' s' W → Calls Tryd.prog 21 #[V k n s] W fun e w' => ∃ g c, e = .returned (.tuple #[.slice (some ⟨g, 0, none⟩) (bytesV k n (bs s)).length c, .int .i64 0]) ∧ At w' g 0 (bytesV k n (bs s)) ∧ Two w w.heap.size k n s k' n' s' w' := fun W h =>
      (bytes_yes k n s W hn hR h.2.2.1).mono (by
        rintro e w' ⟨v, h1, h2, h3⟩
        obtain ⟨g, c, rfl, _, _, _, hat⟩ := brow_at h2 (bytesV_pos _ _ _)
        exact ⟨g, c, h1, hat, h.below h3⟩)
    cases hR' : rightV k' n' (bs s')
    · have kB : ∀ W, Two w w.heap.size k n s k' n' s' W → Calls Tryd.prog 21 #[V k' n' s'] W fun e w' => e = .returned (.tuple #[.slice none 0 0, .int .i64 3]) ∧ Two w w.heap.size k n s k' n' s' w' := fun W h =>
        (bytes_no k' n' s' W (by omega) hR' h.2.2.1).mono (by rintro e w' ⟨h1, h2⟩; exact ⟨h1, h.below h2⟩)
      clear kC hR hR' hg hn hn' hz hz'
      generalize hB : w.heap.size = B at *
      generalize (bytesV k n (bs s)).length = L at *
      obtain ⟨c0, c1, c2, c3, c4, c5⟩ := hk.1
      go_enter Tryd.func7, Tryd.ntmps7
      go_wp2_with (first
        | (go_at_call 21; refine (kA _ hk).mono ?_; rintro e w1 ⟨g, c, rfl, _, hk1⟩; clear hk kA; obtain ⟨d0, d1, d2, d3, d4, d5⟩ := hk1.1)
        | (go_at_call 21; refine (kB _ hk1).mono ?_; rintro e w2 ⟨rfl, hk2⟩; clear hk1 kB)
        | (go_at_call 11; refine (kL _ hk2).mono ?_; rintro e w3 ⟨rfl, hk3⟩))
      go_ret
      exact ⟨rfl, hB ▸ hk3.2.2.2⟩
    · have kB : ∀ W, Two w w.heap.size k n s k' n' s' W → Calls Tryd.prog 21 #[V k' n' s'] W fun e w' => ∃ g c, e = .returned (.tuple #[.slice (some ⟨g, 0, none⟩) (bytesV k' n' (bs s')).length c, .int .i64 0]) ∧ At w' g 0 (bytesV k' n' (bs s')) ∧ Two w w.heap.size k n s k' n' s' w' ∧ Below W.heap.size W w' := fun W h =>
        (bytes_yes k' n' s' W hn' hR' h.2.2.1).mono (by
          rintro e w' ⟨v, h1, h2, h3⟩
          obtain ⟨g, c, rfl, _, _, _, hat⟩ := brow_at h2 (bytesV_pos _ _ _)
          exact ⟨g, c, h1, hat, h.below h3, h3⟩)
      have hord := bytesV_cmp hR hR' hn hn' [] []
      simp only [List.append_nil] at hord
      have hc0 := @cmpV_zero k n (bs s) k' n' (bs s')
      have hself := cmpV_self k n (bs s)
      have h3 := cmpV_three k n (bs s) k' n' (bs s')
      have hless := less_cases (bytesV k n (bs s)) (bytesV k' n' (bs s'))
      have hless2 := less_cases (bytesV k' n' (bs s')) (bytesV k n (bs s))
      have hturn := cb_turn (bytesV k n (bs s)) (bytesV k' n' (bs s'))
      clear hR hR' hg hn hn' hz hz'
      generalize hB : w.heap.size = B at *
      obtain ⟨la, hla⟩ : ∃ l, bytesV k n (bs s) = l := ⟨_, rfl⟩
      obtain ⟨lb, hlb⟩ : ∃ l, bytesV k' n' (bs s') = l := ⟨_, rfl⟩
      rw [hla] at kA hord hless hless2 hturn
      rw [hlb] at kB hord hless hless2 hturn
      clear hla hlb
      obtain ⟨C, hC⟩ : ∃ C, cmpV k n (bs s) k' n' (bs s') = C := ⟨_, rfl⟩
      rw [hC] at kC hord h3 hc0
      obtain ⟨c0, c1, c2, c3, c4, c5⟩ := hk.1
      go_enter Tryd.func7, Tryd.ntmps7
      go_wp2_with (first
        | (go_at_call 21; refine (kA _ hk).mono ?_; rintro e w1 ⟨g, c, rfl, hat, hk1⟩; clear hk kA; obtain ⟨d0, d1, d2, d3, d4, d5⟩ := hk1.1)
        | (go_at_call 21; refine (kB _ hk1).mono ?_; rintro e w2 ⟨g', c', rfl, hat', hk2, hb2⟩; clear hk1 kB; obtain ⟨e0, e1, e2, e3, e4, e5⟩ := hk2.1; have hat2 := hat.below hb2; clear hat hb2)
        | (go_at_call 14; refine (kC _ hk2).mono ?_; rintro e w3 ⟨rfl, hb3⟩; have hk3 := hk2.below hb3; have hat3 := hat2.below hb3; have hat3' := hat'.below hb3; clear hk2 kC hat2 hat' hb3))
      have cv : ∀ m, (convert 37 9 (.slice (some ⟨g, 0, none⟩) la.length c)).run Tryd.prog (w3.drewN m) = .ok (.string (str la)) (w3.drewN m) := fun m => conv_at (fun i hi => by have := hat3 i hi; simpa using this)
      have cv' : ∀ m, (convert 37 9 (.slice (some ⟨g', 0, none⟩) lb.length c')).run Tryd.prog (w3.drewN m) = .ok (.string (str lb)) (w3.drewN m) := fun m => conv_at (fun i hi => by have := hat3' i hi; simpa using this)
      go_quiet (fail)
      have hk4 : Two w B k n s k' n' s' (w3.drewN nq) := hk3.below (below_drewN (Below.refl _ _) nq)
      clear cv cv' hk3 hat3 hat3'
      have ela : (str la).toList = la := (toList_data _).trans (bs_str la)
      have elb : (str lb).toList = lb := (toList_data _).trans (bs_str lb)
      rcases h3 with rfl | rfl | rfl
      · have hcb : compareBytes la lb = -1 := by rw [hord]; simp
        rw [hcb] at hless hturn
        have l1 : Op.bytesLess la lb = true := by rcases hless with ⟨h, _⟩ | ⟨_, _, h⟩ | ⟨_, _, h⟩ <;> first | exact h | omega
        have l2 : Op.bytesLess lb la = false := by rcases hless2 with ⟨_, h⟩ | ⟨h, _⟩ | ⟨h, _⟩ <;> first | exact h | omega
        clear hless hless2 hturn hord hcb hc0
        by_cases hek : k = k'
        · subst hek
          by_cases hen : n = n'
          · subst hen
            have hes : s ≠ s' := fun e => by subst e; rw [hself] at hC; omega
            have hel := ne_list hes
            clear hes hself hC
            go_wp2_with (go_at_call 11; refine (kL _ hk4).mono ?_; rintro e w5 ⟨rfl, hk5⟩; obtain ⟨f0, f1, f2, f3, f4, f5⟩ := hk5.1)
            go_ret
            exact ⟨rfl, hB ▸ hk5.2.2.2⟩
          · have hnb : (n == n') = false := by simpa using hen
            clear hself hC
            go_wp2_with (go_at_call 11; refine (kL _ hk4).mono ?_; rintro e w5 ⟨rfl, hk5⟩; obtain ⟨f0, f1, f2, f3, f4, f5⟩ := hk5.1)
            go_ret
            exact ⟨rfl, hB ▸ hk5.2.2.2⟩
        · have hkb : (k == k') = false := by simpa using hek
          clear hself hC
          go_wp2_with (go_at_call 11; refine (kL _ hk4).mono ?_; rintro e w5 ⟨rfl, hk5⟩; obtain ⟨f0, f1, f2, f3, f4, f5⟩ := hk5.1)
          go_ret
          exact ⟨rfl, hB ▸ hk5.2.2.2⟩
      · obtain ⟨rfl, rfl, hes⟩ := hc0 rfl
        obtain rfl := bs_inj hes
        have hcb : compareBytes la lb = 0 := by rw [hord]; simp [compareBytes]
        obtain rfl := cb_zero _ _ hcb
        rw [hcb] at hless hturn
        have l1 : Op.bytesLess la la = false := by rcases hless with ⟨_, h⟩ | ⟨h, _⟩ | ⟨h, _⟩ <;> first | exact h | omega
        clear hless hless2 hturn hord hcb hc0 hes hself hC elb
        go_wp2_with (go_at_call 11; refine (kL _ hk4).mono ?_; rintro e w5 ⟨rfl, hk5⟩; obtain ⟨f0, f1, f2, f3, f4, f5⟩ := hk5.1)
        go_ret
        exact ⟨rfl, hB ▸ hk5.2.2.2⟩
      · have hcb : compareBytes la lb = 1 := by rw [hord]; simp
        rw [hcb] at hless hturn
        have l1 : Op.bytesLess la lb = false := by rcases hless with ⟨_, h⟩ | ⟨h, _⟩ | ⟨h, _⟩ <;> first | exact h | omega
        have l2 : Op.bytesLess lb la = true := by rcases hless with ⟨_, h⟩ | ⟨_, h, _⟩ | ⟨_, _, h⟩ <;> first | exact h | omega
        have l3 : ¬ (la = lb) := fun e => by rw [e, cb_self] at hcb; omega
        have l4 : (la == lb) = false := by simpa using l3
        clear hless hless2 hturn hord hcb hc0
        by_cases hek : k = k'
        · subst hek
          by_cases hen : n = n'
          · subst hen
            have hes : s ≠ s' := fun e => by subst e; rw [hself] at hC; omega
            have hel := ne_list hes
            clear hes hself hC
            go_wp2_with (go_at_call 11; refine (kL _ hk4).mono ?_; rintro e w5 ⟨rfl, hk5⟩; obtain ⟨f0, f1, f2, f3, f4, f5⟩ := hk5.1)
            go_ret
            exact ⟨rfl, hB ▸ hk5.2.2.2⟩
          · have hnb : (n == n') = false := by simpa using hen
            clear hself hC
            go_wp2_with (go_at_call 11; refine (kL _ hk4).mono ?_; rintro e w5 ⟨rfl, hk5⟩; obtain ⟨f0, f1, f2, f3, f4, f5⟩ := hk5.1)
            go_ret
            exact ⟨rfl, hB ▸ hk5.2.2.2⟩
        · have hkb : (k == k') = false := by simpa using hek
          clear hself hC
          go_wp2_with (go_at_call 11; refine (kL _ hk4).mono ?_; rintro e w5 ⟨rfl, hk5⟩; obtain ⟨f0, f1, f2, f3, f4, f5⟩ := hk5.1)
          go_ret
          exact ⟨rfl, hB ▸ hk5.2.2.2⟩

end Go.Proofs.YtolggmmlaohpdaaDoor
