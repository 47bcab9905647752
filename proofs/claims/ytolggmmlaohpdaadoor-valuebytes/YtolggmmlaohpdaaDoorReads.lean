/- The law ValueReads: in every good world it answers true. -/
import Derived.Test.YtolggmmlaohpdaaDoorApp
import Derived.Test.YtolggmmlaohpdaaDoorRef
import Derived.Test.YtolggmmlaohpdaaDoorOrder
namespace Go.Proofs.YtolggmmlaohpdaaDoor
open Go.RowKit Go.Lib Go.Joins

/-- A value in a block of the call's, bytes that came in, and what the calls keep. -/
def One (w0 : World) (B : Nat) (k n : Int) (s : ByteArray) (v : Value) (l : Bs) (W : World) : Prop :=
  (W.cell? ⟨B, 0, none⟩ = some (.int .u8 k) ∧ W.cell? ⟨B, 1, none⟩ = some (.int .i64 n) ∧ W.cell? ⟨B, 2, none⟩ = some (.string s)) ∧ B < W.heap.size ∧ SB W v l ∧ St w0 W
theorem One.below {w0 : World} {B : Nat} {k n : Int} {s : ByteArray} {v : Value} {l : Bs} {W W' : World} (h : One w0 B k n s v l W) (b : Below W.heap.size W W') : One w0 B k n s v l W' := by
  obtain ⟨⟨h0, h1, h2⟩, hB, hs, hst⟩ := h
  have c := fun i => b.cell (p := ⟨B, i, none⟩) hB
  exact ⟨⟨(c 0).trans h0, (c 1).trans h1, (c 2).trans h2⟩, Nat.lt_of_lt_of_le hB b.size, hs.below b, hst.more b⟩
theorem One.start {w : World} (hg : Good w) (k n : Int) (s : ByteArray) {v : Value} {l : Bs} (hs : SB w v l) : One w w.heap.size k n s v l (w.alloc (.cells #[.int .u8 k, .int .i64 n, .string s] 24)) := by
  refine ⟨⟨?_, ?_, ?_⟩, by simp, hs.below (al _ _), (St.start hg).alloc _⟩ <;> exact World.cell?_alloc_at _ _ _ _ rfl

theorem rdV_bytes {k n : Int} {l : Bs} (hr : rightV k n l = true) (h : inI64 n) (p : Bs) : rdV (bytesV k n l ++ p) = (k, n, l, (bytesV k n l).length, 0) := by
  rcases rightV_cases hr with ⟨rfl, rfl⟩ | ⟨rfl, rfl, hs⟩
  · rw [bytesV_int, List.cons_append]
    unfold inI64 at h
    have ht : (be8 (n + 9223372036854775808).toNat ++ p).take 8 = be8 (n + 9223372036854775808).toNat := by
      rw [List.take_append_of_le_length (by rw [be8_length]; omega), List.take_of_length_le (by rw [be8_length]; omega)]
    unfold rdV
    rw [begunV_int (by rw [List.length_append, be8_length]; omega), ht, num_be8 _ (by omega)]
    simp only [rightV_int, decide_true, if_true, List.length_cons, be8_length]
    congr 2
    omega
  · rw [bytesV_text, List.cons_append, List.append_assoc, List.singleton_append, rdV_text (cutZ_append l p (right_bytes hs)), hs]
    simp

set_option maxRecDepth 100000 in
set_option maxHeartbeats 4000000 in
theorem reads6 (k n : Int) (s : ByteArray) (v : Value) (l : Bs) (w : World) (hn : inI64 n) (hz : s.size ≤ 140737488355328) (hl : l.length ≤ 140737488351232) (hsb : SB w v l) (hg : Good w) :
    Calls Tryd.prog 6 #[V k n s, v] w fun e w' => e = .returned (.bool true) ∧ Below w.heap.size w w' := by
  have hk := One.start hg k n s hsb
  have kL : ∀ W, One w w.heap.size k n s v l W → Calls Tryd.prog 11 #[] W fun e w' => e = .returned (.bool true) ∧ One w w.heap.size k n s v l w' ∧ Below W.heap.size W w' := fun W h =>
    (live11 (St.start h.2.2.2.1)).mono (by rintro e w' ⟨h1, h2⟩; exact ⟨h1, h.below h2.2, h2.2⟩)
  cases hR : rightV k n (bs s)
  · have kA : ∀ W, One w w.heap.size k n s v l W → Calls Tryd.prog 21 #[V k n s] W fun e w' => e = .returned (.tuple #[.slice none 0 0, .int .i64 3]) ∧ One w w.heap.size k n s v l w' := fun W h =>
      (bytes_no k n s W (by omega) hR h.2.2.2.1).mono (by rintro e w' ⟨h1, h2⟩; exact ⟨h1, h.below h2⟩)
    have kR : ∀ W, One w w.heap.size k n s v l W → Calls Tryd.prog 12 #[V k n s] W fun e w' => e = .returned (.bool false) ∧ One w w.heap.size k n s v l w' := fun W h => by
      have := rightv12 k n s W (by omega) h.2.2.2.1
      rw [hR] at this
      exact this.mono (by rintro e w' ⟨h1, h2⟩; exact ⟨h1, h.below h2⟩)
    clear hR hg hn hz hl hsb
    generalize hB : w.heap.size = B at *
    obtain ⟨c0, c1, c2⟩ := hk.1
    go_enter Tryd.func6, Tryd.ntmps6
    go_wp2_with (first
      | (go_at_call 21; refine (kA _ hk).mono ?_; rintro e w1 ⟨rfl, hk1⟩; clear hk kA)
      | (go_at_call 11; refine (kL _ hk1).mono ?_; rintro e w2 ⟨rfl, hk2, _⟩; clear hk1 kL; obtain ⟨d0, d1, d2⟩ := hk2.1)
      | (go_at_call 12; refine (kR _ hk2).mono ?_; rintro e w3 ⟨rfl, hk3⟩))
    go_ret
    exact ⟨rfl, hB ▸ hk3.2.2.2.2⟩
  · have kA : ∀ W, One w w.heap.size k n s v l W → Calls Tryd.prog 21 #[V k n s] W fun e w' => ∃ g c, e = .returned (.tuple #[.slice (some ⟨g, 0, none⟩) (bytesV k n (bs s)).length c, .int .i64 0]) ∧ SB w' (.slice (some ⟨g, 0, none⟩) (bytesV k n (bs s)).length c) (bytesV k n (bs s)) ∧ One w w.heap.size k n s v l w' := fun W h =>
      (bytes_yes k n s W hn hR h.2.2.2.1).mono (by
        rintro e w' ⟨v, h1, h2, h3⟩
        have h4 := brow_sb h2
        obtain ⟨g, c, rfl, _, _, _, hat⟩ := brow_at h2 (bytesV_pos _ _ _)
        exact ⟨g, c, h1, h4, h.below h3⟩)
    have hbl : (bytesV k n (bs s)).length ≤ 34 := by
      rcases rightV_cases hR with ⟨rfl, _⟩ | ⟨rfl, rfl, hs⟩
      · rw [bytesV_int, List.length_cons, be8_length]; omega
      · rw [bytesV_text]; have := right_len hs; simp at this ⊢; omega
    have hrd := rdV_bytes hR hn l
    have k23 : ∀ W u, SB W u (bytesV k n (bs s) ++ l) → Good W → Calls Tryd.prog 23 #[u] W fun e w' => e = .returned (.tuple #[V k n s, .int .i64 (((bytesV k n (bs s)).length : Nat) : Int), .int .i64 0]) ∧ Below W.heap.size W w' := fun W u h h2 => by
      have := read23 u (bytesV k n (bs s) ++ l) W (by rw [List.length_append]; omega) h h2
      rw [hrd] at this
      simp only [str_bs] at this
      exact this
    clear hR hn hz hrd
    obtain ⟨L, hL⟩ : ∃ L, (bytesV k n (bs s)).length = L := ⟨_, rfl⟩
    generalize hX : bytesV k n (bs s) = X at *
    rw [hL] at kA k23 hbl
    have HL : Hid (X.length = L) := hL
    clear hL hX hg hsb
    generalize hB : w.heap.size = B at *
    obtain ⟨c0, c1, c2⟩ := hk.1
    go_enter Tryd.func6, Tryd.ntmps6
    go_wp2_with (first
      | (go_at_call 21; refine (kA _ hk).mono ?_; rintro e w1 ⟨g, c, rfl, hsx, hk1⟩; clear hk kA)
      | (at_builtin; refine push_sb _ rfl (.tmp 24) (.tmp 25) rfl w1.heap.size _ _ [] X rfl rfl (brow_empty (g := w1.heap.size) rfl (Nat.le_refl _)) (hsx.below (al _ _)) (by simp [HL.out]; omega) (by simp) ?_; intro v1 w2 hown hgrow; have h6 := grow2 (al w1 _) (brow_empty (g := w1.heap.size) rfl (Nat.le_refl _)) hgrow (by simp); clear hgrow)
      | (at_builtin; refine push_sb _ rfl (.tmp 26) (.tmp 27) rfl w1.heap.size _ _ ([] ++ X) l rfl rfl hown ((hk1.below h6.1).2.2.1) (by simp [HL.out]; omega) h6.2 ?_; intro v2 w3 hown2 hgrow2; have h7 := grow2 h6.1 hown hgrow2 h6.2; clear hgrow2 hown; have hk3 := hk1.below h7.1; clear hk1)
      | (go_at_call 23; refine (k23 _ _ (brow_sb hown2) hk3.2.2.2.1).mono ?_; rintro e w4 ⟨rfl, hb4⟩; have hk4 : ∀ o, One w B k n s v l (w4.alloc o) := fun o => (hk3.below hb4).below (al _ _); clear hk3 hb4)
      | (go_at_call 11; refine (kL _ (hk4 _)).mono ?_; rintro e w5 ⟨rfl, hk5, hb5⟩; obtain ⟨d0, d1, d2⟩ := hk5.1; have g0 := (new_cells hb5 0).1; have g1 := (new_cells hb5 1).1; have g2 := (new_cells hb5 2).1; simp at g0 g1 g2))
    go_ret
    exact ⟨rfl, hB ▸ hk5.2.2.2.2⟩

end Go.Proofs.YtolggmmlaohpdaaDoor
