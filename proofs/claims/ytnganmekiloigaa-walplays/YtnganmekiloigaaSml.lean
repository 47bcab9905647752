/- disk: the small ones: Size, Off, Waiting, awake, reach, spend, Cut. -/
import Derived.Test.YtnganmekiloigaaMem
namespace Go.Proofs.Ytnganmekiloigaa
open Go.RowKit
set_option maxRecDepth 100000
variable {W : World} {d s : Nat} {wv : Value} {D : Dk}

theorem PD.dlt (h : PD W d s wv D) : d < W.heap.size := h.dx.lt
theorem PD.wlt (h : PD W d s wv D) : ∀ k, wv.ownBlock = some k → d < k ∧ k < W.heap.size := fun k hk => by
  have := World.ownsRow.lt h.wait k hk
  omega
theorem PD.blocks {W' : World} (h : PD W d s wv D) (hsz : W.heap.size ≤ W'.heap.size) (e : ∀ k, foot d s wv k → W'.heap[k]? = W.heap[k]?) : PD W' d s wv D := by
  refine ⟨h.dx.block (e d (.inl rfl)), h.secs.block (e s (.inr (.inl rfl))), ?_, h.ok, h.ne, h.own, Nat.lt_of_lt_of_le h.slt hsz⟩
  obtain ⟨h1, h2 | ⟨g, cap, cur, rfl, hBg, hw, hn, hcap, hz, htk⟩⟩ := h.wait
  · exact ⟨h1, .inl h2⟩
  · exact ⟨h1, .inr ⟨g, cap, cur, rfl, hBg, by rw [e g (.inr (.inr rfl))]; exact hw, hn, hcap, hz, htk⟩⟩
theorem PD.foot_lt (h : PD W d s wv D) : ∀ k, foot d s wv k → k < W.heap.size := fun k hk => by
  rcases hk with rfl | rfl | hk
  · exact h.dlt
  · exact h.slt
  · exact (h.wlt k hk).2
theorem PD.below {W' : World} (h : PD W d s wv D) (hb : Below W.heap.size W W') : PD W' d s wv D := h.blocks hb.size fun k hk => hb.block k (h.foot_lt k hk)
theorem PD.keep {W' : World} {F : Nat → Prop} (h : PD W d s wv D) (hb : Keep F W W') (hF : ∀ k, foot d s wv k → ¬ F k) : PD W' d s wv D := h.blocks hb.size fun k hk => hb.block k (h.foot_lt k hk) (hF k hk)
theorem PD.wform (h : PD W d s wv D) : ∃ a c, wv = .slice a D.wait.length c := by
  obtain ⟨h1, ⟨rfl, h2⟩ | ⟨g, cap, cur, rfl, hBg, hw, hn, hcap, hz, htk⟩⟩ := h.wait
  · exact ⟨none, 0, by rw [h2]⟩
  · exact ⟨_, cap, rfl⟩

theorem awake56 (h : PD W d s wv D) :
    Calls Try.prog 56 #[.pointer (some ⟨d, 0, none⟩)] W fun e w' => e = .returned (.int .i64 D.awake) ∧ w' = W := by
  have h4 := h.dx.c4
  unfold Dk.awake
  generalize D.off = o at *
  clear h
  cases o
  · go_enter Try.func56, Try.ntmps56
    go_wp2
    go_ret
    exact ⟨rfl, rfl⟩
  · go_enter Try.func56, Try.ntmps56
    go_wp2
    go_ret
    exact ⟨rfl, rfl⟩

theorem reach53 (h : PD W d s wv D) (i : Int) :
    Calls Try.prog 53 #[.pointer (some ⟨d, 0, none⟩), .int .i64 i] W fun e w' => e = .returned (.int .i64 (D.reach i)) ∧ w' = W := by
  have h0 := h.dx.c0
  have c56 := awake56 h
  unfold Dk.reach
  unfold Dk.awake at c56
  generalize D.off = o at *
  generalize D.secs.length = n at *
  clear h
  cases o
  · simp only [Bool.false_eq_true, if_false] at c56 ⊢
    by_cases h1 : 0 ≤ i
    · by_cases h2 : i < (n : Int)
      · rw [if_pos ⟨h1, h2⟩]
        go_enter Try.func53, Try.ntmps53
        go_wp2_with (go_at_call 56; (refine c56.mono ?_; rintro e w1 ⟨rfl, rfl⟩))
        go_ret
        exact ⟨rfl, rfl⟩
      · rw [if_neg (by omega)]
        go_enter Try.func53, Try.ntmps53
        go_wp2_with (go_at_call 56; (refine c56.mono ?_; rintro e w1 ⟨rfl, rfl⟩))
        go_ret
        exact ⟨rfl, rfl⟩
    · rw [if_neg (by omega)]
      go_enter Try.func53, Try.ntmps53
      go_wp2_with (go_at_call 56; (refine c56.mono ?_; rintro e w1 ⟨rfl, rfl⟩))
      go_ret
      exact ⟨rfl, rfl⟩
  · simp only [if_true] at c56 ⊢
    go_enter Try.func53, Try.ntmps53
    go_wp2_with (go_at_call 56; (refine c56.mono ?_; rintro e w1 ⟨rfl, rfl⟩))
    go_ret
    exact ⟨rfl, rfl⟩

theorem PD.set_off (h : PD W d s wv D) (b : Bool) : PD (W.setCell ⟨d, 4, none⟩ (.bool b)) d s wv { D with off := b } := by
  have hk : ∀ k, k ≠ d → (W.setCell ⟨d, 4, none⟩ (.bool b)).heap[k]? = W.heap[k]? := fun k hk => Below.heap_setCell _ _ _ _ hk
  have h2 : PD W d s wv D := h
  refine ⟨h.dx.set4 _, h.secs.block (hk s h.ne), ?_, ⟨h.ok.secs, h.ok.wait, h.ok.left⟩, h.ne, h.own, by simpa [World.setCell] using h.slt⟩
  obtain ⟨h1, h2 | ⟨g, cap, cur, rfl, hBg, hw, hn, hcap, hz, htk⟩⟩ := h.wait
  · exact ⟨h1, .inl h2⟩
  · exact ⟨h1, .inr ⟨g, cap, cur, rfl, hBg, by rw [hk g (by omega)]; exact hw, hn, hcap, hz, htk⟩⟩
theorem PD.set_left (h : PD W d s wv D) (n : Int) (hn0 : 0 ≤ n) (hn1 : n ≤ 9223372036854775807) : PD (W.setCell ⟨d, 3, none⟩ (.int .i64 n)) d s wv { D with left := n } := by
  have hk : ∀ k, k ≠ d → (W.setCell ⟨d, 3, none⟩ (.int .i64 n)).heap[k]? = W.heap[k]? := fun k hk => Below.heap_setCell _ _ _ _ hk
  refine ⟨h.dx.set3 _, h.secs.block (hk s h.ne), ?_, ⟨h.ok.secs, h.ok.wait, hn0, hn1⟩, h.ne, h.own, by simpa [World.setCell] using h.slt⟩
  obtain ⟨h1, h2 | ⟨g, cap, cur, rfl, hBg, hw, hn, hcap, hz, htk⟩⟩ := h.wait
  · exact ⟨h1, .inl h2⟩
  · exact ⟨h1, .inr ⟨g, cap, cur, rfl, hBg, by rw [hk g (by omega)]; exact hw, hn, hcap, hz, htk⟩⟩
theorem PD.set_cut (h : PD W d s wv D) (b : Bool) : PD (W.setCell ⟨d, 2, none⟩ (.bool b)) d s wv { D with cut := b } := by
  have hk : ∀ k, k ≠ d → (W.setCell ⟨d, 2, none⟩ (.bool b)).heap[k]? = W.heap[k]? := fun k hk => Below.heap_setCell _ _ _ _ hk
  refine ⟨h.dx.set2 _, h.secs.block (hk s h.ne), ?_, ⟨h.ok.secs, h.ok.wait, h.ok.left⟩, h.ne, h.own, by simpa [World.setCell] using h.slt⟩
  obtain ⟨h1, h2 | ⟨g, cap, cur, rfl, hBg, hw, hn, hcap, hz, htk⟩⟩ := h.wait
  · exact ⟨h1, .inl h2⟩
  · exact ⟨h1, .inr ⟨g, cap, cur, rfl, hBg, by rw [hk g (by omega)]; exact hw, hn, hcap, hz, htk⟩⟩

theorem spend55 (h : PD W d s wv D) :
    Calls Try.prog 55 #[.pointer (some ⟨d, 0, none⟩)] W fun e w' => e = .returned (.bool D.spend.1) ∧ PD w' d s wv D.spend.2 ∧ Keep (foot d s wv) W w' := by
  obtain ⟨x0, x1, x2, x3, x4, z0, z1, z2, z3, z4⟩ := id h.dx
  have hl := h.ok.left
  unfold Dk.spend
  by_cases hc : D.cut = true
  · rw [hc] at x2
    by_cases h0 : D.left = 0
    · have hd := h.set_off true
      rw [h0] at x3
      rw [if_pos hc, if_pos h0]
      clear h hc h0 hl
      go_enter Try.func55, Try.ntmps55
      go_wp2
      go_ret
      exact ⟨rfl, hd, (Keep.refl _ _).set (.inr (.inl rfl)) _⟩
    · have hd := h.set_left (D.left - 1) (by omega) (by omega)
      rw [if_pos hc, if_neg h0]
      generalize D.left = l at *
      have hl0 : (l == 0) = false := by simpa using h0
      clear h hc h0
      go_enter Try.func55, Try.ntmps55
      go_wp2
      go_ret
      exact ⟨rfl, hd, (Keep.refl _ _).set (.inr (.inl rfl)) _⟩
  · rw [if_neg hc]
    have hc' : D.cut = false := by simpa using hc
    rw [hc'] at x2
    go_enter Try.func55, Try.ntmps55
    go_wp2
    go_ret
    exact ⟨rfl, h, Keep.refl _ _⟩

theorem cut23 (h : PD W d s wv D) (n : Int) (hn : -9223372036854775808 ≤ n ∧ n ≤ 9223372036854775807) :
    Calls Try.prog 23 #[.pointer (some ⟨d, 0, none⟩), .int .i64 n] W fun e w' => e = .returned (.tuple #[]) ∧ PD w' d s wv (D.doCut n) ∧ Keep (foot d s wv) W w' := by
  obtain ⟨x0, x1, x2, x3, x4, z0, z1, z2, z3, z4⟩ := id h.dx
  have c56 := awake56 h
  unfold Dk.doCut
  unfold Dk.awake at c56
  by_cases ho : D.off = true
  · rw [if_pos ho] at c56 ⊢
    go_enter Try.func23, Try.ntmps23
    go_wp2_with (go_at_call 56; (refine c56.mono ?_; rintro e w1 ⟨rfl, rfl⟩))
    exact bodyPost_ret (v := .tuple #[]) (by simp [results, Try.results23]) rfl ⟨rfl, h, Keep.refl _ _⟩
  · rw [if_neg ho] at c56 ⊢
    have hof : D.off = false := by simpa using ho
    have hd := (h.set_cut true).set_left (max n 0) (by omega) (by omega)
    simp only [hof] at hd x4 ⊢
    clear h ho hof
    by_cases hn0 : 0 ≤ n
    · rw [show max n 0 = n by omega] at hd ⊢
      go_enter Try.func23, Try.ntmps23
      go_wp2_with (go_at_call 56; (refine c56.mono ?_; rintro e w1 ⟨rfl, rfl⟩))
      go_end0
      exact ⟨rfl, hd, ((Keep.refl _ _).set (.inr (.inl rfl)) _).set (.inr (.inl rfl)) _⟩
    · rw [show max n 0 = 0 by omega] at hd ⊢
      go_enter Try.func23, Try.ntmps23
      go_wp2_with (go_at_call 56; (refine c56.mono ?_; rintro e w1 ⟨rfl, rfl⟩))
      go_end0
      exact ⟨rfl, hd, ((Keep.refl _ _).set (.inr (.inl rfl)) _).set (.inr (.inl rfl)) _⟩

theorem size28 (h : PD W d s wv D) : Calls Try.prog 28 #[.pointer (some ⟨d, 0, none⟩)] W fun e w' => e = .returned (.int .i64 (D.secs.length : Int)) ∧ w' = W := by
  have x0 := h.dx.c0
  clear h
  go_enter Try.func28, Try.ntmps28
  go_wp2
  go_ret
  exact ⟨rfl, rfl⟩
theorem off20 (h : PD W d s wv D) : Calls Try.prog 20 #[.pointer (some ⟨d, 0, none⟩)] W fun e w' => e = .returned (.bool D.off) ∧ w' = W := by
  have x0 := h.dx.c4
  generalize D.off = o at *
  clear h
  go_enter Try.func20, Try.ntmps20
  go_wp2
  go_ret
  exact ⟨rfl, rfl⟩
theorem waiting21 (h : PD W d s wv D) : Calls Try.prog 21 #[.pointer (some ⟨d, 0, none⟩)] W fun e w' => e = .returned (.int .i64 (D.wait.length : Int)) ∧ w' = W := by
  obtain ⟨a, c, rfl⟩ := h.wform
  have x0 := h.dx.c1
  clear h
  go_enter Try.func21, Try.ntmps21
  go_wp2
  go_ret
  exact ⟨rfl, rfl⟩

end Go.Proofs.Ytnganmekiloigaa
