/- The small functions of lex: isDigit, isLetter, goesOn, Spaced, run, Signed, number, wordOf, quoted. -/
import Derived.Test.YthebpkcnhghofaaDoorLx
import Derived.Test.YthebpkcnhghofaaDoorFold
import Derived.Deep.MidRow
namespace Go.Proofs.YthebpkcnhghofaaDoor
open Go.RowKit Go.Lib Go.Joins
set_option maxRecDepth 100000

theorem digit20 (r : Int) (w : World) : Calls Tryd.prog 20 #[.int .i32 r] w fun e w' => e = .returned (.bool (digI r)) ∧ w' = w := by
  by_cases h1 : 48 ≤ r
  · by_cases h2 : r ≤ 57
    · rw [show digI r = true by simp [digI, h1, h2]]
      go_enter Tryd.func20, Tryd.ntmps20
      go_wp2
      go_ret
      exact ⟨rfl, rfl⟩
    · rw [show digI r = false by simp [digI, h2]]
      go_enter Tryd.func20, Tryd.ntmps20
      go_wp2
      go_ret
      exact ⟨rfl, rfl⟩
  · rw [show digI r = false by simp [digI, h1]]
    go_enter Tryd.func20, Tryd.ntmps20
    go_wp2
    go_ret
    exact ⟨rfl, rfl⟩
theorem letter23 (r : Int) (w : World) : Calls Tryd.prog 23 #[.int .i32 r] w fun e w' => e = .returned (.bool (ltrI r)) ∧ w' = w := by
  by_cases h1 : 97 ≤ r
  · by_cases h2 : r ≤ 122
    · rw [show ltrI r = true by simp [ltrI, h1, h2]]
      go_enter Tryd.func23, Tryd.ntmps23
      go_wp2
      go_ret
      exact ⟨rfl, rfl⟩
    · have h3 : 65 ≤ r := by omega
      have h4 : ¬ r ≤ 90 := by omega
      rw [show ltrI r = false by simp [ltrI, h2, h4]]
      go_enter Tryd.func23, Tryd.ntmps23
      go_wp2
      go_ret
      exact ⟨rfl, rfl⟩
  · by_cases h3 : 65 ≤ r
    · by_cases h4 : r ≤ 90
      · rw [show ltrI r = true by simp [ltrI, h3, h4]]
        go_enter Tryd.func23, Tryd.ntmps23
        go_wp2
        go_ret
        exact ⟨rfl, rfl⟩
      · rw [show ltrI r = false by simp [ltrI, h1, h4]]
        go_enter Tryd.func23, Tryd.ntmps23
        go_wp2
        go_ret
        exact ⟨rfl, rfl⟩
    · rw [show ltrI r = false by simp [ltrI, h1, h3]]
      go_enter Tryd.func23, Tryd.ntmps23
      go_wp2
      go_ret
      exact ⟨rfl, rfl⟩
theorem goes25 (r : Int) (w : World) : Calls Tryd.prog 25 #[.int .i32 r] w fun e w' => e = .returned (.bool (goI r)) ∧ w' = w := by
  have c23 := letter23 r w
  have c20 := digit20 r w
  unfold goI
  generalize ltrI r = x at *
  generalize digI r = y at *
  cases x
  · cases y
    · by_cases h : r = 95
      · subst h
        go_enter Tryd.func25, Tryd.ntmps25
        go_wp2_with (first
          | (go_at_call 23; refine c23.mono ?_; rintro e w1 ⟨rfl, rfl⟩)
          | (go_at_call 20; refine c20.mono ?_; rintro e w1 ⟨rfl, rfl⟩))
        go_ret
        exact ⟨by simp, rfl⟩
      · go_enter Tryd.func25, Tryd.ntmps25
        go_wp2_with (first
          | (go_at_call 23; refine c23.mono ?_; rintro e w1 ⟨rfl, rfl⟩)
          | (go_at_call 20; refine c20.mono ?_; rintro e w1 ⟨rfl, rfl⟩))
        go_ret
        exact ⟨by simp [h], rfl⟩
    · go_enter Tryd.func25, Tryd.ntmps25
      go_wp2_with (first
        | (go_at_call 23; refine c23.mono ?_; rintro e w1 ⟨rfl, rfl⟩)
        | (go_at_call 20; refine c20.mono ?_; rintro e w1 ⟨rfl, rfl⟩))
      go_ret
      exact ⟨by simp, rfl⟩
  · go_enter Tryd.func25, Tryd.ntmps25
    go_wp2_with (first
      | (go_at_call 23; refine c23.mono ?_; rintro e w1 ⟨rfl, rfl⟩)
      | (go_at_call 20; refine c20.mono ?_; rintro e w1 ⟨rfl, rfl⟩))
    go_ret
    exact ⟨by simp, rfl⟩
theorem spaced15 (r : Int) (w : World) : Calls Tryd.prog 15 #[.int .i32 r] w fun e w' => e = .returned (.bool (spcI r)) ∧ w' = w := by
  by_cases h1 : r = 32
  · rw [show spcI r = true by simp [spcI, h1]]
    go_enter Tryd.func15, Tryd.ntmps15
    go_wp2
    go_ret
    exact ⟨rfl, rfl⟩
  · by_cases h2 : r = 9
    · rw [show spcI r = true by simp [spcI, h2]]
      go_enter Tryd.func15, Tryd.ntmps15
      go_wp2
      go_ret
      exact ⟨rfl, rfl⟩
    · by_cases h3 : r = 10
      · rw [show spcI r = true by simp [spcI, h3]]
        go_enter Tryd.func15, Tryd.ntmps15
        go_wp2
        go_ret
        exact ⟨rfl, rfl⟩
      · by_cases h4 : r = 13
        · rw [show spcI r = true by simp [spcI, h4]]
          go_enter Tryd.func15, Tryd.ntmps15
          go_wp2
          go_ret
          exact ⟨rfl, rfl⟩
        · rw [show spcI r = false by simp [spcI, h1, h2, h3, h4]]
          go_enter Tryd.func15, Tryd.ntmps15
          go_wp2
          go_ret
          exact ⟨rfl, rfl⟩

set_option maxHeartbeats 2000000 in
theorem run22 (k : Nat) (p : Int → Bool) (hp : ∀ r, 128 ≤ r → p r = false) (hk : k = 20 ∨ k = 25) (hc : ∀ (r : Int) (w : World), Calls Tryd.prog k #[.int .i32 r] w fun e w' => e = .returned (.bool (p r)) ∧ w' = w) (s : ByteArray) (w : World) :
    Calls Tryd.prog 22 #[.string s, .func (.func k) #[] #[]] w fun e w' => e = .returned (.int .i64 (runP p (bs s) : Nat)) ∧ Below w.heap.size w w' := by
  rcases hk with rfl | rfl
  all_goals
    go_enter Tryd.func22, Tryd.ntmps22
    go_wp2
    go_loopw [] (fun w' => ∃ (pos : Nat), w' = w.iter s pos ∧ pos ≤ s.size ∧ Hid (runP p (bs s) = pos + runP p ((bs s).drop pos))) (fun w' => s.size - w'.iterPos w.heap.size)
    case atStart => exact ⟨0, rfl, Nat.zero_le _, by show _ = _; simp⟩
    case round =>
      obtain ⟨pos, rfl, hps, hrun⟩ := hrel
      by_cases hlt : pos < s.size
      · have hnx : ∀ ty, (Instr.next (.pointer (some ⟨w.heap.size, 0, none⟩)) true ty).run Tryd.prog (w.iter s pos) = _ := fun ty => run_next_any w s pos ty hlt
        have hwd := width_pos s pos
        have hwl := rest_width hlt
        have hcons := rest_cons hlt
        have hdec := rest_decode s pos
        have hhb := high_bytes _ (rest_ne hlt)
        generalize hb : s[pos]'hlt = b at hcons
        obtain ⟨r, hr⟩ : ∃ r, (Utf8.decode s pos).1 = r := ⟨_, rfl⟩
        obtain ⟨wd, hw⟩ : ∃ k, (Utf8.decode s pos).2 = k := ⟨_, rfl⟩
        rw [hr, hw] at hnx
        rw [hw] at hwd hwl
        have hpr : p (r : Int) = p (b.toNat : Int) ∧ (p (b.toNat : Int) = true → wd = 1) := by
          by_cases hlow : b.toNat < 128
          · have hd : decodeL ((bs s).drop pos) = (b.toNat, 1) := by rw [hcons]; exact ascii_head hlow
            have hr1 : r = b.toNat := by rw [← hr, ← hdec, hd]
            have hw1 : wd = 1 := by rw [← hw, ← hdec, hd]
            exact ⟨by rw [hr1], fun _ => hw1⟩
          · have := (hhb (by rw [hcons]; simpa using hlow)).1
            rw [hdec, hr] at this
            rw [hp _ (by omega : (128 : Int) ≤ (r : Int)), hp _ (by omega : (128 : Int) ≤ (b.toNat : Int))]
            exact ⟨rfl, fun h => by simp at h⟩
        have cc := hc (r : Int)
        rw [hpr.1] at cc
        cases hpb : p (b.toNat : Int)
        · rw [hpb] at cc
          have HR : Hid (runP p (bs s) = pos) := by
            show _ = _
            rw [hrun.out, hcons, runP_no hpb]; rfl
          clear hrun hhb hdec hcons hr hw hpr
          go_wp2_with (first | (go_at_call 20; refine (cc _).mono ?_; rintro e w1 ⟨rfl, rfl⟩) | (go_at_call 25; refine (cc _).mono ?_; rintro e w1 ⟨rfl, rfl⟩))
          go_ret
          exact ⟨by rw [HR.out]; rfl, iter_below w s _⟩
        · rw [hpb] at cc
          obtain rfl : wd = 1 := hpr.2 hpb
          have HR : Hid (runP p (bs s) = (pos + 1) + runP p ((bs s).drop (pos + 1))) := by
            show _ = _
            rw [hrun.out, hcons, runP_yes hpb]; omega
          clear hrun hhb hdec hcons hr hw hpr
          go_wp2_with (first | (go_at_call 20; refine (cc _).mono ?_; rintro e w1 ⟨rfl, rfl⟩) | (go_at_call 25; refine (cc _).mono ?_; rintro e w1 ⟨rfl, rfl⟩))
          go_roundw
          case rel => exact ⟨pos + 1, rfl, by omega, HR⟩
          case measure =>
            simp
            omega
      · have hnx : ∀ ty, (Instr.next (.pointer (some ⟨w.heap.size, 0, none⟩)) true ty).run Tryd.prog (w.iter s pos) = _ := fun ty => run_next_end w s pos ty hlt
        have HR : Hid (runP p (bs s) = s.size) := by
          show _ = _
          rw [hrun.out, rest_nil hlt, runP_nil]; omega
        clear hrun
        go_wp2
        go_ret
        exact ⟨by rw [HR.out]; rfl, iter_below w s _⟩

/-! ### tokens -/
abbrev TV (k : Int) (s : ByteArray) (n a : Int) : Value := .agg #[.int .u8 k, .string s, .int .i64 n, .int .i64 a]
theorem set4 {w W : World} (h : Below w.heap.size w W) (x0 x1 x2 x3 : Value) : Below w.heap.size w ((((W.setCell ⟨w.heap.size, 0, none⟩ x0).setCell ⟨w.heap.size, 1, none⟩ x1).setCell ⟨w.heap.size, 2, none⟩ x2).setCell ⟨w.heap.size, 3, none⟩ x3) :=
  (((h.setCell (Nat.le_refl _) x0).setCell (Nat.le_refl _) x1).setCell (Nat.le_refl _) x2).setCell (Nat.le_refl _) x3

set_option maxHeartbeats 2000000 in
theorem word24 (s : ByteArray) (w : World) :
    Calls Tryd.prog 24 #[.string s] w fun e w' => e = .returned (.tuple #[TV (wordT (bs s)).1 (str (wordT (bs s)).2.1) (wordT (bs s)).2.2.1 0, .int .i64 ((wordT (bs s)).2.2.2 : Nat)]) ∧ Below w.heap.size w w' := by
  unfold wordT
  rw [bs_length]
  by_cases h : 12 < s.size
  · rw [if_pos h]
    have h1 : (12 : Int) < (s.size : Int) := by omega
    go_enter Tryd.func24, Tryd.ntmps24
    go_wp2
    exact bodyPost_ret (v := .tuple #[TV 0 ⟨#[]⟩ 0 0, .int .i64 0]) (by simp [results, Tryd.results24, go_sem]) rfl ⟨rfl, al _ _⟩
  · rw [if_neg h]
    have h1 : ¬ (12 : Int) < (s.size : Int) := by omega
    have c35 := fun w1 => fold19 s w1
    generalize str (foldR (bs s)) = t at *
    go_enter Tryd.func24, Tryd.ntmps24
    go_wp2_with (go_at_call 35; refine (c35 _).mono ?_; rintro e w1 ⟨rfl, hb⟩; have e0 := new_cells hb 0; have e1 := new_cells hb 1; have e2 := new_cells hb 2; have e3 := new_cells hb 3; simp at e0 e1 e2 e3; obtain ⟨e0, f0⟩ := e0; obtain ⟨e1, f1⟩ := e1; obtain ⟨e2, f2⟩ := e2; obtain ⟨e3, f3⟩ := e3)
    exact bodyPost_ret (v := .tuple #[TV 1 t 0 0, .int .i64 (s.size : Int)]) (by simp [results, Tryd.results24, go_sem, e0, e1, e2, e3]) rfl ⟨rfl, set4 (bmore (al _ _) hb) _ _ _ _⟩

set_option maxHeartbeats 2000000 in
theorem quoted26 (s : ByteArray) (w : World) (hs : s.size ≤ 1000) (hg : Good w) :
    Calls Tryd.prog 26 #[.string s] w fun e w' => e = .returned (.tuple #[TV (quoT (bs s)).1 (str (quoT (bs s)).2.1) (quoT (bs s)).2.2.1 0, .int .i64 ((quoT (bs s)).2.2.2 : Nat)]) ∧ Below w.heap.size w w' := by
  have hgo : ∀ o, Good (w.alloc o) := fun o => hg.below (al _ _)
  have c36 := fun w1 h => unquote27 s w1 (by omega) h
  unfold quoT
  obtain ⟨x, hx⟩ : ∃ x, (unq (bs s)).1 = x := ⟨_, rfl⟩
  obtain ⟨m, hm⟩ : ∃ m, (unq (bs s)).2.1 = m := ⟨_, rfl⟩
  obtain ⟨er, her⟩ : ∃ er, (unq (bs s)).2.2 = er := ⟨_, rfl⟩
  rw [hx, hm, her] at c36
  rw [hx, hm, her]
  clear hx hm her
  by_cases h0 : er = 0
  · subst h0
    rw [if_pos rfl]
    generalize str x = t at *
    go_enter Tryd.func26, Tryd.ntmps26
    go_wp2_with (go_at_call 36; refine (c36 _ (hgo _)).mono ?_; rintro e w1 ⟨rfl, hb⟩; have e0 := new_cells hb 0; have e1 := new_cells hb 1; have e2 := new_cells hb 2; have e3 := new_cells hb 3; simp at e0 e1 e2 e3; obtain ⟨e0, f0⟩ := e0; obtain ⟨e1, f1⟩ := e1; obtain ⟨e2, f2⟩ := e2; obtain ⟨e3, f3⟩ := e3)
    exact bodyPost_ret (v := .tuple #[TV 3 t 0 0, .int .i64 (m : Int)]) (by simp [results, Tryd.results26, go_sem, e0, e1, e2, e3]) rfl ⟨rfl, set4 (bmore (al _ _) hb) _ _ _ _⟩
  · rw [if_neg h0]
    have hez : ¬ ((er : Int) = 0) := by omega
    generalize str x = t at *
    go_enter Tryd.func26, Tryd.ntmps26
    go_wp2_with (go_at_call 36; refine (c36 _ (hgo _)).mono ?_; rintro e w1 ⟨rfl, hb⟩; have e0 := new_cells hb 0; have e1 := new_cells hb 1; have e2 := new_cells hb 2; have e3 := new_cells hb 3; simp at e0 e1 e2 e3; obtain ⟨e0, f0⟩ := e0; obtain ⟨e1, f1⟩ := e1; obtain ⟨e2, f2⟩ := e2; obtain ⟨e3, f3⟩ := e3)
    exact bodyPost_ret (v := .tuple #[TV 0 ⟨#[]⟩ 0 0, .int .i64 0]) (by simp [results, Tryd.results26, go_sem, e0, e1, e2, e3]) rfl ⟨rfl, set4 (bmore (al _ _) hb) _ _ _ _⟩

set_option maxHeartbeats 2000000 in
theorem number21 (s : ByteArray) (w : World) (hs : s.size ≤ 1000) (hg : Good w) :
    Calls Tryd.prog 21 #[.string s] w fun e w' => e = .returned (.tuple #[TV (numT (bs s)).1 (str (numT (bs s)).2.1) (numT (bs s)).2.2.1 0, .int .i64 ((numT (bs s)).2.2.2 : Nat)]) ∧ Below w.heap.size w w' := by
  have hgo : ∀ o, Good (w.alloc o) := fun o => hg.below (al _ _)
  have c34 := fun w1 h => parse19 s w1 hs h
  unfold numT
  rw [bs_length]
  generalize (prsV (bs s)).1 = k at *
  generalize (prsV (bs s)).2.1 = n at *
  generalize str (prsV (bs s)).2.2.1 = x at *
  generalize (prsV (bs s)).2.2.2 = er at *
  by_cases h0 : er = 0
  · subst h0
    rw [if_pos rfl]
    go_enter Tryd.func21, Tryd.ntmps21
    go_wp2_with (go_at_call 34; refine (c34 _ (hgo _)).mono ?_; rintro e w1 ⟨rfl, hb⟩; have e0 := new_cells hb 0; have e1 := new_cells hb 1; have e2 := new_cells hb 2; have e3 := new_cells hb 3; simp at e0 e1 e2 e3; obtain ⟨e0, f0⟩ := e0; obtain ⟨e1, f1⟩ := e1; obtain ⟨e2, f2⟩ := e2; obtain ⟨e3, f3⟩ := e3; have hz : w.heap.size < w1.heap.size := by { have := hb.size; simp at this; omega }; have hnz : ¬ (w.heap.size = w1.heap.size) := by omega)
    exact bodyPost_ret (v := .tuple #[TV 2 s n 0, .int .i64 (s.size : Int)]) (by simp [results, Tryd.results21, go_sem, e0, e1, e2, e3, hnz, World.cell?_alloc_old]) rfl ⟨by rw [str_bs]; rfl, (set4 (bmore (al _ _) hb) _ _ _ _).alloc (by simp; omega) _⟩
  · rw [if_neg h0]
    have hez : ¬ ((er : Int) = 0) := by omega
    go_enter Tryd.func21, Tryd.ntmps21
    go_wp2_with (go_at_call 34; refine (c34 _ (hgo _)).mono ?_; rintro e w1 ⟨rfl, hb⟩; have e0 := new_cells hb 0; have e1 := new_cells hb 1; have e2 := new_cells hb 2; have e3 := new_cells hb 3; simp at e0 e1 e2 e3; obtain ⟨e0, f0⟩ := e0; obtain ⟨e1, f1⟩ := e1; obtain ⟨e2, f2⟩ := e2; obtain ⟨e3, f3⟩ := e3; have hz : w.heap.size < w1.heap.size := by { have := hb.size; simp at this; omega }; have hnz : ¬ (w.heap.size = w1.heap.size) := by omega)
    exact bodyPost_ret (v := .tuple #[TV 0 ⟨#[]⟩ 0 0, .int .i64 0]) (by simp [results, Tryd.results21, go_sem, e0, e1, e2, e3, hnz, World.cell?_alloc_old]) rfl ⟨rfl, (set4 (bmore (al _ _) hb) _ _ _ _).alloc (by simp; omega) _⟩

end Go.Proofs.YthebpkcnhghofaaDoor
