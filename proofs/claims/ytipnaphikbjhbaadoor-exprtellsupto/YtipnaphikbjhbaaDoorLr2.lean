/- The reference's next: the token that a text begins with. -/
import Derived.Test.YtipnaphikbjhbaaDoorLr1
import Derived.BigQuiet
namespace Go.Proofs.YtipnaphikbjhbaaDoor
open Go.RowKit Go.Lib Go.Joins
set_option maxRecDepth 100000

/-- Where there is no token, nothing is told. -/
def clr (x : Q4) : Q4 := if x.2.2.2 = 0 then (0, [], 0, 0) else x
theorem clr_num (d : Bs) (hd : d ≠ []) : clr (numT d) = numT d := by
  unfold clr numT
  split
  · rw [if_neg]
    intro h
    exact hd (List.eq_nil_of_length_eq_zero h)
  · rfl
set_option maxHeartbeats 4000000 in
theorem rnext18_num (s : ByteArray) (b : UInt8) (t : Bs) (hs : s.size ≤ 1000) (ht : bs s = b :: t) (w : World) (hg : Good w) (hl : ltrI (b.toNat : Int) = false) (hd : digI (b.toNat : Int) = true ∨ b = 45) :
    Calls Tryd.prog 57 #[.string s] w (BegPost w (numT ((b :: t).take (1 + runP digI t)))) := by
  have hgo : ∀ o, Good (w.alloc o) := fun o => hg.below (al _ _)
  have hsz : 0 < s.size := by rw [← bs_length, ht]; simp
  have hr := runP_le digI t
  have htl : t.length + 1 = s.size := by rw [← bs_length, ht]; simp
  have hb0 : s[0]'hsz = b := by
    have := rest_cons hsz
    rw [List.drop_zero, ht] at this
    exact (List.cons.inj this).1.symm
  have c27 := fun w1 => rletter27 (b.toNat : Int) w1
  have c30 := fun w1 => rdigit30 (b.toNat : Int) w1
  rw [hl] at c27
  have c28 := fun w1 => rrun28 false digI (fun r => by simp) (s.extract 1 s.size) w1 (by simp; omega)
  rw [bs_drop1 ht] at c28
  have c31 := fun w1 h => parse20 (s.extract 0 (1 + runP digI t)) w1 (by simp; omega) h
  rw [bs_take, ht, prs_same] at c31
  have HL : Hid (((b :: t).take (1 + runP digI t)).length = 1 + runP digI t) := by show _ = _; rw [List.length_take]; simp; omega
  have HS : Hid (str ((b :: t).take (1 + runP digI t)) = s.extract 0 (1 + runP digI t)) := by show _ = _; rw [← ht, ← bs_take, str_bs]
  unfold BegPost numT
  rw [HL.out]
  generalize (prsV ((b :: t).take (1 + runP digI t))).1 = k at *
  generalize (prsV ((b :: t).take (1 + runP digI t))).2.1 = n at *
  generalize str (prsV ((b :: t).take (1 + runP digI t))).2.2.1 = x at *
  generalize (prsV ((b :: t).take (1 + runP digI t))).2.2.2 = er at *
  generalize ((b :: t).take (1 + runP digI t)) = dd at *
  generalize runP digI t = m at *
  have z1 : (1 : Int) ≤ (s.size : Int) := by omega
  have z2 : (1 : Int) + (m : Int) ≤ (s.size : Int) := by omega
  have z3 : (0 : Int) ≤ (1 : Int) + (m : Int) := by omega
  have z4 : ((1 : Int) + (m : Int)).toNat = 1 + m := by omega
  have z5 : (0 : Int) < (s.size : Int) := by omega
  clear ht hl HL
  by_cases h0 : er = 0
  · subst h0
    rw [if_pos rfl]
    simp only
    rw [HS.out]
    cases hdd : digI (b.toNat : Int)
    · rw [hdd] at c30
      obtain rfl : b = 45 := by rcases hd with h | h; exact absurd (h.symm.trans hdd) (by simp); exact h
      have c27' : ∀ w1, Calls Tryd.prog 60 #[.int .u8 45] w1 fun e w' => e = .returned (.bool false) ∧ w' = w1 := c27
      have c30' : ∀ w1, Calls Tryd.prog 63 #[.int .u8 45] w1 fun e w' => e = .returned (.bool false) ∧ w' = w1 := c30
      clear c27 c30 hd hdd HS
      go_enter Tryd.func57, Tryd.ntmps57
      go_wp2_with (first
        | (go_at_call 60; refine (c27' _).mono ?_; rintro e w0 ⟨rfl, rfl⟩)
        | (go_at_call 63; refine (c30' _).mono ?_; rintro e w0 ⟨rfl, rfl⟩)
        | (go_at_call 61; refine (c28 _).mono ?_; rintro e w0 ⟨rfl, rfl⟩)
        | (go_at_call 64; refine (c31 _ (hgo _)).mono ?_; rintro e w1 ⟨rfl, hb⟩; have e0 := new_cells hb 0; have e1 := new_cells hb 1; have e2 := new_cells hb 2; have e3 := new_cells hb 3; simp at e0 e1 e2 e3; obtain ⟨e0, f0⟩ := e0; obtain ⟨e1, f1⟩ := e1; obtain ⟨e2, f2⟩ := e2; obtain ⟨e3, f3⟩ := e3; have hz : w.heap.size < w1.heap.size := by { have := hb.size; simp at this; omega }; have hnz : ¬ (w.heap.size = w1.heap.size) := by omega))
      go_region
      go_wp2
      exact bodyPost_ret (v := .tuple #[TV 2 (s.extract 0 (1 + m)) n 0, .int .i64 (1 + (m : Int))]) (by simp [results, Tryd.results57, go_sem, e0, e1, e2, e3, hnz, World.cell?_alloc_old]) rfl ⟨by simp, ((set4 (bmore (al _ _) hb) _ _ _ _).alloc (by simp; omega) _).drew⟩
    · rw [hdd] at c30
      clear hd hdd HS
      go_enter Tryd.func57, Tryd.ntmps57
      go_wp2_with (first
        | (go_at_call 60; refine (c27 _).mono ?_; rintro e w0 ⟨rfl, rfl⟩)
        | (go_at_call 63; refine (c30 _).mono ?_; rintro e w0 ⟨rfl, rfl⟩)
        | (go_at_call 61; refine (c28 _).mono ?_; rintro e w0 ⟨rfl, rfl⟩)
        | (go_at_call 64; refine (c31 _ (hgo _)).mono ?_; rintro e w1 ⟨rfl, hb⟩; have e0 := new_cells hb 0; have e1 := new_cells hb 1; have e2 := new_cells hb 2; have e3 := new_cells hb 3; simp at e0 e1 e2 e3; obtain ⟨e0, f0⟩ := e0; obtain ⟨e1, f1⟩ := e1; obtain ⟨e2, f2⟩ := e2; obtain ⟨e3, f3⟩ := e3; have hz : w.heap.size < w1.heap.size := by { have := hb.size; simp at this; omega }; have hnz : ¬ (w.heap.size = w1.heap.size) := by omega))
      go_region
      go_wp2
      exact bodyPost_ret (v := .tuple #[TV 2 (s.extract 0 (1 + m)) n 0, .int .i64 (1 + (m : Int))]) (by simp [results, Tryd.results57, go_sem, e0, e1, e2, e3, hnz, World.cell?_alloc_old]) rfl ⟨by simp, ((set4 (bmore (al _ _) hb) _ _ _ _).alloc (by simp; omega) _).drew⟩
  · rw [if_neg h0]
    have hez : ¬ ((er : Int) = 0) := by omega
    cases hdd : digI (b.toNat : Int)
    · rw [hdd] at c30
      obtain rfl : b = 45 := by rcases hd with h | h; exact absurd (h.symm.trans hdd) (by simp); exact h
      have c27' : ∀ w1, Calls Tryd.prog 60 #[.int .u8 45] w1 fun e w' => e = .returned (.bool false) ∧ w' = w1 := c27
      have c30' : ∀ w1, Calls Tryd.prog 63 #[.int .u8 45] w1 fun e w' => e = .returned (.bool false) ∧ w' = w1 := c30
      clear c27 c30 hd hdd HS
      go_enter Tryd.func57, Tryd.ntmps57
      go_wp2_with (first
        | (go_at_call 60; refine (c27' _).mono ?_; rintro e w0 ⟨rfl, rfl⟩)
        | (go_at_call 63; refine (c30' _).mono ?_; rintro e w0 ⟨rfl, rfl⟩)
        | (go_at_call 61; refine (c28 _).mono ?_; rintro e w0 ⟨rfl, rfl⟩)
        | (go_at_call 64; refine (c31 _ (hgo _)).mono ?_; rintro e w1 ⟨rfl, hb⟩; have e0 := new_cells hb 0; have e1 := new_cells hb 1; have e2 := new_cells hb 2; have e3 := new_cells hb 3; simp at e0 e1 e2 e3; obtain ⟨e0, f0⟩ := e0; obtain ⟨e1, f1⟩ := e1; obtain ⟨e2, f2⟩ := e2; obtain ⟨e3, f3⟩ := e3; have hz : w.heap.size < w1.heap.size := by { have := hb.size; simp at this; omega }; have hnz : ¬ (w.heap.size = w1.heap.size) := by omega))
      exact bodyPost_ret (v := .tuple #[TV 0 ⟨#[]⟩ 0 0, .int .i64 0]) (by simp [results, Tryd.results57, go_sem, e0, e1, e2, e3, hnz, World.cell?_alloc_old]) rfl ⟨rfl, (set4 (bmore (al _ _) hb) _ _ _ _).alloc (by simp; omega) _⟩
    · rw [hdd] at c30
      clear hd hdd HS
      go_enter Tryd.func57, Tryd.ntmps57
      go_wp2_with (first
        | (go_at_call 60; refine (c27 _).mono ?_; rintro e w0 ⟨rfl, rfl⟩)
        | (go_at_call 63; refine (c30 _).mono ?_; rintro e w0 ⟨rfl, rfl⟩)
        | (go_at_call 61; refine (c28 _).mono ?_; rintro e w0 ⟨rfl, rfl⟩)
        | (go_at_call 64; refine (c31 _ (hgo _)).mono ?_; rintro e w1 ⟨rfl, hb⟩; have e0 := new_cells hb 0; have e1 := new_cells hb 1; have e2 := new_cells hb 2; have e3 := new_cells hb 3; simp at e0 e1 e2 e3; obtain ⟨e0, f0⟩ := e0; obtain ⟨e1, f1⟩ := e1; obtain ⟨e2, f2⟩ := e2; obtain ⟨e3, f3⟩ := e3; have hz : w.heap.size < w1.heap.size := by { have := hb.size; simp at this; omega }; have hnz : ¬ (w.heap.size = w1.heap.size) := by omega))
      exact bodyPost_ret (v := .tuple #[TV 0 ⟨#[]⟩ 0 0, .int .i64 0]) (by simp [results, Tryd.results57, go_sem, e0, e1, e2, e3, hnz, World.cell?_alloc_old]) rfl ⟨rfl, (set4 (bmore (al _ _) hb) _ _ _ _).alloc (by simp; omega) _⟩

theorem byte0 {s : ByteArray} {b : UInt8} {t : Bs} (ht : bs s = b :: t) : ∃ h : 0 < s.size, s[0]'h = b := by
  have hsz : 0 < s.size := by rw [← bs_length, ht]; simp
  refine ⟨hsz, ?_⟩
  have := rest_cons hsz
  rw [List.drop_zero, ht] at this
  exact (List.cons.inj this).1.symm
set_option maxHeartbeats 4000000 in
theorem rnext18_word (s : ByteArray) (b : UInt8) (t : Bs) (hs : s.size ≤ 1000) (ht : bs s = b :: t) (w : World) (hl : ltrI (b.toNat : Int) = true) :
    Calls Tryd.prog 57 #[.string s] w (BegPost w (wordT ((bs s).take (runP goI (bs s))))) := by
  obtain ⟨hsz, hb0⟩ := byte0 ht
  have z5 : (0 : Int) < (s.size : Int) := by omega
  have hr := runP_le goI (bs s)
  rw [bs_length] at hr
  have c27 := fun w1 => rletter27 (b.toNat : Int) w1
  rw [hl] at c27
  have c28 := fun w1 => rrun28 true goI (fun r => by unfold goI; cases ltrI r <;> cases digI r <;> simp) s w1 hs
  have c29 := fun w1 => fold20 (s.extract 0 (runP goI (bs s))) w1 (by simp; omega)
  rw [bs_take] at c29
  have HL : Hid (((bs s).take (runP goI (bs s))).length = runP goI (bs s)) := by show _ = _; rw [List.length_take, bs_length]; omega
  unfold BegPost wordT
  rw [HL.out]
  generalize foldR ((bs s).take (runP goI (bs s))) = fx at *
  generalize runP goI (bs s) = m at *
  have z2 : (m : Int) ≤ (s.size : Int) := by omega
  clear ht hl HL hr
  by_cases h12 : 12 < m
  · rw [if_pos h12]
    have h12i : (12 : Int) < (m : Int) := by omega
    go_enter Tryd.func57, Tryd.ntmps57
    go_wp2_with (first
      | (go_at_call 60; refine (c27 _).mono ?_; rintro e w0 ⟨rfl, rfl⟩)
      | (go_at_call 61; refine (c28 _).mono ?_; rintro e w0 ⟨rfl, rfl⟩))
    exact bodyPost_ret (v := .tuple #[TV 0 ⟨#[]⟩ 0 0, .int .i64 0]) (by simp [results, Tryd.results57, go_sem]) rfl ⟨rfl, al _ _⟩
  · rw [if_neg h12]
    simp only
    generalize str fx = x at *
    have h12i : ¬ (12 : Int) < (m : Int) := by omega
    go_enter Tryd.func57, Tryd.ntmps57
    go_wp2_with (first
      | (go_at_call 60; refine (c27 _).mono ?_; rintro e w0 ⟨rfl, rfl⟩)
      | (go_at_call 61; refine (c28 _).mono ?_; rintro e w0 ⟨rfl, rfl⟩)
      | (go_at_call 62; refine (c29 _).mono ?_; rintro e w1 ⟨rfl, hb⟩; have e0 := new_cells hb 0; have e1 := new_cells hb 1; have e2 := new_cells hb 2; have e3 := new_cells hb 3; simp at e0 e1 e2 e3; obtain ⟨e0, f0⟩ := e0; obtain ⟨e1, f1⟩ := e1; obtain ⟨e2, f2⟩ := e2; obtain ⟨e3, f3⟩ := e3))
    exact bodyPost_ret (v := .tuple #[TV 1 x 0 0, .int .i64 (m : Int)]) (by simp [results, Tryd.results57, go_sem, e0, e1, e2, e3]) rfl ⟨rfl, set4 (bmore (al _ _) hb) _ _ _ _⟩

set_option maxHeartbeats 4000000 in
theorem rnext18_quo (s : ByteArray) (t : Bs) (hs : s.size ≤ 1000) (ht : bs s = 39 :: t) (w : World) (hg : Good w) :
    Calls Tryd.prog 57 #[.string s] w (BegPost w (quoT (bs s))) := by
  have hgo : ∀ o, Good (w.alloc o) := fun o => hg.below (al _ _)
  obtain ⟨hsz, hb0⟩ := byte0 ht
  have z5 : (0 : Int) < (s.size : Int) := by omega
  have c27 : ∀ w1, Calls Tryd.prog 60 #[.int .u8 39] w1 fun e w' => e = .returned (.bool false) ∧ w' = w1 := fun w1 => rletter27 39 w1
  have c30 : ∀ w1, Calls Tryd.prog 63 #[.int .u8 39] w1 fun e w' => e = .returned (.bool false) ∧ w' = w1 := fun w1 => rdigit30 39 w1
  have c32 := fun w1 h => unquote28 s w1 (by omega) h
  unfold BegPost quoT
  obtain ⟨x, hx⟩ : ∃ x, (unq (bs s)).1 = x := ⟨_, rfl⟩
  obtain ⟨m, hm⟩ : ∃ m, (unq (bs s)).2.1 = m := ⟨_, rfl⟩
  obtain ⟨er, her⟩ : ∃ er, (unq (bs s)).2.2 = er := ⟨_, rfl⟩
  rw [hx, hm, her] at c32
  rw [hx, hm, her]
  clear hx hm her ht
  by_cases h0 : er = 0
  · subst h0
    rw [if_pos rfl]
    simp only
    generalize str x = xs at *
    go_enter Tryd.func57, Tryd.ntmps57
    go_wp2_with (first
      | (go_at_call 60; refine (c27 _).mono ?_; rintro e w0 ⟨rfl, rfl⟩)
      | (go_at_call 63; refine (c30 _).mono ?_; rintro e w0 ⟨rfl, rfl⟩)
      | (go_at_call 65; refine (c32 _ (hgo _)).mono ?_; rintro e w1 ⟨rfl, hb⟩; have e0 := new_cells hb 0; have e1 := new_cells hb 1; have e2 := new_cells hb 2; have e3 := new_cells hb 3; simp at e0 e1 e2 e3; obtain ⟨e0, f0⟩ := e0; obtain ⟨e1, f1⟩ := e1; obtain ⟨e2, f2⟩ := e2; obtain ⟨e3, f3⟩ := e3))
    exact bodyPost_ret (v := .tuple #[TV 3 xs 0 0, .int .i64 (m : Int)]) (by simp [results, Tryd.results57, go_sem, e0, e1, e2, e3]) rfl ⟨rfl, set4 (bmore (al _ _) hb) _ _ _ _⟩
  · rw [if_neg h0]
    have hez : ¬ ((er : Int) = 0) := by omega
    generalize str x = xs at *
    go_enter Tryd.func57, Tryd.ntmps57
    go_wp2_with (first
      | (go_at_call 60; refine (c27 _).mono ?_; rintro e w0 ⟨rfl, rfl⟩)
      | (go_at_call 63; refine (c30 _).mono ?_; rintro e w0 ⟨rfl, rfl⟩)
      | (go_at_call 65; refine (c32 _ (hgo _)).mono ?_; rintro e w1 ⟨rfl, hb⟩; have e0 := new_cells hb 0; have e1 := new_cells hb 1; have e2 := new_cells hb 2; have e3 := new_cells hb 3; simp at e0 e1 e2 e3; obtain ⟨e0, f0⟩ := e0; obtain ⟨e1, f1⟩ := e1; obtain ⟨e2, f2⟩ := e2; obtain ⟨e3, f3⟩ := e3))
    exact bodyPost_ret (v := .tuple #[TV 0 ⟨#[]⟩ 0 0, .int .i64 0]) (by simp [results, Tryd.results57, go_sem, e0, e1, e2, e3]) rfl ⟨rfl, set4 (bmore (al _ _) hb) _ _ _ _⟩

theorem str_empty {l : Bs} : (str l).toList.isEmpty = decide (l = []) := by
  rw [empty_test, bs_str]
set_option maxHeartbeats 4000000 in
theorem rnext18_sgn (s : ByteArray) (b : UInt8) (t : Bs) (ht : bs s = b :: t) (w : World) (h45 : b ≠ 45) (hd : digI (b.toNat : Int) = false) (hl : ltrI (b.toNat : Int) = false) (h39 : b ≠ 39) :
    Calls Tryd.prog 57 #[.string s] w (BegPost w (clr (sgnT (bs s)))) := by
  obtain ⟨hsz, hb0⟩ := byte0 ht
  have z5 : (0 : Int) < (s.size : Int) := by omega
  have c27 := fun w1 => rletter27 (b.toNat : Int) w1
  have c30 := fun w1 => rdigit30 (b.toNat : Int) w1
  rw [hl] at c27
  rw [hd] at c30
  have c14 := fun w1 => rsigned14 s w1
  have b45 : ¬ b.toNat = 45 := fun e => h45 (UInt8.toNat_inj.1 (by show b.toNat = 45; exact e))
  have b39 : ¬ b.toNat = 39 := fun e => h39 (UInt8.toNat_inj.1 (by show b.toNat = 39; exact e))
  have b45i : ¬ (b.toNat : Int) = 45 := by omega
  have b39i : ¬ (b.toNat : Int) = 39 := by omega
  unfold BegPost clr sgnT
  simp only
  have HZ : Hid ((str (signB (bs s))).size = (signB (bs s)).length) := str_size _
  have HE : Hid ((str (signB (bs s)) = ⟨#[]⟩) ↔ signB (bs s) = []) := by
    show _ ↔ _
    constructor
    · intro e; have := congrArg bs e; rw [bs_str] at this; exact this
    · intro e; rw [e]
  generalize signB (bs s) = x at *
  clear ht hd hl
  by_cases h0 : x = []
  · subst h0
    rw [if_pos (show ([] : Bs).length = 0 from rfl)]
    have c14' : ∀ w1, Calls Tryd.prog 66 #[.string s] w1 fun e w' => e = .returned (.string ⟨#[]⟩) ∧ Below w1.heap.size w1 w' := c14
    clear c14 HZ HE
    go_enter Tryd.func57, Tryd.ntmps57
    go_wp2_with (first
      | (go_at_call 60; refine (c27 _).mono ?_; rintro e w0 ⟨rfl, rfl⟩)
      | (go_at_call 63; refine (c30 _).mono ?_; rintro e w0 ⟨rfl, rfl⟩)
      | (go_at_call 66; refine (c14' _).mono ?_; rintro e w1 ⟨rfl, hb⟩; have e0 := new_cells hb 0; have e1 := new_cells hb 1; have e2 := new_cells hb 2; have e3 := new_cells hb 3; simp at e0 e1 e2 e3; obtain ⟨e0, f0⟩ := e0; obtain ⟨e1, f1⟩ := e1; obtain ⟨e2, f2⟩ := e2; obtain ⟨e3, f3⟩ := e3))
    exact bodyPost_ret (v := .tuple #[TV 0 ⟨#[]⟩ 0 0, .int .i64 0]) (by simp [results, Tryd.results57, go_sem, e0, e1, e2, e3]) rfl ⟨rfl, set4 (bmore (al _ _) hb) _ _ _ _⟩
  · rw [if_neg (fun e => h0 (List.eq_nil_of_length_eq_zero e))]
    simp only
    rw [← HZ.out]
    have hne : str x ≠ ⟨#[]⟩ := fun e => h0 (HE.out.1 e)
    have hnd := ne_list hne
    have hem : (str x).toList.isEmpty = false := by rw [str_empty]; simp [h0]
    clear HZ HE h0
    generalize str x = xs at *
    go_enter Tryd.func57, Tryd.ntmps57
    go_wp2_with (first
      | (go_at_call 60; refine (c27 _).mono ?_; rintro e w0 ⟨rfl, rfl⟩)
      | (go_at_call 63; refine (c30 _).mono ?_; rintro e w0 ⟨rfl, rfl⟩)
      | (go_at_call 66; refine (c14 _).mono ?_; rintro e w1 ⟨rfl, hb⟩; have e0 := new_cells hb 0; have e1 := new_cells hb 1; have e2 := new_cells hb 2; have e3 := new_cells hb 3; simp at e0 e1 e2 e3; obtain ⟨e0, f0⟩ := e0; obtain ⟨e1, f1⟩ := e1; obtain ⟨e2, f2⟩ := e2; obtain ⟨e3, f3⟩ := e3))
    exact bodyPost_ret (v := .tuple #[TV 4 xs 0 0, .int .i64 (xs.size : Int)]) (by simp [results, Tryd.results57, go_sem, e0, e1, e2, e3]) rfl ⟨rfl, set4 (bmore (al _ _) hb) _ _ _ _⟩
end Go.Proofs.YtipnaphikbjhbaaDoor
