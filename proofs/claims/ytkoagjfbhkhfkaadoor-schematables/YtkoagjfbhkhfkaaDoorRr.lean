/- The reference's Column and Right. -/
import Derived.Test.YtkoagjfbhkhfkaaDoorRn
import Derived.Test.YtkoagjfbhkhfkaaDoorCc
namespace Go.Proofs.YtkoagjfbhkhfkaaDoor
open Go.RowKit Go.Lib
set_option maxRecDepth 100000

set_option maxHeartbeats 2000000 in
theorem rcolumn14 (v : Value) (l : List Cl) (s : ByteArray) (w : World) (hv : SC w v l) (hl : l.length ≤ 1000) :
    Calls Tryd.prog 14 #[v, .string s] w fun e w' => e = .returned (.int .i64 (colB l (bs s))) ∧ Below w.heap.size w w' := by
  obtain ⟨a, c, rfl, hat⟩ := hv
  obtain ⟨N, hN⟩ : ∃ N, l.length = N := ⟨_, rfl⟩
  have HNN : Hid (l.length = N) := hN
  have HA : Hid (0 < l.length → ∃ g o, a = some ⟨g, o, none⟩ ∧ g < w.heap.size ∧ ColsAt w g o l) := hat
  rw [hN] at hl ⊢
  clear hN hat
  go_enter Tryd.func14, Tryd.ntmps14
  go_wp2
  go_loopw [5] (fun p wr => ∃ m : Nat, m ≤ N ∧ p = .int .i64 (m : Int) ∧ wr = w ∧ Hid (colB l (bs s) = colFrom m (l.drop m) (bs s))) (fun p _ => N - (RowKit.intOf p).toNat)
  case atStart => exact ⟨0, by omega, rfl, rfl, by show _ = _; simp [colB]⟩
  case round =>
    obtain ⟨m, hm, rfl, rfl, HC⟩ := hrel
    by_cases hlt : m < N
    · have hlt1 : (m : Int) < (N : Int) := by omega
      have hlt0 : (0 : Int) ≤ (m : Int) := by omega
      obtain ⟨x, hx⟩ : ∃ x, l[m]? = some x := ⟨_, List.getElem?_eq_getElem (by rw [HNN.out]; exact hlt)⟩
      have hdr : l.drop m = x :: l.drop (m + 1) := by
        have hm' := List.getElem?_eq_some_iff.1 hx
        rw [List.drop_eq_getElem_cons hm'.1, hm'.2]
      obtain ⟨g, o, rfl, hgl, hco⟩ := HA.out (by rw [HNN.out]; omega)
      obtain ⟨c0, c1⟩ := hco m x hx
      rw [hdr] at HC
      clear hco hx hdr
      by_cases he : x.1 = bs s
      · have hs : str x.1 = s := by rw [he, str_bs]
        have HR : Hid (colB l (bs s) = (m : Int)) := by show _ = _; rw [HC.out, colFrom, if_pos he]
        rw [hs] at c0
        clear HC hs he
        go_wp2
        go_ret
        exact ⟨by rw [HR.out]; rfl, Below.refl _ _⟩
      · have hne : str x.1 ≠ s := fun e => he (str_inj e)
        have hnd := ne_list hne
        have HR : Hid (colB l (bs s) = colFrom (m + 1) (l.drop (m + 1)) (bs s)) := by show _ = _; rw [HC.out, colFrom, if_neg he]
        clear HC hne he
        generalize str x.1 = q at *
        go_wp2
        go_roundw
        case rel => exact ⟨m + 1, by omega, by simp, by trivial, HR⟩
        case measure => simp [RowKit.intOf]; omega
    · have hlt1 : ¬ (m : Int) < (N : Int) := by omega
      have HR : Hid (colB l (bs s) = -1) := by
        show _ = _
        rw [HC.out, List.drop_eq_nil_of_le (by rw [HNN.out]; omega)]; rfl
      clear HC
      go_wp2
      go_ret
      exact ⟨by rw [HR.out]; rfl, Below.refl _ _⟩
set_option maxHeartbeats 4000000 in
theorem rright12 (n p : ByteArray) (v : Value) (l : List Cl) (r : Int) (w : World) (hg : Good w) (hv : SC w v l) (hl : l.length ≤ 1000) :
    Calls Tryd.prog 12 #[TB n v p r] w fun e w' => e = .returned (.bool (rtB (bs n) l (bs p) r)) ∧ Below w.heap.size w w' := by
  have hv' := hv
  have HSC : Hid (∀ w1, Below w.heap.size w w1 → SC w1 v l) := fun w1 h => hv'.below h
  have H37 : Hid (∀ w1 (s : ByteArray), Below w.heap.size w w1 → Calls Tryd.prog 37 #[.string s] w1 fun e w' => e = .returned (.bool (nameR (bs s))) ∧ Below w1.heap.size w1 w') := fun w1 s h1 => name14 s w1 (hg.below h1)
  have H14 : Hid (∀ w1 (s : ByteArray), Below w.heap.size w w1 → Calls Tryd.prog 14 #[v, .string s] w1 fun e w' => e = .returned (.int .i64 (colB l (bs s))) ∧ Below w1.heap.size w1 w') := fun w1 s h1 => rcolumn14 v l s w1 (hv'.below h1) hl
  obtain ⟨a, c, rfl, hat⟩ := hv
  obtain ⟨N, hN⟩ : ∃ N, l.length = N := ⟨_, rfl⟩
  have HNN : Hid (l.length = N) := hN
  have HA : Hid (0 < l.length → ∃ g o, a = some ⟨g, o, none⟩ ∧ g < w.heap.size ∧ ColsAt w g o l) := hat
  obtain ⟨R, hR⟩ : ∃ R, rtB (bs n) l (bs p) r = R := ⟨_, rfl⟩
  have HR : Hid (rtB (bs n) l (bs p) r = R) := hR
  rw [hR]
  rw [hN] at hl H14 ⊢
  clear hN hat hR hv'
  cases hb1 : nameR (bs n)
  · have HV : Hid (R = false) := by show _ = _; rw [← HR.out]; simp [rtB, hb1]
    go_enter Tryd.func12, Tryd.ntmps12
    go_wp2_with (go_at_call 37; refine (H37.out _ n (al _ _)).mono ?_; rw [hb1]; rintro e w1 ⟨rfl, hbe1⟩)
    go_ret
    exact ⟨by rw [HV.out]; rfl, bmore (al _ _) hbe1⟩
  · by_cases h1 : 1 ≤ N
    · by_cases h4 : N ≤ 4
      · have h1i : ¬ (N : Int) < 1 := by omega
        have h4i : ¬ (4 : Int) < (N : Int) := by omega
        have b0 := blk_new w [.string n, .slice a N c, .string p, .int .i64 r] 32
        go_enter Tryd.func12, Tryd.ntmps12
        go_wp2_with (go_at_call 37; refine (H37.out _ n (al _ _)).mono ?_; rw [hb1]; rintro e w1 ⟨rfl, hbe1⟩; have b1 := (b0.below hbe1).here (j := 1) rfl)
        have HW1 : Hid (Blk w1 w.heap.size [.string n, .slice a N c, .string p, .int .i64 r] 32 ∧ Below w.heap.size w w1) := ⟨b0.below hbe1, bmore (al _ _) hbe1⟩
        clear b0 b1 hbe1
        go_loopw [3] (fun q wr => ∃ m : Nat, m ≤ N ∧ q = .int .i64 (m : Int) ∧ Hid (Blk wr w.heap.size [.string n, .slice a N c, .string p, .int .i64 r] 32 ∧ Below w.heap.size w wr) ∧ Hid (rcFrom l 0 l = rcFrom l m (l.drop m))) (fun q _ => N - (RowKit.intOf q).toNat)
        case atStart => exact ⟨0, by omega, rfl, HW1, by show _ = _; simp⟩
        case round =>
          obtain ⟨m, hm, rfl, HB, HC⟩ := hrel
          obtain ⟨hbx, hB⟩ := HB.out
          have bx1 := hbx.here (j := 1) rfl
          have bx2 := hbx.here (j := 2) rfl
          have bx3 := hbx.here (j := 3) rfl
          have hwl := hbx.lt
          by_cases hlt : m < N
          · have hlt1 : (m : Int) < (N : Int) := by omega
            have hlt0 : (0 : Int) ≤ (m : Int) := by omega
            obtain ⟨x, hx⟩ : ∃ x, l[m]? = some x := ⟨_, List.getElem?_eq_getElem (by rw [HNN.out]; exact hlt)⟩
            have hdr : l.drop m = x :: l.drop (m + 1) := by
              have hm' := List.getElem?_eq_some_iff.1 hx
              rw [List.drop_eq_getElem_cons hm'.1, hm'.2]
            obtain ⟨g, o, rfl, hgl, hco⟩ := HA.out (by rw [HNN.out]; omega)
            obtain ⟨h0, h1'⟩ := hco m x hx
            have c0 := (hB.cell (p := ⟨g, o + m * 2, none⟩) hgl).trans h0
            have c1 := (hB.cell (p := ⟨g, o + m * 2 + 1, none⟩) hgl).trans h1'
            rw [hdr, rcFrom] at HC
            clear hco h0 h1' hx hdr
            obtain ⟨xn, xk⟩ := x
            simp only at c0 c1 HC
            have hqe : bs (str xn) = xn := bs_str xn
            obtain ⟨nb, hxn⟩ : ∃ nb, nameR xn = nb := ⟨_, rfl⟩
            obtain ⟨ci, hci⟩ : ∃ ci, colB l xn = ci := ⟨_, rfl⟩
            rw [hxn, hci] at HC
            rw [← hqe] at hxn hci
            clear hqe
            generalize str xn = q at *
            cases nb
            · have HV : Hid (R = false) := by show _ = _; rw [← HR.out]; simp [rtB, rcB, HC.out]
              go_wp2_with (first | (go_at_call 37; (with_reducible refine (H37.out _ q (bal hB _)).mono ?_); rw [hxn]; rintro e w1 ⟨rfl, hb1'⟩; have F1 := bmore (bal hB _) hb1'; have e0 := (hb1'.cell (p := ⟨wr.heap.size, 0, none⟩) (by simp)); have e1 := (hb1'.cell (p := ⟨wr.heap.size, 1, none⟩) (by simp)); simp at e0 e1; have b5 := (hbx.below (al _ _)).below hb1'; have b51 := b5.here (j := 1) rfl))
              go_ret
              exact ⟨by rw [HV.out]; rfl, F1⟩
            · by_cases hkk : xk = 1 ∨ xk = 2
              · have hk1 : ((xk : Int) != 1) = !decide (xk = 1) := by by_cases h : xk = 1 <;> simp [h]; omega
                by_cases hcm : ci = (m : Int)
                · have HC2 : Hid (rcFrom l 0 l = rcFrom l (m + 1) (l.drop (m + 1))) := by show _ = _; rw [HC.out]; rcases hkk with h | h <;> simp [h, hcm]
                  rw [hcm] at hci
                  clear HC hcm hk1
                  rcases hkk with rfl | rfl
                  · go_wp2_with (first | (go_at_call 37; (with_reducible refine (H37.out _ q (bal hB _)).mono ?_); rw [hxn]; rintro e w1 ⟨rfl, hb1'⟩; have F1 := bmore (bal hB _) hb1'; have e0 := (hb1'.cell (p := ⟨wr.heap.size, 0, none⟩) (by simp)); have e1 := (hb1'.cell (p := ⟨wr.heap.size, 1, none⟩) (by simp)); simp at e0 e1; have b5 := (hbx.below (al _ _)).below hb1'; have b51 := b5.here (j := 1) rfl) | (go_at_call 14; (with_reducible refine (H14.out _ q F1).mono ?_); rw [hci]; rintro e w2 ⟨rfl, hb2'⟩; have F2 := bmore F1 hb2'; have b6 := b5.below hb2'))
                    go_roundw
                    case rel => exact ⟨m + 1, by omega, by simp, ⟨b6, F2⟩, HC2⟩
                    case measure => simp [RowKit.intOf]; omega
                  · go_wp2_with (first | (go_at_call 37; (with_reducible refine (H37.out _ q (bal hB _)).mono ?_); rw [hxn]; rintro e w1 ⟨rfl, hb1'⟩; have F1 := bmore (bal hB _) hb1'; have e0 := (hb1'.cell (p := ⟨wr.heap.size, 0, none⟩) (by simp)); have e1 := (hb1'.cell (p := ⟨wr.heap.size, 1, none⟩) (by simp)); simp at e0 e1; have b5 := (hbx.below (al _ _)).below hb1'; have b51 := b5.here (j := 1) rfl) | (go_at_call 14; (with_reducible refine (H14.out _ q F1).mono ?_); rw [hci]; rintro e w2 ⟨rfl, hb2'⟩; have F2 := bmore F1 hb2'; have b6 := b5.below hb2'))
                    go_roundw
                    case rel => exact ⟨m + 1, by omega, by simp, ⟨b6, F2⟩, HC2⟩
                    case measure => simp [RowKit.intOf]; omega
                · have HV : Hid (R = false) := by show _ = _; rw [← HR.out]; simp [rtB, rcB, HC.out, hcm]
                  have hcb : (ci != (m : Int)) = true := by simpa using hcm
                  clear HC hk1
                  rcases hkk with rfl | rfl
                  · go_wp2_with (first | (go_at_call 37; (with_reducible refine (H37.out _ q (bal hB _)).mono ?_); rw [hxn]; rintro e w1 ⟨rfl, hb1'⟩; have F1 := bmore (bal hB _) hb1'; have e0 := (hb1'.cell (p := ⟨wr.heap.size, 0, none⟩) (by simp)); have e1 := (hb1'.cell (p := ⟨wr.heap.size, 1, none⟩) (by simp)); simp at e0 e1; have b5 := (hbx.below (al _ _)).below hb1'; have b51 := b5.here (j := 1) rfl) | (go_at_call 14; (with_reducible refine (H14.out _ q F1).mono ?_); rw [hci]; rintro e w2 ⟨rfl, hb2'⟩; have F2 := bmore F1 hb2'; have b6 := b5.below hb2'))
                    go_ret
                    exact ⟨by rw [HV.out]; rfl, F2⟩
                  · go_wp2_with (first | (go_at_call 37; (with_reducible refine (H37.out _ q (bal hB _)).mono ?_); rw [hxn]; rintro e w1 ⟨rfl, hb1'⟩; have F1 := bmore (bal hB _) hb1'; have e0 := (hb1'.cell (p := ⟨wr.heap.size, 0, none⟩) (by simp)); have e1 := (hb1'.cell (p := ⟨wr.heap.size, 1, none⟩) (by simp)); simp at e0 e1; have b5 := (hbx.below (al _ _)).below hb1'; have b51 := b5.here (j := 1) rfl) | (go_at_call 14; (with_reducible refine (H14.out _ q F1).mono ?_); rw [hci]; rintro e w2 ⟨rfl, hb2'⟩; have F2 := bmore F1 hb2'; have b6 := b5.below hb2'))
                    go_ret
                    exact ⟨by rw [HV.out]; rfl, F2⟩
              · have HV : Hid (R = false) := by show _ = _; rw [← HR.out]; simp [rtB, rcB, HC.out]; omega
                have k1i : ¬ (xk : Int) = 1 := by omega
                have k2i : ¬ (xk : Int) = 2 := by omega
                have k1b : ((xk : Int) != 1) = true := by simp; omega
                have k2b : ((xk : Int) != 2) = true := by simp; omega
                clear HC
                go_wp2_with (first | (go_at_call 37; (with_reducible refine (H37.out _ q (bal hB _)).mono ?_); rw [hxn]; rintro e w1 ⟨rfl, hb1'⟩; have F1 := bmore (bal hB _) hb1'; have e0 := (hb1'.cell (p := ⟨wr.heap.size, 0, none⟩) (by simp)); have e1 := (hb1'.cell (p := ⟨wr.heap.size, 1, none⟩) (by simp)); simp at e0 e1; have b5 := (hbx.below (al _ _)).below hb1'; have b51 := b5.here (j := 1) rfl))
                go_ret
                exact ⟨by rw [HV.out]; rfl, F1⟩
          · have hlt1 : ¬ (m : Int) < (N : Int) := by omega
            have HRC : Hid (rcB l = true) := by
              show _ = _
              rw [rcB, HNN.out, HC.out, List.drop_eq_nil_of_le (by rw [HNN.out]; omega)]
              simp [h1, h4, rcFrom]
            clear HC
            by_cases hp0 : bs p = []
            · obtain rfl : p = ⟨#[]⟩ := by have := congrArg str hp0; rw [str_bs] at this; exact this
              have HV : Hid (R = decide (r = 0)) := by show _ = _; rw [← HR.out]; simp [rtB, rpB, hb1, HRC.out, hp0]
              by_cases hr0 : r = 0
              · subst hr0
                go_wp2
                go_ret
                exact ⟨by rw [HV.out]; simp, hB⟩
              · go_wp2
                go_ret
                exact ⟨by rw [HV.out]; simp [hr0], hB⟩
            · have hem : p.toList.isEmpty = false := by
                rw [toList_data]
                cases hb : bs p with
                | nil => exact absurd hb hp0
                | cons x t => rw [show p.data.toList = x :: t from hb]; rfl
              have HV : Hid (R = (nameR (bs p) && decide (1 ≤ r) && decide (r < (N : Int)))) := by show _ = _; rw [← HR.out]; simp [rtB, rpB, hb1, HRC.out, hp0, HNN.out]
              have c37 := H37.out wr p hB
              generalize nameR (bs p) = nb at *
              have hb3 : ∀ w1, Below wr.heap.size wr w1 → w1.cell? ⟨w.heap.size, 3, none⟩ = some (.int .i64 r) ∧ w1.cell? ⟨w.heap.size, 1, none⟩ = some (.slice a N c) := fun w1 h => ⟨(hbx.below h).here rfl, (hbx.below h).here rfl⟩
              have HB3 : Hid _ := hb3
              clear hb3 hp0
              cases nb
              · go_wp2_with (go_at_call 37; refine c37.mono ?_; rintro e w1 ⟨rfl, hbe1⟩; obtain ⟨u1, u2⟩ := HB3.out _ hbe1)
                go_ret
                exact ⟨by rw [HV.out]; rfl, bmore hB hbe1⟩
              · by_cases hr1 : 1 ≤ r
                · by_cases hr2 : r < (N : Int)
                  · go_wp2_with (go_at_call 37; refine c37.mono ?_; rintro e w1 ⟨rfl, hbe1⟩; obtain ⟨u1, u2⟩ := HB3.out _ hbe1)
                    go_ret
                    exact ⟨by rw [HV.out]; simp [hr1, hr2], bmore hB hbe1⟩
                  · go_wp2_with (go_at_call 37; refine c37.mono ?_; rintro e w1 ⟨rfl, hbe1⟩; obtain ⟨u1, u2⟩ := HB3.out _ hbe1)
                    go_ret
                    exact ⟨by rw [HV.out]; simp [hr1], bmore hB hbe1⟩
                · go_wp2_with (go_at_call 37; refine c37.mono ?_; rintro e w1 ⟨rfl, hbe1⟩; obtain ⟨u1, u2⟩ := HB3.out _ hbe1)
                  go_ret
                  exact ⟨by rw [HV.out]; simp; omega, bmore hB hbe1⟩
      · have h1i : ¬ (N : Int) < 1 := by omega
        have h4i : (4 : Int) < (N : Int) := by omega
        have HV : Hid (R = false) := by show _ = _; rw [← HR.out]; simp [rtB, rcB, HNN.out, h4]
        go_enter Tryd.func12, Tryd.ntmps12
        go_wp2_with (go_at_call 37; refine (H37.out _ n (al _ _)).mono ?_; rw [hb1]; rintro e w1 ⟨rfl, hbe1⟩; have b1 := ((blk_new w [.string n, .slice a N c, .string p, .int .i64 r] 32).below hbe1).cell 1; simp only [List.getElem?_cons_zero, List.getElem?_cons_succ] at b1)
        go_ret
        exact ⟨by rw [HV.out]; rfl, bmore (al _ _) hbe1⟩
    · have h1i : (N : Int) < 1 := by omega
      have HV : Hid (R = false) := by show _ = _; rw [← HR.out]; simp [rtB, rcB, HNN.out, h1]
      go_enter Tryd.func12, Tryd.ntmps12
      go_wp2_with (go_at_call 37; refine (H37.out _ n (al _ _)).mono ?_; rw [hb1]; rintro e w1 ⟨rfl, hbe1⟩; have b1 := ((blk_new w [.string n, .slice a N c, .string p, .int .i64 r] 32).below hbe1).cell 1; simp only [List.getElem?_cons_zero, List.getElem?_cons_succ] at b1)
      go_ret
      exact ⟨by rw [HV.out]; rfl, bmore (al _ _) hbe1⟩
end Go.Proofs.YtkoagjfbhkhfkaaDoor
