/- The law CodecBytes, walked. -/
import Derived.Test.YtolggmmlaohpdabDoorRdec
import Derived.Test.YtolggmmlaohpdabDoorBck
namespace Go.Proofs.YtolggmmlaohpdabDoor
open Go.RowKit Go.Lib
set_option maxRecDepth 100000

theorem enc_inj {vs vs' : List Vt} {f t f' t' : Int} (hr : rightRow vs f t = true) (hr' : rightRow vs' f' t' = true) (hi : ∀ x ∈ vs, inI64 x.2.1) (hi' : ∀ x ∈ vs', inI64 x.2.1) (h : encR vs f t = encR vs' f' t') : vs = vs' ∧ f = f' ∧ t = t' := by
  obtain ⟨_, _, hok, hs⟩ := rightRow_parts hr
  have hsp := spanR_parts hs
  obtain ⟨x, y, ex, hx⟩ := two_back (p := f) (by omega) (by omega)
  obtain ⟨x', y', ex', hx'⟩ := two_back (p := t) (by omega) (by omega)
  have e : flat vs ++ 0 :: [x, y, x', y'] = encR vs' f' t' := by rw [← h]; unfold encR; rw [ex, ex']; simp
  obtain ⟨h1, h2, h3⟩ := enc_four (fun z hz => ⟨hok z hz, hi z hz⟩) hr' hi' e
  exact ⟨h1, by omega, by omega⟩

theorem decode22_yes (vb : Value) (vs : List Vt) (f t : Int) (w : World) (hv : SB w vb (encR vs f t)) (hl : (encR vs f t).length ≤ 200) (hr : rightRow vs f t = true) (hi : ∀ x ∈ vs, inI64 x.2.1) (hg : Good w) :
    Calls Tryd.prog 22 #[vb] w fun e w' => ∃ u, e = .returned (.tuple #[RV u f t, .int .i64 0]) ∧ VRow w.heap.size u vs w' ∧ Below w.heap.size w w' := by
  refine (decode22 vb _ w hv (by omega) hg).mono ?_
  rintro e w' (⟨vs', f', t', u, hr', hi', he, rfl, h1, h2⟩ | ⟨hn, _⟩)
  · obtain ⟨rfl, rfl, rfl⟩ := enc_inj hr hr' hi hi' he
    exact ⟨u, rfl, h1, h2⟩
  · exact absurd rfl (hn vs f t hr hi)
theorem decode22_no (vb : Value) (L : Bs) (w : World) (hv : SB w vb L) (hl : L.length ≤ 200) (hn : NoRow L) (hg : Good w) :
    Calls Tryd.prog 22 #[vb] w fun e w' => e = .returned (.tuple #[RV (.slice none 0 0) 0 0, .int .i64 3]) ∧ Below w.heap.size w w' := by
  refine (decode22 vb _ w hv (by omega) hg).mono ?_
  rintro e w' (⟨vs', f', t', u, hr', hi', he, _⟩ | ⟨_, rfl, h1⟩)
  · exact absurd he (hn vs' f' t' hr' hi')
  · exact ⟨rfl, h1⟩
theorem decode21_sb (vb : Value) (vs : List Vt) (f t : Int) (w : World) (hv : SB w vb (encR vs f t)) (hr : rightRow vs f t = true) (hvs : Few vs) (hg : Good w) :
    Calls Tryd.prog 21 #[vb] w fun e w' => ∃ u, e = .returned (.tuple #[RV u f t, .int .i64 0]) ∧ VRow w.heap.size u vs w' ∧ Below w.heap.size w w' := by
  rcases hv with ⟨_, _, _, h⟩ | ⟨b, o, c, rfl, _, h2, h3, h4⟩
  · have h1 := key_facts hr
    rw [h] at h1
    have h2 := h1.2.1
    simp only [List.length_nil] at h2
    omega
  · exact decode21_yes b o c vs f t w h4 h2 h3 hr hvs hg

theorem SB.form {w : World} {v : Value} {l : Bs} (h : SB w v l) : ∃ a n c, v = .slice a n c ∧ n = l.length ∧ (0 < n → n ≤ c ∧ c ≤ maxLen) := by
  rcases h with ⟨a, c, rfl, rfl⟩ | ⟨b, o, c, rfl, h0, hc, hm, hat⟩
  · exact ⟨a, 0, c, rfl, rfl, fun h => by simp at h⟩
  · exact ⟨_, _, c, rfl, rfl, fun _ => ⟨hc, hm⟩⟩
theorem SB.take {w : World} {a : Option Addr} {n c : Nat} {l : Bs} (h : SB w (.slice a n c) l) (m : Nat) (hm : m ≤ n) : SB w (.slice a m c) (l.take m) := by
  rcases h with ⟨a', c', e, rfl⟩ | ⟨b, o, c', e, h0, hc, hx, hat⟩
  · simp only [Value.slice.injEq] at e
    obtain ⟨rfl, rfl, rfl⟩ := e
    have : m = 0 := by omega
    subst this
    exact .inl ⟨_, _, rfl, by simp⟩
  · simp only [Value.slice.injEq] at e
    obtain ⟨rfl, rfl, rfl⟩ := e
    by_cases h : m = 0
    · subst h
      exact .inl ⟨_, _, rfl, by simp⟩
    · have hl : (l.take m).length = m := by rw [List.length_take]; omega
      exact .inr ⟨b, o, c, by rw [hl], by omega, by omega, hx, hat.take m⟩

set_option maxHeartbeats 4000000 in
theorem bytes4_a (v vb : Value) (a : List Vt) (L : Bs) (f t : Int) (w : World) (ha : SV w v a) (na : Few a) (hb : SB w vb L) (hL : L.length ≤ 140737488355328) (hg : Good w) :
    Calls Tryd.prog 4 #[RV v f t, vb] w fun e w' => e = .returned (.bool true) ∧ Below w.heap.size w w' := by
  have k9 := fun W (hW : St w W) => (few9 v a f t W (ha.below hW.2)).mono (R' := fun e w' => ∃ p n c, e = .returned (RV (.slice p n c) f t) ∧ SV w (.slice p n c) (a.take 8) ∧ Below W.heap.size W w') fun e w' ⟨p, n, c, h1, h2, h3⟩ => ⟨p, n, c, h1, h2 w ha, h3⟩
  have hk0 := o1_start v f t hg
  have nA : Few (a.take 8) := fun x hx => na x (List.mem_of_mem_take hx)
  have lA : (a.take 8).length ≤ 140737488355328 := by rw [List.length_take]; omega
  have k10 := fun W hW => live10 W hW
  generalize a.take 8 = A at *
  clear ha na
  obtain ⟨pb, nb, cb, rfl, hnb, hcb⟩ := hb.form
  rw [← hnb] at hL
  go_enter Tryd.func4, Tryd.ntmps4
  go_wp2_with fail
  generalize w.alloc (.cells #[v, .int .i64 f, .int .i64 t] 26) = W0 at *
  obtain ⟨x0, x1, x2, x3, x4, x5⟩ := id hk0.x
  have d9 := k9 W0 hk0.st
  refine d9.mono ?_
  rintro e w1 ⟨p, n, c, rfl, hsa, hb1⟩
  have hk1 := hk0.below hb1
  have hk2 := hk1.put hg (.slice p n c)
  obtain ⟨r0, r1, r2, r3, r4, r5⟩ := id hk1.x
  clear k9 d9 hk0 hb1 x0 x1 x2 x3 x4 x5 hk1
  obtain ⟨W2, hW2⟩ : ∃ W2, ((w1.setCell ⟨w.heap.size, 0, none⟩ (.slice p n c)).setCell ⟨w.heap.size, 1, none⟩ (.int .i64 f)).setCell ⟨w.heap.size, 2, none⟩ (.int .i64 t) = W2 := ⟨_, rfl⟩
  rw [hW2] at hk2
  obtain ⟨x0, x1, x2, x3, x4, x5⟩ := id hk2.x
  by_cases h200 : 200 < nb
  · have hz : (200 : Int) < (nb : Int) := by omega
    have hcz : (200 : Int) ≤ (cb : Int) := by have := (hcb (by omega)).1; omega
    obtain ⟨LL, hLL⟩ : ∃ LL, L.take 200 = LL := ⟨_, rfl⟩
    have hsbL : SB w (.slice pb 200 cb) LL := by rw [← hLL]; exact hb.take 200 (by omega)
    have hL200 : LL.length ≤ 200 := by rw [← hLL, List.length_take]; omega
    clear hLL hb hnb hcb hL
    cases hr : rightRow A f t
    · have c19 := encode19_no _ A f t W2 (hsa.below hk2.st.2) lA nA hr hk2.st.1
      have c20 := fun W (h : O1 w (.slice p n c) f t W) => encode20_no _ A f t W (hsa.below h.st.2) lA nA hr h.st.1
      clear hr nA lA hsa
      go_wp2_with fail
      refine c19.mono ?_
      rintro e w3 ⟨rfl, hb3⟩
      have hk3 := hk2.below hb3
      obtain ⟨z0, z1, z2, z3, z4, z5⟩ := id hk3.x
      have d20 := c20 _ hk3
      clear c19 c20 hk2 hb3 x0 x1 x2 x3 x4 x5
      go_wp2_with fail
      refine d20.mono ?_
      rintro e w4 ⟨rfl, hb4⟩
      have s4 := hk3.st.more hb4
      clear d20 hk3 hb4 z0 z1 z2 z3 z4 z5
      by_cases hE : ∃ vs f' t', rightRow vs f' t' = true ∧ (∀ x ∈ vs, inI64 x.2.1) ∧ LL = encR vs f' t'
      · obtain ⟨vs, f', t', hr', hi', rfl⟩ := hE
        obtain ⟨h1', h4', hok', _⟩ := rightRow_parts hr'
        have fw := few_ok (vs := vs) fun x hx => ⟨hok' x hx, hi' x hx⟩
        have c21 := fun W (hW : St w W) => decode21_sb _ vs f' t' W (hsbL.below hW.2) hr' fw hW.1
        have c22 := fun W (hW : St w W) => decode22_yes _ vs f' t' W (hsbL.below hW.2) hL200 hr' hi' hW.1
        have c23 := fun u u' W (hu : SV W u vs) (hu' : SV W u' vs) => samerow23 u u' vs vs f' t' f' t' W hu hu' (by omega) (by omega)
        rw [show (cmpR vs f' t' vs f' t' == 0) = true by rw [cmpR_self]; rfl] at c23
        clear hr' hi' h1' h4' hok' fw hsbL hL200
        go_wp2_with (first
          | (go_at_call 21; (refine (c21 _ s4).mono ?_; clear c21; rintro e w5 ⟨u5, rfl, hu5, hb5⟩; obtain ⟨ua, uc, rfl, _⟩ := sv_form hu5.sv; have s5 := (s4.more hb5).alloc (.cells #[.slice ua vs.length uc, .int .i64 f', .int .i64 t'] 26)))
          | (go_at_call 22; (refine (c22 _ s5).mono ?_; clear c22; rintro e w6 ⟨u6, rfl, hu6, hb6⟩; obtain ⟨uA, uC, rfl, _⟩ := sv_form hu6.sv; have s6 := (s5.more hb6).alloc (.cells #[.slice uA vs.length uC, .int .i64 f', .int .i64 t'] 26)))
          | (go_at_call 10; (refine (k10 _ s6.1).mono ?_; rintro e w8 ⟨rfl, hb8⟩; have s8 := s6.more hb8; have cv : ∀ W, (convert 34 9 (.slice none 0 0)).run Tryd.prog W = .ok (.string ByteArray.empty) W := fun W => run_convert_bytes_nil W 34 5 Tryd.underlying34 Tryd.underlying5 0 0 9 Tryd.underlying9; obtain ⟨p0, _⟩ := new_cells hb8 0; obtain ⟨p1, _⟩ := new_cells hb8 1; obtain ⟨p2, _⟩ := new_cells hb8 2; have o0 := (bmore hb6 (bmore (al w6 (.cells #[.slice uA vs.length uC, .int .i64 f', .int .i64 t'] 26)) hb8)).cell (p := ⟨w5.heap.size, 0, none⟩) (by simp); have o1 := (bmore hb6 (bmore (al w6 (.cells #[.slice uA vs.length uC, .int .i64 f', .int .i64 t'] 26)) hb8)).cell (p := ⟨w5.heap.size, 1, none⟩) (by simp); have o2 := (bmore hb6 (bmore (al w6 (.cells #[.slice uA vs.length uC, .int .i64 f', .int .i64 t'] 26)) hb8)).cell (p := ⟨w5.heap.size, 2, none⟩) (by simp); simp at p0 p1 p2 o0 o1 o2; have d23 := c23 _ _ w8 ((hu5.sv.below (al w5 (.cells #[.slice ua vs.length uc, .int .i64 f', .int .i64 t'] 26))).below (bmore (bmore hb6 (al w6 (.cells #[.slice uA vs.length uC, .int .i64 f', .int .i64 t'] 26))) hb8)) ((hu6.sv.below (al w6 (.cells #[.slice uA vs.length uC, .int .i64 f', .int .i64 t'] 26))).below hb8)))
          | (go_at_call 23; (refine d23.mono ?_; rintro e w9 ⟨rfl, hb9⟩)))
        go_ret
        exact ⟨rfl, (s8.more hb9).2⟩
      · have hN : NoRow LL := fun vs f' t' h1 h2 e => hE ⟨vs, f', t', h1, h2, e⟩
        have c21 := fun W (hW : St w W) => decode21_no _ LL W (hsbL.below hW.2) hN (by omega) hW.1
        have c22 := fun W (hW : St w W) => decode22_no _ LL W (hsbL.below hW.2) hL200 hN hW.1
        have c23 := fun (u u' : Value) W (hu : SV W u []) (hu' : SV W u' []) => samerow23 u u' [] [] 0 0 0 0 W hu hu' (by simp) (by simp)
        rw [show (cmpR [] 0 0 [] 0 0 == 0) = true by rw [cmpR_self]; rfl] at c23
        clear hE hN hsbL hL200
        go_wp2_with (first
          | (go_at_call 21; (refine (c21 _ s4).mono ?_; clear c21; rintro e w5 ⟨rfl, hb5⟩; have s5 := (s4.more hb5).alloc (.cells #[.slice none 0 0, .int .i64 0, .int .i64 0] 26)))
          | (go_at_call 22; (refine (c22 _ s5).mono ?_; clear c22; rintro e w6 ⟨rfl, hb6⟩; have s6 := (s5.more hb6).alloc (.cells #[.slice none 0 0, .int .i64 0, .int .i64 0] 26)))
          | (go_at_call 10; (refine (k10 _ s6.1).mono ?_; rintro e w8 ⟨rfl, hb8⟩; have s8 := s6.more hb8; have cv : ∀ W, (convert 34 9 (.slice none 0 0)).run Tryd.prog W = .ok (.string ByteArray.empty) W := fun W => run_convert_bytes_nil W 34 5 Tryd.underlying34 Tryd.underlying5 0 0 9 Tryd.underlying9; obtain ⟨p0, _⟩ := new_cells hb8 0; obtain ⟨p1, _⟩ := new_cells hb8 1; obtain ⟨p2, _⟩ := new_cells hb8 2; have o0 := (bmore hb6 (bmore (al w6 (.cells #[.slice none 0 0, .int .i64 0, .int .i64 0] 26)) hb8)).cell (p := ⟨w5.heap.size, 0, none⟩) (by simp); have o1 := (bmore hb6 (bmore (al w6 (.cells #[.slice none 0 0, .int .i64 0, .int .i64 0] 26)) hb8)).cell (p := ⟨w5.heap.size, 1, none⟩) (by simp); have o2 := (bmore hb6 (bmore (al w6 (.cells #[.slice none 0 0, .int .i64 0, .int .i64 0] 26)) hb8)).cell (p := ⟨w5.heap.size, 2, none⟩) (by simp); simp at p0 p1 p2 o0 o1 o2; have d23 := c23 (.slice none 0 0) (.slice none 0 0) w8 (.inl ⟨_, _, rfl, rfl⟩) (.inl ⟨_, _, rfl, rfl⟩)))
          | (go_at_call 23; (refine d23.mono ?_; rintro e w9 ⟨rfl, hb9⟩)))
        go_ret
        exact ⟨rfl, (s8.more hb9).2⟩
    · have c19 := encode19_yes _ A f t W2 (hsa.below hk2.st.2) nA hr hk2.st.1
      have c20 := fun W (h : O1 w (.slice p n c) f t W) => encode20_yes _ A f t W (hsa.below h.st.2) nA hr h.st.1
      clear hr nA lA hsa
      generalize encR A f t = EE at *
      go_wp2_with fail
      refine c19.mono ?_
      rintro e w3 ⟨ux, rfl, hx, hb3⟩
      have hk3 := hk2.below hb3
      obtain ⟨z0, z1, z2, z3, z4, z5⟩ := id hk3.x
      have d20 := c20 _ hk3
      clear c19 c20 hk2 hb3 x0 x1 x2 x3 x4 x5
      go_wp2_with fail
      refine d20.mono ?_
      rintro e w4 ⟨uy, rfl, hy, hbx4⟩
      have s4 := hk3.st.more hbx4
      clear d20 hk3 z0 z1 z2 z3 z4 z5
      by_cases hE : ∃ vs f' t', rightRow vs f' t' = true ∧ (∀ x ∈ vs, inI64 x.2.1) ∧ LL = encR vs f' t'
      · obtain ⟨vs, f', t', hr', hi', rfl⟩ := hE
        obtain ⟨h1', h4', hok', _⟩ := rightRow_parts hr'
        have fw := few_ok (vs := vs) fun x hx => ⟨hok' x hx, hi' x hx⟩
        have c21 := fun W (hW : St w W) => decode21_sb _ vs f' t' W (hsbL.below hW.2) hr' fw hW.1
        have c22 := fun W (hW : St w W) => decode22_yes _ vs f' t' W (hsbL.below hW.2) hL200 hr' hi' hW.1
        have c23 := fun u u' W (hu : SV W u vs) (hu' : SV W u' vs) => samerow23 u u' vs vs f' t' f' t' W hu hu' (by omega) (by omega)
        rw [show (cmpR vs f' t' vs f' t' == 0) = true by rw [cmpR_self]; rfl] at c23
        clear hr' hi' h1' h4' hok' fw hsbL hL200
        go_wp2_with (first
          | (go_at_call 21; (refine (c21 _ s4).mono ?_; clear c21; rintro e w5 ⟨u5, rfl, hu5, hb5⟩; obtain ⟨ua, uc, rfl, _⟩ := sv_form hu5.sv; have s5 := (s4.more hb5).alloc (.cells #[.slice ua vs.length uc, .int .i64 f', .int .i64 t'] 26)))
          | (go_at_call 22; (refine (c22 _ s5).mono ?_; clear c22; rintro e w6 ⟨u6, rfl, hu6, hb6⟩; obtain ⟨uA, uC, rfl, _⟩ := sv_form hu6.sv; have s6 := (s5.more hb6).alloc (.cells #[.slice uA vs.length uC, .int .i64 f', .int .i64 t'] 26)))
          | (go_at_call 10; (refine (k10 _ s6.1).mono ?_; rintro e w8 ⟨rfl, hb8⟩; have s8 := s6.more hb8; have cv1 := conv_own (hx.below (bmore hbx4 (bmore (bmore hb5 (al w5 (.cells #[.slice ua vs.length uc, .int .i64 f', .int .i64 t'] 26))) (bmore (bmore hb6 (al w6 (.cells #[.slice uA vs.length uC, .int .i64 f', .int .i64 t'] 26))) hb8)))); have cv2 := conv_own (hy.below (bmore (bmore hb5 (al w5 (.cells #[.slice ua vs.length uc, .int .i64 f', .int .i64 t'] 26))) (bmore (bmore hb6 (al w6 (.cells #[.slice uA vs.length uC, .int .i64 f', .int .i64 t'] 26))) hb8))); obtain ⟨p0, _⟩ := new_cells hb8 0; obtain ⟨p1, _⟩ := new_cells hb8 1; obtain ⟨p2, _⟩ := new_cells hb8 2; have o0 := (bmore hb6 (bmore (al w6 (.cells #[.slice uA vs.length uC, .int .i64 f', .int .i64 t'] 26)) hb8)).cell (p := ⟨w5.heap.size, 0, none⟩) (by simp); have o1 := (bmore hb6 (bmore (al w6 (.cells #[.slice uA vs.length uC, .int .i64 f', .int .i64 t'] 26)) hb8)).cell (p := ⟨w5.heap.size, 1, none⟩) (by simp); have o2 := (bmore hb6 (bmore (al w6 (.cells #[.slice uA vs.length uC, .int .i64 f', .int .i64 t'] 26)) hb8)).cell (p := ⟨w5.heap.size, 2, none⟩) (by simp); simp at p0 p1 p2 o0 o1 o2; have d23 := c23 _ _ w8 ((hu5.sv.below (al w5 (.cells #[.slice ua vs.length uc, .int .i64 f', .int .i64 t'] 26))).below (bmore (bmore hb6 (al w6 (.cells #[.slice uA vs.length uC, .int .i64 f', .int .i64 t'] 26))) hb8)) ((hu6.sv.below (al w6 (.cells #[.slice uA vs.length uC, .int .i64 f', .int .i64 t'] 26))).below hb8)))
          | (go_at_call 23; (refine d23.mono ?_; rintro e w9 ⟨rfl, hb9⟩)))
        go_ret
        exact ⟨rfl, (s8.more hb9).2⟩
      · have hN : NoRow LL := fun vs f' t' h1 h2 e => hE ⟨vs, f', t', h1, h2, e⟩
        have c21 := fun W (hW : St w W) => decode21_no _ LL W (hsbL.below hW.2) hN (by omega) hW.1
        have c22 := fun W (hW : St w W) => decode22_no _ LL W (hsbL.below hW.2) hL200 hN hW.1
        have c23 := fun (u u' : Value) W (hu : SV W u []) (hu' : SV W u' []) => samerow23 u u' [] [] 0 0 0 0 W hu hu' (by simp) (by simp)
        rw [show (cmpR [] 0 0 [] 0 0 == 0) = true by rw [cmpR_self]; rfl] at c23
        clear hE hN hsbL hL200
        go_wp2_with (first
          | (go_at_call 21; (refine (c21 _ s4).mono ?_; clear c21; rintro e w5 ⟨rfl, hb5⟩; have s5 := (s4.more hb5).alloc (.cells #[.slice none 0 0, .int .i64 0, .int .i64 0] 26)))
          | (go_at_call 22; (refine (c22 _ s5).mono ?_; clear c22; rintro e w6 ⟨rfl, hb6⟩; have s6 := (s5.more hb6).alloc (.cells #[.slice none 0 0, .int .i64 0, .int .i64 0] 26)))
          | (go_at_call 10; (refine (k10 _ s6.1).mono ?_; rintro e w8 ⟨rfl, hb8⟩; have s8 := s6.more hb8; have cv1 := conv_own (hx.below (bmore hbx4 (bmore (bmore hb5 (al w5 (.cells #[.slice none 0 0, .int .i64 0, .int .i64 0] 26))) (bmore (bmore hb6 (al w6 (.cells #[.slice none 0 0, .int .i64 0, .int .i64 0] 26))) hb8)))); have cv2 := conv_own (hy.below (bmore (bmore hb5 (al w5 (.cells #[.slice none 0 0, .int .i64 0, .int .i64 0] 26))) (bmore (bmore hb6 (al w6 (.cells #[.slice none 0 0, .int .i64 0, .int .i64 0] 26))) hb8))); obtain ⟨p0, _⟩ := new_cells hb8 0; obtain ⟨p1, _⟩ := new_cells hb8 1; obtain ⟨p2, _⟩ := new_cells hb8 2; have o0 := (bmore hb6 (bmore (al w6 (.cells #[.slice none 0 0, .int .i64 0, .int .i64 0] 26)) hb8)).cell (p := ⟨w5.heap.size, 0, none⟩) (by simp); have o1 := (bmore hb6 (bmore (al w6 (.cells #[.slice none 0 0, .int .i64 0, .int .i64 0] 26)) hb8)).cell (p := ⟨w5.heap.size, 1, none⟩) (by simp); have o2 := (bmore hb6 (bmore (al w6 (.cells #[.slice none 0 0, .int .i64 0, .int .i64 0] 26)) hb8)).cell (p := ⟨w5.heap.size, 2, none⟩) (by simp); simp at p0 p1 p2 o0 o1 o2; have d23 := c23 (.slice none 0 0) (.slice none 0 0) w8 (.inl ⟨_, _, rfl, rfl⟩) (.inl ⟨_, _, rfl, rfl⟩)))
          | (go_at_call 23; (refine d23.mono ?_; rintro e w9 ⟨rfl, hb9⟩)))
        go_ret
        exact ⟨rfl, (s8.more hb9).2⟩
  · have hz : ¬ ((200 : Int) < (nb : Int)) := by omega
    obtain ⟨LL, hLL⟩ : ∃ LL, L = LL := ⟨_, rfl⟩
    have hsbL : SB w (.slice pb nb cb) LL := by rw [← hLL]; exact hb
    have hL200 : LL.length ≤ 200 := by rw [← hLL, ← hnb]; omega
    clear hLL hb hnb hcb hL
    cases hr : rightRow A f t
    · have c19 := encode19_no _ A f t W2 (hsa.below hk2.st.2) lA nA hr hk2.st.1
      have c20 := fun W (h : O1 w (.slice p n c) f t W) => encode20_no _ A f t W (hsa.below h.st.2) lA nA hr h.st.1
      clear hr nA lA hsa
      go_wp2_with fail
      refine c19.mono ?_
      rintro e w3 ⟨rfl, hb3⟩
      have hk3 := hk2.below hb3
      obtain ⟨z0, z1, z2, z3, z4, z5⟩ := id hk3.x
      have d20 := c20 _ hk3
      clear c19 c20 hk2 hb3 x0 x1 x2 x3 x4 x5
      go_wp2_with fail
      refine d20.mono ?_
      rintro e w4 ⟨rfl, hb4⟩
      have s4 := hk3.st.more hb4
      clear d20 hk3 hb4 z0 z1 z2 z3 z4 z5
      by_cases hE : ∃ vs f' t', rightRow vs f' t' = true ∧ (∀ x ∈ vs, inI64 x.2.1) ∧ LL = encR vs f' t'
      · obtain ⟨vs, f', t', hr', hi', rfl⟩ := hE
        obtain ⟨h1', h4', hok', _⟩ := rightRow_parts hr'
        have fw := few_ok (vs := vs) fun x hx => ⟨hok' x hx, hi' x hx⟩
        have c21 := fun W (hW : St w W) => decode21_sb _ vs f' t' W (hsbL.below hW.2) hr' fw hW.1
        have c22 := fun W (hW : St w W) => decode22_yes _ vs f' t' W (hsbL.below hW.2) hL200 hr' hi' hW.1
        have c23 := fun u u' W (hu : SV W u vs) (hu' : SV W u' vs) => samerow23 u u' vs vs f' t' f' t' W hu hu' (by omega) (by omega)
        rw [show (cmpR vs f' t' vs f' t' == 0) = true by rw [cmpR_self]; rfl] at c23
        clear hr' hi' h1' h4' hok' fw hsbL hL200
        go_wp2_with (first
          | (go_at_call 21; (refine (c21 _ s4).mono ?_; clear c21; rintro e w5 ⟨u5, rfl, hu5, hb5⟩; obtain ⟨ua, uc, rfl, _⟩ := sv_form hu5.sv; have s5 := (s4.more hb5).alloc (.cells #[.slice ua vs.length uc, .int .i64 f', .int .i64 t'] 26)))
          | (go_at_call 22; (refine (c22 _ s5).mono ?_; clear c22; rintro e w6 ⟨u6, rfl, hu6, hb6⟩; obtain ⟨uA, uC, rfl, _⟩ := sv_form hu6.sv; have s6 := (s5.more hb6).alloc (.cells #[.slice uA vs.length uC, .int .i64 f', .int .i64 t'] 26)))
          | (go_at_call 10; (refine (k10 _ s6.1).mono ?_; rintro e w8 ⟨rfl, hb8⟩; have s8 := s6.more hb8; have cv : ∀ W, (convert 34 9 (.slice none 0 0)).run Tryd.prog W = .ok (.string ByteArray.empty) W := fun W => run_convert_bytes_nil W 34 5 Tryd.underlying34 Tryd.underlying5 0 0 9 Tryd.underlying9; obtain ⟨p0, _⟩ := new_cells hb8 0; obtain ⟨p1, _⟩ := new_cells hb8 1; obtain ⟨p2, _⟩ := new_cells hb8 2; have o0 := (bmore hb6 (bmore (al w6 (.cells #[.slice uA vs.length uC, .int .i64 f', .int .i64 t'] 26)) hb8)).cell (p := ⟨w5.heap.size, 0, none⟩) (by simp); have o1 := (bmore hb6 (bmore (al w6 (.cells #[.slice uA vs.length uC, .int .i64 f', .int .i64 t'] 26)) hb8)).cell (p := ⟨w5.heap.size, 1, none⟩) (by simp); have o2 := (bmore hb6 (bmore (al w6 (.cells #[.slice uA vs.length uC, .int .i64 f', .int .i64 t'] 26)) hb8)).cell (p := ⟨w5.heap.size, 2, none⟩) (by simp); simp at p0 p1 p2 o0 o1 o2; have d23 := c23 _ _ w8 ((hu5.sv.below (al w5 (.cells #[.slice ua vs.length uc, .int .i64 f', .int .i64 t'] 26))).below (bmore (bmore hb6 (al w6 (.cells #[.slice uA vs.length uC, .int .i64 f', .int .i64 t'] 26))) hb8)) ((hu6.sv.below (al w6 (.cells #[.slice uA vs.length uC, .int .i64 f', .int .i64 t'] 26))).below hb8)))
          | (go_at_call 23; (refine d23.mono ?_; rintro e w9 ⟨rfl, hb9⟩)))
        go_ret
        exact ⟨rfl, (s8.more hb9).2⟩
      · have hN : NoRow LL := fun vs f' t' h1 h2 e => hE ⟨vs, f', t', h1, h2, e⟩
        have c21 := fun W (hW : St w W) => decode21_no _ LL W (hsbL.below hW.2) hN (by omega) hW.1
        have c22 := fun W (hW : St w W) => decode22_no _ LL W (hsbL.below hW.2) hL200 hN hW.1
        have c23 := fun (u u' : Value) W (hu : SV W u []) (hu' : SV W u' []) => samerow23 u u' [] [] 0 0 0 0 W hu hu' (by simp) (by simp)
        rw [show (cmpR [] 0 0 [] 0 0 == 0) = true by rw [cmpR_self]; rfl] at c23
        clear hE hN hsbL hL200
        go_wp2_with (first
          | (go_at_call 21; (refine (c21 _ s4).mono ?_; clear c21; rintro e w5 ⟨rfl, hb5⟩; have s5 := (s4.more hb5).alloc (.cells #[.slice none 0 0, .int .i64 0, .int .i64 0] 26)))
          | (go_at_call 22; (refine (c22 _ s5).mono ?_; clear c22; rintro e w6 ⟨rfl, hb6⟩; have s6 := (s5.more hb6).alloc (.cells #[.slice none 0 0, .int .i64 0, .int .i64 0] 26)))
          | (go_at_call 10; (refine (k10 _ s6.1).mono ?_; rintro e w8 ⟨rfl, hb8⟩; have s8 := s6.more hb8; have cv : ∀ W, (convert 34 9 (.slice none 0 0)).run Tryd.prog W = .ok (.string ByteArray.empty) W := fun W => run_convert_bytes_nil W 34 5 Tryd.underlying34 Tryd.underlying5 0 0 9 Tryd.underlying9; obtain ⟨p0, _⟩ := new_cells hb8 0; obtain ⟨p1, _⟩ := new_cells hb8 1; obtain ⟨p2, _⟩ := new_cells hb8 2; have o0 := (bmore hb6 (bmore (al w6 (.cells #[.slice none 0 0, .int .i64 0, .int .i64 0] 26)) hb8)).cell (p := ⟨w5.heap.size, 0, none⟩) (by simp); have o1 := (bmore hb6 (bmore (al w6 (.cells #[.slice none 0 0, .int .i64 0, .int .i64 0] 26)) hb8)).cell (p := ⟨w5.heap.size, 1, none⟩) (by simp); have o2 := (bmore hb6 (bmore (al w6 (.cells #[.slice none 0 0, .int .i64 0, .int .i64 0] 26)) hb8)).cell (p := ⟨w5.heap.size, 2, none⟩) (by simp); simp at p0 p1 p2 o0 o1 o2; have d23 := c23 (.slice none 0 0) (.slice none 0 0) w8 (.inl ⟨_, _, rfl, rfl⟩) (.inl ⟨_, _, rfl, rfl⟩)))
          | (go_at_call 23; (refine d23.mono ?_; rintro e w9 ⟨rfl, hb9⟩)))
        go_ret
        exact ⟨rfl, (s8.more hb9).2⟩
    · have c19 := encode19_yes _ A f t W2 (hsa.below hk2.st.2) nA hr hk2.st.1
      have c20 := fun W (h : O1 w (.slice p n c) f t W) => encode20_yes _ A f t W (hsa.below h.st.2) nA hr h.st.1
      clear hr nA lA hsa
      generalize encR A f t = EE at *
      go_wp2_with fail
      refine c19.mono ?_
      rintro e w3 ⟨ux, rfl, hx, hb3⟩
      have hk3 := hk2.below hb3
      obtain ⟨z0, z1, z2, z3, z4, z5⟩ := id hk3.x
      have d20 := c20 _ hk3
      clear c19 c20 hk2 hb3 x0 x1 x2 x3 x4 x5
      go_wp2_with fail
      refine d20.mono ?_
      rintro e w4 ⟨uy, rfl, hy, hbx4⟩
      have s4 := hk3.st.more hbx4
      clear d20 hk3 z0 z1 z2 z3 z4 z5
      by_cases hE : ∃ vs f' t', rightRow vs f' t' = true ∧ (∀ x ∈ vs, inI64 x.2.1) ∧ LL = encR vs f' t'
      · obtain ⟨vs, f', t', hr', hi', rfl⟩ := hE
        obtain ⟨h1', h4', hok', _⟩ := rightRow_parts hr'
        have fw := few_ok (vs := vs) fun x hx => ⟨hok' x hx, hi' x hx⟩
        have c21 := fun W (hW : St w W) => decode21_sb _ vs f' t' W (hsbL.below hW.2) hr' fw hW.1
        have c22 := fun W (hW : St w W) => decode22_yes _ vs f' t' W (hsbL.below hW.2) hL200 hr' hi' hW.1
        have c23 := fun u u' W (hu : SV W u vs) (hu' : SV W u' vs) => samerow23 u u' vs vs f' t' f' t' W hu hu' (by omega) (by omega)
        rw [show (cmpR vs f' t' vs f' t' == 0) = true by rw [cmpR_self]; rfl] at c23
        clear hr' hi' h1' h4' hok' fw hsbL hL200
        go_wp2_with (first
          | (go_at_call 21; (refine (c21 _ s4).mono ?_; clear c21; rintro e w5 ⟨u5, rfl, hu5, hb5⟩; obtain ⟨ua, uc, rfl, _⟩ := sv_form hu5.sv; have s5 := (s4.more hb5).alloc (.cells #[.slice ua vs.length uc, .int .i64 f', .int .i64 t'] 26)))
          | (go_at_call 22; (refine (c22 _ s5).mono ?_; clear c22; rintro e w6 ⟨u6, rfl, hu6, hb6⟩; obtain ⟨uA, uC, rfl, _⟩ := sv_form hu6.sv; have s6 := (s5.more hb6).alloc (.cells #[.slice uA vs.length uC, .int .i64 f', .int .i64 t'] 26)))
          | (go_at_call 10; (refine (k10 _ s6.1).mono ?_; rintro e w8 ⟨rfl, hb8⟩; have s8 := s6.more hb8; have cv1 := conv_own (hx.below (bmore hbx4 (bmore (bmore hb5 (al w5 (.cells #[.slice ua vs.length uc, .int .i64 f', .int .i64 t'] 26))) (bmore (bmore hb6 (al w6 (.cells #[.slice uA vs.length uC, .int .i64 f', .int .i64 t'] 26))) hb8)))); have cv2 := conv_own (hy.below (bmore (bmore hb5 (al w5 (.cells #[.slice ua vs.length uc, .int .i64 f', .int .i64 t'] 26))) (bmore (bmore hb6 (al w6 (.cells #[.slice uA vs.length uC, .int .i64 f', .int .i64 t'] 26))) hb8))); obtain ⟨p0, _⟩ := new_cells hb8 0; obtain ⟨p1, _⟩ := new_cells hb8 1; obtain ⟨p2, _⟩ := new_cells hb8 2; have o0 := (bmore hb6 (bmore (al w6 (.cells #[.slice uA vs.length uC, .int .i64 f', .int .i64 t'] 26)) hb8)).cell (p := ⟨w5.heap.size, 0, none⟩) (by simp); have o1 := (bmore hb6 (bmore (al w6 (.cells #[.slice uA vs.length uC, .int .i64 f', .int .i64 t'] 26)) hb8)).cell (p := ⟨w5.heap.size, 1, none⟩) (by simp); have o2 := (bmore hb6 (bmore (al w6 (.cells #[.slice uA vs.length uC, .int .i64 f', .int .i64 t'] 26)) hb8)).cell (p := ⟨w5.heap.size, 2, none⟩) (by simp); simp at p0 p1 p2 o0 o1 o2; have d23 := c23 _ _ w8 ((hu5.sv.below (al w5 (.cells #[.slice ua vs.length uc, .int .i64 f', .int .i64 t'] 26))).below (bmore (bmore hb6 (al w6 (.cells #[.slice uA vs.length uC, .int .i64 f', .int .i64 t'] 26))) hb8)) ((hu6.sv.below (al w6 (.cells #[.slice uA vs.length uC, .int .i64 f', .int .i64 t'] 26))).below hb8)))
          | (go_at_call 23; (refine d23.mono ?_; rintro e w9 ⟨rfl, hb9⟩)))
        go_ret
        exact ⟨rfl, (s8.more hb9).2⟩
      · have hN : NoRow LL := fun vs f' t' h1 h2 e => hE ⟨vs, f', t', h1, h2, e⟩
        have c21 := fun W (hW : St w W) => decode21_no _ LL W (hsbL.below hW.2) hN (by omega) hW.1
        have c22 := fun W (hW : St w W) => decode22_no _ LL W (hsbL.below hW.2) hL200 hN hW.1
        have c23 := fun (u u' : Value) W (hu : SV W u []) (hu' : SV W u' []) => samerow23 u u' [] [] 0 0 0 0 W hu hu' (by simp) (by simp)
        rw [show (cmpR [] 0 0 [] 0 0 == 0) = true by rw [cmpR_self]; rfl] at c23
        clear hE hN hsbL hL200
        go_wp2_with (first
          | (go_at_call 21; (refine (c21 _ s4).mono ?_; clear c21; rintro e w5 ⟨rfl, hb5⟩; have s5 := (s4.more hb5).alloc (.cells #[.slice none 0 0, .int .i64 0, .int .i64 0] 26)))
          | (go_at_call 22; (refine (c22 _ s5).mono ?_; clear c22; rintro e w6 ⟨rfl, hb6⟩; have s6 := (s5.more hb6).alloc (.cells #[.slice none 0 0, .int .i64 0, .int .i64 0] 26)))
          | (go_at_call 10; (refine (k10 _ s6.1).mono ?_; rintro e w8 ⟨rfl, hb8⟩; have s8 := s6.more hb8; have cv1 := conv_own (hx.below (bmore hbx4 (bmore (bmore hb5 (al w5 (.cells #[.slice none 0 0, .int .i64 0, .int .i64 0] 26))) (bmore (bmore hb6 (al w6 (.cells #[.slice none 0 0, .int .i64 0, .int .i64 0] 26))) hb8)))); have cv2 := conv_own (hy.below (bmore (bmore hb5 (al w5 (.cells #[.slice none 0 0, .int .i64 0, .int .i64 0] 26))) (bmore (bmore hb6 (al w6 (.cells #[.slice none 0 0, .int .i64 0, .int .i64 0] 26))) hb8))); obtain ⟨p0, _⟩ := new_cells hb8 0; obtain ⟨p1, _⟩ := new_cells hb8 1; obtain ⟨p2, _⟩ := new_cells hb8 2; have o0 := (bmore hb6 (bmore (al w6 (.cells #[.slice none 0 0, .int .i64 0, .int .i64 0] 26)) hb8)).cell (p := ⟨w5.heap.size, 0, none⟩) (by simp); have o1 := (bmore hb6 (bmore (al w6 (.cells #[.slice none 0 0, .int .i64 0, .int .i64 0] 26)) hb8)).cell (p := ⟨w5.heap.size, 1, none⟩) (by simp); have o2 := (bmore hb6 (bmore (al w6 (.cells #[.slice none 0 0, .int .i64 0, .int .i64 0] 26)) hb8)).cell (p := ⟨w5.heap.size, 2, none⟩) (by simp); simp at p0 p1 p2 o0 o1 o2; have d23 := c23 (.slice none 0 0) (.slice none 0 0) w8 (.inl ⟨_, _, rfl, rfl⟩) (.inl ⟨_, _, rfl, rfl⟩)))
          | (go_at_call 23; (refine d23.mono ?_; rintro e w9 ⟨rfl, hb9⟩)))
        go_ret
        exact ⟨rfl, (s8.more hb9).2⟩
end Go.Proofs.YtolggmmlaohpdabDoor
