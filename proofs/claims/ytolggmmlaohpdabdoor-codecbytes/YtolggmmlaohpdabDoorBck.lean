/- The law CodecBack, walked. -/
import Derived.Test.YtolggmmlaohpdabDoorGup3
import Derived.Test.YtolggmmlaohpdabDoorTel2
namespace Go.Proofs.YtolggmmlaohpdabDoor
open Go.RowKit Go.Lib
set_option maxRecDepth 100000

set_option maxHeartbeats 1000000 in
theorem samerow23 (v v' : Value) (a b : List Vt) (f t f' t' : Int) (w : World) (ha : SV w v a) (hb : SV w v' b) (hza : a.length ≤ 140737488355328) (hzb : b.length ≤ 140737488355328) :
    Calls Tryd.prog 23 #[RV v f t, RV v' f' t'] w fun e w' => e = .returned (.bool (cmpR a f t b f' t' == 0)) ∧ Below w.heap.size w w' := by
  have c14 := fun o1 o2 => compare14r v v' a b f t f' t' ((w.alloc o1).alloc o2) ((ha.below (al _ _)).below (al _ _)) ((hb.below (al _ _)).below (al _ _)) hza hzb
  generalize cmpR a f t b f' t' = C at *
  clear ha hb hza hzb
  go_enter Tryd.func23, Tryd.ntmps23
  go_wp2_with (go_at_call 14; (refine (c14 _ _).mono ?_; rintro e w1 ⟨rfl, hb1⟩))
  go_ret
  exact ⟨rfl, two_over hb1⟩

theorem cmpL_self : ∀ a : List Vt, cmpL a a = 0
  | [] => rfl
  | x :: a => by unfold cmpL; rw [if_pos (show cmpT x x = 0 from cmpV_self _ _ _)]; exact cmpL_self a
theorem cmpR_self (a : List Vt) (f t : Int) : cmpR a f t a f t = 0 := by
  unfold cmpR; rw [if_pos (cmpL_self a), if_pos rfl]; simp [compareInt]

/-- A row in a block of the call's. -/
structure O1 (w : World) (v : Value) (f t : Int) (W : World) : Prop where
  x : Bx W w.heap.size v (.int .i64 f) (.int .i64 t)
  st : St w W
theorem O1.below {w : World} {v : Value} {f t : Int} {W W' : World} (h : O1 w v f t W) (hb : Below W.heap.size W W') : O1 w v f t W' := ⟨h.x.below hb, h.st.more hb⟩
theorem O1.put {w : World} {v : Value} {f t : Int} {W : World} (h : O1 w v f t W) (hg : Good w) (u : Value) : O1 w u f t (((W.setCell ⟨w.heap.size, 0, none⟩ u).setCell ⟨w.heap.size, 1, none⟩ (.int .i64 f)).setCell ⟨w.heap.size, 2, none⟩ (.int .i64 t)) := by
  have b := ((h.st.2.setCell (p := ⟨w.heap.size, 0, none⟩) (Nat.le_refl _) u).setCell (p := ⟨w.heap.size, 1, none⟩) (Nat.le_refl _) (.int .i64 f)).setCell (p := ⟨w.heap.size, 2, none⟩) (Nat.le_refl _) (.int .i64 t)
  exact ⟨((h.x.set0 u).set1 _).set2 _, hg.below b, b⟩
theorem o1_start {w : World} (v : Value) (f t : Int) (hg : Good w) : O1 w v f t (w.alloc (.cells #[v, .int .i64 f, .int .i64 t] 26)) :=
  ⟨⟨by simp, by simp, by simp, by simp, by simp, by simp⟩, (St.start hg).alloc _⟩

theorem enc_at3 (v : Value) (vs : List Vt) (f t : Int) (w : World) (hsv : SV w v vs) (hvs : Few vs) (hr : rightRow vs f t = true) (hg : Good w) :
    Calls Tryd.prog 19 #[RV v f t] w fun e w' => ∃ g c, e = .returned (.tuple #[.slice (some ⟨g, 0, none⟩) (encR vs f t).length c, .int .i64 0]) ∧ At w' g 0 (encR vs f t) ∧ (encR vs f t).length ≤ c ∧ c ≤ maxLen ∧ Below w.heap.size w w' := by
  refine (encode19_yes v vs f t w hsv hvs hr hg).mono ?_
  rintro e w' ⟨u, rfl, h2, h3⟩
  obtain ⟨g, c, rfl, h4, h5, _, hat⟩ := brow_at h2 (by have := key_facts hr; omega)
  exact ⟨g, c, rfl, hat, h4, h5, h3⟩

set_option maxHeartbeats 1000000 in
theorem back5_a (v vb : Value) (a : List Vt) (L : Bs) (f t : Int) (w : World) (ha : SV w v a) (na : Few a) (hb : SB w vb L) (hL : L.length ≤ 1900000) (hg : Good w) :
    Calls Tryd.prog 5 #[RV v f t, vb] w fun e w' => e = .returned (.bool true) ∧ Below w.heap.size w w' := by
  have k9 := fun W (hW : St w W) => (few9 v a f t W (ha.below hW.2)).mono (R' := fun e w' => ∃ p n c, e = .returned (RV (.slice p n c) f t) ∧ SV w (.slice p n c) (a.take 8) ∧ Below W.heap.size W w') fun e w' ⟨p, n, c, h1, h2, h3⟩ => ⟨p, n, c, h1, h2 w ha, h3⟩
  have hk0 := o1_start v f t hg
  have nA : Few (a.take 8) := fun x hx => na x (List.mem_of_mem_take hx)
  have lA : (a.take 8).length ≤ 140737488355328 := by rw [List.length_take]; omega
  have k10 := fun W hW => live10 W hW
  generalize a.take 8 = A at *
  clear ha na
  go_enter Tryd.func5, Tryd.ntmps5
  go_wp2_with fail
  generalize w.alloc (.cells #[v, .int .i64 f, .int .i64 t] 26) = W0 at *
  obtain ⟨x0, x1, x2, x3, x4, x5⟩ := id hk0.x
  refine (k9 W0 hk0.st).mono ?_
  rintro e w1 ⟨p, n, c, rfl, hsa, hb1⟩
  have hk1 := hk0.below hb1
  have hk2 := hk1.put hg (.slice p n c)
  obtain ⟨r0, r1, r2, r3, r4, r5⟩ := id hk1.x
  clear k9 hk0 hb1 x0 x1 x2 x3 x4 x5 hk1
  go_wp2_with fail
  generalize ((w1.setCell ⟨w.heap.size, 0, none⟩ (.slice p n c)).setCell ⟨w.heap.size, 1, none⟩ (.int .i64 f)).setCell ⟨w.heap.size, 2, none⟩ (.int .i64 t) = W2 at *
  clear r0 r1 r2 r3 r4 r5
  obtain ⟨x0, x1, x2, x3, x4, x5⟩ := id hk2.x
  cases hr : rightRow A f t
  · have c19 := fun W (h : O1 w (.slice p n c) f t W) => encode19_no _ A f t W (hsa.below h.st.2) lA nA hr h.st.1
    clear hr nA lA hsa
    refine (c19 _ hk2).mono ?_
    rintro e w3 ⟨rfl, hb3⟩
    have s4 := hk2.st.more hb3
    clear c19 hk2 hb3 x0 x1 x2 x3 x4 x5
    by_cases hE : ∃ vs f' t', rightRow vs f' t' = true ∧ (∀ x ∈ vs, inI64 x.2.1) ∧ L = encR vs f' t'
    · obtain ⟨vs, f', t', hr', hi', rfl⟩ := hE
      obtain ⟨h1', h4', hok', _⟩ := rightRow_parts hr'
      have fw := few_ok (vs := vs) fun x hx => ⟨hok' x hx, hi' x hx⟩
      obtain ⟨bb, bo, bc, rfl, hc', hm', hat'⟩ : ∃ bb bo bc, vb = .slice (some ⟨bb, bo, none⟩) (encR vs f' t').length bc ∧ (encR vs f' t').length ≤ bc ∧ bc ≤ maxLen ∧ At w bb bo (encR vs f' t') := by
        rcases hb with ⟨_, _, _, h⟩ | ⟨b, o, c, rfl, _, h2, h3, h4⟩
        · have h1 := key_facts hr'
          rw [h] at h1
          have h2 := h1.2.1
          simp only [List.length_nil] at h2
          omega
        · exact ⟨b, o, c, rfl, h2, h3, h4⟩
      have c21 := fun W (hW : St w W) => decode21_yes bb bo bc vs f' t' W (hat'.below hW.2) hc' hm' hr' fw hW.1
      have c19 := fun u W (hu : SV W u vs) (hW : St w W) => enc_at3 u vs f' t' W hu fw hr' hW.1
      have hatb := fun W (hW : St w W) => hat'.below hW.2
      clear hr' hi' h1' h4' hok' fw hb hc' hm' hat' hL
      generalize encR vs f' t' = LL at *
      go_wp2_with (first
        | (go_at_call 21; (refine (c21 _ s4).mono ?_; clear c21; rintro e w5 ⟨u, rfl, hu, hb5⟩; obtain ⟨ua, uc, rfl, _⟩ := sv_form hu.sv; have s5 := (s4).more hb5; have s6 := s5.alloc (.cells #[.slice ua vs.length uc, .int .i64 f', .int .i64 t'] 26); have v6 := hu.sv.below (al w5 (.cells #[.slice ua vs.length uc, .int .i64 f', .int .i64 t'] 26))))
        | (go_at_call 19; (refine (c19 _ _ v6 s6).mono ?_; rintro e w7 ⟨g7, c7, rfl, hat7, _, _, hb7⟩; have s7 := s6.more hb7))
        | (go_at_call 10; (refine (k10 _ s7.1).mono ?_; rintro e w8 ⟨rfl, hb8⟩; have cv1 := conv_at (c := c7) (hat7.below hb8); have cv2 := conv_at (c := bc) (hatb _ (s7.more hb8)))))
      go_ret
      exact ⟨rfl, (s7.more hb8).2⟩
    · have hN : NoRow L := fun vs f' t' h1 h2 e => hE ⟨vs, f', t', h1, h2, e⟩
      have c21 := fun W (hW : St w W) => decode21_no vb L W (hb.below hW.2) hN hL hW.1
      clear hE hN hb hL
      go_wp2_with (first
        | (go_at_call 21; (refine (c21 _ s4).mono ?_; clear c21; rintro e w5 ⟨rfl, hb5⟩; have s6 := ((s4).more hb5).alloc (.cells #[.slice none 0 0, .int .i64 0, .int .i64 0] 26)))
        | (go_at_call 10; (refine (k10 _ s6.1).mono ?_; rintro e w8 ⟨rfl, hb8⟩; have q0 := (new_cells hb8 0).1; simp at q0)))
      go_ret
      exact ⟨rfl, (s6.more hb8).2⟩
  · refine (enc_at3 _ A f t W2 (hsa.below hk2.st.2) nA hr hk2.st.1).mono ?_
    rintro e w3 ⟨g, cc, rfl, hat3, hc3, hm3, hb3⟩
    have hk3 := hk2.below hb3
    have c21 := decode21_yes g 0 cc A f t w3 hat3 hc3 hm3 hr nA hk3.st.1
    have c23 := fun u W (hu : SV W u A) (hW : St w W) => samerow23 u (.slice p n c) A A f t f t W hu (hsa.below hW.2) lA lA
    rw [show (cmpR A f t A f t == 0) = true by rw [cmpR_self]; rfl] at c23
    clear hr nA lA hsa hat3 hc3 hm3 hb3 hk2 x0 x1 x2 x3 x4 x5
    generalize (encR A f t).length = nE at *
    go_wp2_with fail
    refine c21.mono ?_
    rintro e w4 ⟨u, rfl, hu, hb4⟩
    obtain ⟨ua, uc, rfl, _⟩ := sv_form hu.sv
    have hk4 := hk3.below hb4
    have hk5 := hk4.below (al w4 (.cells #[.slice ua A.length uc, .int .i64 f, .int .i64 t] 26))
    have v5 := hu.sv.below (al w4 (.cells #[.slice ua A.length uc, .int .i64 f, .int .i64 t] 26))
    obtain ⟨x0, x1, x2, x3, x4, x5⟩ := id hk5.x
    have d23 := c23 _ _ v5 hk5.st
    clear c21 c23 hk3 hu hb4 v5
    go_wp2_with fail
    refine d23.mono ?_
    rintro e w5 ⟨rfl, hb5⟩
    have s4 := hk5.st.more hb5
    clear d23 hk4 hk5 hb5 x0 x1 x2 x3 x4 x5
    generalize A.length = nA' at *
    by_cases hE : ∃ vs f' t', rightRow vs f' t' = true ∧ (∀ x ∈ vs, inI64 x.2.1) ∧ L = encR vs f' t'
    · obtain ⟨vs, f', t', hr', hi', rfl⟩ := hE
      obtain ⟨h1', h4', hok', _⟩ := rightRow_parts hr'
      have fw := few_ok (vs := vs) fun x hx => ⟨hok' x hx, hi' x hx⟩
      obtain ⟨bb, bo, bc, rfl, hc', hm', hat'⟩ : ∃ bb bo bc, vb = .slice (some ⟨bb, bo, none⟩) (encR vs f' t').length bc ∧ (encR vs f' t').length ≤ bc ∧ bc ≤ maxLen ∧ At w bb bo (encR vs f' t') := by
        rcases hb with ⟨_, _, _, h⟩ | ⟨b, o, c, rfl, _, h2, h3, h4⟩
        · have h1 := key_facts hr'
          rw [h] at h1
          have h2 := h1.2.1
          simp only [List.length_nil] at h2
          omega
        · exact ⟨b, o, c, rfl, h2, h3, h4⟩
      have c21 := fun W (hW : St w W) => decode21_yes bb bo bc vs f' t' W (hat'.below hW.2) hc' hm' hr' fw hW.1
      have c19 := fun u W (hu : SV W u vs) (hW : St w W) => enc_at3 u vs f' t' W hu fw hr' hW.1
      have hatb := fun W (hW : St w W) => hat'.below hW.2
      clear hr' hi' h1' h4' hok' fw hb hc' hm' hat' hL
      generalize encR vs f' t' = LL at *
      go_wp2_with (first
        | (go_at_call 21; (refine (c21 _ s4).mono ?_; clear c21; rintro e w9 ⟨u, rfl, hu, hb9⟩; obtain ⟨ua, uc, rfl, _⟩ := sv_form hu.sv; have s9 := (s4).more hb9; have s6 := s9.alloc (.cells #[.slice ua vs.length uc, .int .i64 f', .int .i64 t'] 26); have v6 := hu.sv.below (al w9 (.cells #[.slice ua vs.length uc, .int .i64 f', .int .i64 t'] 26))))
        | (go_at_call 19; (refine (c19 _ _ v6 s6).mono ?_; rintro e w7 ⟨g7, c7, rfl, hat7, _, _, hb7⟩; have s7 := s6.more hb7))
        | (go_at_call 10; (refine (k10 _ s7.1).mono ?_; rintro e w8 ⟨rfl, hb8⟩; have cv1 := conv_at (c := c7) (hat7.below hb8); have cv2 := conv_at (c := bc) (hatb _ (s7.more hb8)))))
      go_ret
      exact ⟨rfl, (s7.more hb8).2⟩
    · have hN : NoRow L := fun vs f' t' h1 h2 e => hE ⟨vs, f', t', h1, h2, e⟩
      have c21 := fun W (hW : St w W) => decode21_no vb L W (hb.below hW.2) hN hL hW.1
      clear hE hN hb hL
      go_wp2_with (first
        | (go_at_call 21; (refine (c21 _ s4).mono ?_; clear c21; rintro e w9 ⟨rfl, hb9⟩; have s6 := ((s4).more hb9).alloc (.cells #[.slice none 0 0, .int .i64 0, .int .i64 0] 26)))
        | (go_at_call 10; (refine (k10 _ s6.1).mono ?_; rintro e w8 ⟨rfl, hb8⟩; have q0 := (new_cells hb8 0).1; simp at q0)))
      go_ret
      exact ⟨rfl, (s6.more hb8).2⟩
end Go.Proofs.YtolggmmlaohpdabDoor
