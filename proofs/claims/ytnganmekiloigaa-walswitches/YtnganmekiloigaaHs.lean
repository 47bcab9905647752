/- The law WalSwitches. -/
import Derived.Test.YtnganmekiloigaaHv
import Derived.Deep.CutRange
namespace Go.Proofs.Ytnganmekiloigaa
open Go.RowKit
set_option maxRecDepth 100000
theorem kb_of_ink {W0 W : World} {v : Value} {kl : List Bool} (h : InK W0.heap.size W0 v kl) (hB : Below W0.heap.size W0 W) : KB W v kl := by
  obtain ⟨a, c, rfl, h1, h2, h3⟩ := h.below hB
  by_cases h0 : 0 < kl.length
  · obtain ⟨b, o, rfl, hb, hat⟩ := h3 h0
    exact .inr ⟨b, o, c, rfl, h0, hat⟩
  · have e : kl = [] := List.eq_nil_of_length_eq_zero (by omega)
    subst e
    exact .inl ⟨a, c, rfl, rfl⟩
theorem ink_low {W0 : World} {v : Value} {kl : List Bool} (h : InK W0.heap.size W0 v kl) : ∀ a n c, v = .slice (some a) n c → 0 < kl.length → a.block < W0.heap.size := fun a n c e h0 => by
  obtain ⟨a', c', h1, _, _, h3⟩ := h
  obtain ⟨b, o, e', hb, _⟩ := h3 h0
  rw [h1, e'] at e
  cases e
  exact hb
theorem info69s : (Try.prog.info? 69).map (·.size) = some 4 := by kernel_rfl
theorem range4 {W : World} {b o : Nat} {v0 v1 v2 v3 : Value} (h : W.cell? ⟨b, o, none⟩ = some v0 ∧ W.cell? ⟨b, o + 1, none⟩ = some v1 ∧ W.cell? ⟨b, o + 2, none⟩ = some v2 ∧ W.cell? ⟨b, o + 3, none⟩ = some v3) : W.rangeAt b o [v0, v1, v2, v3] := fun j v hv => by
  obtain ⟨h0, h1, h2, h3⟩ := h
  match j, hv with
  | 0, hv => cases hv; exact h0
  | 1, hv => cases hv; exact h1
  | 2, hv => cases hv; exact h2
  | 3, hv => cases hv; exact h3
  | n + 4, hv => simp at hv
theorem meas_lt20 {m k : Nat} (h : m < k) : k - ((m : Int) + 1).toNat < k - ((m : Int)).toNat := by omega
set_option maxHeartbeats 4000000 in
theorem switches11 (W0 : World) (v0 : Value) (l : List WDeed) (hl : InDW W0.heap.size W0 v0 l) (v1 : Value) (b : Bs) (hb : InB W0.heap.size W0 v1 b) (v2 : Value) (kl : List Bool) (hkl : InK W0.heap.size W0 v2 kl) :
    Calls Try.prog 11 #[v0, v1, v2] W0 fun e w' => e = .returned (.bool true) ∧ Below W0.heap.size W0 w' := by
  have c29 := new29 12 W0 (by omega) (by omega)
  obtain ⟨a0, c0, rfl, hmx, _⟩ := id hl
  have HD : Hid (∀ i, i < l.length → ∃ b o, a0 = some ⟨b, o, none⟩ ∧ ∃ k N vb vk bs kl, DW W0 b (o + i * 4) k N vb vk bs kl) := fun i hi => dw_of hl hi
  obtain ⟨a1, c1, rfl, hc1, _, _⟩ := id hb
  obtain ⟨a2, c2, rfl, hc2, _, _⟩ := id hkl
  have HL31 : Hid (∀ w, Calls Try.prog 31 #[] w fun e w' => e = .returned (.bool true) ∧ Below w.heap.size w w') := live31
  generalize l.length = nl at *
  have HB : Hid (InB W0.heap.size W0 (.slice a1 b.length c1) b) := hb
  have HK : Hid (InK W0.heap.size W0 (.slice a2 kl.length c2) kl) := hkl
  have HBL : Hid (b.length = b.length) := rfl
  have k37 := bits37 a2 kl.length c2 hc2
  have k40 := short40 a1 b.length c1 hc1
  clear hl hb hkl
  generalize kl.length = nk at *
  generalize hnb : b.length = nb at *
  clear hnb
  go_enter Try.func11, Try.ntmps11
  go_wp2_with (first
    | (go_at_call 29; (refine c29.mono ?_; rintro e w1 ⟨rfl, hPD, B1⟩; have k35 := open_new (R := 6) (alone_new29 hPD B1) (by omega) (by omega)))
    | (go_at_call 35; (refine k35.mono ?_; rintro e w2 ⟨x, ua, uc, rfl, A2, -, B2⟩; have B12 := B1.trans (B2.mono B1.size)))
    | (go_at_call 31; (refine Calls.mono (HL31.out _) ?_; rintro e w3 ⟨rfl, B3⟩; have H3 : Hid (Sy W0.heap.size (w3.alloc (.cells #[.slice none 0 0, .slice none 0 0] 67)) (W0.heap.size + 1) W0.heap.size x w3.heap.size 1 ∧ Below W0.heap.size W0 (w3.alloc (.cells #[.slice none 0 0, .slice none 0 0] 67))) := ⟨sy_new (A2.below B3), (B12.trans (B3.mono B12.size)).trans ((al w3 _).mono (Nat.le_trans B12.size B3.size))⟩; clear A2 B12 B1 B2 hPD k35 c29)))
  obtain ⟨q, hq⟩ : ∃ q, w3.heap.size = q := ⟨_, rfl⟩
  rw [hq] at H3 ⊢
  clear hq
  generalize w3.alloc (.cells #[.slice none 0 0, .slice none 0 0] 67) = w4 at *
  go_loopw [12] (fun p wr => ∃ i : Nat, p = .int .i64 (i : Int) ∧ Hid (i ≤ 20) ∧ Hid (Sy W0.heap.size wr (W0.heap.size + 1) W0.heap.size x q (1 + i) ∧ Below W0.heap.size W0 wr)) (fun p _ => 20 - (intOf p).toNat)
  case atStart => exact ⟨0, rfl, Nat.zero_le _, H3.out⟩
  case round =>
    clear H3
    obtain ⟨i, rfl, hi, HI⟩ := hrel
    by_cases hlt : i < nl ∧ i < 20
    · obtain ⟨hln, hl20⟩ := hlt
      have b1 : (i : Int) < (nl : Int) := by omega
      have b2 : (i : Int) < 20 := by omega
      have b3 : decide ((i : Int) < (nl : Int)) = true := decide_eq_true b1
      have b4 : decide (i < nl) = true := decide_eq_true hln
      have h0i : (0 : Int) ≤ (i : Int) := by omega
      obtain ⟨bl, ol, rfl, k, N, vb, vk, bs, ks, hdw⟩ := HD.out i hln
      obtain ⟨z0, z1, z2, z3⟩ := hdw.cells _ HI.out.2
      have k36 := step36 (k := k) (N := N) (vk := vk) HI.out.1 (by omega) (hdw.inb.below HI.out.2)
      have HBW : Hid (Below W0.heap.size W0 wr) := HI.out.2
      have HI1 : Hid (i + 1 ≤ 20) := hl20
      obtain ⟨va, vn, vc, rfl⟩ := hdw.inb.form
      obtain ⟨ka, kn, kc, rfl⟩ := hdw.ink.form
      clear HI hdw
      go_wp2_with (first
        | (go_at_call 36; (refine k36.mono ?_; rintro e w5 ⟨rfl, h5⟩; have H5 : Hid (StPost W0.heap.size wr (W0.heap.size + 1) W0.heap.size x q (1 + i) w5) := h5; clear h5)))
      go_roundw
      case rel => exact ⟨i + 1, by simp, HI1.out, H5.out.1.up (by omega), HBW.out.trans H5.out.2⟩
      case measure => simp only [intOf]; exact meas_lt20 hl20
    · have hIE : 1 + i ≤ 60000 := by have := hi.out; omega
      have HBW : Hid (Below W0.heap.size W0 wr) := HI.out.2
      have hib := inb_take (k := 400) (HB.out.below HI.out.2)
      obtain ⟨m, hm⟩ : ∃ m, min nb 400 = m := ⟨_, rfl⟩
      obtain ⟨mk, hmk⟩ : ∃ mk, min nk 40 = mk := ⟨_, rfl⟩
      rw [hm] at hib k40
      rw [hmk] at k37
      obtain ⟨hf, hhf, k43, k41a⟩ := HI.out.1.ends hIE hib (by omega)
      have k41 : Calls Try.prog 41 #[.pointer (some ⟨x, 0, none⟩), .slice a1 m c1] wr fun e w' => (e = .returned (.int .i64 2) ∧ m = 0 ∧ Below W0.heap.size wr w') ∨ (e = .returned (.int .i64 15) ∧ (342 : Int) < (m : Int) ∧ Below W0.heap.size wr w') ∨ (e = .returned (.int .i64 0) ∧ 0 < m ∧ Sw W0.heap.size w' (W0.heap.size + 1) W0.heap.size x (1 - hf) (b.take 400) ∧ Below W0.heap.size wr w') := k41a.mono (by
        rintro e w9 (⟨h1, h2, h3⟩ | ⟨h1, h2, h3⟩ | ⟨h1, h0, h2, h3⟩)
        · exact .inl ⟨h1, h2, h3⟩
        · exact .inr (.inl ⟨h1, by omega, h3⟩)
        · exact .inr (.inr ⟨h1, h0, h2, h3⟩))
      have HINK : Hid (InK W0.heap.size W0 (.slice a2 mk c2) (kl.take 40)) := by have := ink_take (k := 40) HK.out; rw [hmk] at this; exact this
      have HINB : Hid (∀ W, Below W0.heap.size W0 W → InB W0.heap.size W (.slice a1 m c1) (b.take 400)) := fun W k => by have := inb_take (k := 400) (HB.out.below k); rw [hm] at this; exact this
      have HMB : Hid ((b.take 400).length = m) := by obtain ⟨_, _, h, _⟩ := hib; simp only [Value.slice.injEq] at h; exact h.2.1.symm
      obtain ⟨bs, hbs⟩ : ∃ bs, b.take 400 = bs := ⟨_, rfl⟩
      rw [hbs] at k41 HINB HMB
      obtain ⟨ho, hho, hne⟩ : ∃ ho : Nat, 1 - hf = ho ∧ ((ho : Int) == (hf : Int)) = false := ⟨1 - hf, rfl, by rw [beq_eq_false_iff_ne]; omega⟩
      rw [hho] at k41
      have hne2 : ¬ (ho : Int) = (hf : Int) := by simpa using hne
      have hne3 : ¬ ho = hf := by omega
      have hne4 : ((ho : Int) != (hf : Int)) = true := by simp [bne, hne]
      clear HI hib k41a hm hmk hbs hho hhf hIE
      by_cases hln : i < nl
      · have hl20 : ¬ i < 20 := fun h => hlt ⟨hln, h⟩
        have b1 : (i : Int) < (nl : Int) := by omega
        have b2 : ¬ (i : Int) < 20 := by omega
        have b3 : decide ((i : Int) < (nl : Int)) = true := decide_eq_true b1
        have b4 : decide (i < nl) = true := decide_eq_true hln
        go_wp2_with (first
          | (go_at_call 40; (refine (k40 _).mono ?_; rintro e w9 ⟨rfl, h9⟩; replace h9 := h9.symm; subst h9))
          | (go_at_call 43; (refine k43.mono ?_; rintro e w9 ⟨rfl, h9⟩; replace h9 := h9.symm; subst h9))
          | (go_at_call 41; (refine k41.mono ?_; rintro e w6 (⟨rfl, rfl, B6⟩ | ⟨rfl, hm6, B6⟩ | ⟨rfl, hm6, h6, B6⟩)))
          | (go_at_call 37; (refine (k37 _).mono ?_; rintro e w9 ⟨rfl, h9⟩; replace h9 := h9.symm; subst h9; have k18 := h6.crash (kb_of_ink HINK.out (HBW.out.trans B6)) (ink_low HINK.out); have B06 := HBW.out.trans B6))
          | (go_at_call 18; (refine k18.mono ?_; rintro e w7 ⟨rfl, h7, B7⟩; have k35 := h7.opens; have B07 := B06.trans B7))
          | (go_at_call 35; (refine k35.mono ?_; rintro e w8 ⟨x2, ra, rc, rfl, hr8, hh8, B8⟩; have HB8 : Hid (Below W0.heap.size W0 w8) := B07.trans (B8.mono B07.size); clear B8 B07 B06 B7 B6 h7 h6 k18 k35)))
        · go_ret
          exact ⟨rfl, HBW.out.trans B6⟩
        · go_ret
          exact ⟨rfl, HBW.out.trans B6⟩
        · skip
          obtain ⟨gr, or, p0, k0, q0, rfl, hc9, hl9⟩ := hr8.at (i := 0) (b := bs) rfl
          rw [Nat.add_zero] at hc9
          have hlb := lv_of_in (HINB.out w8 HB8.out)
          have hbp : 0 < bs.length := by rw [HMB.out]; exact hm6
          have HS9 : Hid (∀ W, Below w8.heap.size w8 W → W.cell? ⟨gr, or, none⟩ = some (.slice p0 k0 q0) ∧ LV EB W (.slice p0 k0 q0) bs ∧ LV EB W (.slice a1 m c1) bs) := fun W k => ⟨(k.cell (World.block_lt_of_cell? _ _ hc9)).trans hc9, hl9.below k, hlb.below k⟩
          have hcv1 : ∀ W, LV EB W (.slice p0 k0 q0) bs → (convert 33 9 (.slice p0 k0 q0)).run Try.prog W = .ok (.string (strB bs)) W := fun W h => conv_lv h hbp
          have hcv2 : ∀ W, LV EB W (.slice a1 m c1) bs → (convert 33 9 (.slice a1 m c1)).run Try.prog W = .ok (.string (strB bs)) W := fun W h => conv_lv h hbp
          have k43b := hh8 _ (Below.refl _ w8).drew
          obtain ⟨k43c, k43d⟩ := k43b
          generalize strB bs = sA at *
          clear hr8 hh8 hc9 hl9 hlb hbp k41 k43 k40 k37 hm6
          refine wp_region_held_drew (S := fun W => W.cell? ⟨gr, or, none⟩ = some (.slice p0 k0 q0) ∧ LV EB W (.slice p0 k0 q0) bs ∧ LV EB W (.slice a1 m c1) bs) (by kernel_rfl) (HS9.out _ (Below.refl _ _).drew) (fun hS => ?_)
          refine wpAnyH_take' 0 (some 90) (.int .i64 0) rfl rfl (by kernel_rfl) (by kernel_rfl) (by kernel_rfl) (fun _ _ _ h => h) (Or.inl ⟨by rfl, fun w' hS => by obtain ⟨s0, s1, s2⟩ := hS; go_simp⟩) hS ?_
          simp only [Act.put, List.setIfInBounds_toArray, List.set_cons_zero, List.set_cons_succ]
          refine wpAnyH_take' 1 (some 91) (.bool true) rfl rfl (by kernel_rfl) (by kernel_rfl) (by kernel_rfl) (fun _ _ _ h => h) (Or.inl ⟨by rfl, fun w' hS => by obtain ⟨s0, s1, s2⟩ := hS; go_simp⟩) hS ?_
          simp only [Act.put, List.setIfInBounds_toArray, List.set_cons_zero, List.set_cons_succ]
          refine wpAnyH_take' 2 (some 92) (.bool true) rfl rfl (by kernel_rfl) (by kernel_rfl) (by kernel_rfl) (fun _ _ _ h => h) (Or.inl ⟨by rfl, fun w' hS => by obtain ⟨s0, s1, s2⟩ := hS; go_simp⟩) hS ?_
          simp only [Act.put, List.setIfInBounds_toArray, List.set_cons_zero, List.set_cons_succ]
          refine wpAnyH_take' 3 (some 93) (.pointer (some ⟨x2, 0, none⟩)) rfl rfl (by kernel_rfl) (by kernel_rfl) (by kernel_rfl) (fun _ _ _ h => h) (Or.inl ⟨by rfl, fun w' hS => by obtain ⟨s0, s1, s2⟩ := hS; go_simp⟩) hS ?_
          simp only [Act.put, List.setIfInBounds_toArray, List.set_cons_zero, List.set_cons_succ]
          refine wpAnyH_take' 4 (some 94) (.bool true) rfl rfl (by kernel_rfl) (by kernel_rfl) (by kernel_rfl) (fun _ _ _ h => h) (Or.inl ⟨by rfl, fun w' hS => by obtain ⟨s0, s1, s2⟩ := hS; go_simp⟩) hS ?_
          simp only [Act.put, List.setIfInBounds_toArray, List.set_cons_zero, List.set_cons_succ]
          refine wpAnyH_take' 5 (some 95) (.bool true) rfl rfl (by kernel_rfl) (by kernel_rfl) (by kernel_rfl) (fun _ _ _ h => h) (Or.inl ⟨by rfl, fun w' hS => by obtain ⟨s0, s1, s2⟩ := hS; go_simp⟩) hS ?_
          simp only [Act.put, List.setIfInBounds_toArray, List.set_cons_zero, List.set_cons_succ]
          refine wpAnyH_take' 6 (some 96) (.bool true) rfl rfl (by kernel_rfl) (by kernel_rfl) (by kernel_rfl) (fun _ _ _ h => h) (Or.inl ⟨by rfl, fun w' hS => by obtain ⟨s0, s1, s2⟩ := hS; go_simp⟩) hS ?_
          simp only [Act.put, List.setIfInBounds_toArray, List.set_cons_zero, List.set_cons_succ]
          refine wpAnyH_take' 7 (some 97) (.slice (some ⟨gr, or, none⟩) 1 rc) rfl rfl (by kernel_rfl) (by kernel_rfl) (by kernel_rfl) (fun _ _ _ h => h) (Or.inl ⟨by rfl, fun w' hS => by obtain ⟨s0, s1, s2⟩ := hS; go_simp⟩) hS ?_
          simp only [Act.put, List.setIfInBounds_toArray, List.set_cons_zero, List.set_cons_succ]
          refine wpAnyH_take' 8 (some 98) (.int .i64 1) rfl rfl (by kernel_rfl) (by kernel_rfl) (by kernel_rfl) (fun _ _ _ h => h) (Or.inl ⟨by rfl, fun w' hS => by obtain ⟨s0, s1, s2⟩ := hS; go_simp⟩) hS ?_
          simp only [Act.put, List.setIfInBounds_toArray, List.set_cons_zero, List.set_cons_succ]
          refine wpAnyH_take' 9 (some 99) (.bool true) rfl rfl (by kernel_rfl) (by kernel_rfl) (by kernel_rfl) (fun _ _ _ h => h) (Or.inl ⟨by rfl, fun w' hS => by obtain ⟨s0, s1, s2⟩ := hS; go_simp⟩) hS ?_
          simp only [Act.put, List.setIfInBounds_toArray, List.set_cons_zero, List.set_cons_succ]
          refine wpAnyH_take' 10 (some 100) (.bool true) rfl rfl (by kernel_rfl) (by kernel_rfl) (by kernel_rfl) (fun _ _ _ h => h) (Or.inl ⟨by rfl, fun w' hS => by obtain ⟨s0, s1, s2⟩ := hS; go_simp⟩) hS ?_
          simp only [Act.put, List.setIfInBounds_toArray, List.set_cons_zero, List.set_cons_succ]
          refine wpAnyH_take' 11 (some 101) (.bool true) rfl rfl (by kernel_rfl) (by kernel_rfl) (by kernel_rfl) (fun _ _ _ h => h) (Or.inl ⟨by rfl, fun w' hS => by obtain ⟨s0, s1, s2⟩ := hS; go_simp⟩) hS ?_
          simp only [Act.put, List.setIfInBounds_toArray, List.set_cons_zero, List.set_cons_succ]
          refine wpAnyH_take' 12 (some 102) (.slice (some ⟨gr, or, none⟩) 1 rc) rfl rfl (by kernel_rfl) (by kernel_rfl) (by kernel_rfl) (fun _ _ _ h => h) (Or.inl ⟨by rfl, fun w' hS => by obtain ⟨s0, s1, s2⟩ := hS; go_simp⟩) hS ?_
          simp only [Act.put, List.setIfInBounds_toArray, List.set_cons_zero, List.set_cons_succ]
          refine wpAnyH_take' 13 (some 103) (.pointer (some ⟨gr, or, none⟩)) rfl rfl (by kernel_rfl) (by kernel_rfl) (by kernel_rfl) (fun _ _ _ h => h) (Or.inl ⟨by rfl, fun w' hS => by obtain ⟨s0, s1, s2⟩ := hS; go_simp⟩) hS ?_
          simp only [Act.put, List.setIfInBounds_toArray, List.set_cons_zero, List.set_cons_succ]
          refine wpAnyH_take' 14 (some 104) (.slice p0 k0 q0) rfl rfl (by kernel_rfl) (by kernel_rfl) (by kernel_rfl) (fun _ _ _ h => h) (Or.inl ⟨by rfl, fun w' hS => by obtain ⟨s0, s1, s2⟩ := hS; go_simp⟩) hS ?_
          simp only [Act.put, List.setIfInBounds_toArray, List.set_cons_zero, List.set_cons_succ]
          refine wpAnyH_take' 15 (some 105) (.string sA) rfl rfl (by kernel_rfl) (by kernel_rfl) (by kernel_rfl) (fun _ _ _ h => h) (Or.inl ⟨by rfl, fun w' hS => by obtain ⟨s0, s1, s2⟩ := hS; have hcv := hcv1 _ s1; go_simp⟩) hS ?_
          simp only [Act.put, List.setIfInBounds_toArray, List.set_cons_zero, List.set_cons_succ]
          refine wpAnyH_take' 16 (some 106) (.slice a1 m c1) rfl rfl (by kernel_rfl) (by kernel_rfl) (by kernel_rfl) (fun _ _ _ h => h) (Or.inl ⟨by rfl, fun w' hS => by obtain ⟨s0, s1, s2⟩ := hS; go_simp⟩) hS ?_
          simp only [Act.put, List.setIfInBounds_toArray, List.set_cons_zero, List.set_cons_succ]
          refine wpAnyH_take' 17 (some 107) (.string sA) rfl rfl (by kernel_rfl) (by kernel_rfl) (by kernel_rfl) (fun _ _ _ h => h) (Or.inl ⟨by rfl, fun w' hS => by obtain ⟨s0, s1, s2⟩ := hS; have hcv := hcv2 _ s2; go_simp⟩) hS ?_
          simp only [Act.put, List.setIfInBounds_toArray, List.set_cons_zero, List.set_cons_succ]
          refine wpAnyH_take' 18 (some 108) (.bool true) rfl rfl (by kernel_rfl) (by kernel_rfl) (by kernel_rfl) (fun _ _ _ h => h) (Or.inl ⟨by rfl, fun w' hS => by obtain ⟨s0, s1, s2⟩ := hS; go_simp⟩) hS ?_
          simp only [Act.put, List.setIfInBounds_toArray, List.set_cons_zero, List.set_cons_succ]
          refine wpAnyH_take' 19 (some 109) (.bool true) rfl rfl (by kernel_rfl) (by kernel_rfl) (by kernel_rfl) (fun _ _ _ h => h) (Or.inl ⟨by rfl, fun w' hS => by obtain ⟨s0, s1, s2⟩ := hS; go_simp⟩) hS ?_
          simp only [Act.put, List.setIfInBounds_toArray, List.set_cons_zero, List.set_cons_succ]
          refine wpAnyH_take' 20 (some 110) (.bool true) rfl rfl (by kernel_rfl) (by kernel_rfl) (by kernel_rfl) (fun _ _ _ h => h) (Or.inl ⟨by rfl, fun w' hS => by obtain ⟨s0, s1, s2⟩ := hS; go_simp⟩) hS ?_
          simp only [Act.put, List.setIfInBounds_toArray, List.set_cons_zero, List.set_cons_succ]
          refine wpAnyH_take' 21 (some 111) (.pointer (some ⟨x2, 0, none⟩)) rfl rfl (by kernel_rfl) (by kernel_rfl) (by kernel_rfl) (fun _ _ _ h => h) (Or.inl ⟨by rfl, fun w' hS => by obtain ⟨s0, s1, s2⟩ := hS; go_simp⟩) hS ?_
          simp only [Act.put, List.setIfInBounds_toArray, List.set_cons_zero, List.set_cons_succ]
          refine wpAnyH_take' 23 (some 113) (.int .i64 (hf : Int)) rfl rfl (by kernel_rfl) (by kernel_rfl) (by kernel_rfl) (fun _ _ _ h => h) (Or.inl ⟨by rfl, fun w' hS => by obtain ⟨s0, s1, s2⟩ := hS; go_simp⟩) hS ?_
          simp only [Act.put, List.setIfInBounds_toArray, List.set_cons_zero, List.set_cons_succ]
          refine wpAnyH_ready (rs := [22]) (by kernel_rfl) (by simp) (AllReadyH.cons rfl (fun K2 hK2 => ?_) AllReadyH.nil)
          go_simp
          refine Calls.mono k43c ?_
          rintro e' w9 ⟨rfl, h9⟩; replace h9 := h9.symm; subst h9
          refine hK2.out _ _ hS (fun hS => ?_)
          clear hK2 K2
          try simp only [Act.put, List.setIfInBounds_toArray, List.set_cons_zero, List.set_cons_succ]
          refine wpAnyH_take' 24 (some 114) (.bool true) rfl rfl (by kernel_rfl) (by kernel_rfl) (by kernel_rfl) (fun _ _ _ h => h) (Or.inl ⟨by rfl, fun w' hS => by obtain ⟨s0, s1, s2⟩ := hS; go_simp⟩) hS ?_
          simp only [Act.put, List.setIfInBounds_toArray, List.set_cons_zero, List.set_cons_succ]
          refine wpAnyH_take' 25 (some 115) (.bool true) rfl rfl (by kernel_rfl) (by kernel_rfl) (by kernel_rfl) (fun _ _ _ h => h) (Or.inl ⟨by rfl, fun w' hS => by obtain ⟨s0, s1, s2⟩ := hS; go_simp⟩) hS ?_
          simp only [Act.put, List.setIfInBounds_toArray, List.set_cons_zero, List.set_cons_succ]
          refine wpAnyH_take' 26 (some 116) (.bool true) rfl rfl (by kernel_rfl) (by kernel_rfl) (by kernel_rfl) (fun _ _ _ h => h) (Or.inl ⟨by rfl, fun w' hS => by obtain ⟨s0, s1, s2⟩ := hS; go_simp⟩) hS ?_
          simp only [Act.put, List.setIfInBounds_toArray, List.set_cons_zero, List.set_cons_succ]
          refine wpAnyH_take' 27 (some 117) (.pointer (some ⟨x, 0, none⟩)) rfl rfl (by kernel_rfl) (by kernel_rfl) (by kernel_rfl) (fun _ _ _ h => h) (Or.inl ⟨by rfl, fun w' hS => by obtain ⟨s0, s1, s2⟩ := hS; go_simp⟩) hS ?_
          simp only [Act.put, List.setIfInBounds_toArray, List.set_cons_zero, List.set_cons_succ]
          refine wpAnyH_take' 29 (some 119) (.int .i64 (hf : Int)) rfl rfl (by kernel_rfl) (by kernel_rfl) (by kernel_rfl) (fun _ _ _ h => h) (Or.inl ⟨by rfl, fun w' hS => by obtain ⟨s0, s1, s2⟩ := hS; go_simp⟩) hS ?_
          simp only [Act.put, List.setIfInBounds_toArray, List.set_cons_zero, List.set_cons_succ]
          refine wpAnyH_ready (rs := [28]) (by kernel_rfl) (by simp) (AllReadyH.cons rfl (fun K2 hK2 => ?_) AllReadyH.nil)
          go_simp
          refine Calls.mono k43d ?_
          rintro e' w9 ⟨rfl, h9⟩; replace h9 := h9.symm; subst h9
          refine hK2.out _ _ hS (fun hS => ?_)
          clear hK2 K2
          try simp only [Act.put, List.setIfInBounds_toArray, List.set_cons_zero, List.set_cons_succ]
          refine wpAnyH_take' 30 (some 120) (.bool true) rfl rfl (by kernel_rfl) (by kernel_rfl) (by kernel_rfl) (fun _ _ _ h => h) (Or.inl ⟨by rfl, fun w' hS => by obtain ⟨s0, s1, s2⟩ := hS; go_simp⟩) hS ?_
          simp only [Act.put, List.setIfInBounds_toArray, List.set_cons_zero, List.set_cons_succ]
          refine wpAnyH_take' 31 (some 121) (.bool true) rfl rfl (by kernel_rfl) (by kernel_rfl) (by kernel_rfl) (fun _ _ _ h => h) (Or.inl ⟨by rfl, fun w' hS => by obtain ⟨s0, s1, s2⟩ := hS; go_simp⟩) hS ?_
          simp only [Act.put, List.setIfInBounds_toArray, List.set_cons_zero, List.set_cons_succ]
          refine wpAnyH_take' 32 (some 6) (.bool true) rfl rfl (by kernel_rfl) (by kernel_rfl) (by kernel_rfl) (fun _ _ _ h => h) (Or.inl ⟨by rfl, fun w' hS => by obtain ⟨s0, s1, s2⟩ := hS; go_simp⟩) hS ?_
          simp only [Act.put, List.setIfInBounds_toArray, List.set_cons_zero, List.set_cons_succ]
          refine wpAnyH_done (by kernel_rfl) ?_ _
          clear hS hcv1 hcv2
          go_wp2
          go_ret
          exact ⟨rfl, HB8.out.trans (Below.refl _ _).drew⟩
      · have b1 : ¬ (i : Int) < (nl : Int) := by omega
        have b3 : decide ((i : Int) < (nl : Int)) = false := decide_eq_false b1
        have b4 : decide (i < nl) = false := decide_eq_false hln
        go_wp2_with (first
          | (go_at_call 40; (refine (k40 _).mono ?_; rintro e w9 ⟨rfl, h9⟩; replace h9 := h9.symm; subst h9))
          | (go_at_call 43; (refine k43.mono ?_; rintro e w9 ⟨rfl, h9⟩; replace h9 := h9.symm; subst h9))
          | (go_at_call 41; (refine k41.mono ?_; rintro e w6 (⟨rfl, rfl, B6⟩ | ⟨rfl, hm6, B6⟩ | ⟨rfl, hm6, h6, B6⟩)))
          | (go_at_call 37; (refine (k37 _).mono ?_; rintro e w9 ⟨rfl, h9⟩; replace h9 := h9.symm; subst h9; have k18 := h6.crash (kb_of_ink HINK.out (HBW.out.trans B6)) (ink_low HINK.out); have B06 := HBW.out.trans B6))
          | (go_at_call 18; (refine k18.mono ?_; rintro e w7 ⟨rfl, h7, B7⟩; have k35 := h7.opens; have B07 := B06.trans B7))
          | (go_at_call 35; (refine k35.mono ?_; rintro e w8 ⟨x2, ra, rc, rfl, hr8, hh8, B8⟩; have HB8 : Hid (Below W0.heap.size W0 w8) := B07.trans (B8.mono B07.size); clear B8 B07 B06 B7 B6 h7 h6 k18 k35)))
        · go_ret
          exact ⟨rfl, HBW.out.trans B6⟩
        · go_ret
          exact ⟨rfl, HBW.out.trans B6⟩
        · skip
          obtain ⟨gr, or, p0, k0, q0, rfl, hc9, hl9⟩ := hr8.at (i := 0) (b := bs) rfl
          rw [Nat.add_zero] at hc9
          have hlb := lv_of_in (HINB.out w8 HB8.out)
          have hbp : 0 < bs.length := by rw [HMB.out]; exact hm6
          have HS9 : Hid (∀ W, Below w8.heap.size w8 W → W.cell? ⟨gr, or, none⟩ = some (.slice p0 k0 q0) ∧ LV EB W (.slice p0 k0 q0) bs ∧ LV EB W (.slice a1 m c1) bs) := fun W k => ⟨(k.cell (World.block_lt_of_cell? _ _ hc9)).trans hc9, hl9.below k, hlb.below k⟩
          have hcv1 : ∀ W, LV EB W (.slice p0 k0 q0) bs → (convert 33 9 (.slice p0 k0 q0)).run Try.prog W = .ok (.string (strB bs)) W := fun W h => conv_lv h hbp
          have hcv2 : ∀ W, LV EB W (.slice a1 m c1) bs → (convert 33 9 (.slice a1 m c1)).run Try.prog W = .ok (.string (strB bs)) W := fun W h => conv_lv h hbp
          have k43b := hh8 _ (Below.refl _ w8).drew
          obtain ⟨k43c, k43d⟩ := k43b
          generalize strB bs = sA at *
          clear hr8 hh8 hc9 hl9 hlb hbp k41 k43 k40 k37 hm6
          refine wp_region_held_drew (S := fun W => W.cell? ⟨gr, or, none⟩ = some (.slice p0 k0 q0) ∧ LV EB W (.slice p0 k0 q0) bs ∧ LV EB W (.slice a1 m c1) bs) (by kernel_rfl) (HS9.out _ (Below.refl _ _).drew) (fun hS => ?_)
          refine wpAnyH_take' 0 (some 90) (.int .i64 0) rfl rfl (by kernel_rfl) (by kernel_rfl) (by kernel_rfl) (fun _ _ _ h => h) (Or.inl ⟨by rfl, fun w' hS => by obtain ⟨s0, s1, s2⟩ := hS; go_simp⟩) hS ?_
          simp only [Act.put, List.setIfInBounds_toArray, List.set_cons_zero, List.set_cons_succ]
          refine wpAnyH_take' 1 (some 91) (.bool true) rfl rfl (by kernel_rfl) (by kernel_rfl) (by kernel_rfl) (fun _ _ _ h => h) (Or.inl ⟨by rfl, fun w' hS => by obtain ⟨s0, s1, s2⟩ := hS; go_simp⟩) hS ?_
          simp only [Act.put, List.setIfInBounds_toArray, List.set_cons_zero, List.set_cons_succ]
          refine wpAnyH_take' 2 (some 92) (.bool true) rfl rfl (by kernel_rfl) (by kernel_rfl) (by kernel_rfl) (fun _ _ _ h => h) (Or.inl ⟨by rfl, fun w' hS => by obtain ⟨s0, s1, s2⟩ := hS; go_simp⟩) hS ?_
          simp only [Act.put, List.setIfInBounds_toArray, List.set_cons_zero, List.set_cons_succ]
          refine wpAnyH_take' 3 (some 93) (.pointer (some ⟨x2, 0, none⟩)) rfl rfl (by kernel_rfl) (by kernel_rfl) (by kernel_rfl) (fun _ _ _ h => h) (Or.inl ⟨by rfl, fun w' hS => by obtain ⟨s0, s1, s2⟩ := hS; go_simp⟩) hS ?_
          simp only [Act.put, List.setIfInBounds_toArray, List.set_cons_zero, List.set_cons_succ]
          refine wpAnyH_take' 4 (some 94) (.bool true) rfl rfl (by kernel_rfl) (by kernel_rfl) (by kernel_rfl) (fun _ _ _ h => h) (Or.inl ⟨by rfl, fun w' hS => by obtain ⟨s0, s1, s2⟩ := hS; go_simp⟩) hS ?_
          simp only [Act.put, List.setIfInBounds_toArray, List.set_cons_zero, List.set_cons_succ]
          refine wpAnyH_take' 5 (some 95) (.bool true) rfl rfl (by kernel_rfl) (by kernel_rfl) (by kernel_rfl) (fun _ _ _ h => h) (Or.inl ⟨by rfl, fun w' hS => by obtain ⟨s0, s1, s2⟩ := hS; go_simp⟩) hS ?_
          simp only [Act.put, List.setIfInBounds_toArray, List.set_cons_zero, List.set_cons_succ]
          refine wpAnyH_take' 6 (some 96) (.bool true) rfl rfl (by kernel_rfl) (by kernel_rfl) (by kernel_rfl) (fun _ _ _ h => h) (Or.inl ⟨by rfl, fun w' hS => by obtain ⟨s0, s1, s2⟩ := hS; go_simp⟩) hS ?_
          simp only [Act.put, List.setIfInBounds_toArray, List.set_cons_zero, List.set_cons_succ]
          refine wpAnyH_take' 7 (some 97) (.slice (some ⟨gr, or, none⟩) 1 rc) rfl rfl (by kernel_rfl) (by kernel_rfl) (by kernel_rfl) (fun _ _ _ h => h) (Or.inl ⟨by rfl, fun w' hS => by obtain ⟨s0, s1, s2⟩ := hS; go_simp⟩) hS ?_
          simp only [Act.put, List.setIfInBounds_toArray, List.set_cons_zero, List.set_cons_succ]
          refine wpAnyH_take' 8 (some 98) (.int .i64 1) rfl rfl (by kernel_rfl) (by kernel_rfl) (by kernel_rfl) (fun _ _ _ h => h) (Or.inl ⟨by rfl, fun w' hS => by obtain ⟨s0, s1, s2⟩ := hS; go_simp⟩) hS ?_
          simp only [Act.put, List.setIfInBounds_toArray, List.set_cons_zero, List.set_cons_succ]
          refine wpAnyH_take' 9 (some 99) (.bool true) rfl rfl (by kernel_rfl) (by kernel_rfl) (by kernel_rfl) (fun _ _ _ h => h) (Or.inl ⟨by rfl, fun w' hS => by obtain ⟨s0, s1, s2⟩ := hS; go_simp⟩) hS ?_
          simp only [Act.put, List.setIfInBounds_toArray, List.set_cons_zero, List.set_cons_succ]
          refine wpAnyH_take' 10 (some 100) (.bool true) rfl rfl (by kernel_rfl) (by kernel_rfl) (by kernel_rfl) (fun _ _ _ h => h) (Or.inl ⟨by rfl, fun w' hS => by obtain ⟨s0, s1, s2⟩ := hS; go_simp⟩) hS ?_
          simp only [Act.put, List.setIfInBounds_toArray, List.set_cons_zero, List.set_cons_succ]
          refine wpAnyH_take' 11 (some 101) (.bool true) rfl rfl (by kernel_rfl) (by kernel_rfl) (by kernel_rfl) (fun _ _ _ h => h) (Or.inl ⟨by rfl, fun w' hS => by obtain ⟨s0, s1, s2⟩ := hS; go_simp⟩) hS ?_
          simp only [Act.put, List.setIfInBounds_toArray, List.set_cons_zero, List.set_cons_succ]
          refine wpAnyH_take' 12 (some 102) (.slice (some ⟨gr, or, none⟩) 1 rc) rfl rfl (by kernel_rfl) (by kernel_rfl) (by kernel_rfl) (fun _ _ _ h => h) (Or.inl ⟨by rfl, fun w' hS => by obtain ⟨s0, s1, s2⟩ := hS; go_simp⟩) hS ?_
          simp only [Act.put, List.setIfInBounds_toArray, List.set_cons_zero, List.set_cons_succ]
          refine wpAnyH_take' 13 (some 103) (.pointer (some ⟨gr, or, none⟩)) rfl rfl (by kernel_rfl) (by kernel_rfl) (by kernel_rfl) (fun _ _ _ h => h) (Or.inl ⟨by rfl, fun w' hS => by obtain ⟨s0, s1, s2⟩ := hS; go_simp⟩) hS ?_
          simp only [Act.put, List.setIfInBounds_toArray, List.set_cons_zero, List.set_cons_succ]
          refine wpAnyH_take' 14 (some 104) (.slice p0 k0 q0) rfl rfl (by kernel_rfl) (by kernel_rfl) (by kernel_rfl) (fun _ _ _ h => h) (Or.inl ⟨by rfl, fun w' hS => by obtain ⟨s0, s1, s2⟩ := hS; go_simp⟩) hS ?_
          simp only [Act.put, List.setIfInBounds_toArray, List.set_cons_zero, List.set_cons_succ]
          refine wpAnyH_take' 15 (some 105) (.string sA) rfl rfl (by kernel_rfl) (by kernel_rfl) (by kernel_rfl) (fun _ _ _ h => h) (Or.inl ⟨by rfl, fun w' hS => by obtain ⟨s0, s1, s2⟩ := hS; have hcv := hcv1 _ s1; go_simp⟩) hS ?_
          simp only [Act.put, List.setIfInBounds_toArray, List.set_cons_zero, List.set_cons_succ]
          refine wpAnyH_take' 16 (some 106) (.slice a1 m c1) rfl rfl (by kernel_rfl) (by kernel_rfl) (by kernel_rfl) (fun _ _ _ h => h) (Or.inl ⟨by rfl, fun w' hS => by obtain ⟨s0, s1, s2⟩ := hS; go_simp⟩) hS ?_
          simp only [Act.put, List.setIfInBounds_toArray, List.set_cons_zero, List.set_cons_succ]
          refine wpAnyH_take' 17 (some 107) (.string sA) rfl rfl (by kernel_rfl) (by kernel_rfl) (by kernel_rfl) (fun _ _ _ h => h) (Or.inl ⟨by rfl, fun w' hS => by obtain ⟨s0, s1, s2⟩ := hS; have hcv := hcv2 _ s2; go_simp⟩) hS ?_
          simp only [Act.put, List.setIfInBounds_toArray, List.set_cons_zero, List.set_cons_succ]
          refine wpAnyH_take' 18 (some 108) (.bool true) rfl rfl (by kernel_rfl) (by kernel_rfl) (by kernel_rfl) (fun _ _ _ h => h) (Or.inl ⟨by rfl, fun w' hS => by obtain ⟨s0, s1, s2⟩ := hS; go_simp⟩) hS ?_
          simp only [Act.put, List.setIfInBounds_toArray, List.set_cons_zero, List.set_cons_succ]
          refine wpAnyH_take' 19 (some 109) (.bool true) rfl rfl (by kernel_rfl) (by kernel_rfl) (by kernel_rfl) (fun _ _ _ h => h) (Or.inl ⟨by rfl, fun w' hS => by obtain ⟨s0, s1, s2⟩ := hS; go_simp⟩) hS ?_
          simp only [Act.put, List.setIfInBounds_toArray, List.set_cons_zero, List.set_cons_succ]
          refine wpAnyH_take' 20 (some 110) (.bool true) rfl rfl (by kernel_rfl) (by kernel_rfl) (by kernel_rfl) (fun _ _ _ h => h) (Or.inl ⟨by rfl, fun w' hS => by obtain ⟨s0, s1, s2⟩ := hS; go_simp⟩) hS ?_
          simp only [Act.put, List.setIfInBounds_toArray, List.set_cons_zero, List.set_cons_succ]
          refine wpAnyH_take' 21 (some 111) (.pointer (some ⟨x2, 0, none⟩)) rfl rfl (by kernel_rfl) (by kernel_rfl) (by kernel_rfl) (fun _ _ _ h => h) (Or.inl ⟨by rfl, fun w' hS => by obtain ⟨s0, s1, s2⟩ := hS; go_simp⟩) hS ?_
          simp only [Act.put, List.setIfInBounds_toArray, List.set_cons_zero, List.set_cons_succ]
          refine wpAnyH_take' 23 (some 113) (.int .i64 (hf : Int)) rfl rfl (by kernel_rfl) (by kernel_rfl) (by kernel_rfl) (fun _ _ _ h => h) (Or.inl ⟨by rfl, fun w' hS => by obtain ⟨s0, s1, s2⟩ := hS; go_simp⟩) hS ?_
          simp only [Act.put, List.setIfInBounds_toArray, List.set_cons_zero, List.set_cons_succ]
          refine wpAnyH_ready (rs := [22]) (by kernel_rfl) (by simp) (AllReadyH.cons rfl (fun K2 hK2 => ?_) AllReadyH.nil)
          go_simp
          refine Calls.mono k43c ?_
          rintro e' w9 ⟨rfl, h9⟩; replace h9 := h9.symm; subst h9
          refine hK2.out _ _ hS (fun hS => ?_)
          clear hK2 K2
          try simp only [Act.put, List.setIfInBounds_toArray, List.set_cons_zero, List.set_cons_succ]
          refine wpAnyH_take' 24 (some 114) (.bool true) rfl rfl (by kernel_rfl) (by kernel_rfl) (by kernel_rfl) (fun _ _ _ h => h) (Or.inl ⟨by rfl, fun w' hS => by obtain ⟨s0, s1, s2⟩ := hS; go_simp⟩) hS ?_
          simp only [Act.put, List.setIfInBounds_toArray, List.set_cons_zero, List.set_cons_succ]
          refine wpAnyH_take' 25 (some 115) (.bool true) rfl rfl (by kernel_rfl) (by kernel_rfl) (by kernel_rfl) (fun _ _ _ h => h) (Or.inl ⟨by rfl, fun w' hS => by obtain ⟨s0, s1, s2⟩ := hS; go_simp⟩) hS ?_
          simp only [Act.put, List.setIfInBounds_toArray, List.set_cons_zero, List.set_cons_succ]
          refine wpAnyH_take' 26 (some 116) (.bool true) rfl rfl (by kernel_rfl) (by kernel_rfl) (by kernel_rfl) (fun _ _ _ h => h) (Or.inl ⟨by rfl, fun w' hS => by obtain ⟨s0, s1, s2⟩ := hS; go_simp⟩) hS ?_
          simp only [Act.put, List.setIfInBounds_toArray, List.set_cons_zero, List.set_cons_succ]
          refine wpAnyH_take' 27 (some 117) (.pointer (some ⟨x, 0, none⟩)) rfl rfl (by kernel_rfl) (by kernel_rfl) (by kernel_rfl) (fun _ _ _ h => h) (Or.inl ⟨by rfl, fun w' hS => by obtain ⟨s0, s1, s2⟩ := hS; go_simp⟩) hS ?_
          simp only [Act.put, List.setIfInBounds_toArray, List.set_cons_zero, List.set_cons_succ]
          refine wpAnyH_take' 29 (some 119) (.int .i64 (hf : Int)) rfl rfl (by kernel_rfl) (by kernel_rfl) (by kernel_rfl) (fun _ _ _ h => h) (Or.inl ⟨by rfl, fun w' hS => by obtain ⟨s0, s1, s2⟩ := hS; go_simp⟩) hS ?_
          simp only [Act.put, List.setIfInBounds_toArray, List.set_cons_zero, List.set_cons_succ]
          refine wpAnyH_ready (rs := [28]) (by kernel_rfl) (by simp) (AllReadyH.cons rfl (fun K2 hK2 => ?_) AllReadyH.nil)
          go_simp
          refine Calls.mono k43d ?_
          rintro e' w9 ⟨rfl, h9⟩; replace h9 := h9.symm; subst h9
          refine hK2.out _ _ hS (fun hS => ?_)
          clear hK2 K2
          try simp only [Act.put, List.setIfInBounds_toArray, List.set_cons_zero, List.set_cons_succ]
          refine wpAnyH_take' 30 (some 120) (.bool true) rfl rfl (by kernel_rfl) (by kernel_rfl) (by kernel_rfl) (fun _ _ _ h => h) (Or.inl ⟨by rfl, fun w' hS => by obtain ⟨s0, s1, s2⟩ := hS; go_simp⟩) hS ?_
          simp only [Act.put, List.setIfInBounds_toArray, List.set_cons_zero, List.set_cons_succ]
          refine wpAnyH_take' 31 (some 121) (.bool true) rfl rfl (by kernel_rfl) (by kernel_rfl) (by kernel_rfl) (fun _ _ _ h => h) (Or.inl ⟨by rfl, fun w' hS => by obtain ⟨s0, s1, s2⟩ := hS; go_simp⟩) hS ?_
          simp only [Act.put, List.setIfInBounds_toArray, List.set_cons_zero, List.set_cons_succ]
          refine wpAnyH_take' 32 (some 6) (.bool true) rfl rfl (by kernel_rfl) (by kernel_rfl) (by kernel_rfl) (fun _ _ _ h => h) (Or.inl ⟨by rfl, fun w' hS => by obtain ⟨s0, s1, s2⟩ := hS; go_simp⟩) hS ?_
          simp only [Act.put, List.setIfInBounds_toArray, List.set_cons_zero, List.set_cons_succ]
          refine wpAnyH_done (by kernel_rfl) ?_ _
          clear hS hcv1 hcv2
          go_wp2
          go_ret
          exact ⟨rfl, HB8.out.trans (Below.refl _ _).drew⟩
end Go.Proofs.Ytnganmekiloigaa
