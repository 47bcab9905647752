/- The law WalSure. -/
import Derived.Test.YtnganmekiloigaaHw
namespace Go.Proofs.Ytnganmekiloigaa
open Go.RowKit
set_option maxRecDepth 100000
theorem kb_of_inkS {W0 W : World} {v : Value} {kl : List Bool} (h : InK W0.heap.size W0 v kl) (hB : Below W0.heap.size W0 W) : KB W v kl := by
  obtain ⟨a, c, rfl, h1, h2, h3⟩ := h.below hB
  by_cases h0 : 0 < kl.length
  · obtain ⟨b, o, rfl, hb, hat⟩ := h3 h0
    exact .inr ⟨b, o, c, rfl, h0, hat⟩
  · have e : kl = [] := List.eq_nil_of_length_eq_zero (by omega)
    subst e
    exact .inl ⟨a, c, rfl, rfl⟩
theorem ink_lowS {W0 : World} {v : Value} {kl : List Bool} (h : InK W0.heap.size W0 v kl) : ∀ a n c, v = .slice (some a) n c → 0 < kl.length → a.block < W0.heap.size := fun a n c e h0 => by
  obtain ⟨a', c', h1, _, _, h3⟩ := h
  obtain ⟨b, o, e', hb, _⟩ := h3 h0
  rw [h1, e'] at e
  cases e
  exact hb
theorem meas_lt30 {m k : Nat} (h : m < k) : k - ((m : Int) + 1).toNat < k - ((m : Int)).toNat := by omega
set_option maxHeartbeats 4000000 in
theorem sure9 (W0 : World) (v0 : Value) (l : List WDeed) (hl : InDW W0.heap.size W0 v0 l) :
    Calls Try.prog 9 #[v0] W0 fun e w' => e = .returned (.bool true) ∧ Below W0.heap.size W0 w' := by
  have c29 := new29 12 W0 (by omega) (by omega)
  obtain ⟨a0, c0, rfl, hmx, _⟩ := id hl
  have HD : Hid (∀ i, i < l.length → ∃ b o, a0 = some ⟨b, o, none⟩ ∧ ∃ k N vb vk bs kl, DW W0 b (o + i * 4) k N vb vk bs kl) := fun i hi => dw_of hl hi
  have HL31 : Hid (∀ w, Calls Try.prog 31 #[] w fun e w' => e = .returned (.bool true) ∧ Below w.heap.size w w') := live31
  generalize l.length = nl at *
  clear hl
  go_enter Try.func9, Try.ntmps9
  go_wp2_with (first
    | (go_at_call 29; (refine c29.mono ?_; rintro e w1 ⟨rfl, hPD, B1⟩; have k35 := open_new (R := 6) (alone_new29 hPD B1) (by omega) (by omega)))
    | (go_at_call 35; (refine k35.mono ?_; rintro e w2 ⟨x, ua, uc, rfl, A2, -, B2⟩; have B12 := B1.trans (B2.mono B1.size)))
    | (go_at_call 31; (refine Calls.mono (HL31.out _) ?_; rintro e w3 ⟨rfl, B3⟩; have H3 : Hid (Sy W0.heap.size (w3.alloc (.cells #[.slice none 0 0, .slice none 0 0] 67)) (W0.heap.size + 1) W0.heap.size x w3.heap.size 1 ∧ Below W0.heap.size W0 (w3.alloc (.cells #[.slice none 0 0, .slice none 0 0] 67))) := ⟨sy_new (A2.below B3), (B12.trans (B3.mono B12.size)).trans ((al w3 _).mono (Nat.le_trans B12.size B3.size))⟩; clear A2 B12 B1 B2 hPD k35 c29)))
  obtain ⟨q, hq⟩ : ∃ q, w3.heap.size = q := ⟨_, rfl⟩
  rw [hq] at H3 ⊢
  clear hq
  generalize w3.alloc (.cells #[.slice none 0 0, .slice none 0 0] 67) = w4 at *
  go_loopw [4, 8] (fun p4 p wr => ∃ x i : Nat, p4 = .pointer (some ⟨x, 0, none⟩) ∧ p = .int .i64 (i : Int) ∧ Hid (i ≤ 30) ∧ Hid (Sy W0.heap.size wr (W0.heap.size + 1) W0.heap.size x q (1 + i) ∧ Below W0.heap.size W0 wr)) (fun _ p _ => 30 - (intOf p).toNat)
  case atStart => exact ⟨x, 0, rfl, rfl, Nat.zero_le _, H3.out⟩
  case round =>
    clear H3
    obtain ⟨x1, i, rfl, rfl, hi, HI⟩ := hrel
    by_cases hlt : i < nl ∧ i < 30
    · obtain ⟨hln, hl30⟩ := hlt
      have b1 : (i : Int) < (nl : Int) := by omega
      have b2 : (i : Int) < 30 := by omega
      have b3 : decide ((i : Int) < (nl : Int)) = true := decide_eq_true b1
      have b4 : decide (i < nl) = true := decide_eq_true hln
      have h0i : (0 : Int) ≤ (i : Int) := by omega
      obtain ⟨bl, ol, rfl, k, N, vb, vk, bs, ks, hdw⟩ := HD.out i hln
      obtain ⟨z0, z1, z2, z3⟩ := hdw.cells _ HI.out.2
      have hE : 1 + i ≤ 60000 := by omega
      have HBW : Hid (Below W0.heap.size W0 wr) := HI.out.2
      have HI1 : Hid (i + 1 ≤ 30) := hl30
      obtain ⟨va, vn, vc, rfl⟩ := hdw.inb.form
      obtain ⟨ka, kc, rfl, hkc, _, _⟩ := id hdw.ink
      have HINK : Hid (InK W0.heap.size W0 (.slice ka ks.length kc) ks) := hdw.ink
      have HINB : Hid (InB W0.heap.size wr (.slice va vn vc) bs) := hdw.inb.below HI.out.2
      clear hdw
      by_cases hk4 : k = 4
      · subst hk4
        have k37 := bits37 ka ks.length kc hkc
        have hit := ink_take (k := 40) HINK.out
        have k18 := HI.out.1.crash hE (kb_of_inkS hit HBW.out) (ink_lowS hit)
        clear hit HI HINK HINB
        generalize ks.length = kn at *
        generalize min kn 40 = km at *
        go_wp2_with (first
          | (go_at_call 37; (refine (k37 _).mono ?_; rintro e w9 ⟨rfl, h9⟩; replace h9 := h9.symm; subst h9))
          | (go_at_call 18; (refine k18.mono ?_; rintro e w5 ⟨rfl, h5, B5⟩; have k35 := h5.opens; have HB5 : Hid (Below W0.heap.size W0 w5) := HBW.out.trans B5; clear h5 B5 k18))
          | (go_at_call 35; (refine k35.mono ?_; rintro e w6 ⟨x2, ra, n6, rc, rfl, B6, k38, h6⟩; have HB6 : Hid (Below W0.heap.size W0 w6) := HB5.out.trans (B6.mono HB5.out.size); have H6 : Hid _ := h6; clear B6 k35 h6))
          | (go_at_call 38; (refine k38.mono ?_; rintro e w7 ⟨rfl, B7⟩; obtain ⟨⟨ll, hb7, hl7⟩, hsy, hbs⟩ := H6.out w7 B7; have HB7 : Hid (Below W0.heap.size W0 w7) := HB6.out.trans (B7.mono HB6.out.size); have HS7 : Hid _ := hsy; have HQ7 : Hid _ := hbs; obtain ⟨l0, l1, rfl⟩ : ∃ l0 l1, ll = [l0, l1] := (by match ll, hl7 with | [a, b], _ => exact ⟨a, b, rfl⟩); have f0 := hb7.frozen 0; have c0 := hb7.cell 0; have hb8 := hb7.set (o := 0) (.slice ra n6 rc); have f1 := hb8.frozen 1; have c1 := hb8.cell 1; simp only [List.getElem?_cons_zero, List.getElem?_cons_succ, List.set_cons_zero] at c0 c1; clear hb7 hb8 hl7 hsy hbs B7 k38)))
        go_roundw
        case rel => exact ⟨x2, i + 1, rfl, by simp, HI1.out, HS7.out.up (by omega), HB7.out.trans HQ7.out⟩
        case measure => simp only [intOf]; exact meas_lt30 hl30
      · have hk4b : (k == 4) = false := by simpa using hk4
        have hk4c : (k != 4) = true := by simp [bne, hk4b]
        have k36 := step36 (k := k) (N := N) (vk := .slice ka ks.length kc) HI.out.1 hE HINB.out
        clear HI HINK HINB
        generalize ks.length = kn at *
        go_wp2_with (go_at_call 36; (refine k36.mono ?_; rintro e w5 ⟨rfl, h5⟩; have H5 : Hid (StPost W0.heap.size wr (W0.heap.size + 1) W0.heap.size x1 q (1 + i) w5) := h5; clear h5))
        go_roundw
        case rel => exact ⟨x1, i + 1, rfl, by simp, HI1.out, H5.out.1.up (by omega), HBW.out.trans H5.out.2⟩
        case measure => simp only [intOf]; exact meas_lt30 hl30
    · have HBW : Hid (Below W0.heap.size W0 wr) := HI.out.2
      clear HI
      by_cases hln : i < nl
      · have hl30 : ¬ i < 30 := fun h => hlt ⟨hln, h⟩
        have b1 : (i : Int) < (nl : Int) := by omega
        have b2 : ¬ (i : Int) < 30 := by omega
        have b3 : decide ((i : Int) < (nl : Int)) = true := decide_eq_true b1
        have b4 : decide (i < nl) = true := decide_eq_true hln
        go_wp2_with fail
        go_ret
        exact ⟨rfl, HBW.out⟩
      · have b1 : ¬ (i : Int) < (nl : Int) := by omega
        have b3 : decide ((i : Int) < (nl : Int)) = false := decide_eq_false b1
        have b4 : decide (i < nl) = false := decide_eq_false hln
        go_wp2_with fail
        go_ret
        exact ⟨rfl, HBW.out⟩
end Go.Proofs.Ytnganmekiloigaa
