/- The law TreeSound. -/
import Derived.Test.YtgimjjlkniplnaaTh
import Derived.Test.YtgimjjlkniplnaaTg
import Derived.Test.YtgimjjlkniplnaaTb
namespace Go.Proofs.Ytgimjjlkniplnaa
open Go.RowKit Go.Shelf
set_option maxRecDepth 100000
theorem hlv_le (n : Nat) : hlv n ≤ n := by
  induction n using Nat.strongRecOn with
  | _ n ih =>
    by_cases h : 1 < n
    · rw [hlv_step h]
      have := ih (n / 2) (by omega)
      omega
    · rw [hlv_small h]; omega
set_option maxHeartbeats 2000000 in
theorem sound4 {W : World} {v : Value} {xs : List (Int × Pr)} (hv : DRow W v xs) : Calls Try.prog 4 #[v] W fun e w' => e = .returned (.bool true) ∧ Below W.heap.size W w' := by
  obtain ⟨a, c, rfl⟩ := hv.form
  obtain ⟨N, hN⟩ : ∃ N, xs.length = N := ⟨_, rfl⟩
  have HN : Hid (xs.length = N) := hN
  have HV : Hid (DRow W (.slice a xs.length c) xs) := hv
  rw [hN]
  clear hN hv
  go_enter Try.func4, Try.ntmps4
  go_wp2_with (first
    | (go_at_call 21; (with_reducible refine (new21 _).mono ?_); rintro e w1 ⟨x, rfl, hx, T1, B1⟩; have HT1 : Hid (TT w1 x []) := T1; clear T1)
    | (go_at_call 22; (with_reducible refine (rnew22 _).mono ?_); rintro e w2 ⟨r, a0, c0, rfl, hr, R2, B2⟩; have HR2 : Hid (RI w2 r a0 c0 []) := R2; clear R2)
    | (go_at_call 8; (with_reducible refine (live8 _).mono ?_); rintro e w3 ⟨rfl, B3⟩))
  have HT0 : Hid (Two w3 W.heap.size x r []) := Two.below ⟨HT1.out.below B2, ⟨a0, c0, HR2.out⟩, hx, Nat.le_trans B1.size hr⟩ B3
  have HK0 : Hid (Below W.heap.size W w3) := bmore (bmore B1 B2) B3
  have HXR : Hid (W.heap.size ≤ x ∧ W.heap.size ≤ r) := ⟨hx, Nat.le_trans B1.size hr⟩
  clear HT1 HR2 B1 B2 B3 hx hr
  go_loopw [5] (fun fi wr => ∃ (k : Nat) (kv : List Pr), fi = .int .i64 (k : Int) ∧ Hid (k ≤ N ∧ k ≤ 120) ∧ Hid (Two wr W.heap.size x r kv ∧ kv.length ≤ k) ∧ Hid (Below W.heap.size W wr)) (fun fi _ => (120 - intOf fi).toNat)
  case atStart => exact ⟨0, [], rfl, ⟨Nat.zero_le _, by omega⟩, ⟨HT0.out, by simp⟩, HK0.out⟩
  case round =>
    obtain ⟨k, kv, rfl, hk, hT, hB⟩ := hrel
    by_cases hkN : k < N
    · by_cases hk100 : k < 120
      · have hkNi : (k : Int) < (N : Int) := by omega
        have hki : (k : Int) < 120 := by omega
        have hk0 : (0 : Int) ≤ (k : Int) := by omega
        have hw : wrap64 ((k : Int) + 1) = (k : Int) + 1 := IntWalk.wrap64_in _ (by omega)
        obtain ⟨y, hy⟩ : ∃ y, xs[k]? = some y := ⟨_, List.getElem?_eq_getElem (by rw [HN.out]; exact hkN)⟩
        obtain ⟨b, off, ha, d0, d1, d2⟩ := (DRow.below HV.out hB.out).at hy
        subst ha
        have k23 := do23 hT.out.1 (by have := hT.out.2; omega) y.1 y.2
        clear hy
        have HH : Hid (∀ (kv' : List Pr) (w : World), Two w W.heap.size x r kv' → kv'.length ≤ 120 → Calls Try.prog 25 #[.pointer (some ⟨x, 0, none⟩)] w fun e w' => ∃ m : Nat, e = .returned (.int .i64 (m : Int)) ∧ (m : Int) ≤ 1 + (hlv kv'.length : Int) ∧ (((kv'.length : Int) == 0) = true ∧ ((m : Int) == 0) = true ∧ ¬ (0 : Int) < (kv'.length : Int) ∨ ((kv'.length : Int) == 0) = false ∧ ((m : Int) == 0) = false ∧ (0 : Int) < (kv'.length : Int) ∧ ¬ (m : Int) < 1) ∧ Below w.heap.size w w') := fun kv' w h2 hl => by
          refine (height25 h2.tt).mono ?_
          rintro e w' ⟨m, rfl, h3, h4, h5, hB'⟩
          refine ⟨m, rfl, ?_, ?_, hB'⟩
          · by_cases e : kv' = []
            · have := h3.1 e; omega
            · have := hlv_pow _ _ (h4 e); omega
          · by_cases e : kv' = []
            · have := h3.1 e
              subst e this
              left; simp
            · have h6 : ¬ m = 0 := fun q => e (h3.2 q)
              have h7 := List.length_pos_iff.2 e
              right
              exact ⟨by simpa using e, by simpa using h6, by omega, by omega⟩
        go_wp2_with (first
          | (go_at_call 23; (with_reducible refine k23.mono ?_); rintro e w3 ⟨rfl, ⟨kv', T3, l3⟩, K3⟩; have HT3 : Hid (Two w3 W.heap.size x r kv') := T3; have HB3 : Hid (Below W.heap.size W w3) := Two.keepB rfl HXR.out.1 HXR.out.2 hB.out K3; have HL3 : Hid (kv'.length ≤ k + 1) := Nat.le_trans l3 (Nat.succ_le_succ hT.out.2); have HL4 : Hid (kv'.length ≤ 120) := (by show _ ≤ _; have := HL3.out; omega); clear T3 K3 l3)
          | (go_at_call 24; (with_reducible refine (sound24 HT3.out.tt).mono ?_); rintro e w4 ⟨rfl, B4⟩)
          | (go_at_call 25; go_loud ((with_reducible refine (HH.out kv' _ (HT3.out.below B4) HL4.out).mono ?_); rintro e w5 ⟨m, rfl, hm, hcase, B5⟩; have F5 := bmore B4 B5; have h27 := fun W' => halves27 kv'.length (Nat.le_trans HL4.out (by decide)) W'; have hle := hlv_le kv'.length; have hl2 : kv'.length ≤ 120 := HL4.out))
          | (go_at_call 26; (with_reducible refine (len26 (HT3.out.tt.below F5)).mono ?_); rintro e w6 ⟨rfl, B6⟩; generalize hnn : kv'.length = n1 at h27 hle hl2 hm hcase; have HNN : Hid (kv'.length = n1) := hnn; generalize hlv n1 = n3 at h27 hle hm; clear hnn HH; have g7 : wrap64 (1 + (n3 : Int)) = 1 + (n3 : Int) := IntWalk.wrap64_in _ (by omega); rcases hcase with ⟨q1, q2, q3⟩ | ⟨q1, q2, q3, q4⟩)
          | (go_at_call 27; (with_reducible refine (h27 _).mono ?_); rintro e w7 ⟨rfl, rfl⟩))
        all_goals (
          go_roundw
          case rel => exact ⟨k + 1, kv', by simp, ⟨by omega, by omega⟩, ⟨HT3.out.below (bmore F5 B6), HL3.out⟩, bmore HB3.out (bmore F5 B6)⟩
          case measure => simp only [intOf]; omega)
      · have hki : ¬ (k : Int) < 120 := by omega
        have hkNi : (k : Int) < (N : Int) := by omega
        go_wp2
        go_ret
        exact ⟨rfl, hB.out⟩
    · have hkNi : ¬ (k : Int) < (N : Int) := by omega
      go_wp2
      go_ret
      exact ⟨rfl, hB.out⟩
end Go.Proofs.Ytgimjjlkniplnaa
