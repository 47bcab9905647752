/- The reference's Digits of every number, and its Print. -/
import Derived.Test.YtipnaphikbjhbaaDoorPrs
namespace Go.Proofs.YtipnaphikbjhbaaDoor
open Go.RowKit Go.Lib Go.Joins

theorem itoa_digit (n : Nat) (h : n < 10) : itoa (n : Int) = [UInt8.ofNat (48 + n)] := by
  unfold itoa
  rw [if_neg (by omega), Int.toNat_natCast, decDigits_one h]
theorem dec_step {u : Nat} (h : ¬ u < 10) : decDigits u = decDigits (u / 10) ++ [UInt8.ofNat (48 + u % 10)] := by
  conv => lhs; rw [decDigits, dif_neg h]
theorem itoa_big (n : Int) (h : 10 ≤ n) : itoa n = itoa (n / 10) ++ itoa (n % 10) := by
  obtain ⟨u, rfl⟩ : ∃ u : Nat, n = (u : Int) := ⟨n.toNat, by omega⟩
  rw [show ((u : Int) / 10) = ((u / 10 : Nat) : Int) by omega, show ((u : Int) % 10) = ((u % 10 : Nat) : Int) by omega, itoa_digit (u % 10) (by omega)]
  unfold itoa
  rw [if_neg (by omega), if_neg (by omega), Int.toNat_natCast, Int.toNat_natCast, dec_step (by omega)]
theorem itoa_minus (u : Nat) (h : 1 ≤ u) : itoa (-(u : Int)) = 45 :: decDigits u := by
  unfold itoa
  rw [if_pos (by omega)]
  simp
theorem itoa_neg_small (n : Int) (h : n < 0) (h2 : -10 < n) : itoa n = 45 :: itoa (-n) := by
  obtain ⟨u, rfl⟩ : ∃ u : Nat, n = -(u : Int) := ⟨n.natAbs, by omega⟩
  rw [itoa_minus u (by omega), Int.neg_neg, itoa_digit u (by omega), decDigits_one (by omega)]
theorem itoa_neg_big (n : Int) (h : n ≤ -10) : itoa n = itoa (n.tdiv 10) ++ itoa (-(n.tmod 10)) := by
  obtain ⟨u, rfl⟩ : ∃ u : Nat, n = -(u : Int) := ⟨n.natAbs, by omega⟩
  have e1 : (-(u : Int)).tdiv 10 = -((u / 10 : Nat) : Int) := by
    rw [Int.neg_tdiv, Int.tdiv_eq_ediv_of_nonneg (by omega)]; omega
  have e2 : (-(u : Int)).tmod 10 = -((u % 10 : Nat) : Int) := by
    rw [Int.neg_tmod, Int.tmod_eq_emod_of_nonneg (by omega)]; omega
  rw [e1, e2, Int.neg_neg, itoa_minus u (by omega), itoa_minus (u / 10) (by omega), itoa_digit (u % 10) (by omega), dec_step (by omega)]
  rfl

theorem itoa_len (n : Int) (h : inI64 n) : (itoa n).length ≤ 20 := by
  unfold inI64 at h
  unfold itoa
  split
  · have := nDigits_le n.natAbs (by omega)
    rw [List.length_cons, decDigits_length]; omega
  · have := nDigits_le n.toNat (by omega)
    rw [decDigits_length]; omega
theorem itoa_size (n : Int) (h : inI64 n) : (str (itoa n)).size ≤ 20 := by rw [str_size]; exact itoa_len n h

set_option maxRecDepth 100000 in
set_option maxHeartbeats 4000000 in
theorem digit17 (n : Int) (h0 : 0 ≤ n) (h1 : n < 10) (w : World) : Calls Tryd.prog 76 #[.int .i64 n] w fun e w' => e = .returned (.string (str (itoa n))) ∧ w' = w := by
  have : n = 0 ∨ n = 1 ∨ n = 2 ∨ n = 3 ∨ n = 4 ∨ n = 5 ∨ n = 6 ∨ n = 7 ∨ n = 8 ∨ n = 9 := by omega
  clear h0 h1
  rcases this with rfl | rfl | rfl | rfl | rfl | rfl | rfl | rfl | rfl | rfl
  · have hx : (⟨#[48, 49, 50, 51, 52, 53, 54, 55, 56, 57]⟩ : ByteArray).extract 0 1 = str [48] := by kernel_rfl
    have HJ : Hid (itoa 0 = [48]) := itoa_digit 0 (by decide)
    go_enter Tryd.func76, Tryd.ntmps76
    go_wp2
    go_ret
    exact ⟨by rw [HJ.out]; rfl, rfl⟩
  · have hx : (⟨#[48, 49, 50, 51, 52, 53, 54, 55, 56, 57]⟩ : ByteArray).extract 1 2 = str [49] := by kernel_rfl
    have HJ : Hid (itoa 1 = [49]) := itoa_digit 1 (by decide)
    go_enter Tryd.func76, Tryd.ntmps76
    go_wp2
    go_ret
    exact ⟨by rw [HJ.out]; rfl, rfl⟩
  · have hx : (⟨#[48, 49, 50, 51, 52, 53, 54, 55, 56, 57]⟩ : ByteArray).extract 2 3 = str [50] := by kernel_rfl
    have HJ : Hid (itoa 2 = [50]) := itoa_digit 2 (by decide)
    go_enter Tryd.func76, Tryd.ntmps76
    go_wp2
    go_ret
    exact ⟨by rw [HJ.out]; rfl, rfl⟩
  · have hx : (⟨#[48, 49, 50, 51, 52, 53, 54, 55, 56, 57]⟩ : ByteArray).extract 3 4 = str [51] := by kernel_rfl
    have HJ : Hid (itoa 3 = [51]) := itoa_digit 3 (by decide)
    go_enter Tryd.func76, Tryd.ntmps76
    go_wp2
    go_ret
    exact ⟨by rw [HJ.out]; rfl, rfl⟩
  · have hx : (⟨#[48, 49, 50, 51, 52, 53, 54, 55, 56, 57]⟩ : ByteArray).extract 4 5 = str [52] := by kernel_rfl
    have HJ : Hid (itoa 4 = [52]) := itoa_digit 4 (by decide)
    go_enter Tryd.func76, Tryd.ntmps76
    go_wp2
    go_ret
    exact ⟨by rw [HJ.out]; rfl, rfl⟩
  · have hx : (⟨#[48, 49, 50, 51, 52, 53, 54, 55, 56, 57]⟩ : ByteArray).extract 5 6 = str [53] := by kernel_rfl
    have HJ : Hid (itoa 5 = [53]) := itoa_digit 5 (by decide)
    go_enter Tryd.func76, Tryd.ntmps76
    go_wp2
    go_ret
    exact ⟨by rw [HJ.out]; rfl, rfl⟩
  · have hx : (⟨#[48, 49, 50, 51, 52, 53, 54, 55, 56, 57]⟩ : ByteArray).extract 6 7 = str [54] := by kernel_rfl
    have HJ : Hid (itoa 6 = [54]) := itoa_digit 6 (by decide)
    go_enter Tryd.func76, Tryd.ntmps76
    go_wp2
    go_ret
    exact ⟨by rw [HJ.out]; rfl, rfl⟩
  · have hx : (⟨#[48, 49, 50, 51, 52, 53, 54, 55, 56, 57]⟩ : ByteArray).extract 7 8 = str [55] := by kernel_rfl
    have HJ : Hid (itoa 7 = [55]) := itoa_digit 7 (by decide)
    go_enter Tryd.func76, Tryd.ntmps76
    go_wp2
    go_ret
    exact ⟨by rw [HJ.out]; rfl, rfl⟩
  · have hx : (⟨#[48, 49, 50, 51, 52, 53, 54, 55, 56, 57]⟩ : ByteArray).extract 8 9 = str [56] := by kernel_rfl
    have HJ : Hid (itoa 8 = [56]) := itoa_digit 8 (by decide)
    go_enter Tryd.func76, Tryd.ntmps76
    go_wp2
    go_ret
    exact ⟨by rw [HJ.out]; rfl, rfl⟩
  · have hx : (⟨#[48, 49, 50, 51, 52, 53, 54, 55, 56, 57]⟩ : ByteArray).extract 9 10 = str [57] := by kernel_rfl
    have HJ : Hid (itoa 9 = [57]) := itoa_digit 9 (by decide)
    go_enter Tryd.func76, Tryd.ntmps76
    go_wp2
    go_ret
    exact ⟨by rw [HJ.out]; rfl, rfl⟩

set_option maxRecDepth 100000 in
set_option maxHeartbeats 1000000 in
theorem digits17 : ∀ (m : Nat) (n : Int), n.natAbs ≤ m → inI64 n → ∀ w, Calls Tryd.prog 76 #[.int .i64 n] w fun e w' => e = .returned (.string (str (itoa n))) ∧ w' = w := by
  intro m
  induction m using Nat.strongRecOn with
  | _ m ih =>
  intro n hm hn w
  have hn' := hn
  unfold inI64 at hn
  by_cases h0 : 0 ≤ n
  · by_cases h1 : n < 10
    · exact digit17 n h0 h1 w
    · have c1 := ih (n / 10).natAbs (by omega) (n / 10) (Nat.le_refl _) (by unfold inI64; omega)
      have c2 := ih (n % 10).natAbs (by omega) (n % 10) (Nat.le_refl _) (by unfold inI64; omega)
      have HI : Hid (itoa n = itoa (n / 10) ++ itoa (n % 10)) := itoa_big n (by omega)
      have s1 := itoa_size (n / 10) (by unfold inI64; omega)
      have s2 := itoa_size (n % 10) (by unfold inI64; omega)
      clear ih hm hn'
      have h2 : (10 : Int) ≤ n := by omega
      have hneg : ¬ (n < 0) := by omega
      obtain ⟨a, ha⟩ : ∃ a, str (itoa (n / 10)) = a := ⟨_, rfl⟩
      obtain ⟨b, hb⟩ : ∃ b, str (itoa (n % 10)) = b := ⟨_, rfl⟩
      rw [ha] at c1 s1
      rw [hb] at c2 s2
      have HR : Hid (str (itoa n) = a ++ b) := by show _ = _; rw [HI.out, ← str_append, ha, hb]
      clear ha hb HI
      go_enter Tryd.func76, Tryd.ntmps76
      go_wp2_with (first
        | (go_at_call 76; refine (c1 _).mono ?_; rintro e w1 ⟨rfl, rfl⟩; clear c1)
        | (go_at_call 76; refine (c2 _).mono ?_; rintro e w1 ⟨rfl, rfl⟩))
      go_ret
      exact ⟨by rw [HR.out]; rfl, rfl⟩
  · have hneg : n < 0 := by omega
    by_cases h1 : -10 < n
    · have c1 := ih (-n).natAbs
      have hd : n.tdiv 10 = 0 := by
        rw [show n = -(-n) by omega, Int.neg_tdiv, Int.tdiv_eq_ediv_of_nonneg (by omega)]; omega
      have hmm : n.tmod 10 = n := by
        rw [show n = -(-n) by omega, Int.neg_tmod, Int.tmod_eq_emod_of_nonneg (by omega)]; omega
      have HI : Hid (itoa n = 45 :: itoa (-n)) := itoa_neg_small n hneg h1
      have c2 : ∀ w, Calls Tryd.prog 76 #[.int .i64 (-n)] w fun e w' => e = .returned (.string (str (itoa (-n)))) ∧ w' = w := by
        have : -n = 1 ∨ -n = 2 ∨ -n = 3 ∨ -n = 4 ∨ -n = 5 ∨ -n = 6 ∨ -n = 7 ∨ -n = 8 ∨ -n = 9 := by omega
        exact digit17 (-n) (by omega) (by omega)
      have s2 := itoa_size (-n) (by unfold inI64; omega)
      have hw : wrap64 (-n) = -n := IntWalk.wrap64_in _ ⟨by omega, by omega⟩
      clear ih hm hn' c1
      obtain ⟨b, hb⟩ : ∃ b, str (itoa (-n)) = b := ⟨_, rfl⟩
      rw [hb] at c2 s2
      have HR : Hid (str (itoa n) = ⟨#[45]⟩ ++ b) := by show _ = _; rw [HI.out, ← hb, show (⟨#[45]⟩ : ByteArray) = str [45] from rfl, str_append]; rfl
      clear hb HI
      go_enter Tryd.func76, Tryd.ntmps76
      go_wp2_with (first
        | (go_at_call 76; refine (c2 _).mono ?_; rintro e w1 ⟨rfl, rfl⟩))
      go_ret
      exact ⟨by rw [HR.out]; rfl, rfl⟩
    · obtain ⟨q, hq⟩ : ∃ q, n.tdiv 10 = q := ⟨_, rfl⟩
      obtain ⟨r, hr⟩ : ∃ r, n.tmod 10 = r := ⟨_, rfl⟩
      have hq1 : q = -((-n) / 10) := by rw [← hq, show n = -(-n) by omega, Int.neg_tdiv, Int.tdiv_eq_ediv_of_nonneg (by omega)]; omega
      have hr1 : r = -((-n) % 10) := by rw [← hr, show n = -(-n) by omega, Int.neg_tmod, Int.tmod_eq_emod_of_nonneg (by omega)]; omega
      have HI : Hid (itoa n = itoa q ++ itoa (-r)) := by have := itoa_neg_big n (by omega); rw [hq, hr] at this; exact this
      have c1 := ih q.natAbs (by omega) q (Nat.le_refl _) (by unfold inI64; omega)
      have c2 := digit17 (-r) (by omega) (by omega)
      have s1 := itoa_size q (by unfold inI64; omega)
      have s2 := itoa_size (-r) (by unfold inI64; omega)
      have hw : wrap64 (-r) = -r := IntWalk.wrap64_in _ ⟨by omega, by omega⟩
      have hw1 : wrap64 q = q := IntWalk.wrap64_in _ ⟨by omega, by omega⟩
      have hq0 : ¬ (q = 0) := by omega
      have hq2 : (q == 0) = false := by simpa using hq0
      have hrb : -10 < r ∧ r ≤ 0 := by omega
      clear ih hm hn' hq1 hr1
      obtain ⟨a, ha⟩ : ∃ a, str (itoa q) = a := ⟨_, rfl⟩
      obtain ⟨b, hb⟩ : ∃ b, str (itoa (-r)) = b := ⟨_, rfl⟩
      rw [ha] at c1 s1
      rw [hb] at c2 s2
      have HR : Hid (str (itoa n) = a ++ b) := by show _ = _; rw [HI.out, ← str_append, ha, hb]
      clear ha hb HI
      go_enter Tryd.func76, Tryd.ntmps76
      go_wp2_with (first
        | (go_at_call 76; refine (c1 _).mono ?_; rintro e w1 ⟨rfl, rfl⟩; clear c1)
        | (go_at_call 76; refine (c2 _).mono ?_; rintro e w1 ⟨rfl, rfl⟩))
      go_ret
      exact ⟨by rw [HR.out]; rfl, rfl⟩

end Go.Proofs.YtipnaphikbjhbaaDoor
