/- The reference's number: what a text's digits come to. -/
import Derived.Test.YtipnaphikbjhbaaDoorPrs2
namespace Go.Proofs.YtipnaphikbjhbaaDoor
open Go.RowKit Go.Lib Go.Joins

/-- One byte more. -/
def numStep (neg : Bool) (acc : Int) (c : UInt8) : Int := if 48 ≤ c.toNat ∧ c.toNat ≤ 57 then wrap64 (wrap64 (acc * 10) + (if neg then -((c.toNat : Int) - 48) else (c.toNat : Int) - 48)) else acc
def numF (neg : Bool) (l : Bs) : Int := l.foldl (numStep neg) 0
theorem numF_snoc (neg : Bool) (l : Bs) (c : UInt8) : numF neg (l ++ [c]) = numStep neg (numF neg l) c := by simp [numF]
/-- What the reference's number answers. -/
def numV (l : Bs) : Int := numF (decide (l.head? = some 45)) (l.take 25)
theorem numStep_in (neg : Bool) (acc : Int) (c : UInt8) (h : inI64 acc) : inI64 (numStep neg acc c) := by
  unfold numStep
  split
  · generalize wrap64 (acc * 10) + (if neg then -((c.toNat : Int) - 48) else (c.toNat : Int) - 48) = x
    simp [inI64, wrap64]
    omega
  · exact h
theorem numF_in (neg : Bool) : ∀ l : Bs, inI64 (numF neg l) := by
  intro l
  have : ∀ (l : Bs) (acc : Int), inI64 acc → inI64 (l.foldl (numStep neg) acc) := by
    intro l
    induction l with
    | nil => exact fun _ h => h
    | cons c t ih => exact fun acc h => ih _ (numStep_in neg acc c h)
  exact this l 0 (by unfold inI64; omega)

theorem numStep_digit (acc : Int) (c : UInt8) (d : Nat) (hc : c.toNat = 48 + d) (hd : d < 10) (h1 : inI64 (acc * 10)) (h2 : inI64 (acc * 10 + (d : Int))) : numStep false acc c = acc * 10 + (d : Int) := by
  unfold numStep
  rw [hc, if_pos (by omega), IntWalk.wrap64_in (acc * 10) h1]
  rw [show (if false = true then -(((48 + d : Nat) : Int) - 48) else ((48 + d : Nat) : Int) - 48) = (d : Int) by simp; omega, IntWalk.wrap64_in _ h2]
theorem numStep_minus (acc : Int) (c : UInt8) (d : Nat) (hc : c.toNat = 48 + d) (hd : d < 10) (h1 : inI64 (acc * 10)) (h2 : inI64 (acc * 10 + -(d : Int))) : numStep true acc c = acc * 10 + -(d : Int) := by
  unfold numStep
  rw [hc, if_pos (by omega), IntWalk.wrap64_in (acc * 10) h1]
  rw [show (if true = true then -(((48 + d : Nat) : Int) - 48) else ((48 + d : Nat) : Int) - 48) = -(d : Int) by simp; omega, IntWalk.wrap64_in _ h2]
/-- Digits come to their number. -/
theorem num_dec (u : Nat) (h : u ≤ 9223372036854775807) : numF false (decDigits u) = (u : Int) := by
  induction u using Nat.strongRecOn with
  | _ u ih =>
    by_cases hu : u < 10
    · rw [decDigits_one hu]
      have e : (UInt8.ofNat (48 + u)).toNat = 48 + u := by rw [UInt8.toNat_ofNat']; omega
      show numStep false 0 _ = _
      rw [numStep_digit 0 _ u e hu (by unfold inI64; omega) (by unfold inI64; omega)]
      omega
    · rw [decDigits, dif_neg hu, numF_snoc, ih (u / 10) (by omega) (by omega)]
      have e : (UInt8.ofNat (48 + u % 10)).toNat = 48 + u % 10 := by rw [UInt8.toNat_ofNat']; omega
      rw [numStep_digit _ _ (u % 10) e (by omega) (by unfold inI64; omega) (by unfold inI64; omega)]
      omega
theorem num_neg (u : Nat) (h : u ≤ 9223372036854775808) : numF true (decDigits u) = -(u : Int) := by
  induction u using Nat.strongRecOn with
  | _ u ih =>
    by_cases hu : u < 10
    · rw [decDigits_one hu]
      have e : (UInt8.ofNat (48 + u)).toNat = 48 + u := by rw [UInt8.toNat_ofNat']; omega
      show numStep true 0 _ = _
      rw [numStep_minus 0 _ u e hu (by unfold inI64; omega) (by unfold inI64; omega)]
      omega
    · rw [decDigits, dif_neg hu, numF_snoc, ih (u / 10) (by omega) (by omega)]
      have e : (UInt8.ofNat (48 + u % 10)).toNat = 48 + u % 10 := by rw [UInt8.toNat_ofNat']; omega
      rw [numStep_minus _ _ (u % 10) e (by omega) (by unfold inI64; omega) (by unfold inI64; omega)]
      omega
theorem num_itoa (n : Int) (h : inI64 n) : numV (itoa n) = n := by
  unfold inI64 at h
  unfold numV itoa
  by_cases hn : n < 0
  · have hl : (decDigits n.natAbs).length ≤ 19 := by rw [decDigits_length]; exact nDigits_le _ (by omega)
    rw [if_pos hn, List.take_of_length_le (by rw [List.length_cons]; omega)]
    have := num_neg n.natAbs (by omega)
    simp only [List.head?_cons, decide_true]
    show (45 :: decDigits n.natAbs).foldl (numStep true) 0 = n
    rw [List.foldl_cons]
    have e : numStep true 0 45 = 0 := by unfold numStep; rw [if_neg (by decide)]
    rw [e]
    show numF true _ = _
    rw [this]; omega
  · have hl : (decDigits n.toNat).length ≤ 19 := by rw [decDigits_length]; exact nDigits_le _ (by omega)
    rw [if_neg hn, List.take_of_length_le (by omega)]
    have hh : decide ((decDigits n.toNat).head? = some 45) = false := by
      cases hd : decDigits n.toNat with
      | nil => exact absurd hd (numeral_ne _)
      | cons c r =>
        have hc := numeral_bytes n.toNat c (by rw [hd]; simp)
        simp only [List.head?_cons, Option.some.injEq, decide_eq_false_iff_not]
        intro e; rw [e] at hc; exact absurd hc.1 (by decide)
    rw [hh, num_dec _ (by omega)]; omega

set_option maxRecDepth 100000 in
set_option maxHeartbeats 2000000 in
theorem number36 (s : ByteArray) (w : World) (hs : s.size ≤ 1000) :
    Calls Tryd.prog 69 #[.string s] w fun e w' => e = .returned (.int .i64 (numV (bs s))) ∧ w' = w := by
  obtain ⟨neg, hneg⟩ : ∃ neg, decide ((bs s).head? = some 45) = neg := ⟨_, rfl⟩
  have HV : Hid (numV (bs s) = numF neg ((bs s).take 25)) := by show _ = _; unfold numV; rw [hneg]
  have HN : Hid (decide ((bs s).head? = some 45) = neg) := hneg
  clear hneg
  go_enter Tryd.func69, Tryd.ntmps69
  go_wp2
  go_loop [3, 4] (fun a i => ∃ k : Nat, k ≤ s.size ∧ k ≤ 25 ∧ i = .int .i64 (k : Int) ∧ a = .int .i64 (numF neg ((bs s).take k))) (fun _ i => 25 - (Lib.intOf i).toNat)
  case atStart => exact ⟨0, by omega, by omega, rfl, rfl⟩
  case round =>
    obtain ⟨k, hks, hk25, rfl, rfl⟩ := hrel
    by_cases hlt : k < s.size
    · have hkz : (k : Int) < (s.size : Int) := by omega
      by_cases h25 : k < 25
      · have h25z : (k : Int) < 25 := by omega
        have hst := take_step hlt
        obtain ⟨c, hc⟩ : ∃ c, s[k]'hlt = c := ⟨_, rfl⟩
        have HS : Hid (numF neg ((bs s).take (k + 1)) = numStep neg (numF neg ((bs s).take k)) c) := by show _ = _; rw [hst, hc, numF_snoc]
        have hin := numF_in neg ((bs s).take k)
        generalize numF neg ((bs s).take k) = acc at *
        unfold inI64 at hin
        obtain ⟨hin1, hin2⟩ := hin
        have hp0 : 0 < s.size := by omega
        obtain ⟨b0, hb0⟩ : ∃ b, s[0]'hp0 = b := ⟨_, rfl⟩
        have hcb := c.toNat_lt
        clear hst
        by_cases hd : 48 ≤ c.toNat ∧ c.toNat ≤ 57
        · obtain ⟨hd1, hd2⟩ := hd
          have hz1 : (48 : Int) ≤ (c.toNat : Int) := by omega
          have hz2 : (c.toNat : Int) ≤ 57 := by omega
          by_cases hm : b0 = 45
          · have hnt : neg = true := by
              rw [← HN.out, decide_eq_true_eq]
              have := rest_cons hp0
              rw [List.drop_zero, hb0, hm] at this
              rw [this]; rfl
            subst hm
            have HE : Hid (numStep neg acc c = wrap64 (wrap64 (acc * 10) + -((c.toNat : Int) - 48))) := by
              show _ = _
              unfold numStep; rw [if_pos ⟨hd1, hd2⟩, hnt]; rfl
            clear hnt
            go_wp2
            exact ⟨⟨k + 1, by omega, by omega, by go_num, by rw [HS.out, HE.out]⟩, by simp [Lib.intOf]; omega⟩
          · have hmz : ¬ ((b0.toNat : Int) = 45) := by
              intro e; exact hm (UInt8.toNat_inj.1 (by show b0.toNat = 45; omega))
            have hnt : neg = false := by
              rw [← HN.out, decide_eq_false_iff_not]
              have := rest_cons hp0
              rw [List.drop_zero, hb0] at this
              rw [this]
              simpa using hm
            have HE : Hid (numStep neg acc c = wrap64 (wrap64 (acc * 10) + ((c.toNat : Int) - 48))) := by
              show _ = _
              unfold numStep; rw [if_pos ⟨hd1, hd2⟩, hnt]; rfl
            clear hnt
            go_wp2
            exact ⟨⟨k + 1, by omega, by omega, by go_num, by rw [HS.out, HE.out]⟩, by simp [Lib.intOf]; omega⟩
        · have HE : Hid (numStep neg acc c = acc) := by
            show _ = _
            unfold numStep; rw [if_neg hd]
          by_cases hd1 : 48 ≤ c.toNat
          · have hz1 : (48 : Int) ≤ (c.toNat : Int) := by omega
            have hz2 : ¬ ((c.toNat : Int) ≤ 57) := by omega
            clear hd
            go_wp2
            exact ⟨⟨k + 1, by omega, by omega, by go_num, by rw [HS.out, HE.out]⟩, by simp [Lib.intOf]; omega⟩
          · have hz1 : ¬ ((48 : Int) ≤ (c.toNat : Int)) := by omega
            clear hd
            go_wp2
            exact ⟨⟨k + 1, by omega, by omega, by go_num, by rw [HS.out, HE.out]⟩, by simp [Lib.intOf]; omega⟩
      · have h25z : ¬ ((k : Int) < 25) := by omega
        have HK : Hid (numF neg ((bs s).take k) = numV (bs s)) := by
          show _ = _
          rw [HV.out, show k = 25 by omega]
        go_wp2
        go_ret
        exact ⟨by rw [← HK.out]; rfl, rfl⟩
    · have hkz : ¬ ((k : Int) < (s.size : Int)) := by omega
      have HK : Hid (numF neg ((bs s).take k) = numV (bs s)) := by
        show _ = _
        rw [HV.out, List.take_of_length_le (by rw [bs_length]; omega), List.take_of_length_le (by rw [bs_length]; omega)]
      go_wp2
      go_ret
      exact ⟨by rw [← HK.out]; rfl, rfl⟩

end Go.Proofs.YtipnaphikbjhbaaDoor
