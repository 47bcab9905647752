/- The reference's digit, letter, run. -/
import Derived.Test.YtipnaphikbjhbaaDoorLg
import Derived.Test.YtipnaphikbjhbaaDoorRefq
namespace Go.Proofs.YtipnaphikbjhbaaDoor
open Go.RowKit Go.Lib Go.Joins
set_option maxRecDepth 100000

theorem rdigit30 (r : Int) (w : World) : Calls Tryd.prog 63 #[.int .u8 r] w fun e w' => e = .returned (.bool (digI r)) ∧ w' = w := by
  by_cases h1 : 48 ≤ r
  · by_cases h2 : r ≤ 57
    · rw [show digI r = true by simp [digI, h1, h2]]
      go_enter Tryd.func63, Tryd.ntmps63
      go_wp2
      go_ret
      exact ⟨rfl, rfl⟩
    · rw [show digI r = false by simp [digI, h2]]
      go_enter Tryd.func63, Tryd.ntmps63
      go_wp2
      go_ret
      exact ⟨rfl, rfl⟩
  · rw [show digI r = false by simp [digI, h1]]
    go_enter Tryd.func63, Tryd.ntmps63
    go_wp2
    go_ret
    exact ⟨rfl, rfl⟩
theorem rletter27 (r : Int) (w : World) : Calls Tryd.prog 60 #[.int .u8 r] w fun e w' => e = .returned (.bool (ltrI r)) ∧ w' = w := by
  by_cases h1 : 97 ≤ r
  · by_cases h2 : r ≤ 122
    · rw [show ltrI r = true by simp [ltrI, h1, h2]]
      go_enter Tryd.func60, Tryd.ntmps60
      go_wp2
      go_ret
      exact ⟨rfl, rfl⟩
    · have h3 : 65 ≤ r := by omega
      have h4 : ¬ r ≤ 90 := by omega
      rw [show ltrI r = false by simp [ltrI, h2, h4]]
      go_enter Tryd.func60, Tryd.ntmps60
      go_wp2
      go_ret
      exact ⟨rfl, rfl⟩
  · by_cases h3 : 65 ≤ r
    · by_cases h4 : r ≤ 90
      · rw [show ltrI r = true by simp [ltrI, h3, h4]]
        go_enter Tryd.func60, Tryd.ntmps60
        go_wp2
        go_ret
        exact ⟨rfl, rfl⟩
      · rw [show ltrI r = false by simp [ltrI, h1, h4]]
        go_enter Tryd.func60, Tryd.ntmps60
        go_wp2
        go_ret
        exact ⟨rfl, rfl⟩
    · rw [show ltrI r = false by simp [ltrI, h1, h3]]
      go_enter Tryd.func60, Tryd.ntmps60
      go_wp2
      go_ret
      exact ⟨rfl, rfl⟩

set_option maxHeartbeats 4000000 in
theorem rrun28 (word : Bool) (p : Int → Bool) (hp : ∀ r, p r = (digI r || (word && (ltrI r || decide (r = 95))))) (s : ByteArray) (w : World) (hs : s.size ≤ 1000) :
    Calls Tryd.prog 61 #[.string s, .bool word] w fun e w' => e = .returned (.int .i64 (runP p (bs s) : Nat)) ∧ w' = w := by
  go_enter Tryd.func61, Tryd.ntmps61
  go_wp2
  go_loopw [5] (fun q w' => ∃ k : Nat, k ≤ s.size ∧ q = .int .i64 (k : Int) ∧ w' = w ∧ Hid (runP p (bs s) = k + runP p ((bs s).drop k))) (fun q _ => s.size - (RowKit.intOf q).toNat)
  case atStart => exact ⟨0, Nat.zero_le _, rfl, rfl, by show _ = _; simp⟩
  case round =>
    obtain ⟨k, hk, rfl, rfl, hrun⟩ := hrel
    by_cases hlt : k < s.size
    · have hlt1 : (k : Int) < (s.size : Int) := by omega
      have hlt0 : (0 : Int) ≤ (k : Int) := by omega
      have hcons := rest_cons hlt
      obtain ⟨b, hbb⟩ : ∃ b, s[k]'hlt = b := ⟨_, rfl⟩
      rw [hbb] at hcons
      have c30 := fun w1 => rdigit30 (b.toNat : Int) w1
      have c27 := fun w1 => rletter27 (b.toNat : Int) w1
      have hpb := hp (b.toNat : Int)
      have HY : Hid (p (b.toNat : Int) = true → runP p (bs s) = (k + 1) + runP p ((bs s).drop (k + 1))) := fun h => by rw [hrun.out, hcons, runP_yes h]; omega
      have HNO : Hid (p (b.toNat : Int) = false → runP p (bs s) = k) := fun h => by rw [hrun.out, hcons, runP_no h]; omega
      clear hcons hrun hp
      cases hd : digI (b.toNat : Int)
      · rw [hd] at c30 hpb
        cases word
        · simp at hpb
          have HR : Hid (runP p (bs s) = k) := HNO.out hpb
          clear HY HNO hpb hd
          go_wp2_with (first | (go_at_call 63; refine (c30 _).mono ?_; rintro e w1 ⟨rfl, rfl⟩) | (go_at_call 60; refine (c27 _).mono ?_; rintro e w1 ⟨rfl, rfl⟩))
          go_ret
          exact ⟨by rw [HR.out]; rfl, rfl⟩
        · cases hl : ltrI (b.toNat : Int)
          · rw [hl] at c27 hpb
            by_cases h95 : b.toNat = 95
            · have h95i : (b.toNat : Int) = 95 := by omega
              have HR : Hid (runP p (bs s) = (k + 1) + runP p ((bs s).drop (k + 1))) := HY.out (by rw [hpb]; simp [h95])
              clear HY HNO hpb hd hl
              obtain rfl : b = 95 := UInt8.toNat_inj.1 (by show b.toNat = 95; omega)
              have c30' : ∀ w1, Calls Tryd.prog 63 #[.int .u8 95] w1 fun e w' => e = .returned (.bool false) ∧ w' = w1 := c30
              have c27' : ∀ w1, Calls Tryd.prog 60 #[.int .u8 95] w1 fun e w' => e = .returned (.bool false) ∧ w' = w1 := c27
              clear c30 c27 h95 h95i
              go_wp2_with (first | (go_at_call 63; refine (c30' _).mono ?_; rintro e w1 ⟨rfl, rfl⟩) | (go_at_call 60; refine (c27' _).mono ?_; rintro e w1 ⟨rfl, rfl⟩))
              go_roundw
              case rel => exact ⟨k + 1, by omega, by simp, by first | rfl | trivial, HR⟩
              case measure => simp [RowKit.intOf]; omega
            · have h95i : ¬ (b.toNat : Int) = 95 := by omega
              have HR : Hid (runP p (bs s) = k) := HNO.out (by rw [hpb]; simp; omega)
              clear HY HNO hpb hd hl
              go_wp2_with (first | (go_at_call 63; refine (c30 _).mono ?_; rintro e w1 ⟨rfl, rfl⟩) | (go_at_call 60; refine (c27 _).mono ?_; rintro e w1 ⟨rfl, rfl⟩))
              go_ret
              exact ⟨by rw [HR.out]; rfl, rfl⟩
          · rw [hl] at c27 hpb
            have HR : Hid (runP p (bs s) = (k + 1) + runP p ((bs s).drop (k + 1))) := HY.out (by rw [hpb]; simp)
            clear HY HNO hpb hd hl
            go_wp2_with (first | (go_at_call 63; refine (c30 _).mono ?_; rintro e w1 ⟨rfl, rfl⟩) | (go_at_call 60; refine (c27 _).mono ?_; rintro e w1 ⟨rfl, rfl⟩))
            go_roundw
            case rel => exact ⟨k + 1, by omega, by simp, by first | rfl | trivial, HR⟩
            case measure => simp [RowKit.intOf]; omega
      · rw [hd] at c30 hpb
        have HR : Hid (runP p (bs s) = (k + 1) + runP p ((bs s).drop (k + 1))) := HY.out (by rw [hpb]; simp)
        clear HY HNO hpb hd
        go_wp2_with (first | (go_at_call 63; refine (c30 _).mono ?_; rintro e w1 ⟨rfl, rfl⟩) | (go_at_call 60; refine (c27 _).mono ?_; rintro e w1 ⟨rfl, rfl⟩))
        go_roundw
        case rel => exact ⟨k + 1, by omega, by simp, by first | rfl | trivial, HR⟩
        case measure => simp [RowKit.intOf]; omega
    · have hlt1 : ¬ (k : Int) < (s.size : Int) := by omega
      have HR : Hid (runP p (bs s) = s.size) := by show _ = _; rw [hrun.out, rest_nil hlt, runP_nil]; omega
      obtain rfl : k = s.size := by omega
      clear hrun hp
      go_wp2
      go_ret
      exact ⟨by rw [HR.out]; rfl, rfl⟩
end Go.Proofs.YtipnaphikbjhbaaDoor
