/- Names: the reference's. -/
import Derived.Test.YtipnaphikbjhbaaDoorName
namespace Go.Proofs.YtipnaphikbjhbaaDoor
open Go.RowKit Go.Lib

theorem nameR_key {l : Bs} (h : keyR l = true) : nameR l = false := by simp [nameR, h]
theorem nameR_free {l : Bs} (h1 : 1 ≤ l.length) (h2 : l.length ≤ 8) (h : keyR l = false) : nameR l = nameFrom true l := by simp [nameR, h1, h2, h]

set_option maxRecDepth 100000 in
set_option maxHeartbeats 4000000 in
theorem name14 (s : ByteArray) (w : World) (hg : Good w) :
    Calls Tryd.prog 58 #[.string s] w fun e w' => e = .returned (.bool (nameR (bs s))) ∧ Below w.heap.size w w' := by
  by_cases h1 : s.size < 1
  · have z1 : (s.size : Int) < 1 := by omega
    have hr := nameR_len (l := bs s) (by rw [bs_length]; omega)
    rw [hr]
    go_enter Tryd.func58, Tryd.ntmps58
    go_wp2
    go_ret
    exact ⟨rfl, Below.refl _ _⟩
  · have z1 : ¬ ((s.size : Int) < 1) := by omega
    by_cases h8 : 8 < s.size
    · have z8 : (8 : Int) < (s.size : Int) := by omega
      have hr := nameR_len (l := bs s) (by rw [bs_length]; omega)
      rw [hr]
      go_enter Tryd.func58, Tryd.ntmps58
      go_wp2
      go_ret
      exact ⟨rfl, Below.refl _ _⟩
    · have z8 : ¬ ((8 : Int) < (s.size : Int)) := by omega
      have c16 := key16 s w hg
      cases hk : keyR (bs s)
      · rw [hk] at c16
        have hr := nameR_free (l := bs s) (by rw [bs_length]; omega) (by rw [bs_length]; omega) hk
        rw [hr]
        clear hr hk hg
        go_enter Tryd.func58, Tryd.ntmps58
        go_wp2_with (go_at_call 67; refine c16.mono ?_; rintro e w1 ⟨rfl, hB⟩)
        go_loopw [3] (fun i w' => ∃ pos : Nat, w' = w1 ∧ i = .int .i64 (pos : Int) ∧ pos ≤ s.size ∧ nameFrom true (bs s) = nameFrom (pos == 0) ((bs s).drop pos)) (fun i _ => s.size - (Lib.intOf i).toNat)
        case atStart => exact ⟨0, rfl, rfl, Nat.zero_le _, by simp⟩
        case round =>
          obtain ⟨pos, rfl, rfl, hps, hc⟩ := hrel
          by_cases hp : pos < s.size
          · have hpz : (pos : Int) < (s.size : Int) := by omega
            have hcons := rest_cons hp
            obtain ⟨b, hbb⟩ : ∃ b, s[pos]'hp = b := ⟨_, rfl⟩
            rw [hbb] at hcons
            rw [hcons] at hc
            clear hcons
            have hadd : wrap64 ((pos : Int) + 1) = (pos : Int) + 1 := by rw [IntWalk.wrap64_in _ ⟨by omega, by omega⟩]
            have hnext : (smallB b || (!(pos == 0) && (b.toNat == 95 || digitB b))) = true → Hid (nameFrom true (bs s) = nameFrom ((pos + 1) == 0) ((bs s).drop (pos + 1))) := fun h => hc.trans (nameFrom_ok h)
            have hstop : (smallB b || (!(pos == 0) && (b.toNat == 95 || digitB b))) = false → Hid (nameFrom true (bs s) = false) := fun h => hc.trans (nameFrom_bad h)
            have hsB : smallB b = (decide (97 ≤ b.toNat) && decide (b.toNat ≤ 122)) := rfl
            have hdB : digitB b = (decide (48 ≤ b.toNat) && decide (b.toNat ≤ 57)) := rfl
            rw [hsB, hdB] at hnext hstop
            clear hc hsB hdB
            by_cases a1 : 97 ≤ b.toNat ∧ b.toNat ≤ 122
            · have z97 : (97 : Int) ≤ (b.toNat : Int) := by omega
              have z122 : (b.toNat : Int) ≤ 122 := by omega
              have HN := hnext (by simp [a1.1, a1.2])
              clear hnext hstop
              go_wp2
              go_roundw
              case rel => exact ⟨pos + 1, by trivial, by simp, by omega, HN⟩
              case measure =>
                simp [Lib.intOf]
                omega
            · have a2 : (decide (97 ≤ b.toNat) && decide (b.toNat ≤ 122)) = false := by
                rw [← Bool.not_eq_true, Bool.and_eq_true, decide_eq_true_eq, decide_eq_true_eq]; exact a1
              rw [a2] at hnext hstop
              clear a2
              by_cases hp0 : pos = 0
              · have HN := hstop (by simp [hp0])
                subst hp0
                clear hnext hstop
                by_cases z97 : (97 : Int) ≤ (b.toNat : Int)
                · have z122 : ¬ ((b.toNat : Int) ≤ 122) := by omega
                  go_wp2
                  go_ret
                  exact ⟨by rw [show nameFrom true (bs s) = false from HN]; rfl, hB⟩
                · go_wp2
                  go_ret
                  exact ⟨by rw [show nameFrom true (bs s) = false from HN]; rfl, hB⟩
              · have hpz0 : ¬ ((pos : Int) = 0) := by omega
                have hpb : (pos == 0) = false := by simpa using hp0
                rw [hpb] at hnext hstop
                clear hpb
                by_cases z97 : (97 : Int) ≤ (b.toNat : Int)
                · have z122 : ¬ ((b.toNat : Int) ≤ 122) := by omega
                  have z95 : ((b.toNat : Int) != 95) = true := by simp; omega
                  have z48 : ¬ ((b.toNat : Int) < 48) := by omega
                  have z57 : (57 : Int) < (b.toNat : Int) := by omega
                  have HN := hstop (by simp; omega)
                  clear hnext hstop
                  go_wp2
                  go_ret
                  exact ⟨by rw [show nameFrom true (bs s) = false from HN]; rfl, hB⟩
                · by_cases h95 : b.toNat = 95
                  · have z95 : ((b.toNat : Int) != 95) = false := by simp; omega
                    have HN := hnext (by simp [h95])
                    clear hnext hstop h95
                    go_wp2
                    go_roundw
                    case rel => exact ⟨pos + 1, by trivial, by simp, by omega, HN⟩
                    case measure =>
                      simp [Lib.intOf]
                      omega
                  · have z95 : ((b.toNat : Int) != 95) = true := by simp; omega
                    by_cases h48 : b.toNat < 48
                    · have z48 : (b.toNat : Int) < 48 := by omega
                      have HN := hstop (by simp [h95]; omega)
                      clear hnext hstop
                      go_wp2
                      go_ret
                      exact ⟨by rw [show nameFrom true (bs s) = false from HN]; rfl, hB⟩
                    · have z48 : ¬ ((b.toNat : Int) < 48) := by omega
                      by_cases h57 : 57 < b.toNat
                      · have z57 : (57 : Int) < (b.toNat : Int) := by omega
                        have HN := hstop (by simp [h95]; omega)
                        clear hnext hstop
                        go_wp2
                        go_ret
                        exact ⟨by rw [show nameFrom true (bs s) = false from HN]; rfl, hB⟩
                      · have z57 : ¬ ((57 : Int) < (b.toNat : Int)) := by omega
                        have HN := hnext (by simp; omega)
                        clear hnext hstop
                        go_wp2
                        go_roundw
                        case rel => exact ⟨pos + 1, by trivial, by simp, by omega, HN⟩
                        case measure =>
                          simp [Lib.intOf]
                          omega
          · have hpz : ¬ ((pos : Int) < (s.size : Int)) := by omega
            rw [rest_nil hp] at hc
            have HN : Hid (nameFrom true (bs s) = true) := by rw [hc]; rfl
            clear hc
            go_wp2
            go_ret
            exact ⟨by rw [show nameFrom true (bs s) = true from HN]; rfl, hB⟩
      · rw [hk] at c16
        rw [nameR_key hk]
        go_enter Tryd.func58, Tryd.ntmps58
        go_wp2_with (go_at_call 67; refine c16.mono ?_; rintro e w1 ⟨rfl, hB⟩)
        go_ret
        exact ⟨rfl, hB⟩

end Go.Proofs.YtipnaphikbjhbaaDoor
