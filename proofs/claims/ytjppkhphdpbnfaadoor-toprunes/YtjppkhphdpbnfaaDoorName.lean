/- Names: word.Name and the reference's. -/
import Derived.Test.YtjppkhphdpbnfaaDoorKey3
namespace Go.Proofs.YtjppkhphdpbnfaaDoor
open Go.RowKit Go.Lib

def nameR (l : Bs) : Bool := (decide (1 ≤ l.length) && decide (l.length ≤ 8)) && (nameFrom true l && !keyR l)
theorem nameR_len {l : Bs} (h : ¬ (1 ≤ l.length ∧ l.length ≤ 8)) : nameR l = false := by
  have : (decide (1 ≤ l.length) && decide (l.length ≤ 8)) = false := by
    rw [← Bool.not_eq_true, Bool.and_eq_true, decide_eq_true_eq, decide_eq_true_eq]; exact h
  simp [nameR, this]
theorem nameR_else {l : Bs} (h1 : 1 ≤ l.length) (h2 : l.length ≤ 8) : nameR l = (nameFrom true l && !keyR l) := by simp [nameR, h1, h2]

def smallN (r : Nat) : Bool := decide (97 ≤ r) && decide (r ≤ 122)
def digitN (r : Nat) : Bool := decide (48 ≤ r) && decide (r ≤ 57)

set_option maxRecDepth 100000 in
theorem small30 (r : Nat) (w : World) : Calls Tryd.prog 30 #[.int .i32 (r : Int)] w fun e w' => e = .returned (.bool (smallN r)) ∧ w' = w := by
  by_cases h1 : 97 ≤ r
  · have z1 : (97 : Int) ≤ (r : Int) := by omega
    by_cases h2 : r ≤ 122
    · have z2 : (r : Int) ≤ 122 := by omega
      have hr : smallN r = true := by simp [smallN, h1, h2]
      rw [hr]
      go_enter Tryd.func30, Tryd.ntmps30
      go_wp2
      go_ret
      exact ⟨rfl, rfl⟩
    · have z2 : ¬ ((r : Int) ≤ 122) := by omega
      have hr : smallN r = false := by simp [smallN, h2]
      rw [hr]
      go_enter Tryd.func30, Tryd.ntmps30
      go_wp2
      go_ret
      exact ⟨rfl, rfl⟩
  · have z1 : ¬ ((97 : Int) ≤ (r : Int)) := by omega
    have hr : smallN r = false := by simp [smallN, h1]
    rw [hr]
    go_enter Tryd.func30, Tryd.ntmps30
    go_wp2
    go_ret
    exact ⟨rfl, rfl⟩

set_option maxRecDepth 100000 in
theorem digit31 (r : Nat) (w : World) : Calls Tryd.prog 31 #[.int .i32 (r : Int)] w fun e w' => e = .returned (.bool (digitN r)) ∧ w' = w := by
  by_cases h1 : 48 ≤ r
  · have z1 : (48 : Int) ≤ (r : Int) := by omega
    by_cases h2 : r ≤ 57
    · have z2 : (r : Int) ≤ 57 := by omega
      have hr : digitN r = true := by simp [digitN, h1, h2]
      rw [hr]
      go_enter Tryd.func31, Tryd.ntmps31
      go_wp2
      go_ret
      exact ⟨rfl, rfl⟩
    · have z2 : ¬ ((r : Int) ≤ 57) := by omega
      have hr : digitN r = false := by simp [digitN, h2]
      rw [hr]
      go_enter Tryd.func31, Tryd.ntmps31
      go_wp2
      go_ret
      exact ⟨rfl, rfl⟩
  · have z1 : ¬ ((48 : Int) ≤ (r : Int)) := by omega
    have hr : digitN r = false := by simp [digitN, h1]
    rw [hr]
    go_enter Tryd.func31, Tryd.ntmps31
    go_wp2
    go_ret
    exact ⟨rfl, rfl⟩

theorem nameFrom_ok {first : Bool} {b : UInt8} {t : Bs} (h : (smallB b || (!first && (b.toNat == 95 || digitB b))) = true) : nameFrom first (b :: t) = nameFrom false t := by
  simp only [nameFrom, h, Bool.true_and]
theorem nameFrom_bad {first : Bool} {b : UInt8} {t : Bs} (h : (smallB b || (!first && (b.toNat == 95 || digitB b))) = false) : nameFrom first (b :: t) = false := by
  simp only [nameFrom, h, Bool.false_and]

/-- The rune at a place, against its first byte. -/
theorem rune_byte {s : ByteArray} {pos : Nat} (hp : pos < s.size) : ∃ b : UInt8, (bs s).drop pos = b :: (bs s).drop (pos + 1) ∧ smallN (Utf8.decode s pos).1 = smallB b ∧ digitN (Utf8.decode s pos).1 = digitB b ∧ ((Utf8.decode s pos).1 = 95 ↔ b.toNat = 95) ∧
    (b.toNat < 128 → (Utf8.decode s pos).2 = 1) ∧ (¬ b.toNat < 128 → smallB b = false ∧ digitB b = false ∧ b.toNat ≠ 95) := by
  have hcons := rest_cons hp
  have hdec := rest_decode s pos
  refine ⟨s[pos]'hp, hcons, ?_⟩
  generalize s[pos]'hp = b at hcons
  by_cases hlow : b.toNat < 128
  · rw [hcons, ascii_head hlow] at hdec
    rw [← hdec]
    exact ⟨rfl, rfl, Iff.rfl, fun _ => rfl, fun h => absurd hlow h⟩
  · have hh := (high_bytes _ (rest_ne hp) (by rw [hcons]; simpa using hlow)).1
    rw [hdec] at hh
    have e1 : smallB b = false := by simp [smallB]; omega
    have e2 : digitB b = false := by simp [digitB]; omega
    have e3 : smallN (Utf8.decode s pos).1 = false := by simp [smallN]; omega
    have e4 : digitN (Utf8.decode s pos).1 = false := by simp [digitN]; omega
    exact ⟨e3.trans e1.symm, e4.trans e2.symm, ⟨fun h => by omega, fun h => by omega⟩, fun h => absurd h hlow, fun _ => ⟨e1, e2, by omega⟩⟩

set_option maxRecDepth 100000 in
set_option maxHeartbeats 4000000 in
theorem name13 (s : ByteArray) (w : World) (hs : s.size ≤ 100000) :
    Calls Tryd.prog 13 #[.string s] w fun e w' => e = .returned (.bool (nameR (bs s))) ∧ Below w.heap.size w w' := by
  by_cases h1 : s.size < 1
  · have z1 : (s.size : Int) < 1 := by omega
    have hr := nameR_len (l := bs s) (by rw [bs_length]; omega)
    rw [hr]
    go_enter Tryd.func13, Tryd.ntmps13
    go_wp2
    go_ret
    exact ⟨rfl, Below.refl _ _⟩
  · have z1 : ¬ ((s.size : Int) < 1) := by omega
    by_cases h8 : 8 < s.size
    · have z8 : (8 : Int) < (s.size : Int) := by omega
      have hr := nameR_len (l := bs s) (by rw [bs_length]; omega)
      rw [hr]
      go_enter Tryd.func13, Tryd.ntmps13
      go_wp2
      go_ret
      exact ⟨rfl, Below.refl _ _⟩
    · have z8 : ¬ ((8 : Int) < (s.size : Int)) := by omega
      have hr := nameR_else (l := bs s) (by rw [bs_length]; omega) (by rw [bs_length]; omega)
      rw [hr]
      clear hr
      go_enter Tryd.func13, Tryd.ntmps13
      go_wp2
      go_loopw [] (fun w' => ∃ pos : Nat, w' = w.iter s pos ∧ pos ≤ s.size ∧ nameFrom true (bs s) = nameFrom (pos == 0) ((bs s).drop pos)) (fun w' => s.size - w'.iterPos w.heap.size)
      case atStart => exact ⟨0, rfl, Nat.zero_le _, by simp⟩
      case round =>
        obtain ⟨pos, rfl, hps, hc⟩ := hrel
        by_cases hp : pos < s.size
        · have hnx : ∀ ty, (Instr.next (.pointer (some ⟨w.heap.size, 0, none⟩)) true ty).run Tryd.prog (w.iter s pos) = _ := fun ty => run_next_any w s pos ty hp
          obtain ⟨b, hcons, hS, hD, hU, hW, hH⟩ := rune_byte hp
          obtain ⟨r, hr⟩ : ∃ r, (Utf8.decode s pos).1 = r := ⟨_, rfl⟩
          obtain ⟨wd, hw⟩ : ∃ k, (Utf8.decode s pos).2 = k := ⟨_, rfl⟩
          rw [hr] at hS hD hU
          rw [hr, hw] at hnx
          rw [hw] at hW
          have c30 : ∀ w1, Calls Tryd.prog 30 #[.int .i32 (r : Int)] w1 fun e w' => e = .returned (.bool (smallB b)) ∧ w' = w1 := fun w1 => by rw [← hS]; exact small30 r w1
          have c31 : ∀ w1, Calls Tryd.prog 31 #[.int .i32 (r : Int)] w1 fun e w' => e = .returned (.bool (digitB b)) ∧ w' = w1 := fun w1 => by rw [← hD]; exact digit31 r w1
          rw [hcons] at hc
          clear hcons hr hw hS hD
          cases hs1 : smallB b
          · rw [hs1] at c30
            by_cases hp0 : pos = 0
            · have hpz : (pos : Int) = 0 := by omega
              have hn : nameFrom true (bs s) = false := by rw [hc, hp0]; exact nameFrom_bad (by simp [hs1])
              have HN : Hid (nameFrom true (bs s) = false) := hn
              subst hp0
              clear hc hn hU hW hH hps
              go_wp2_with (first
            | (go_at_call 30; refine (c30 _).mono ?_; rintro e w1 ⟨rfl, rfl⟩)
            | (go_at_call 31; refine (c31 _).mono ?_; rintro e w1 ⟨rfl, rfl⟩))
              go_ret
              exact ⟨by rw [show nameFrom true (bs s) = false from HN]; rfl, iter_below w s _⟩
            · have hpz : ¬ ((pos : Int) = 0) := by omega
              have hpb : (pos == 0) = false := by simpa using hp0
              rw [hpb] at hc
              cases hd1 : digitB b
              · rw [hd1] at c31
                by_cases hu : r = 95
                · have hb95 := hU.1 hu
                  subst hu
                  have c30 : ∀ w1, Calls Tryd.prog 30 #[.int .i32 95] w1 fun e w' => e = .returned (.bool false) ∧ w' = w1 := c30
                  have c31 : ∀ w1, Calls Tryd.prog 31 #[.int .i32 95] w1 fun e w' => e = .returned (.bool false) ∧ w' = w1 := c31
                  have hnx : ∀ ty, (Instr.next (.pointer (some ⟨w.heap.size, 0, none⟩)) true ty).run Tryd.prog (w.iter s pos) = .ok (.tuple #[.bool true, .int .i64 pos, .int .i32 95]) (w.iter s (pos + wd)) := hnx
                  have hw1 : wd = 1 := hW (by omega)
                  subst hw1
                  have hn : nameFrom true (bs s) = nameFrom false ((bs s).drop (pos + 1)) := by rw [hc]; exact nameFrom_ok (by simp [hb95])
                  have HN : Hid (nameFrom true (bs s) = nameFrom ((pos + 1) == 0) ((bs s).drop (pos + 1))) := hn
                  clear hc hn hU hW hH hpb
                  go_wp2_with (first
            | (go_at_call 30; refine (c30 _).mono ?_; rintro e w1 ⟨rfl, rfl⟩)
            | (go_at_call 31; refine (c31 _).mono ?_; rintro e w1 ⟨rfl, rfl⟩))
                  go_roundw
                  case rel => exact ⟨pos + 1, rfl, by omega, HN⟩
                  case measure =>
                    simp
                    omega
                · have huz : ((r : Int) != 95) = true := by simp; omega
                  have hn : nameFrom true (bs s) = false := by rw [hc]; exact nameFrom_bad (by simp [hs1, hd1]; exact fun h => hu (hU.2 h))
                  have HN : Hid (nameFrom true (bs s) = false) := hn
                  clear hc hn hU hW hH hpb
                  go_wp2_with (first
            | (go_at_call 30; refine (c30 _).mono ?_; rintro e w1 ⟨rfl, rfl⟩)
            | (go_at_call 31; refine (c31 _).mono ?_; rintro e w1 ⟨rfl, rfl⟩))
                  go_ret
                  exact ⟨by rw [show nameFrom true (bs s) = false from HN]; rfl, iter_below w s _⟩
              · rw [hd1] at c31
                have hw1 : wd = 1 := hW (Classical.byContradiction fun h => by have := (hH h).2.1; rw [hd1] at this; simp at this)
                subst hw1
                have hn : nameFrom true (bs s) = nameFrom false ((bs s).drop (pos + 1)) := by rw [hc]; exact nameFrom_ok (by simp [hd1])
                have HN : Hid (nameFrom true (bs s) = nameFrom ((pos + 1) == 0) ((bs s).drop (pos + 1))) := hn
                clear hc hn hU hW hH hpb
                go_wp2_with (first
            | (go_at_call 30; refine (c30 _).mono ?_; rintro e w1 ⟨rfl, rfl⟩)
            | (go_at_call 31; refine (c31 _).mono ?_; rintro e w1 ⟨rfl, rfl⟩))
                go_roundw
                case rel => exact ⟨pos + 1, rfl, by omega, HN⟩
                case measure =>
                  simp
                  omega
          · rw [hs1] at c30
            have hw1 : wd = 1 := hW (Classical.byContradiction fun h => by have := (hH h).1; rw [hs1] at this; simp at this)
            subst hw1
            have hn : nameFrom true (bs s) = nameFrom false ((bs s).drop (pos + 1)) := by rw [hc]; exact nameFrom_ok (by simp [hs1])
            have HN : Hid (nameFrom true (bs s) = nameFrom ((pos + 1) == 0) ((bs s).drop (pos + 1))) := hn
            clear hc hn hU hW hH
            go_wp2_with (first
            | (go_at_call 30; refine (c30 _).mono ?_; rintro e w1 ⟨rfl, rfl⟩)
            | (go_at_call 31; refine (c31 _).mono ?_; rintro e w1 ⟨rfl, rfl⟩))
            go_roundw
            case rel => exact ⟨pos + 1, rfl, by omega, HN⟩
            case measure =>
              simp
              omega
        · have hnx : ∀ ty, (Instr.next (.pointer (some ⟨w.heap.size, 0, none⟩)) true ty).run Tryd.prog (w.iter s pos) = _ := fun ty => run_next_end w s pos ty hp
          rw [rest_nil hp] at hc
          have hn : nameFrom true (bs s) = true := by rw [hc]; rfl
          have HN : Hid (nameFrom true (bs s) = true) := hn
          clear hc hn
          have c15 := key15 s (w.iter s pos) hs
          go_wp2_with (go_at_call 15; refine c15.mono ?_; rintro e w1 ⟨rfl, hb⟩)
          go_ret
          exact ⟨by rw [show nameFrom true (bs s) = true from HN, Bool.true_and]; rfl, bmore (iter_below w s pos) hb⟩

end Go.Proofs.YtjppkhphdpbnfaaDoor
