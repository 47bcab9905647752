/- The law TopRunes: in every good world it answers true. -/
import Derived.Test.YtjppkhphdpbnfaaDoorLaws3
namespace Go.Proofs.YtjppkhphdpbnfaaDoor
open Go.RowKit Go.Lib

theorem live_right : rightR [97, 98] = true := by kernel_rfl

/-- How many marks are among the first bytes. -/
def marksTo (s : ByteArray) (k : Nat) : Nat := ((bs s).take k).count 39
theorem marks_le (s : ByteArray) (k : Nat) : marksTo s k ≤ k := by
  have := List.count_le_length (a := (39 : UInt8)) (l := (bs s).take k)
  rw [List.length_take] at this
  unfold marksTo; omega
theorem marks_step {s : ByteArray} {k : Nat} (h : k < s.size) : marksTo s (k + 1) = marksTo s k + (if s[k]'h = 39 then 1 else 0) := by
  unfold marksTo
  rw [take_step h, List.count_append]
  congr 1
  by_cases e : s[k]'h = 39 <;> simp [e]
theorem marks_all {s : ByteArray} {k : Nat} (h : ¬ k < s.size) : marksTo s k = (bs s).count 39 := by
  unfold marksTo
  rw [List.take_of_length_le (by rw [bs_length]; omega)]

set_option maxRecDepth 100000 in
set_option maxHeartbeats 4000000 in
theorem runes_short (s F X q : ByteArray) (N A C L : Nat) (w : World) (hst : St w w) (hN : N < 256) (hL : L ≤ 300) (hFle : (F.size : Int) ≤ (s.size : Int)) (hs : s.size ≤ 200) (hq : q.size = s.size + 2 + (bs s).count 39)
    (k21 : ∀ w1, St w w1 → Calls Tryd.prog 21 #[.string s, .int .i64 (N : Int)] w1 fun e w' => e = .returned (.string F) ∧ St w w')
    (k25 : ∀ w1, St w w1 → Calls Tryd.prog 25 #[.string s] w1 fun e w' => e = .returned (.tuple #[.string q, .int .i64 0]) ∧ St w w')
    (k11 : ∀ (x : ByteArray) (w1 : World), x = s ∨ x = ⟨#[97, 98]⟩ → St w w1 → Calls Tryd.prog 11 #[.string x] w1 fun e w' => e = .returned (.bool (rightR (bs x))) ∧ St w w')
    (e5 : rightR (bs s) = true) (e6 : rightR (bs ⟨#[97, 98]⟩) = true)
    (k17 : ∀ (x : ByteArray) (w1 : World), x = F ∨ x = X ∨ x = s → St w w1 → Calls Tryd.prog 17 #[.string x] w1 fun e w' => e = .returned (.int .i64 (lenR (bs x) : Nat)) ∧ St w w')
    (e1 : lenR (bs F) = A) (e2 : lenR (bs X) = C) (e3 : lenR (bs s) = L) (e4 : A + C = L) (he : s.extract 0 F.size = F) (hX : s.extract F.size s.size = X) :
    Calls Tryd.prog 8 #[.string s, .int .u8 (N : Int)] w fun e w' => e = .returned (.bool true) ∧ Below w.heap.size w w' := by
  have hadd : (A : Int) + (C : Int) = (L : Int) := by omega
  have HE : Hid (A + C = L) := e4
  clear e4
  have hwr : IntKind.i64.wrap (L : Int) = (L : Int) := wrap_small _ (by omega) (by omega)
  have hlt : ¬ (s.size < F.size) := by omega
  have hdec : decide (s.size < F.size) = false := by simpa using hlt
  have hdz : decide ((s.size : Int) < (F.size : Int)) = false := by simp; omega
  have hlen : ¬ ((200 : Int) < (s.size : Int)) := by omega
  go_enter Tryd.func8, Tryd.ntmps8
  go_wp2_with (go_at_call 21; refine (k21 _ hst).mono ?_; rintro e w1 ⟨rfl, hst⟩)
  go_loopw [6, 7] (fun m i wr => ∃ k : Nat, wr = w1 ∧ k ≤ s.size ∧ i = .int .i64 (k : Int) ∧ m = .int .i64 (marksTo s k : Int)) (fun _ i _ => s.size - (Lib.intOf i).toNat)
  case atStart => exact ⟨0, rfl, Nat.zero_le _, rfl, rfl⟩
  case round =>
    obtain ⟨k, rfl, hk, rfl, rfl⟩ := hrel
    by_cases hp : k < s.size
    · have hpz : (k : Int) < (s.size : Int) := by omega
      have hms := marks_step hp
      have hml := marks_le s k
      obtain ⟨b, hb⟩ : ∃ b, s[k]'hp = b := ⟨_, rfl⟩
      rw [hb] at hms
      by_cases h39 : b = 39
      · subst h39
        rw [if_pos rfl] at hms
        have HM : Hid (marksTo s (k + 1) = marksTo s k + 1) := hms
        clear hms
        generalize marksTo s k = m at *
        go_wp2
        go_roundw
        case rel => exact ⟨k + 1, by trivial, by omega, by simp, by rw [show marksTo s (k + 1) = m + 1 from HM]; simp⟩
        case measure =>
          simp [Lib.intOf]
          omega
      · rw [if_neg h39, Nat.add_zero] at hms
        have HM : Hid (marksTo s (k + 1) = marksTo s k) := hms
        clear hms
        have hne : ((b.toNat : Int) == 39) = false := by
          rw [beq_eq_false_iff_ne]
          intro e
          exact h39 (UInt8.toNat_inj.1 (by show b.toNat = 39; omega))
        generalize marksTo s k = m at *
        go_wp2
        go_roundw
        case rel => exact ⟨k + 1, by trivial, by omega, by simp, by rw [show marksTo s (k + 1) = m from HM]⟩
        case measure =>
          simp [Lib.intOf]
          omega
    · have hpz : ¬ ((k : Int) < (s.size : Int)) := by omega
      have hml := marks_le s k
      have hma := marks_all hp
      have HQ : Hid (q.size = s.size + 2 + marksTo s k) := by rw [hma]; exact hq
      clear hma hq
      generalize marksTo s k = m at *
      go_wp2_with (go_at_call 25; refine (k25 _ hst).mono ?_; rintro e w2 ⟨rfl, hst⟩)
      replace hst : St w w2.drew := hst.drew
      go_region_held3 (fun _ => True) (exact trivial)
        (first
        | (go_at_call 17; refine (k17 _ _ (by simp) hst).mono ?_; rintro e wk ⟨rfl, hst⟩))
      have hqz : (q.size : Int) = (s.size : Int) + 2 + (m : Int) := by have := HQ.out; omega
      go_wp2_with (go_at_call 11; refine (k11 _ _ (by simp) hst).mono ?_; rintro e wk ⟨rfl, hst⟩)
      go_ret
      exact ⟨rfl, hst.2⟩

set_option maxRecDepth 100000 in
set_option maxHeartbeats 4000000 in
theorem runes_long (s0 s F X q : ByteArray) (N A C L : Nat) (w : World) (hst : St w w) (hN : N < 256) (hL : L ≤ 300) (hFle : (F.size : Int) ≤ (s.size : Int)) (hs : s.size ≤ 200) (hs0 : 200 < s0.size) (hcut : s0.extract 0 200 = s) (hq : q.size = s.size + 2 + (bs s).count 39)
    (k21 : ∀ w1, St w w1 → Calls Tryd.prog 21 #[.string s, .int .i64 (N : Int)] w1 fun e w' => e = .returned (.string F) ∧ St w w')
    (k25 : ∀ w1, St w w1 → Calls Tryd.prog 25 #[.string s] w1 fun e w' => e = .returned (.tuple #[.string q, .int .i64 0]) ∧ St w w')
    (k11 : ∀ (x : ByteArray) (w1 : World), x = s ∨ x = ⟨#[97, 98]⟩ → St w w1 → Calls Tryd.prog 11 #[.string x] w1 fun e w' => e = .returned (.bool (rightR (bs x))) ∧ St w w')
    (e5 : rightR (bs s) = true) (e6 : rightR (bs ⟨#[97, 98]⟩) = true)
    (k17 : ∀ (x : ByteArray) (w1 : World), x = F ∨ x = X ∨ x = s → St w w1 → Calls Tryd.prog 17 #[.string x] w1 fun e w' => e = .returned (.int .i64 (lenR (bs x) : Nat)) ∧ St w w')
    (e1 : lenR (bs F) = A) (e2 : lenR (bs X) = C) (e3 : lenR (bs s) = L) (e4 : A + C = L) (he : s.extract 0 F.size = F) (hX : s.extract F.size s.size = X) :
    Calls Tryd.prog 8 #[.string s0, .int .u8 (N : Int)] w fun e w' => e = .returned (.bool true) ∧ Below w.heap.size w w' := by
  have hadd : (A : Int) + (C : Int) = (L : Int) := by omega
  have HE : Hid (A + C = L) := e4
  clear e4
  have hwr : IntKind.i64.wrap (L : Int) = (L : Int) := wrap_small _ (by omega) (by omega)
  have hlt : ¬ (s.size < F.size) := by omega
  have hdec : decide (s.size < F.size) = false := by simpa using hlt
  have hdz : decide ((s.size : Int) < (F.size : Int)) = false := by simp; omega
  have hlen : (200 : Int) < (s0.size : Int) := by omega
  go_enter Tryd.func8, Tryd.ntmps8
  go_wp2_with (go_at_call 21; refine (k21 _ hst).mono ?_; rintro e w1 ⟨rfl, hst⟩)
  go_loopw [6, 7] (fun m i wr => ∃ k : Nat, wr = w1 ∧ k ≤ s.size ∧ i = .int .i64 (k : Int) ∧ m = .int .i64 (marksTo s k : Int)) (fun _ i _ => s.size - (Lib.intOf i).toNat)
  case atStart => exact ⟨0, rfl, Nat.zero_le _, rfl, rfl⟩
  case round =>
    obtain ⟨k, rfl, hk, rfl, rfl⟩ := hrel
    by_cases hp : k < s.size
    · have hpz : (k : Int) < (s.size : Int) := by omega
      have hms := marks_step hp
      have hml := marks_le s k
      obtain ⟨b, hb⟩ : ∃ b, s[k]'hp = b := ⟨_, rfl⟩
      rw [hb] at hms
      by_cases h39 : b = 39
      · subst h39
        rw [if_pos rfl] at hms
        have HM : Hid (marksTo s (k + 1) = marksTo s k + 1) := hms
        clear hms
        generalize marksTo s k = m at *
        go_wp2
        go_roundw
        case rel => exact ⟨k + 1, by trivial, by omega, by simp, by rw [show marksTo s (k + 1) = m + 1 from HM]; simp⟩
        case measure =>
          simp [Lib.intOf]
          omega
      · rw [if_neg h39, Nat.add_zero] at hms
        have HM : Hid (marksTo s (k + 1) = marksTo s k) := hms
        clear hms
        have hne : ((b.toNat : Int) == 39) = false := by
          rw [beq_eq_false_iff_ne]
          intro e
          exact h39 (UInt8.toNat_inj.1 (by show b.toNat = 39; omega))
        generalize marksTo s k = m at *
        go_wp2
        go_roundw
        case rel => exact ⟨k + 1, by trivial, by omega, by simp, by rw [show marksTo s (k + 1) = m from HM]⟩
        case measure =>
          simp [Lib.intOf]
          omega
    · have hpz : ¬ ((k : Int) < (s.size : Int)) := by omega
      have hml := marks_le s k
      have hma := marks_all hp
      have HQ : Hid (q.size = s.size + 2 + marksTo s k) := by rw [hma]; exact hq
      clear hma hq
      generalize marksTo s k = m at *
      go_wp2_with (go_at_call 25; refine (k25 _ hst).mono ?_; rintro e w2 ⟨rfl, hst⟩)
      replace hst : St w w2.drew := hst.drew
      go_region_held3 (fun _ => True) (exact trivial)
        (first
        | (go_at_call 17; refine (k17 _ _ (by simp) hst).mono ?_; rintro e wk ⟨rfl, hst⟩))
      have hqz : (q.size : Int) = (s.size : Int) + 2 + (m : Int) := by have := HQ.out; omega
      go_wp2_with (go_at_call 11; refine (k11 _ _ (by simp) hst).mono ?_; rintro e wk ⟨rfl, hst⟩)
      go_ret
      exact ⟨rfl, hst.2⟩

set_option maxRecDepth 100000 in
set_option maxHeartbeats 4000000 in
theorem runes_short_wrong (s F X q : ByteArray) (N A C L : Nat) (w : World) (hst : St w w) (hN : N < 256) (hL : L ≤ 300) (hFle : (F.size : Int) ≤ (s.size : Int)) (hs : s.size ≤ 200)
    (k21 : ∀ w1, St w w1 → Calls Tryd.prog 21 #[.string s, .int .i64 (N : Int)] w1 fun e w' => e = .returned (.string F) ∧ St w w')
    (k25 : ∀ w1, St w w1 → Calls Tryd.prog 25 #[.string s] w1 fun e w' => e = .returned (.tuple #[.string q, .int .i64 3]) ∧ St w w')
    (k11 : ∀ (x : ByteArray) (w1 : World), x = s ∨ x = ⟨#[97, 98]⟩ → St w w1 → Calls Tryd.prog 11 #[.string x] w1 fun e w' => e = .returned (.bool (rightR (bs x))) ∧ St w w')
    (e5 : rightR (bs s) = false) (e6 : rightR (bs ⟨#[97, 98]⟩) = true)
    (k17 : ∀ (x : ByteArray) (w1 : World), x = F ∨ x = X ∨ x = s → St w w1 → Calls Tryd.prog 17 #[.string x] w1 fun e w' => e = .returned (.int .i64 (lenR (bs x) : Nat)) ∧ St w w')
    (e1 : lenR (bs F) = A) (e2 : lenR (bs X) = C) (e3 : lenR (bs s) = L) (e4 : A + C = L) (he : s.extract 0 F.size = F) (hX : s.extract F.size s.size = X) :
    Calls Tryd.prog 8 #[.string s, .int .u8 (N : Int)] w fun e w' => e = .returned (.bool true) ∧ Below w.heap.size w w' := by
  have hadd : (A : Int) + (C : Int) = (L : Int) := by omega
  have HE : Hid (A + C = L) := e4
  clear e4
  have hwr : IntKind.i64.wrap (L : Int) = (L : Int) := wrap_small _ (by omega) (by omega)
  have hlt : ¬ (s.size < F.size) := by omega
  have hdec : decide (s.size < F.size) = false := by simpa using hlt
  have hdz : decide ((s.size : Int) < (F.size : Int)) = false := by simp; omega
  have hlen : ¬ ((200 : Int) < (s.size : Int)) := by omega
  go_enter Tryd.func8, Tryd.ntmps8
  go_wp2_with (go_at_call 21; refine (k21 _ hst).mono ?_; rintro e w1 ⟨rfl, hst⟩)
  go_loopw [6, 7] (fun m i wr => ∃ k : Nat, wr = w1 ∧ k ≤ s.size ∧ i = .int .i64 (k : Int) ∧ m = .int .i64 (marksTo s k : Int)) (fun _ i _ => s.size - (Lib.intOf i).toNat)
  case atStart => exact ⟨0, rfl, Nat.zero_le _, rfl, rfl⟩
  case round =>
    obtain ⟨k, rfl, hk, rfl, rfl⟩ := hrel
    by_cases hp : k < s.size
    · have hpz : (k : Int) < (s.size : Int) := by omega
      have hms := marks_step hp
      have hml := marks_le s k
      obtain ⟨b, hb⟩ : ∃ b, s[k]'hp = b := ⟨_, rfl⟩
      rw [hb] at hms
      by_cases h39 : b = 39
      · subst h39
        rw [if_pos rfl] at hms
        have HM : Hid (marksTo s (k + 1) = marksTo s k + 1) := hms
        clear hms
        generalize marksTo s k = m at *
        go_wp2
        go_roundw
        case rel => exact ⟨k + 1, by trivial, by omega, by simp, by rw [show marksTo s (k + 1) = m + 1 from HM]; simp⟩
        case measure =>
          simp [Lib.intOf]
          omega
      · rw [if_neg h39, Nat.add_zero] at hms
        have HM : Hid (marksTo s (k + 1) = marksTo s k) := hms
        clear hms
        have hne : ((b.toNat : Int) == 39) = false := by
          rw [beq_eq_false_iff_ne]
          intro e
          exact h39 (UInt8.toNat_inj.1 (by show b.toNat = 39; omega))
        generalize marksTo s k = m at *
        go_wp2
        go_roundw
        case rel => exact ⟨k + 1, by trivial, by omega, by simp, by rw [show marksTo s (k + 1) = m from HM]⟩
        case measure =>
          simp [Lib.intOf]
          omega
    · have hpz : ¬ ((k : Int) < (s.size : Int)) := by omega
      generalize marksTo s k = m at *
      go_wp2_with (go_at_call 25; refine (k25 _ hst).mono ?_; rintro e w2 ⟨rfl, hst⟩)
      replace hst : St w w2.drew := hst.drew
      go_region_held3 (fun _ => True) (exact trivial)
        (first
        | (go_at_call 17; refine (k17 _ _ (by simp) hst).mono ?_; rintro e wk ⟨rfl, hst⟩))
      go_wp2_with (go_at_call 11; refine (k11 _ _ (by simp) hst).mono ?_; rintro e wk ⟨rfl, hst⟩)
      go_ret
      exact ⟨rfl, hst.2⟩

set_option maxRecDepth 100000 in
set_option maxHeartbeats 4000000 in
theorem runes_long_wrong (s0 s F X q : ByteArray) (N A C L : Nat) (w : World) (hst : St w w) (hN : N < 256) (hL : L ≤ 300) (hFle : (F.size : Int) ≤ (s.size : Int)) (hs : s.size ≤ 200) (hs0 : 200 < s0.size) (hcut : s0.extract 0 200 = s)
    (k21 : ∀ w1, St w w1 → Calls Tryd.prog 21 #[.string s, .int .i64 (N : Int)] w1 fun e w' => e = .returned (.string F) ∧ St w w')
    (k25 : ∀ w1, St w w1 → Calls Tryd.prog 25 #[.string s] w1 fun e w' => e = .returned (.tuple #[.string q, .int .i64 3]) ∧ St w w')
    (k11 : ∀ (x : ByteArray) (w1 : World), x = s ∨ x = ⟨#[97, 98]⟩ → St w w1 → Calls Tryd.prog 11 #[.string x] w1 fun e w' => e = .returned (.bool (rightR (bs x))) ∧ St w w')
    (e5 : rightR (bs s) = false) (e6 : rightR (bs ⟨#[97, 98]⟩) = true)
    (k17 : ∀ (x : ByteArray) (w1 : World), x = F ∨ x = X ∨ x = s → St w w1 → Calls Tryd.prog 17 #[.string x] w1 fun e w' => e = .returned (.int .i64 (lenR (bs x) : Nat)) ∧ St w w')
    (e1 : lenR (bs F) = A) (e2 : lenR (bs X) = C) (e3 : lenR (bs s) = L) (e4 : A + C = L) (he : s.extract 0 F.size = F) (hX : s.extract F.size s.size = X) :
    Calls Tryd.prog 8 #[.string s0, .int .u8 (N : Int)] w fun e w' => e = .returned (.bool true) ∧ Below w.heap.size w w' := by
  have hadd : (A : Int) + (C : Int) = (L : Int) := by omega
  have HE : Hid (A + C = L) := e4
  clear e4
  have hwr : IntKind.i64.wrap (L : Int) = (L : Int) := wrap_small _ (by omega) (by omega)
  have hlt : ¬ (s.size < F.size) := by omega
  have hdec : decide (s.size < F.size) = false := by simpa using hlt
  have hdz : decide ((s.size : Int) < (F.size : Int)) = false := by simp; omega
  have hlen : (200 : Int) < (s0.size : Int) := by omega
  go_enter Tryd.func8, Tryd.ntmps8
  go_wp2_with (go_at_call 21; refine (k21 _ hst).mono ?_; rintro e w1 ⟨rfl, hst⟩)
  go_loopw [6, 7] (fun m i wr => ∃ k : Nat, wr = w1 ∧ k ≤ s.size ∧ i = .int .i64 (k : Int) ∧ m = .int .i64 (marksTo s k : Int)) (fun _ i _ => s.size - (Lib.intOf i).toNat)
  case atStart => exact ⟨0, rfl, Nat.zero_le _, rfl, rfl⟩
  case round =>
    obtain ⟨k, rfl, hk, rfl, rfl⟩ := hrel
    by_cases hp : k < s.size
    · have hpz : (k : Int) < (s.size : Int) := by omega
      have hms := marks_step hp
      have hml := marks_le s k
      obtain ⟨b, hb⟩ : ∃ b, s[k]'hp = b := ⟨_, rfl⟩
      rw [hb] at hms
      by_cases h39 : b = 39
      · subst h39
        rw [if_pos rfl] at hms
        have HM : Hid (marksTo s (k + 1) = marksTo s k + 1) := hms
        clear hms
        generalize marksTo s k = m at *
        go_wp2
        go_roundw
        case rel => exact ⟨k + 1, by trivial, by omega, by simp, by rw [show marksTo s (k + 1) = m + 1 from HM]; simp⟩
        case measure =>
          simp [Lib.intOf]
          omega
      · rw [if_neg h39, Nat.add_zero] at hms
        have HM : Hid (marksTo s (k + 1) = marksTo s k) := hms
        clear hms
        have hne : ((b.toNat : Int) == 39) = false := by
          rw [beq_eq_false_iff_ne]
          intro e
          exact h39 (UInt8.toNat_inj.1 (by show b.toNat = 39; omega))
        generalize marksTo s k = m at *
        go_wp2
        go_roundw
        case rel => exact ⟨k + 1, by trivial, by omega, by simp, by rw [show marksTo s (k + 1) = m from HM]⟩
        case measure =>
          simp [Lib.intOf]
          omega
    · have hpz : ¬ ((k : Int) < (s.size : Int)) := by omega
      generalize marksTo s k = m at *
      go_wp2_with (go_at_call 25; refine (k25 _ hst).mono ?_; rintro e w2 ⟨rfl, hst⟩)
      replace hst : St w w2.drew := hst.drew
      go_region_held3 (fun _ => True) (exact trivial)
        (first
        | (go_at_call 17; refine (k17 _ _ (by simp) hst).mono ?_; rintro e wk ⟨rfl, hst⟩))
      go_wp2_with (go_at_call 11; refine (k11 _ _ (by simp) hst).mono ?_; rintro e wk ⟨rfl, hst⟩)
      go_ret
      exact ⟨rfl, hst.2⟩

theorem runes8 (s0 : ByteArray) (N : Nat) (hN : N < 256) (w : World) (hg : Good w) : Calls Tryd.prog 8 #[.string s0, .int .u8 (N : Int)] w fun e w' => e = .returned (.bool true) ∧ Below w.heap.size w w' := by
  obtain ⟨s, hs⟩ : ∃ s, str ((bs s0).take 200) = s := ⟨_, rfl⟩
  have hsz : s.size ≤ 200 := by rw [← hs, str_size, List.length_take]; omega
  obtain ⟨F, h1, h2, h3, h4, h5, h6, h7⟩ := front_parts N s (by omega)
  have k21 : ∀ w1, St w w1 → Calls Tryd.prog 21 #[.string s, .int .i64 (N : Int)] w1 fun e w' => e = .returned (.string F) ∧ St w w' := fun w1 h => by
    have := keep h (front21 s (N : Int) w1 (by omega))
    rw [Int.toNat_natCast] at this
    rw [← h1]; exact this
  have hXz : (s.extract F.size s.size).size ≤ 300 := by rw [ByteArray.size_extract]; omega
  have k17 : ∀ (x : ByteArray) (w1 : World), x = F ∨ x = s.extract F.size s.size ∨ x = s → St w w1 → Calls Tryd.prog 17 #[.string x] w1 fun e w' => e = .returned (.int .i64 (lenR (bs x) : Nat)) ∧ St w w' :=
    fun x w1 hx h => keep h (len17 x w1 (by rcases hx with rfl | rfl | rfl <;> omega))
  have k11 : ∀ (x : ByteArray) (w1 : World), x = s ∨ x = ⟨#[97, 98]⟩ → St w w1 → Calls Tryd.prog 11 #[.string x] w1 fun e w' => e = .returned (.bool (rightR (bs x))) ∧ St w w' :=
    fun x w1 hx h => keep h (right11 x w1 (by rcases hx with rfl | rfl <;> first | omega | decide) h.1)
  have hst := St.start hg
  have e6 : rightR (bs ⟨#[97, 98]⟩) = true := live_right
  cases hR : rightR (bs s)
  · have k25 : ∀ w1, St w w1 → Calls Tryd.prog 25 #[.string s] w1 fun e w' => e = .returned (.tuple #[.string ⟨#[]⟩, .int .i64 3]) ∧ St w w' := fun w1 h => by
      have := keep h (quote25 s w1 (by omega) h.1)
      rw [quoteR_no hR] at this
      exact this
    by_cases hlong : 200 < s0.size
    · exact runes_long_wrong s0 s F (s.extract F.size s.size) ⟨#[]⟩ N (lenR (bs F)) _ (lenR (bs s)) w hst hN h7 (by omega) hsz hlong (by rw [← hs, ext_take, List.drop_zero]) k21 k25 k11 hR e6 k17 rfl rfl rfl h6 h3 rfl
    · obtain rfl : s = s0 := by rw [← hs, List.take_of_length_le (by rw [bs_length]; omega), str_bs]
      exact runes_short_wrong s F (s.extract F.size s.size) ⟨#[]⟩ N (lenR (bs F)) _ (lenR (bs s)) w hst hN h7 (by omega) hsz k21 k25 k11 hR e6 k17 rfl rfl rfl h6 h3 rfl
  · have k25 : ∀ w1, St w w1 → Calls Tryd.prog 25 #[.string s] w1 fun e w' => e = .returned (.tuple #[.string (str (39 :: dbl (bs s) ++ [39])), .int .i64 0]) ∧ St w w' := fun w1 h => by
      have := keep h (quote25 s w1 (by omega) h.1)
      rw [quoteR_yes hR] at this
      exact this
    have hq : (str (39 :: dbl (bs s) ++ [39])).size = s.size + 2 + (bs s).count 39 := by rw [str_size, quote_len, bs_length]
    by_cases hlong : 200 < s0.size
    · exact runes_long s0 s F (s.extract F.size s.size) _ N (lenR (bs F)) _ (lenR (bs s)) w hst hN h7 (by omega) hsz hlong (by rw [← hs, ext_take, List.drop_zero]) hq k21 k25 k11 hR e6 k17 rfl rfl rfl h6 h3 rfl
    · obtain rfl : s = s0 := by rw [← hs, List.take_of_length_le (by rw [bs_length]; omega), str_bs]
      exact runes_short s F (s.extract F.size s.size) _ N (lenR (bs F)) _ (lenR (bs s)) w hst hN h7 (by omega) hsz hq k21 k25 k11 hR e6 k17 rfl rfl rfl h6 h3 rfl

end Go.Proofs.YtjppkhphdpbnfaaDoor
