/- short; the reference's Spaced and Signed; the law LexSigns. -/
import Derived.Test.YthebpkcnhghofaaDoorLl
namespace Go.Proofs.YthebpkcnhghofaaDoor
open Go.RowKit Go.Lib Go.Joins
set_option maxRecDepth 100000

theorem short9 (s : ByteArray) (w : World) : Calls Tryd.prog 9 #[.string s] w fun e w' => e = .returned (.string (str ((bs s).take 410))) ∧ w' = w := by
  by_cases h : 410 < s.size
  · have h1 : (410 : Int) < (s.size : Int) := by omega
    have h2 : (410 : Int) ≤ (s.size : Int) := by omega
    have HX : Hid (s.extract 0 410 = str ((bs s).take 410)) := by show _ = _; rw [← bs_take, str_bs]
    go_enter Tryd.func9, Tryd.ntmps9
    go_wp2
    go_ret
    exact ⟨by rw [← HX.out]; rfl, rfl⟩
  · have h1 : ¬ (410 : Int) < (s.size : Int) := by omega
    rw [List.take_of_length_le (by rw [bs_length]; omega), str_bs]
    go_enter Tryd.func9, Tryd.ntmps9
    go_wp2
    go_ret
    exact ⟨rfl, rfl⟩
theorem rspaced16 (r : Int) (w : World) : Calls Tryd.prog 16 #[.int .i32 r] w fun e w' => e = .returned (.bool (spcI r)) ∧ w' = w := by
  by_cases h1 : r = 32
  · rw [show spcI r = true by simp [spcI, h1]]
    go_enter Tryd.func16, Tryd.ntmps16
    go_wp2
    go_ret
    exact ⟨rfl, rfl⟩
  · by_cases h2 : r = 9
    · rw [show spcI r = true by simp [spcI, h2]]
      go_enter Tryd.func16, Tryd.ntmps16
      go_wp2
      go_ret
      exact ⟨rfl, rfl⟩
    · by_cases h3 : r = 10
      · rw [show spcI r = true by simp [spcI, h3]]
        go_enter Tryd.func16, Tryd.ntmps16
        go_wp2
        go_ret
        exact ⟨rfl, rfl⟩
      · by_cases h4 : r = 13
        · rw [show spcI r = true by simp [spcI, h4]]
          go_enter Tryd.func16, Tryd.ntmps16
          go_wp2
          go_ret
          exact ⟨rfl, rfl⟩
        · rw [show spcI r = false by simp [spcI, h1, h2, h3, h4]]
          go_enter Tryd.func16, Tryd.ntmps16
          go_wp2
          go_ret
          exact ⟨by simp [h1, h2, h3, h4], rfl⟩

set_option maxHeartbeats 8000000 in
theorem rsigned14 (s : ByteArray) (w : World) :
    Calls Tryd.prog 14 #[.string s] w fun e w' => e = .returned (.string (str (signB (bs s)))) ∧ Below w.heap.size w w' := by
  have c19 := fun p w1 => Tryd.strings_HasPrefix s p w1
  go_enter Tryd.func14, Tryd.ntmps14
  go_wp2
  go_loopw [4] (fun p w' => ∃ k : Nat, k ≤ 10 ∧ p = .int .i64 (k : Int) ∧ w' = w.alloc (.cells #[.string ⟨#[60, 61]⟩, .string ⟨#[62, 61]⟩, .string ⟨#[60, 62]⟩, .string ⟨#[40]⟩, .string ⟨#[41]⟩, .string ⟨#[44]⟩, .string ⟨#[61]⟩, .string ⟨#[60]⟩, .string ⟨#[62]⟩, .string ⟨#[42]⟩] 9) ∧ Hid (signB (bs s) = signIn (signsL.drop k) (bs s))) (fun p _ => 10 - (RowKit.intOf p).toNat)
  case atStart => exact ⟨0, by omega, rfl, rfl, rfl⟩
  case round =>
    obtain ⟨k, hk, rfl, rfl, hs⟩ := hrel
    by_cases hlt : k < 10
    · have hc : k = 0 ∨ k = 1 ∨ k = 2 ∨ k = 3 ∨ k = 4 ∨ k = 5 ∨ k = 6 ∨ k = 7 ∨ k = 8 ∨ k = 9 := by omega
      rcases hc with rfl | rfl | rfl | rfl | rfl | rfl | rfl | rfl | rfl | rfl
      · cases hx : hasPrefix (bs s) [60, 61]
        · have c : ∀ w1, Calls Tryd.prog 19 #[.string s, .string ⟨#[60, 61]⟩] w1 fun e w' => e = .returned (.bool false) ∧ w' = w1 := fun w1 => (c19 ⟨#[60, 61]⟩ w1).mono (fun e w' h => by rw [← hx]; exact h)
          have hs' : Hid (signB (bs s) = signIn (signsL.drop 1) (bs s)) := by show _ = _; rw [hs.out]; exact signIn_no hx
          clear hs c19
          go_wp2_with (go_at_call 19; refine (c _).mono ?_; rintro e w1 ⟨rfl, rfl⟩)
          go_roundw
          case rel => exact ⟨1, by omega, by simp, by first | rfl | trivial, hs'⟩
          case measure => simp [RowKit.intOf]
        · have c : ∀ w1, Calls Tryd.prog 19 #[.string s, .string ⟨#[60, 61]⟩] w1 fun e w' => e = .returned (.bool true) ∧ w' = w1 := fun w1 => (c19 ⟨#[60, 61]⟩ w1).mono (fun e w' h => by rw [← hx]; exact h)
          have HR : Hid (signB (bs s) = [60, 61]) := by show _ = _; rw [hs.out]; exact signIn_yes hx
          clear hs c19
          go_wp2_with (go_at_call 19; refine (c _).mono ?_; rintro e w1 ⟨rfl, rfl⟩)
          go_ret
          exact ⟨by rw [HR.out]; rfl, al _ _⟩
      · cases hx : hasPrefix (bs s) [62, 61]
        · have c : ∀ w1, Calls Tryd.prog 19 #[.string s, .string ⟨#[62, 61]⟩] w1 fun e w' => e = .returned (.bool false) ∧ w' = w1 := fun w1 => (c19 ⟨#[62, 61]⟩ w1).mono (fun e w' h => by rw [← hx]; exact h)
          have hs' : Hid (signB (bs s) = signIn (signsL.drop 2) (bs s)) := by show _ = _; rw [hs.out]; exact signIn_no hx
          clear hs c19
          go_wp2_with (go_at_call 19; refine (c _).mono ?_; rintro e w1 ⟨rfl, rfl⟩)
          go_roundw
          case rel => exact ⟨2, by omega, by simp, by first | rfl | trivial, hs'⟩
          case measure => simp [RowKit.intOf]
        · have c : ∀ w1, Calls Tryd.prog 19 #[.string s, .string ⟨#[62, 61]⟩] w1 fun e w' => e = .returned (.bool true) ∧ w' = w1 := fun w1 => (c19 ⟨#[62, 61]⟩ w1).mono (fun e w' h => by rw [← hx]; exact h)
          have HR : Hid (signB (bs s) = [62, 61]) := by show _ = _; rw [hs.out]; exact signIn_yes hx
          clear hs c19
          go_wp2_with (go_at_call 19; refine (c _).mono ?_; rintro e w1 ⟨rfl, rfl⟩)
          go_ret
          exact ⟨by rw [HR.out]; rfl, al _ _⟩
      · cases hx : hasPrefix (bs s) [60, 62]
        · have c : ∀ w1, Calls Tryd.prog 19 #[.string s, .string ⟨#[60, 62]⟩] w1 fun e w' => e = .returned (.bool false) ∧ w' = w1 := fun w1 => (c19 ⟨#[60, 62]⟩ w1).mono (fun e w' h => by rw [← hx]; exact h)
          have hs' : Hid (signB (bs s) = signIn (signsL.drop 3) (bs s)) := by show _ = _; rw [hs.out]; exact signIn_no hx
          clear hs c19
          go_wp2_with (go_at_call 19; refine (c _).mono ?_; rintro e w1 ⟨rfl, rfl⟩)
          go_roundw
          case rel => exact ⟨3, by omega, by simp, by first | rfl | trivial, hs'⟩
          case measure => simp [RowKit.intOf]
        · have c : ∀ w1, Calls Tryd.prog 19 #[.string s, .string ⟨#[60, 62]⟩] w1 fun e w' => e = .returned (.bool true) ∧ w' = w1 := fun w1 => (c19 ⟨#[60, 62]⟩ w1).mono (fun e w' h => by rw [← hx]; exact h)
          have HR : Hid (signB (bs s) = [60, 62]) := by show _ = _; rw [hs.out]; exact signIn_yes hx
          clear hs c19
          go_wp2_with (go_at_call 19; refine (c _).mono ?_; rintro e w1 ⟨rfl, rfl⟩)
          go_ret
          exact ⟨by rw [HR.out]; rfl, al _ _⟩
      · cases hx : hasPrefix (bs s) [40]
        · have c : ∀ w1, Calls Tryd.prog 19 #[.string s, .string ⟨#[40]⟩] w1 fun e w' => e = .returned (.bool false) ∧ w' = w1 := fun w1 => (c19 ⟨#[40]⟩ w1).mono (fun e w' h => by rw [← hx]; exact h)
          have hs' : Hid (signB (bs s) = signIn (signsL.drop 4) (bs s)) := by show _ = _; rw [hs.out]; exact signIn_no hx
          clear hs c19
          go_wp2_with (go_at_call 19; refine (c _).mono ?_; rintro e w1 ⟨rfl, rfl⟩)
          go_roundw
          case rel => exact ⟨4, by omega, by simp, by first | rfl | trivial, hs'⟩
          case measure => simp [RowKit.intOf]
        · have c : ∀ w1, Calls Tryd.prog 19 #[.string s, .string ⟨#[40]⟩] w1 fun e w' => e = .returned (.bool true) ∧ w' = w1 := fun w1 => (c19 ⟨#[40]⟩ w1).mono (fun e w' h => by rw [← hx]; exact h)
          have HR : Hid (signB (bs s) = [40]) := by show _ = _; rw [hs.out]; exact signIn_yes hx
          clear hs c19
          go_wp2_with (go_at_call 19; refine (c _).mono ?_; rintro e w1 ⟨rfl, rfl⟩)
          go_ret
          exact ⟨by rw [HR.out]; rfl, al _ _⟩
      · cases hx : hasPrefix (bs s) [41]
        · have c : ∀ w1, Calls Tryd.prog 19 #[.string s, .string ⟨#[41]⟩] w1 fun e w' => e = .returned (.bool false) ∧ w' = w1 := fun w1 => (c19 ⟨#[41]⟩ w1).mono (fun e w' h => by rw [← hx]; exact h)
          have hs' : Hid (signB (bs s) = signIn (signsL.drop 5) (bs s)) := by show _ = _; rw [hs.out]; exact signIn_no hx
          clear hs c19
          go_wp2_with (go_at_call 19; refine (c _).mono ?_; rintro e w1 ⟨rfl, rfl⟩)
          go_roundw
          case rel => exact ⟨5, by omega, by simp, by first | rfl | trivial, hs'⟩
          case measure => simp [RowKit.intOf]
        · have c : ∀ w1, Calls Tryd.prog 19 #[.string s, .string ⟨#[41]⟩] w1 fun e w' => e = .returned (.bool true) ∧ w' = w1 := fun w1 => (c19 ⟨#[41]⟩ w1).mono (fun e w' h => by rw [← hx]; exact h)
          have HR : Hid (signB (bs s) = [41]) := by show _ = _; rw [hs.out]; exact signIn_yes hx
          clear hs c19
          go_wp2_with (go_at_call 19; refine (c _).mono ?_; rintro e w1 ⟨rfl, rfl⟩)
          go_ret
          exact ⟨by rw [HR.out]; rfl, al _ _⟩
      · cases hx : hasPrefix (bs s) [44]
        · have c : ∀ w1, Calls Tryd.prog 19 #[.string s, .string ⟨#[44]⟩] w1 fun e w' => e = .returned (.bool false) ∧ w' = w1 := fun w1 => (c19 ⟨#[44]⟩ w1).mono (fun e w' h => by rw [← hx]; exact h)
          have hs' : Hid (signB (bs s) = signIn (signsL.drop 6) (bs s)) := by show _ = _; rw [hs.out]; exact signIn_no hx
          clear hs c19
          go_wp2_with (go_at_call 19; refine (c _).mono ?_; rintro e w1 ⟨rfl, rfl⟩)
          go_roundw
          case rel => exact ⟨6, by omega, by simp, by first | rfl | trivial, hs'⟩
          case measure => simp [RowKit.intOf]
        · have c : ∀ w1, Calls Tryd.prog 19 #[.string s, .string ⟨#[44]⟩] w1 fun e w' => e = .returned (.bool true) ∧ w' = w1 := fun w1 => (c19 ⟨#[44]⟩ w1).mono (fun e w' h => by rw [← hx]; exact h)
          have HR : Hid (signB (bs s) = [44]) := by show _ = _; rw [hs.out]; exact signIn_yes hx
          clear hs c19
          go_wp2_with (go_at_call 19; refine (c _).mono ?_; rintro e w1 ⟨rfl, rfl⟩)
          go_ret
          exact ⟨by rw [HR.out]; rfl, al _ _⟩
      · cases hx : hasPrefix (bs s) [61]
        · have c : ∀ w1, Calls Tryd.prog 19 #[.string s, .string ⟨#[61]⟩] w1 fun e w' => e = .returned (.bool false) ∧ w' = w1 := fun w1 => (c19 ⟨#[61]⟩ w1).mono (fun e w' h => by rw [← hx]; exact h)
          have hs' : Hid (signB (bs s) = signIn (signsL.drop 7) (bs s)) := by show _ = _; rw [hs.out]; exact signIn_no hx
          clear hs c19
          go_wp2_with (go_at_call 19; refine (c _).mono ?_; rintro e w1 ⟨rfl, rfl⟩)
          go_roundw
          case rel => exact ⟨7, by omega, by simp, by first | rfl | trivial, hs'⟩
          case measure => simp [RowKit.intOf]
        · have c : ∀ w1, Calls Tryd.prog 19 #[.string s, .string ⟨#[61]⟩] w1 fun e w' => e = .returned (.bool true) ∧ w' = w1 := fun w1 => (c19 ⟨#[61]⟩ w1).mono (fun e w' h => by rw [← hx]; exact h)
          have HR : Hid (signB (bs s) = [61]) := by show _ = _; rw [hs.out]; exact signIn_yes hx
          clear hs c19
          go_wp2_with (go_at_call 19; refine (c _).mono ?_; rintro e w1 ⟨rfl, rfl⟩)
          go_ret
          exact ⟨by rw [HR.out]; rfl, al _ _⟩
      · cases hx : hasPrefix (bs s) [60]
        · have c : ∀ w1, Calls Tryd.prog 19 #[.string s, .string ⟨#[60]⟩] w1 fun e w' => e = .returned (.bool false) ∧ w' = w1 := fun w1 => (c19 ⟨#[60]⟩ w1).mono (fun e w' h => by rw [← hx]; exact h)
          have hs' : Hid (signB (bs s) = signIn (signsL.drop 8) (bs s)) := by show _ = _; rw [hs.out]; exact signIn_no hx
          clear hs c19
          go_wp2_with (go_at_call 19; refine (c _).mono ?_; rintro e w1 ⟨rfl, rfl⟩)
          go_roundw
          case rel => exact ⟨8, by omega, by simp, by first | rfl | trivial, hs'⟩
          case measure => simp [RowKit.intOf]
        · have c : ∀ w1, Calls Tryd.prog 19 #[.string s, .string ⟨#[60]⟩] w1 fun e w' => e = .returned (.bool true) ∧ w' = w1 := fun w1 => (c19 ⟨#[60]⟩ w1).mono (fun e w' h => by rw [← hx]; exact h)
          have HR : Hid (signB (bs s) = [60]) := by show _ = _; rw [hs.out]; exact signIn_yes hx
          clear hs c19
          go_wp2_with (go_at_call 19; refine (c _).mono ?_; rintro e w1 ⟨rfl, rfl⟩)
          go_ret
          exact ⟨by rw [HR.out]; rfl, al _ _⟩
      · cases hx : hasPrefix (bs s) [62]
        · have c : ∀ w1, Calls Tryd.prog 19 #[.string s, .string ⟨#[62]⟩] w1 fun e w' => e = .returned (.bool false) ∧ w' = w1 := fun w1 => (c19 ⟨#[62]⟩ w1).mono (fun e w' h => by rw [← hx]; exact h)
          have hs' : Hid (signB (bs s) = signIn (signsL.drop 9) (bs s)) := by show _ = _; rw [hs.out]; exact signIn_no hx
          clear hs c19
          go_wp2_with (go_at_call 19; refine (c _).mono ?_; rintro e w1 ⟨rfl, rfl⟩)
          go_roundw
          case rel => exact ⟨9, by omega, by simp, by first | rfl | trivial, hs'⟩
          case measure => simp [RowKit.intOf]
        · have c : ∀ w1, Calls Tryd.prog 19 #[.string s, .string ⟨#[62]⟩] w1 fun e w' => e = .returned (.bool true) ∧ w' = w1 := fun w1 => (c19 ⟨#[62]⟩ w1).mono (fun e w' h => by rw [← hx]; exact h)
          have HR : Hid (signB (bs s) = [62]) := by show _ = _; rw [hs.out]; exact signIn_yes hx
          clear hs c19
          go_wp2_with (go_at_call 19; refine (c _).mono ?_; rintro e w1 ⟨rfl, rfl⟩)
          go_ret
          exact ⟨by rw [HR.out]; rfl, al _ _⟩
      · cases hx : hasPrefix (bs s) [42]
        · have c : ∀ w1, Calls Tryd.prog 19 #[.string s, .string ⟨#[42]⟩] w1 fun e w' => e = .returned (.bool false) ∧ w' = w1 := fun w1 => (c19 ⟨#[42]⟩ w1).mono (fun e w' h => by rw [← hx]; exact h)
          have hs' : Hid (signB (bs s) = signIn (signsL.drop 10) (bs s)) := by show _ = _; rw [hs.out]; exact signIn_no hx
          clear hs c19
          go_wp2_with (go_at_call 19; refine (c _).mono ?_; rintro e w1 ⟨rfl, rfl⟩)
          go_roundw
          case rel => exact ⟨10, by omega, by simp, by first | rfl | trivial, hs'⟩
          case measure => simp [RowKit.intOf]
        · have c : ∀ w1, Calls Tryd.prog 19 #[.string s, .string ⟨#[42]⟩] w1 fun e w' => e = .returned (.bool true) ∧ w' = w1 := fun w1 => (c19 ⟨#[42]⟩ w1).mono (fun e w' h => by rw [← hx]; exact h)
          have HR : Hid (signB (bs s) = [42]) := by show _ = _; rw [hs.out]; exact signIn_yes hx
          clear hs c19
          go_wp2_with (go_at_call 19; refine (c _).mono ?_; rintro e w1 ⟨rfl, rfl⟩)
          go_ret
          exact ⟨by rw [HR.out]; rfl, al _ _⟩
    · have hlt1 : ¬ (k : Int) < 10 := by omega
      obtain rfl : k = 10 := by omega
      have HR : Hid (signB (bs s) = []) := by show _ = _; rw [hs.out]; rfl
      clear hs c19
      go_wp2
      go_ret
      exact ⟨by rw [HR.out]; rfl, al _ _⟩

set_option maxHeartbeats 2000000 in
theorem signs4 (s : ByteArray) (r : Int) (w : World) (hg : Good w) :
    Calls Tryd.prog 4 #[.string s, .int .i32 r] w fun e w' => e = .returned (.bool true) ∧ Below w.heap.size w w' := by
  have c11 := live11 w hg
  have c9 := fun w1 => short9 s w1
  have HG : Hid (∀ w1, Below w.heap.size w w1 → Good w1) := fun w1 h => hg.below h
  have c15 := fun w1 => spaced15 r w1
  have c16 := fun w1 => rspaced16 r w1
  have c13 := fun w1 h => signed13 (str ((bs s).take 410)) w1 h
  have c14 := fun w1 => rsigned14 (str ((bs s).take 410)) w1
  rw [bs_str] at c13 c14
  generalize str (signB ((bs s).take 410)) = x at *
  generalize str ((bs s).take 410) = t at *
  generalize spcI r = y at *
  clear hg
  go_enter Tryd.func4, Tryd.ntmps4
  go_wp2_with (first
    | (go_at_call 11; refine c11.mono ?_; rintro e w1 ⟨rfl, hb1⟩)
    | (go_at_call 9; refine (c9 _).mono ?_; rintro e w2 ⟨rfl, rfl⟩)
    | (go_at_call 13; refine (c13 _ (HG.out _ hb1)).mono ?_; rintro e w3 ⟨rfl, rfl⟩)
    | (go_at_call 14; refine (c14 _).mono ?_; rintro e w4 ⟨rfl, hb4⟩)
    | (go_at_call 15; refine (c15 _).mono ?_; rintro e w5 ⟨rfl, rfl⟩)
    | (go_at_call 16; refine (c16 _).mono ?_; rintro e w5 ⟨rfl, rfl⟩))
  go_ret
  exact ⟨rfl, bmore hb1 hb4⟩
end Go.Proofs.YthebpkcnhghofaaDoor
