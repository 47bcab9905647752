/- short; the reference's Spaced and Signed; the law LexSigns. -/
import Derived.Test.YtipnaphikbjhbaaDoorLl
namespace Go.Proofs.YtipnaphikbjhbaaDoor
open Go.RowKit Go.Lib Go.Joins
set_option maxRecDepth 100000

theorem rspaced16 (r : Int) (w : World) : Calls Tryd.prog 56 #[.int .i32 r] w fun e w' => e = .returned (.bool (spcI r)) ∧ w' = w := by
  by_cases h1 : r = 32
  · rw [show spcI r = true by simp [spcI, h1]]
    go_enter Tryd.func56, Tryd.ntmps56
    go_wp2
    go_ret
    exact ⟨rfl, rfl⟩
  · by_cases h2 : r = 9
    · rw [show spcI r = true by simp [spcI, h2]]
      go_enter Tryd.func56, Tryd.ntmps56
      go_wp2
      go_ret
      exact ⟨rfl, rfl⟩
    · by_cases h3 : r = 10
      · rw [show spcI r = true by simp [spcI, h3]]
        go_enter Tryd.func56, Tryd.ntmps56
        go_wp2
        go_ret
        exact ⟨rfl, rfl⟩
      · by_cases h4 : r = 13
        · rw [show spcI r = true by simp [spcI, h4]]
          go_enter Tryd.func56, Tryd.ntmps56
          go_wp2
          go_ret
          exact ⟨rfl, rfl⟩
        · rw [show spcI r = false by simp [spcI, h1, h2, h3, h4]]
          go_enter Tryd.func56, Tryd.ntmps56
          go_wp2
          go_ret
          exact ⟨by simp [h1, h2, h3, h4], rfl⟩

set_option maxHeartbeats 8000000 in
theorem rsigned14 (s : ByteArray) (w : World) :
    Calls Tryd.prog 66 #[.string s] w fun e w' => e = .returned (.string (str (signB (bs s)))) ∧ Below w.heap.size w w' := by
  have c19 := fun p w1 => Tryd.strings_HasPrefix s p w1
  go_enter Tryd.func66, Tryd.ntmps66
  go_wp2
  go_loopw [4] (fun p w' => ∃ k : Nat, k ≤ 10 ∧ p = .int .i64 (k : Int) ∧ w' = w.alloc (.cells #[.string ⟨#[60, 61]⟩, .string ⟨#[62, 61]⟩, .string ⟨#[60, 62]⟩, .string ⟨#[40]⟩, .string ⟨#[41]⟩, .string ⟨#[44]⟩, .string ⟨#[61]⟩, .string ⟨#[60]⟩, .string ⟨#[62]⟩, .string ⟨#[42]⟩] 9) ∧ Hid (signB (bs s) = signIn (signsL.drop k) (bs s))) (fun p _ => 10 - (RowKit.intOf p).toNat)
  case atStart => exact ⟨0, by omega, rfl, rfl, rfl⟩
  case round =>
    obtain ⟨k, hk, rfl, rfl, hs⟩ := hrel
    by_cases hlt : k < 10
    · have hc : k = 0 ∨ k = 1 ∨ k = 2 ∨ k = 3 ∨ k = 4 ∨ k = 5 ∨ k = 6 ∨ k = 7 ∨ k = 8 ∨ k = 9 := by omega
      rcases hc with rfl | rfl | rfl | rfl | rfl | rfl | rfl | rfl | rfl | rfl
      · cases hx : hasPrefix (bs s) [60, 61]
        · have c : ∀ w1, Calls Tryd.prog 72 #[.string s, .string ⟨#[60, 61]⟩] w1 fun e w' => e = .returned (.bool false) ∧ w' = w1 := fun w1 => (c19 ⟨#[60, 61]⟩ w1).mono (fun e w' h => by rw [← hx]; exact h)
          have hs' : Hid (signB (bs s) = signIn (signsL.drop 1) (bs s)) := by show _ = _; rw [hs.out]; exact signIn_no hx
          clear hs c19
          go_wp2_with (go_at_call 72; refine (c _).mono ?_; rintro e w1 ⟨rfl, rfl⟩)
          go_roundw
          case rel => exact ⟨1, by omega, by simp, by first | rfl | trivial, hs'⟩
          case measure => simp [RowKit.intOf]
        · have c : ∀ w1, Calls Tryd.prog 72 #[.string s, .string ⟨#[60, 61]⟩] w1 fun e w' => e = .returned (.bool true) ∧ w' = w1 := fun w1 => (c19 ⟨#[60, 61]⟩ w1).mono (fun e w' h => by rw [← hx]; exact h)
          have HR : Hid (signB (bs s) = [60, 61]) := by show _ = _; rw [hs.out]; exact signIn_yes hx
          clear hs c19
          go_wp2_with (go_at_call 72; refine (c _).mono ?_; rintro e w1 ⟨rfl, rfl⟩)
          go_ret
          exact ⟨by rw [HR.out]; rfl, al _ _⟩
      · cases hx : hasPrefix (bs s) [62, 61]
        · have c : ∀ w1, Calls Tryd.prog 72 #[.string s, .string ⟨#[62, 61]⟩] w1 fun e w' => e = .returned (.bool false) ∧ w' = w1 := fun w1 => (c19 ⟨#[62, 61]⟩ w1).mono (fun e w' h => by rw [← hx]; exact h)
          have hs' : Hid (signB (bs s) = signIn (signsL.drop 2) (bs s)) := by show _ = _; rw [hs.out]; exact signIn_no hx
          clear hs c19
          go_wp2_with (go_at_call 72; refine (c _).mono ?_; rintro e w1 ⟨rfl, rfl⟩)
          go_roundw
          case rel => exact ⟨2, by omega, by simp, by first | rfl | trivial, hs'⟩
          case measure => simp [RowKit.intOf]
        · have c : ∀ w1, Calls Tryd.prog 72 #[.string s, .string ⟨#[62, 61]⟩] w1 fun e w' => e = .returned (.bool true) ∧ w' = w1 := fun w1 => (c19 ⟨#[62, 61]⟩ w1).mono (fun e w' h => by rw [← hx]; exact h)
          have HR : Hid (signB (bs s) = [62, 61]) := by show _ = _; rw [hs.out]; exact signIn_yes hx
          clear hs c19
          go_wp2_with (go_at_call 72; refine (c _).mono ?_; rintro e w1 ⟨rfl, rfl⟩)
          go_ret
          exact ⟨by rw [HR.out]; rfl, al _ _⟩
      · cases hx : hasPrefix (bs s) [60, 62]
        · have c : ∀ w1, Calls Tryd.prog 72 #[.string s, .string ⟨#[60, 62]⟩] w1 fun e w' => e = .returned (.bool false) ∧ w' = w1 := fun w1 => (c19 ⟨#[60, 62]⟩ w1).mono (fun e w' h => by rw [← hx]; exact h)
          have hs' : Hid (signB (bs s) = signIn (signsL.drop 3) (bs s)) := by show _ = _; rw [hs.out]; exact signIn_no hx
          clear hs c19
          go_wp2_with (go_at_call 72; refine (c _).mono ?_; rintro e w1 ⟨rfl, rfl⟩)
          go_roundw
          case rel => exact ⟨3, by omega, by simp, by first | rfl | trivial, hs'⟩
          case measure => simp [RowKit.intOf]
        · have c : ∀ w1, Calls Tryd.prog 72 #[.string s, .string ⟨#[60, 62]⟩] w1 fun e w' => e = .returned (.bool true) ∧ w' = w1 := fun w1 => (c19 ⟨#[60, 62]⟩ w1).mono (fun e w' h => by rw [← hx]; exact h)
          have HR : Hid (signB (bs s) = [60, 62]) := by show _ = _; rw [hs.out]; exact signIn_yes hx
          clear hs c19
          go_wp2_with (go_at_call 72; refine (c _).mono ?_; rintro e w1 ⟨rfl, rfl⟩)
          go_ret
          exact ⟨by rw [HR.out]; rfl, al _ _⟩
      · cases hx : hasPrefix (bs s) [40]
        · have c : ∀ w1, Calls Tryd.prog 72 #[.string s, .string ⟨#[40]⟩] w1 fun e w' => e = .returned (.bool false) ∧ w' = w1 := fun w1 => (c19 ⟨#[40]⟩ w1).mono (fun e w' h => by rw [← hx]; exact h)
          have hs' : Hid (signB (bs s) = signIn (signsL.drop 4) (bs s)) := by show _ = _; rw [hs.out]; exact signIn_no hx
          clear hs c19
          go_wp2_with (go_at_call 72; refine (c _).mono ?_; rintro e w1 ⟨rfl, rfl⟩)
          go_roundw
          case rel => exact ⟨4, by omega, by simp, by first | rfl | trivial, hs'⟩
          case measure => simp [RowKit.intOf]
        · have c : ∀ w1, Calls Tryd.prog 72 #[.string s, .string ⟨#[40]⟩] w1 fun e w' => e = .returned (.bool true) ∧ w' = w1 := fun w1 => (c19 ⟨#[40]⟩ w1).mono (fun e w' h => by rw [← hx]; exact h)
          have HR : Hid (signB (bs s) = [40]) := by show _ = _; rw [hs.out]; exact signIn_yes hx
          clear hs c19
          go_wp2_with (go_at_call 72; refine (c _).mono ?_; rintro e w1 ⟨rfl, rfl⟩)
          go_ret
          exact ⟨by rw [HR.out]; rfl, al _ _⟩
      · cases hx : hasPrefix (bs s) [41]
        · have c : ∀ w1, Calls Tryd.prog 72 #[.string s, .string ⟨#[41]⟩] w1 fun e w' => e = .returned (.bool false) ∧ w' = w1 := fun w1 => (c19 ⟨#[41]⟩ w1).mono (fun e w' h => by rw [← hx]; exact h)
          have hs' : Hid (signB (bs s) = signIn (signsL.drop 5) (bs s)) := by show _ = _; rw [hs.out]; exact signIn_no hx
          clear hs c19
          go_wp2_with (go_at_call 72; refine (c _).mono ?_; rintro e w1 ⟨rfl, rfl⟩)
          go_roundw
          case rel => exact ⟨5, by omega, by simp, by first | rfl | trivial, hs'⟩
          case measure => simp [RowKit.intOf]
        · have c : ∀ w1, Calls Tryd.prog 72 #[.string s, .string ⟨#[41]⟩] w1 fun e w' => e = .returned (.bool true) ∧ w' = w1 := fun w1 => (c19 ⟨#[41]⟩ w1).mono (fun e w' h => by rw [← hx]; exact h)
          have HR : Hid (signB (bs s) = [41]) := by show _ = _; rw [hs.out]; exact signIn_yes hx
          clear hs c19
          go_wp2_with (go_at_call 72; refine (c _).mono ?_; rintro e w1 ⟨rfl, rfl⟩)
          go_ret
          exact ⟨by rw [HR.out]; rfl, al _ _⟩
      · cases hx : hasPrefix (bs s) [44]
        · have c : ∀ w1, Calls Tryd.prog 72 #[.string s, .string ⟨#[44]⟩] w1 fun e w' => e = .returned (.bool false) ∧ w' = w1 := fun w1 => (c19 ⟨#[44]⟩ w1).mono (fun e w' h => by rw [← hx]; exact h)
          have hs' : Hid (signB (bs s) = signIn (signsL.drop 6) (bs s)) := by show _ = _; rw [hs.out]; exact signIn_no hx
          clear hs c19
          go_wp2_with (go_at_call 72; refine (c _).mono ?_; rintro e w1 ⟨rfl, rfl⟩)
          go_roundw
          case rel => exact ⟨6, by omega, by simp, by first | rfl | trivial, hs'⟩
          case measure => simp [RowKit.intOf]
        · have c : ∀ w1, Calls Tryd.prog 72 #[.string s, .string ⟨#[44]⟩] w1 fun e w' => e = .returned (.bool true) ∧ w' = w1 := fun w1 => (c19 ⟨#[44]⟩ w1).mono (fun e w' h => by rw [← hx]; exact h)
          have HR : Hid (signB (bs s) = [44]) := by show _ = _; rw [hs.out]; exact signIn_yes hx
          clear hs c19
          go_wp2_with (go_at_call 72; refine (c _).mono ?_; rintro e w1 ⟨rfl, rfl⟩)
          go_ret
          exact ⟨by rw [HR.out]; rfl, al _ _⟩
      · cases hx : hasPrefix (bs s) [61]
        · have c : ∀ w1, Calls Tryd.prog 72 #[.string s, .string ⟨#[61]⟩] w1 fun e w' => e = .returned (.bool false) ∧ w' = w1 := fun w1 => (c19 ⟨#[61]⟩ w1).mono (fun e w' h => by rw [← hx]; exact h)
          have hs' : Hid (signB (bs s) = signIn (signsL.drop 7) (bs s)) := by show _ = _; rw [hs.out]; exact signIn_no hx
          clear hs c19
          go_wp2_with (go_at_call 72; refine (c _).mono ?_; rintro e w1 ⟨rfl, rfl⟩)
          go_roundw
          case rel => exact ⟨7, by omega, by simp, by first | rfl | trivial, hs'⟩
          case measure => simp [RowKit.intOf]
        · have c : ∀ w1, Calls Tryd.prog 72 #[.string s, .string ⟨#[61]⟩] w1 fun e w' => e = .returned (.bool true) ∧ w' = w1 := fun w1 => (c19 ⟨#[61]⟩ w1).mono (fun e w' h => by rw [← hx]; exact h)
          have HR : Hid (signB (bs s) = [61]) := by show _ = _; rw [hs.out]; exact signIn_yes hx
          clear hs c19
          go_wp2_with (go_at_call 72; refine (c _).mono ?_; rintro e w1 ⟨rfl, rfl⟩)
          go_ret
          exact ⟨by rw [HR.out]; rfl, al _ _⟩
      · cases hx : hasPrefix (bs s) [60]
        · have c : ∀ w1, Calls Tryd.prog 72 #[.string s, .string ⟨#[60]⟩] w1 fun e w' => e = .returned (.bool false) ∧ w' = w1 := fun w1 => (c19 ⟨#[60]⟩ w1).mono (fun e w' h => by rw [← hx]; exact h)
          have hs' : Hid (signB (bs s) = signIn (signsL.drop 8) (bs s)) := by show _ = _; rw [hs.out]; exact signIn_no hx
          clear hs c19
          go_wp2_with (go_at_call 72; refine (c _).mono ?_; rintro e w1 ⟨rfl, rfl⟩)
          go_roundw
          case rel => exact ⟨8, by omega, by simp, by first | rfl | trivial, hs'⟩
          case measure => simp [RowKit.intOf]
        · have c : ∀ w1, Calls Tryd.prog 72 #[.string s, .string ⟨#[60]⟩] w1 fun e w' => e = .returned (.bool true) ∧ w' = w1 := fun w1 => (c19 ⟨#[60]⟩ w1).mono (fun e w' h => by rw [← hx]; exact h)
          have HR : Hid (signB (bs s) = [60]) := by show _ = _; rw [hs.out]; exact signIn_yes hx
          clear hs c19
          go_wp2_with (go_at_call 72; refine (c _).mono ?_; rintro e w1 ⟨rfl, rfl⟩)
          go_ret
          exact ⟨by rw [HR.out]; rfl, al _ _⟩
      · cases hx : hasPrefix (bs s) [62]
        · have c : ∀ w1, Calls Tryd.prog 72 #[.string s, .string ⟨#[62]⟩] w1 fun e w' => e = .returned (.bool false) ∧ w' = w1 := fun w1 => (c19 ⟨#[62]⟩ w1).mono (fun e w' h => by rw [← hx]; exact h)
          have hs' : Hid (signB (bs s) = signIn (signsL.drop 9) (bs s)) := by show _ = _; rw [hs.out]; exact signIn_no hx
          clear hs c19
          go_wp2_with (go_at_call 72; refine (c _).mono ?_; rintro e w1 ⟨rfl, rfl⟩)
          go_roundw
          case rel => exact ⟨9, by omega, by simp, by first | rfl | trivial, hs'⟩
          case measure => simp [RowKit.intOf]
        · have c : ∀ w1, Calls Tryd.prog 72 #[.string s, .string ⟨#[62]⟩] w1 fun e w' => e = .returned (.bool true) ∧ w' = w1 := fun w1 => (c19 ⟨#[62]⟩ w1).mono (fun e w' h => by rw [← hx]; exact h)
          have HR : Hid (signB (bs s) = [62]) := by show _ = _; rw [hs.out]; exact signIn_yes hx
          clear hs c19
          go_wp2_with (go_at_call 72; refine (c _).mono ?_; rintro e w1 ⟨rfl, rfl⟩)
          go_ret
          exact ⟨by rw [HR.out]; rfl, al _ _⟩
      · cases hx : hasPrefix (bs s) [42]
        · have c : ∀ w1, Calls Tryd.prog 72 #[.string s, .string ⟨#[42]⟩] w1 fun e w' => e = .returned (.bool false) ∧ w' = w1 := fun w1 => (c19 ⟨#[42]⟩ w1).mono (fun e w' h => by rw [← hx]; exact h)
          have hs' : Hid (signB (bs s) = signIn (signsL.drop 10) (bs s)) := by show _ = _; rw [hs.out]; exact signIn_no hx
          clear hs c19
          go_wp2_with (go_at_call 72; refine (c _).mono ?_; rintro e w1 ⟨rfl, rfl⟩)
          go_roundw
          case rel => exact ⟨10, by omega, by simp, by first | rfl | trivial, hs'⟩
          case measure => simp [RowKit.intOf]
        · have c : ∀ w1, Calls Tryd.prog 72 #[.string s, .string ⟨#[42]⟩] w1 fun e w' => e = .returned (.bool true) ∧ w' = w1 := fun w1 => (c19 ⟨#[42]⟩ w1).mono (fun e w' h => by rw [← hx]; exact h)
          have HR : Hid (signB (bs s) = [42]) := by show _ = _; rw [hs.out]; exact signIn_yes hx
          clear hs c19
          go_wp2_with (go_at_call 72; refine (c _).mono ?_; rintro e w1 ⟨rfl, rfl⟩)
          go_ret
          exact ⟨by rw [HR.out]; rfl, al _ _⟩
    · have hlt1 : ¬ (k : Int) < 10 := by omega
      obtain rfl : k = 10 := by omega
      have HR : Hid (signB (bs s) = []) := by show _ = _; rw [hs.out]; rfl
      clear hs c19
      go_wp2
      go_ret
      exact ⟨by rw [HR.out]; rfl, al _ _⟩

end Go.Proofs.YtipnaphikbjhbaaDoor
