/- lex.Signed. -/
import Derived.Test.YthebpkcnhghofaaDoorLw
namespace Go.Proofs.YthebpkcnhghofaaDoor
open Go.RowKit Go.Lib Go.Joins
set_option maxRecDepth 100000

theorem rangeAt_signs {w : World} (hg : Good w) : w.rangeAt 0 0 signsC := fun j v hv => by rw [Nat.zero_add]; exact hg.sg j v hv
theorem info41s : (Tryd.prog.info? 41).map (·.size) = some signsC.length := by kernel_rfl
theorem ix0 (w : World) : (Instr.index 41 (.agg signsC.toArray) (.int .i64 0)).run Tryd.prog w = .ok (.string ⟨#[60, 61]⟩) w := rfl
theorem ix1 (w : World) : (Instr.index 41 (.agg signsC.toArray) (.int .i64 1)).run Tryd.prog w = .ok (.string ⟨#[62, 61]⟩) w := rfl
theorem ix2 (w : World) : (Instr.index 41 (.agg signsC.toArray) (.int .i64 2)).run Tryd.prog w = .ok (.string ⟨#[60, 62]⟩) w := rfl
theorem ix3 (w : World) : (Instr.index 41 (.agg signsC.toArray) (.int .i64 3)).run Tryd.prog w = .ok (.string ⟨#[40]⟩) w := rfl
theorem ix4 (w : World) : (Instr.index 41 (.agg signsC.toArray) (.int .i64 4)).run Tryd.prog w = .ok (.string ⟨#[41]⟩) w := rfl
theorem ix5 (w : World) : (Instr.index 41 (.agg signsC.toArray) (.int .i64 5)).run Tryd.prog w = .ok (.string ⟨#[44]⟩) w := rfl
theorem ix6 (w : World) : (Instr.index 41 (.agg signsC.toArray) (.int .i64 6)).run Tryd.prog w = .ok (.string ⟨#[61]⟩) w := rfl
theorem ix7 (w : World) : (Instr.index 41 (.agg signsC.toArray) (.int .i64 7)).run Tryd.prog w = .ok (.string ⟨#[60]⟩) w := rfl
theorem ix8 (w : World) : (Instr.index 41 (.agg signsC.toArray) (.int .i64 8)).run Tryd.prog w = .ok (.string ⟨#[62]⟩) w := rfl
theorem ix9 (w : World) : (Instr.index 41 (.agg signsC.toArray) (.int .i64 9)).run Tryd.prog w = .ok (.string ⟨#[42]⟩) w := rfl
set_option maxHeartbeats 8000000 in
theorem signed13 (s : ByteArray) (w : World) (hg : Good w) :
    Calls Tryd.prog 13 #[.string s] w fun e w' => e = .returned (.string (str (signB (bs s)))) ∧ w' = w := by
  have hrg := rangeAt_signs hg
  have c19 := fun p => Tryd.strings_HasPrefix s p w
  go_enter Tryd.func13, Tryd.ntmps13
  go_wp2_with (refine wpList_load_mid rfl 41 (.global 0) rfl 0 0 rfl signsC _ hrg Tryd.underlying41 rfl info41s ?_)
  go_loopw [6] (fun p w' => ∃ k : Nat, k ≤ 10 ∧ p = .int .i64 (k : Int) ∧ w' = w ∧ Hid (signB (bs s) = signIn (signsL.drop k) (bs s))) (fun p _ => 10 - (RowKit.intOf p).toNat)
  case atStart => exact ⟨0, by omega, rfl, rfl, rfl⟩
  case round =>
    obtain ⟨k, hk, rfl, rfl, hs⟩ := hrel
    by_cases hlt : k < 10
    · have hc : k = 0 ∨ k = 1 ∨ k = 2 ∨ k = 3 ∨ k = 4 ∨ k = 5 ∨ k = 6 ∨ k = 7 ∨ k = 8 ∨ k = 9 := by omega
      clear hrg
      rcases hc with rfl | rfl | rfl | rfl | rfl | rfl | rfl | rfl | rfl | rfl
      · have hix := ix0
        have hix' : ∀ w, (Instr.index 41 (.agg signsC.toArray) (.int .i64 ((0 : Nat) : Int))).run Tryd.prog w = .ok (.string ⟨#[60, 61]⟩) w := ix0
        cases hx : hasPrefix (bs s) [60, 61]
        · have c : Calls Tryd.prog 19 #[.string s, .string ⟨#[60, 61]⟩] wr fun e w' => e = .returned (.bool false) ∧ w' = wr := (c19 ⟨#[60, 61]⟩).mono (fun e w' h => by rw [← hx]; exact h)
          have hs' : Hid (signB (bs s) = signIn (signsL.drop 1) (bs s)) := by show _ = _; rw [hs.out]; exact signIn_no hx
          clear hs c19
          go_wp2_with (go_at_call 19; refine c.mono ?_; rintro e w1 ⟨rfl, rfl⟩)
          go_roundw
          case rel => exact ⟨1, by omega, by simp, by first | rfl | trivial, hs'⟩
          case measure => simp [RowKit.intOf]
        · have c : Calls Tryd.prog 19 #[.string s, .string ⟨#[60, 61]⟩] wr fun e w' => e = .returned (.bool true) ∧ w' = wr := (c19 ⟨#[60, 61]⟩).mono (fun e w' h => by rw [← hx]; exact h)
          have HR : Hid (signB (bs s) = [60, 61]) := by show _ = _; rw [hs.out]; exact signIn_yes hx
          clear hs c19
          go_wp2_with (go_at_call 19; refine c.mono ?_; rintro e w1 ⟨rfl, rfl⟩)
          go_ret
          exact ⟨by rw [HR.out]; rfl, rfl⟩
      · have hix := ix1
        have hix' : ∀ w, (Instr.index 41 (.agg signsC.toArray) (.int .i64 ((1 : Nat) : Int))).run Tryd.prog w = .ok (.string ⟨#[62, 61]⟩) w := ix1
        cases hx : hasPrefix (bs s) [62, 61]
        · have c : Calls Tryd.prog 19 #[.string s, .string ⟨#[62, 61]⟩] wr fun e w' => e = .returned (.bool false) ∧ w' = wr := (c19 ⟨#[62, 61]⟩).mono (fun e w' h => by rw [← hx]; exact h)
          have hs' : Hid (signB (bs s) = signIn (signsL.drop 2) (bs s)) := by show _ = _; rw [hs.out]; exact signIn_no hx
          clear hs c19
          go_wp2_with (go_at_call 19; refine c.mono ?_; rintro e w1 ⟨rfl, rfl⟩)
          go_roundw
          case rel => exact ⟨2, by omega, by simp, by first | rfl | trivial, hs'⟩
          case measure => simp [RowKit.intOf]
        · have c : Calls Tryd.prog 19 #[.string s, .string ⟨#[62, 61]⟩] wr fun e w' => e = .returned (.bool true) ∧ w' = wr := (c19 ⟨#[62, 61]⟩).mono (fun e w' h => by rw [← hx]; exact h)
          have HR : Hid (signB (bs s) = [62, 61]) := by show _ = _; rw [hs.out]; exact signIn_yes hx
          clear hs c19
          go_wp2_with (go_at_call 19; refine c.mono ?_; rintro e w1 ⟨rfl, rfl⟩)
          go_ret
          exact ⟨by rw [HR.out]; rfl, rfl⟩
      · have hix := ix2
        have hix' : ∀ w, (Instr.index 41 (.agg signsC.toArray) (.int .i64 ((2 : Nat) : Int))).run Tryd.prog w = .ok (.string ⟨#[60, 62]⟩) w := ix2
        cases hx : hasPrefix (bs s) [60, 62]
        · have c : Calls Tryd.prog 19 #[.string s, .string ⟨#[60, 62]⟩] wr fun e w' => e = .returned (.bool false) ∧ w' = wr := (c19 ⟨#[60, 62]⟩).mono (fun e w' h => by rw [← hx]; exact h)
          have hs' : Hid (signB (bs s) = signIn (signsL.drop 3) (bs s)) := by show _ = _; rw [hs.out]; exact signIn_no hx
          clear hs c19
          go_wp2_with (go_at_call 19; refine c.mono ?_; rintro e w1 ⟨rfl, rfl⟩)
          go_roundw
          case rel => exact ⟨3, by omega, by simp, by first | rfl | trivial, hs'⟩
          case measure => simp [RowKit.intOf]
        · have c : Calls Tryd.prog 19 #[.string s, .string ⟨#[60, 62]⟩] wr fun e w' => e = .returned (.bool true) ∧ w' = wr := (c19 ⟨#[60, 62]⟩).mono (fun e w' h => by rw [← hx]; exact h)
          have HR : Hid (signB (bs s) = [60, 62]) := by show _ = _; rw [hs.out]; exact signIn_yes hx
          clear hs c19
          go_wp2_with (go_at_call 19; refine c.mono ?_; rintro e w1 ⟨rfl, rfl⟩)
          go_ret
          exact ⟨by rw [HR.out]; rfl, rfl⟩
      · have hix := ix3
        have hix' : ∀ w, (Instr.index 41 (.agg signsC.toArray) (.int .i64 ((3 : Nat) : Int))).run Tryd.prog w = .ok (.string ⟨#[40]⟩) w := ix3
        cases hx : hasPrefix (bs s) [40]
        · have c : Calls Tryd.prog 19 #[.string s, .string ⟨#[40]⟩] wr fun e w' => e = .returned (.bool false) ∧ w' = wr := (c19 ⟨#[40]⟩).mono (fun e w' h => by rw [← hx]; exact h)
          have hs' : Hid (signB (bs s) = signIn (signsL.drop 4) (bs s)) := by show _ = _; rw [hs.out]; exact signIn_no hx
          clear hs c19
          go_wp2_with (go_at_call 19; refine c.mono ?_; rintro e w1 ⟨rfl, rfl⟩)
          go_roundw
          case rel => exact ⟨4, by omega, by simp, by first | rfl | trivial, hs'⟩
          case measure => simp [RowKit.intOf]
        · have c : Calls Tryd.prog 19 #[.string s, .string ⟨#[40]⟩] wr fun e w' => e = .returned (.bool true) ∧ w' = wr := (c19 ⟨#[40]⟩).mono (fun e w' h => by rw [← hx]; exact h)
          have HR : Hid (signB (bs s) = [40]) := by show _ = _; rw [hs.out]; exact signIn_yes hx
          clear hs c19
          go_wp2_with (go_at_call 19; refine c.mono ?_; rintro e w1 ⟨rfl, rfl⟩)
          go_ret
          exact ⟨by rw [HR.out]; rfl, rfl⟩
      · have hix := ix4
        have hix' : ∀ w, (Instr.index 41 (.agg signsC.toArray) (.int .i64 ((4 : Nat) : Int))).run Tryd.prog w = .ok (.string ⟨#[41]⟩) w := ix4
        cases hx : hasPrefix (bs s) [41]
        · have c : Calls Tryd.prog 19 #[.string s, .string ⟨#[41]⟩] wr fun e w' => e = .returned (.bool false) ∧ w' = wr := (c19 ⟨#[41]⟩).mono (fun e w' h => by rw [← hx]; exact h)
          have hs' : Hid (signB (bs s) = signIn (signsL.drop 5) (bs s)) := by show _ = _; rw [hs.out]; exact signIn_no hx
          clear hs c19
          go_wp2_with (go_at_call 19; refine c.mono ?_; rintro e w1 ⟨rfl, rfl⟩)
          go_roundw
          case rel => exact ⟨5, by omega, by simp, by first | rfl | trivial, hs'⟩
          case measure => simp [RowKit.intOf]
        · have c : Calls Tryd.prog 19 #[.string s, .string ⟨#[41]⟩] wr fun e w' => e = .returned (.bool true) ∧ w' = wr := (c19 ⟨#[41]⟩).mono (fun e w' h => by rw [← hx]; exact h)
          have HR : Hid (signB (bs s) = [41]) := by show _ = _; rw [hs.out]; exact signIn_yes hx
          clear hs c19
          go_wp2_with (go_at_call 19; refine c.mono ?_; rintro e w1 ⟨rfl, rfl⟩)
          go_ret
          exact ⟨by rw [HR.out]; rfl, rfl⟩
      · have hix := ix5
        have hix' : ∀ w, (Instr.index 41 (.agg signsC.toArray) (.int .i64 ((5 : Nat) : Int))).run Tryd.prog w = .ok (.string ⟨#[44]⟩) w := ix5
        cases hx : hasPrefix (bs s) [44]
        · have c : Calls Tryd.prog 19 #[.string s, .string ⟨#[44]⟩] wr fun e w' => e = .returned (.bool false) ∧ w' = wr := (c19 ⟨#[44]⟩).mono (fun e w' h => by rw [← hx]; exact h)
          have hs' : Hid (signB (bs s) = signIn (signsL.drop 6) (bs s)) := by show _ = _; rw [hs.out]; exact signIn_no hx
          clear hs c19
          go_wp2_with (go_at_call 19; refine c.mono ?_; rintro e w1 ⟨rfl, rfl⟩)
          go_roundw
          case rel => exact ⟨6, by omega, by simp, by first | rfl | trivial, hs'⟩
          case measure => simp [RowKit.intOf]
        · have c : Calls Tryd.prog 19 #[.string s, .string ⟨#[44]⟩] wr fun e w' => e = .returned (.bool true) ∧ w' = wr := (c19 ⟨#[44]⟩).mono (fun e w' h => by rw [← hx]; exact h)
          have HR : Hid (signB (bs s) = [44]) := by show _ = _; rw [hs.out]; exact signIn_yes hx
          clear hs c19
          go_wp2_with (go_at_call 19; refine c.mono ?_; rintro e w1 ⟨rfl, rfl⟩)
          go_ret
          exact ⟨by rw [HR.out]; rfl, rfl⟩
      · have hix := ix6
        have hix' : ∀ w, (Instr.index 41 (.agg signsC.toArray) (.int .i64 ((6 : Nat) : Int))).run Tryd.prog w = .ok (.string ⟨#[61]⟩) w := ix6
        cases hx : hasPrefix (bs s) [61]
        · have c : Calls Tryd.prog 19 #[.string s, .string ⟨#[61]⟩] wr fun e w' => e = .returned (.bool false) ∧ w' = wr := (c19 ⟨#[61]⟩).mono (fun e w' h => by rw [← hx]; exact h)
          have hs' : Hid (signB (bs s) = signIn (signsL.drop 7) (bs s)) := by show _ = _; rw [hs.out]; exact signIn_no hx
          clear hs c19
          go_wp2_with (go_at_call 19; refine c.mono ?_; rintro e w1 ⟨rfl, rfl⟩)
          go_roundw
          case rel => exact ⟨7, by omega, by simp, by first | rfl | trivial, hs'⟩
          case measure => simp [RowKit.intOf]
        · have c : Calls Tryd.prog 19 #[.string s, .string ⟨#[61]⟩] wr fun e w' => e = .returned (.bool true) ∧ w' = wr := (c19 ⟨#[61]⟩).mono (fun e w' h => by rw [← hx]; exact h)
          have HR : Hid (signB (bs s) = [61]) := by show _ = _; rw [hs.out]; exact signIn_yes hx
          clear hs c19
          go_wp2_with (go_at_call 19; refine c.mono ?_; rintro e w1 ⟨rfl, rfl⟩)
          go_ret
          exact ⟨by rw [HR.out]; rfl, rfl⟩
      · have hix := ix7
        have hix' : ∀ w, (Instr.index 41 (.agg signsC.toArray) (.int .i64 ((7 : Nat) : Int))).run Tryd.prog w = .ok (.string ⟨#[60]⟩) w := ix7
        cases hx : hasPrefix (bs s) [60]
        · have c : Calls Tryd.prog 19 #[.string s, .string ⟨#[60]⟩] wr fun e w' => e = .returned (.bool false) ∧ w' = wr := (c19 ⟨#[60]⟩).mono (fun e w' h => by rw [← hx]; exact h)
          have hs' : Hid (signB (bs s) = signIn (signsL.drop 8) (bs s)) := by show _ = _; rw [hs.out]; exact signIn_no hx
          clear hs c19
          go_wp2_with (go_at_call 19; refine c.mono ?_; rintro e w1 ⟨rfl, rfl⟩)
          go_roundw
          case rel => exact ⟨8, by omega, by simp, by first | rfl | trivial, hs'⟩
          case measure => simp [RowKit.intOf]
        · have c : Calls Tryd.prog 19 #[.string s, .string ⟨#[60]⟩] wr fun e w' => e = .returned (.bool true) ∧ w' = wr := (c19 ⟨#[60]⟩).mono (fun e w' h => by rw [← hx]; exact h)
          have HR : Hid (signB (bs s) = [60]) := by show _ = _; rw [hs.out]; exact signIn_yes hx
          clear hs c19
          go_wp2_with (go_at_call 19; refine c.mono ?_; rintro e w1 ⟨rfl, rfl⟩)
          go_ret
          exact ⟨by rw [HR.out]; rfl, rfl⟩
      · have hix := ix8
        have hix' : ∀ w, (Instr.index 41 (.agg signsC.toArray) (.int .i64 ((8 : Nat) : Int))).run Tryd.prog w = .ok (.string ⟨#[62]⟩) w := ix8
        cases hx : hasPrefix (bs s) [62]
        · have c : Calls Tryd.prog 19 #[.string s, .string ⟨#[62]⟩] wr fun e w' => e = .returned (.bool false) ∧ w' = wr := (c19 ⟨#[62]⟩).mono (fun e w' h => by rw [← hx]; exact h)
          have hs' : Hid (signB (bs s) = signIn (signsL.drop 9) (bs s)) := by show _ = _; rw [hs.out]; exact signIn_no hx
          clear hs c19
          go_wp2_with (go_at_call 19; refine c.mono ?_; rintro e w1 ⟨rfl, rfl⟩)
          go_roundw
          case rel => exact ⟨9, by omega, by simp, by first | rfl | trivial, hs'⟩
          case measure => simp [RowKit.intOf]
        · have c : Calls Tryd.prog 19 #[.string s, .string ⟨#[62]⟩] wr fun e w' => e = .returned (.bool true) ∧ w' = wr := (c19 ⟨#[62]⟩).mono (fun e w' h => by rw [← hx]; exact h)
          have HR : Hid (signB (bs s) = [62]) := by show _ = _; rw [hs.out]; exact signIn_yes hx
          clear hs c19
          go_wp2_with (go_at_call 19; refine c.mono ?_; rintro e w1 ⟨rfl, rfl⟩)
          go_ret
          exact ⟨by rw [HR.out]; rfl, rfl⟩
      · have hix := ix9
        have hix' : ∀ w, (Instr.index 41 (.agg signsC.toArray) (.int .i64 ((9 : Nat) : Int))).run Tryd.prog w = .ok (.string ⟨#[42]⟩) w := ix9
        cases hx : hasPrefix (bs s) [42]
        · have c : Calls Tryd.prog 19 #[.string s, .string ⟨#[42]⟩] wr fun e w' => e = .returned (.bool false) ∧ w' = wr := (c19 ⟨#[42]⟩).mono (fun e w' h => by rw [← hx]; exact h)
          have hs' : Hid (signB (bs s) = signIn (signsL.drop 10) (bs s)) := by show _ = _; rw [hs.out]; exact signIn_no hx
          clear hs c19
          go_wp2_with (go_at_call 19; refine c.mono ?_; rintro e w1 ⟨rfl, rfl⟩)
          go_roundw
          case rel => exact ⟨10, by omega, by simp, by first | rfl | trivial, hs'⟩
          case measure => simp [RowKit.intOf]
        · have c : Calls Tryd.prog 19 #[.string s, .string ⟨#[42]⟩] wr fun e w' => e = .returned (.bool true) ∧ w' = wr := (c19 ⟨#[42]⟩).mono (fun e w' h => by rw [← hx]; exact h)
          have HR : Hid (signB (bs s) = [42]) := by show _ = _; rw [hs.out]; exact signIn_yes hx
          clear hs c19
          go_wp2_with (go_at_call 19; refine c.mono ?_; rintro e w1 ⟨rfl, rfl⟩)
          go_ret
          exact ⟨by rw [HR.out]; rfl, rfl⟩
    · have hlt1 : ¬ (k : Int) < 10 := by omega
      obtain rfl : k = 10 := by omega
      have HR : Hid (signB (bs s) = []) := by show _ = _; rw [hs.out]; rfl
      clear hs hrg c19
      go_wp2
      go_ret
      exact ⟨by rw [HR.out]; rfl, rfl⟩
end Go.Proofs.YthebpkcnhghofaaDoor
