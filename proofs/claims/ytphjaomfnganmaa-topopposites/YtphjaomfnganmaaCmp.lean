/- Which of two values comes first, and whether a comparison holds of two values. -/
import Derived.Test.YtphjaomfnganmaaShelf
import Derived.ProofKit
namespace Go.Proofs.Ytphjaomfnganmaa
open Go.RowKit Go.Lib

abbrev Bs := List UInt8
def bs (s : ByteArray) : Bs := s.data.toList
abbrev V (k n : Int) (s : ByteArray) : Value := .agg #[.int .u8 k, .int .i64 n, .string s]
theorem bmore {w w1 w2 : World} (h : Below w.heap.size w w1) (k : Below w1.heap.size w1 w2) : Below w.heap.size w w2 := h.trans (k.mono h.size)
def ci (x y : Int) : Int := if x < y then -1 else if x > y then 1 else 0
def cmpV (k n : Int) (s : Bs) (k' n' : Int) (s' : Bs) : Int := if k ≠ k' then ci k k' else if n ≠ n' then ci n n' else compareBytes s s'

theorem cmp8 (a b : ByteArray) (w : World) :
    Calls Try.prog 8 #[.string a, .string b] w fun e w' => e = .returned (.int .i64 (Lib.compareBytes (bs a) (bs b))) ∧ w' = w := by
  have c := Try.strings_Compare a b w
  go_enter Try.func8, Try.ntmps8
  go_wp2_with (go_at_call 11; refine c.mono ?_; rintro e w1 ⟨rfl, rfl⟩)
  go_ret
  exact ⟨rfl, rfl⟩

theorem cmpK (x y : Int) (w : World) : Calls Try.prog 6 #[.int .u8 x, .int .u8 y] w fun e w' => e = .returned (.int .i64 (ci x y)) ∧ w' = w := by
  by_cases h1 : x < y
  · have hr : ci x y = -1 := by simp [ci, h1]
    rw [hr]
    go_enter Try.func6, Try.ntmps6
    go_wp2
    go_ret
    exact ⟨rfl, rfl⟩
  · by_cases h2 : y < x
    · have hr : ci x y = 1 := by simp [ci, h1]; omega
      rw [hr]
      go_enter Try.func6, Try.ntmps6
      go_wp2
      go_ret
      exact ⟨rfl, rfl⟩
    · have hr : ci x y = 0 := by simp [ci]; omega
      rw [hr]
      go_enter Try.func6, Try.ntmps6
      go_wp2
      go_ret
      exact ⟨rfl, rfl⟩

theorem cmpN (x y : Int) (w : World) : Calls Try.prog 7 #[.int .i64 x, .int .i64 y] w fun e w' => e = .returned (.int .i64 (ci x y)) ∧ w' = w := by
  by_cases h1 : x < y
  · have hr : ci x y = -1 := by simp [ci, h1]
    rw [hr]
    go_enter Try.func7, Try.ntmps7
    go_wp2
    go_ret
    exact ⟨rfl, rfl⟩
  · by_cases h2 : y < x
    · have hr : ci x y = 1 := by simp [ci, h1]; omega
      rw [hr]
      go_enter Try.func7, Try.ntmps7
      go_wp2
      go_ret
      exact ⟨rfl, rfl⟩
    · have hr : ci x y = 0 := by simp [ci]; omega
      rw [hr]
      go_enter Try.func7, Try.ntmps7
      go_wp2
      go_ret
      exact ⟨rfl, rfl⟩

set_option maxRecDepth 100000 in
set_option maxHeartbeats 2000000 in
theorem compare5 (k n : Int) (s : ByteArray) (k' n' : Int) (s' : ByteArray) (w : World) :
    Calls Try.prog 5 #[V k n s, V k' n' s'] w fun e w' => e = .returned (.int .i64 (cmpV k n (bs s) k' n' (bs s'))) ∧ Below w.heap.size w w' := by
  have hA : ∀ o o', Below w.heap.size w ((w.alloc o).alloc o') := fun o o' => ((Below.refl _ _).alloc (Nat.le_refl _) o).alloc (by simp) o'
  by_cases hk : k = k'
  · subst hk
    by_cases hn : n = n'
    · subst hn
      have hr : cmpV k n (bs s) k n (bs s') = Lib.compareBytes (bs s) (bs s') := by simp [cmpV]
      rw [hr]
      have c := cmp8 s s'
      go_enter Try.func5, Try.ntmps5
      go_wp2_with (go_at_call 8; refine (c _).mono ?_; rintro e w1 ⟨rfl, rfl⟩)
      go_ret
      exact ⟨rfl, hA _ _⟩
    · have hr : cmpV k n (bs s) k n' (bs s') = ci n n' := by simp [cmpV, hn]
      have hb : (n != n') = true := by simpa using hn
      rw [hr]
      have c := cmpN n n'
      go_enter Try.func5, Try.ntmps5
      go_wp2_with (go_at_call 7; refine (c _).mono ?_; rintro e w1 ⟨rfl, rfl⟩)
      go_ret
      exact ⟨rfl, hA _ _⟩
  · have hr : cmpV k n (bs s) k' n' (bs s') = ci k k' := by simp [cmpV, hk]
    have hb : (k != k') = true := by simpa using hk
    rw [hr]
    have c := cmpK k k'
    go_enter Try.func5, Try.ntmps5
    go_wp2_with (go_at_call 6; refine (c _).mono ?_; rintro e w1 ⟨rfl, rfl⟩)
    go_ret
    exact ⟨rfl, hA _ _⟩

/-- Whether a comparison holds, by which of two comes first. -/
def ops (o c : Int) : Bool := if o = 1 then c == 0 else if o = 2 then c != 0 else if o = 3 then decide (c < 0) else if o = 4 then decide (c ≤ 0) else if o = 5 then decide (c > 0) else if o = 6 then decide (c ≥ 0) else false
def comp (o k n : Int) (s : Bs) (k' n' : Int) (s' : Bs) : Bool := if k = k' then ops o (cmpV k n s k' n' s') else false

set_option maxRecDepth 100000 in
set_option maxHeartbeats 2000000 in
theorem compares4 (o : Int) (ho : o = 1 ∨ o = 2 ∨ o = 3 ∨ o = 4 ∨ o = 5 ∨ o = 6) (k n : Int) (s : ByteArray) (k' n' : Int) (s' : ByteArray) (w : World) :
    Calls Try.prog 4 #[.int .u8 o, V k n s, V k' n' s'] w fun e w' => e = .returned (.bool (comp o k n (bs s) k' n' (bs s'))) ∧ Below w.heap.size w w' := by
  have hA : ∀ o o', Below w.heap.size w ((w.alloc o).alloc o') := fun o o' => ((Below.refl _ _).alloc (Nat.le_refl _) o).alloc (by simp) o'
  by_cases hk : k = k'
  · subst hk
    have c := compare5 k n s k n' s'
    simp only [comp, if_true]
    generalize cmpV k n (bs s) k n' (bs s') = z at *
    rcases ho with rfl | rfl | rfl | rfl | rfl | rfl
    all_goals
      simp only [ops]
      go_enter Try.func4, Try.ntmps4
      go_wp2_with (go_at_call 5; refine (c _).mono ?_; rintro e w1 ⟨rfl, hb⟩)
      go_ret
      exact ⟨by simp, bmore (hA _ _) hb⟩
  · have hb : (k != k') = true := by simpa using hk
    have hr : comp o k n (bs s) k' n' (bs s') = false := by simp [comp, hk]
    rw [hr]
    go_enter Try.func4, Try.ntmps4
    go_wp2
    go_ret
    exact ⟨rfl, hA _ _⟩

end Go.Proofs.Ytphjaomfnganmaa
