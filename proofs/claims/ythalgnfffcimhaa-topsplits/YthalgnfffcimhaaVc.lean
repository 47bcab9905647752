/- Which of two values, and of two lists of values, comes first. -/
import Derived.Shelf.Small.Strs
import Derived.Test.YthalgnfffcimhaaBk
import Derived.Test.YthalgnfffcimhaaOd
namespace Go.Proofs
open Go.Shelf
def Try.lays106_ren : Go.Shelf.Ren := ⟨fun | 106 => 69 | 213 => 87 | 265 => 92 | n => n, fun | 9 => 9 | 3 => 3 | n => n, fun | n => n⟩
theorem Try.lays106 : Go.Proofs.Lays.n106 Try.prog Try.lays106_ren := {
  mixed := by kernel_rfl
  f106 := Try.func69.trans (congrArg some (by kernel_rfl))
  f213 := Try.func87.trans (congrArg some (by kernel_rfl))
  f265 := Try.func92.trans (congrArg some (by kernel_rfl))
  t3 := Try.underlying3
  a3 := Try.isAgg3
  z3 := Try.sizeOf3
  v3 := Try.zeroValue3
  t9 := Try.underlying9
  a9 := Try.isAgg9
  z9 := Try.sizeOf9
  v9 := Try.zeroValue9 }
open Go.RowKit in
theorem Try.strings_Compare (a b : ByteArray) (w : World) :
    Calls Try.prog 69 #[.string a, .string b] w fun e w' => e = .returned (.int .i64 (Lib.compareBytes a.data.toList b.data.toList)) ∧ w' = w := Any.strings_Compare Try.lays106 a b w

end Go.Proofs
namespace Go.Proofs.Ythalgnfffcimhaa
open Go.RowKit Go.Shelf
set_option maxRecDepth 100000
theorem cmpI46 (x y : Int) (w : World) : Calls Try.prog 36 #[.int .i64 x, .int .i64 y] w fun e w' => e = .returned (.int .i64 (Lib.compareInt x y)) ∧ w' = w := by
  by_cases h1 : x < y
  · have hr : Lib.compareInt x y = -1 := by simp [Lib.compareInt, h1]
    rw [hr]
    go_enter Try.func36, Try.ntmps36
    go_wp2
    go_ret
    exact ⟨rfl, rfl⟩
  · by_cases h2 : y < x
    · have hr : Lib.compareInt x y = 1 := by simp [Lib.compareInt, h1]; omega
      rw [hr]
      go_enter Try.func36, Try.ntmps36
      go_wp2
      go_ret
      exact ⟨rfl, rfl⟩
    · have hr : Lib.compareInt x y = 0 := by simp [Lib.compareInt]; omega
      rw [hr]
      go_enter Try.func36, Try.ntmps36
      go_wp2
      go_ret
      exact ⟨rfl, rfl⟩
theorem cmpI65 (x y : Int) (w : World) : Calls Try.prog 48 #[.int .i64 x, .int .i64 y] w fun e w' => e = .returned (.int .i64 (Lib.compareInt x y)) ∧ w' = w := by
  by_cases h1 : x < y
  · have hr : Lib.compareInt x y = -1 := by simp [Lib.compareInt, h1]
    rw [hr]
    go_enter Try.func48, Try.ntmps48
    go_wp2
    go_ret
    exact ⟨rfl, rfl⟩
  · by_cases h2 : y < x
    · have hr : Lib.compareInt x y = 1 := by simp [Lib.compareInt, h1]; omega
      rw [hr]
      go_enter Try.func48, Try.ntmps48
      go_wp2
      go_ret
      exact ⟨rfl, rfl⟩
    · have hr : Lib.compareInt x y = 0 := by simp [Lib.compareInt]; omega
      rw [hr]
      go_enter Try.func48, Try.ntmps48
      go_wp2
      go_ret
      exact ⟨rfl, rfl⟩
theorem cmpK64 (x y : Int) (w : World) : Calls Try.prog 47 #[.int .u8 x, .int .u8 y] w fun e w' => e = .returned (.int .i64 (Lib.compareInt x y)) ∧ w' = w := by
  by_cases h1 : x < y
  · have hr : Lib.compareInt x y = -1 := by simp [Lib.compareInt, h1]
    rw [hr]
    go_enter Try.func47, Try.ntmps47
    go_wp2
    go_ret
    exact ⟨rfl, rfl⟩
  · by_cases h2 : y < x
    · have hr : Lib.compareInt x y = 1 := by simp [Lib.compareInt, h1]; omega
      rw [hr]
      go_enter Try.func47, Try.ntmps47
      go_wp2
      go_ret
      exact ⟨rfl, rfl⟩
    · have hr : Lib.compareInt x y = 0 := by simp [Lib.compareInt]; omega
      rw [hr]
      go_enter Try.func47, Try.ntmps47
      go_wp2
      go_ret
      exact ⟨rfl, rfl⟩
theorem word66 (a b : ByteArray) (w : World) : Calls Try.prog 49 #[.string a, .string b] w fun e w' => e = .returned (.int .i64 (cmpS a b)) ∧ w' = w := by
  have c := Try.strings_Compare a b w
  go_enter Try.func49, Try.ntmps49
  go_wp2_with (go_at_call 69; refine c.mono ?_; rintro e w1 ⟨rfl, rfl⟩)
  go_ret
  exact ⟨rfl, rfl⟩
/-- A value as it is handed. -/
abbrev V (x : Vt) : Value := .agg #[.int .u8 x.1, .int .i64 x.2.1, .string x.2.2]
set_option maxHeartbeats 2000000 in
theorem value45 (x y : Vt) (w : World) : Calls Try.prog 35 #[V x, V y] w fun e w' => e = .returned (.int .i64 (cmpT x y)) ∧ GB w w' := by
  have hA : ∀ o o', GB w ((w.alloc o).alloc o') := fun o o' => (GB.al w o).trans (GB.al _ o')
  obtain ⟨k, n, s⟩ := x
  obtain ⟨k', n', s'⟩ := y
  by_cases hk : k = k'
  · subst hk
    by_cases hn : n = n'
    · subst hn
      have hr : cmpT (k, n, s) (k, n, s') = cmpS s s' := by simp [cmpT, lexP, (ordInt.eq _ _).2]
      rw [hr]
      have c := word66 s s'
      go_enter Try.func35, Try.ntmps35
      go_wp2_with (go_at_call 49; refine (c _).mono ?_; rintro e w1 ⟨rfl, rfl⟩)
      go_ret
      exact ⟨rfl, hA _ _⟩
    · have hr : cmpT (k, n, s) (k, n', s') = Lib.compareInt n n' := by
        have : ¬ Lib.compareInt n n' = 0 := fun e => hn ((ordInt.eq _ _).1 e)
        simp [cmpT, lexP, (ordInt.eq _ _).2, this]
      have hb : (n != n') = true := by simpa using hn
      rw [hr]
      have c := cmpI65 n n'
      go_enter Try.func35, Try.ntmps35
      go_wp2_with (go_at_call 48; refine (c _).mono ?_; rintro e w1 ⟨rfl, rfl⟩)
      go_ret
      exact ⟨rfl, hA _ _⟩
  · have hr : cmpT (k, n, s) (k', n', s') = Lib.compareInt k k' := by
      have : ¬ Lib.compareInt k k' = 0 := fun e => hk ((ordInt.eq _ _).1 e)
      simp [cmpT, lexP, this]
    have hb : (k != k') = true := by simpa using hk
    rw [hr]
    have c := cmpK64 k k'
    go_enter Try.func35, Try.ntmps35
    go_wp2_with (go_at_call 47; refine (c _).mono ?_; rintro e w1 ⟨rfl, rfl⟩)
    go_ret
    exact ⟨rfl, hA _ _⟩
end Go.Proofs.Ythalgnfffcimhaa
