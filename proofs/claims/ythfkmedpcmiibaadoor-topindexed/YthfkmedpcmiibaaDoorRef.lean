/- The reference's Bytes of every value, and its Read. -/
import Derived.Test.YthfkmedpcmiibaaDoorByt
namespace Go.Proofs.YthfkmedpcmiibaaDoor
open Go.RowKit Go.Lib

/-! ### its Read -/
/-- What the scan for the end knows at place j. -/
def Cz (t : Bs) (j : Nat) : Prop := cutZ t = (cutZ (t.drop j)).map fun x => t.take j ++ x
theorem cz_start (t : Bs) : Cz t 0 := by unfold Cz; cases h : cutZ t <;> simp [h]
theorem cz_hit {t : Bs} {j : Nat} (h : Cz t j) (hj : j < t.length) (h0 : t.getD j 0 = 0) : cutZ t = some (t.take j) := by
  unfold Cz at h
  rw [h, List.drop_eq_getElem_cons hj]
  have : t[j] = 0 := by rw [← h0]; simp [List.getD, hj]
  simp [cutZ, this]
theorem cz_step {t : Bs} {j : Nat} (h : Cz t j) (hj : j < t.length) (h0 : t.getD j 0 ≠ 0) : Cz t (j + 1) := by
  unfold Cz at h ⊢
  have e : t[j] = t.getD j 0 := by simp [List.getD, hj]
  rw [h, List.drop_eq_getElem_cons hj, List.take_succ_eq_append_getElem hj]
  simp only [cutZ, e, if_neg h0, Option.map_map]
  congr 1
  funext x
  simp
theorem cz_end {t : Bs} {j : Nat} (h : Cz t j) (hj : t.length ≤ j) : cutZ t = none := by
  unfold Cz at h
  rw [h, List.drop_eq_nil_of_le hj]; rfl

theorem rdV_text {t x : Bs} (h : cutZ t = some x) : rdV (2 :: t) = if rightR x then (2, 0, x, x.length + 2, 0) else (0, 0, [], 0, 3) := by
  unfold rdV
  rw [begunV_text h]
  simp [rightV_text]
theorem rdV_open {t : Bs} (h : cutZ t = none) : rdV (2 :: t) = (0, 0, [], 0, 3) := by
  unfold rdV
  rw [begunV_open h]
  simp [rightV_none]

end Go.Proofs.YthfkmedpcmiibaaDoor
