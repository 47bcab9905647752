/- value.Parse of a short text. -/
import Derived.Test.YtipnaphikbjhbaaDoorPrs
namespace Go.Proofs.YtipnaphikbjhbaaDoor
open Go.RowKit Go.Lib Go.Joins

/-- What Parse answers: kind, number, text, error. -/
def prsV (l : Bs) : Int × Int × Bs × Nat := if (saidV l).2.2.2 = true ∧ prV (saidV l).1 (saidV l).2.1 (saidV l).2.2.1 = (l, 0) then ((saidV l).1, (saidV l).2.1, (saidV l).2.2.1, 0) else (0, 0, [], 3)

theorem saidV_in (l : Bs) : inI64 (saidV l).2.1 := by
  unfold saidV
  split
  · rename_i n h
    have := parseIntB_bounds h
    simp at this
    exact ⟨by show _ ≤ n; omega, by show n ≤ _; omega⟩
  · split <;> (unfold inI64; simp)
theorem scan_len : ∀ {l x : Bs} {k : Nat}, scan l = some (x, k) → x.length ≤ l.length := fun {l x k} h => by
  have h1 := scan_some _ l x k (Nat.le_refl _) h
  have h2 := undbl_le _ (l.take k) (Nat.le_refl _)
  rw [h1.2, List.length_take] at h2
  omega
theorem unq_len (l : Bs) : (unq l).1.length ≤ l.length := by
  unfold unq
  split
  · simp
  · split
    · split
      · simp
      · rename_i h
        have := scan_len h
        split <;> simp; omega
    · simp
theorem saidV_len (l : Bs) : (saidV l).2.2.1.length ≤ l.length := by
  unfold saidV
  split
  · simp
  · split
    · exact unq_len l
    · simp

theorem ne_list {a b : ByteArray} (h : a ≠ b) : (a.toList == b.toList) = false := by
  rw [beq_eq_false_iff_ne, toList_data, toList_data]
  intro e
  exact h (ByteArray.ext (Array.toList_inj.1 e))
theorem str_eq {l : Bs} {s : ByteArray} : str l = s ↔ l = bs s := by
  constructor
  · intro h; rw [← h, bs_str]
  · intro h; rw [h, str_bs]

end Go.Proofs.YtipnaphikbjhbaaDoor
