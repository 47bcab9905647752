/- value.Digits of every number. -/
import Derived.Test.YtipnaphikbjhbaaDoorHlp
namespace Go.Proofs.YtipnaphikbjhbaaDoor
open Go.RowKit Go.Lib

/-- The last k digits of u, the higher ones first. -/
def lowD (u : Nat) : Nat → Bs
  | 0 => []
  | k + 1 => UInt8.ofNat (48 + u / 10 ^ k % 10) :: lowD u k
theorem lowD_length (u : Nat) : ∀ k, (lowD u k).length = k
  | 0 => rfl
  | k + 1 => by simp [lowD, lowD_length u k]
theorem lowD_snoc (u : Nat) : ∀ k, lowD u (k + 1) = lowD (u / 10) k ++ [UInt8.ofNat (48 + u % 10)]
  | 0 => by simp [lowD]
  | k + 1 => by
    rw [lowD, lowD_snoc u k]
    simp only [lowD, List.cons_append, Nat.div_div_eq_div_mul]
    rw [Nat.pow_succ, Nat.mul_comm (10 ^ k) 10]
theorem lowD_all (u : Nat) : lowD u (nDigits u) = decDigits u := by
  induction u using Nat.strongRecOn with
  | _ u ih =>
    by_cases h : u < 10
    · rw [nDigits_small h, decDigits, dif_pos h]
      simp only [lowD, Nat.pow_zero, Nat.div_one]
      rw [Nat.mod_eq_of_lt h]
    · rw [nDigits_big h, lowD_snoc, ih (u / 10) (by omega)]
      conv => rhs; rw [decDigits, dif_neg h]
theorem nDigits_rest (u k : Nat) (h : k < nDigits u) : k = 0 ∨ u / 10 ^ k ≠ 0 := by
  induction k generalizing u with
  | zero => exact .inl rfl
  | succ k ih =>
    right
    by_cases hu : u < 10
    · rw [nDigits_small hu] at h; omega
    · rw [nDigits_big hu] at h
      rw [Nat.pow_succ, Nat.mul_comm, ← Nat.div_div_eq_div_mul]
      rcases ih (u / 10) (by omega) with rfl | h'
      · simp; omega
      · exact h'
theorem nDigits_done (u : Nat) : u / 10 ^ nDigits u = 0 := Nat.div_eq_of_lt (lt_pow_nDigits u)
theorem nDigits_le (u : Nat) (h : u < 10 ^ 19) : nDigits u ≤ 19 := by
  by_cases hc : nDigits u ≤ 19
  · exact hc
  · rcases nDigits_rest u 19 (by omega) with h0 | h0
    · omega
    · exact absurd (Nat.div_eq_of_lt h) h0

/-- The block of the digits: noughts, then what was laid. -/
def dblk (ds : Bs) : Bs := List.replicate (20 - ds.length) 0 ++ ds
abbrev dw (w : World) (ds : Bs) : World := w.alloc (.cells (cellsB (dblk ds)).toArray 79)
theorem dblk_length (ds : Bs) (h : ds.length ≤ 20) : (dblk ds).length = 20 := by simp [dblk]; omega
theorem dw_cell (w : World) (ds : Bs) (h : ds.length ≤ 20) (j : Nat) (hj : j < 20) : (dw w ds).cell? ⟨w.heap.size, j, none⟩ = some (.int .u8 (((dblk ds).getD j 0).toNat : Int)) := by
  rw [World.cell?_alloc_new]
  have := cellsB_get (dblk ds) j (by rw [dblk_length ds h]; exact hj)
  simpa using this
theorem dblk_set (ds : Bs) (b : UInt8) (k : Nat) (hk : ds.length = k) (h : k < 20) : (dblk ds).set (19 - k) b = dblk (b :: ds) := by
  subst hk
  unfold dblk
  rw [show 20 - ds.length = (19 - ds.length) + 1 by omega, List.replicate_succ', List.append_assoc, List.length_cons, show 20 - (ds.length + 1) = 19 - ds.length by omega]
  rw [List.set_append_right _ _ (by simp)]
  simp
theorem cells_set (ds : Bs) (b : UInt8) (k : Nat) (hk : ds.length = k) (h : k < 20) (z : Int) (hz : z = (b.toNat : Int)) : (cellsB (dblk ds)).set (19 - k) (.int .u8 z) = cellsB (dblk (b :: ds)) := by
  rw [← dblk_set ds b k hk h, hz]
  unfold cellsB
  rw [List.map_set]
theorem dig_byte (r : Nat) : (48 : Int) + (r : Int) % 10 = ((UInt8.ofNat (48 + r % 10)).toNat : Int) := by
  rw [UInt8.toNat_ofNat']; omega
/-- Behind the noughts lie the digits. -/
theorem dw_at (w : World) (ds : Bs) (k : Nat) (hk : ds.length = k) (h : k ≤ 20) : At (dw w ds) w.heap.size (20 - k) ds := fun i hi => by
  rw [dw_cell w ds (by omega) (20 - k + i) (by omega)]
  unfold dblk
  rw [hk]
  simp only [List.getD]
  rw [List.getElem?_append_right (by simp)]
  simp
theorem dw_conv (w : World) (ds : Bs) (k f c : Nat) (hk : ds.length = k) (h : k ≤ 20) (hf : f = 20 - k) : (convert 119 9 (.slice (some ⟨w.heap.size, f, none⟩) k c)).run Tryd.prog (dw w ds) = .ok (.string (str ds)) (dw w ds) := by
  subst hf
  exact conv_n hk (dw_at w ds k hk h)

end Go.Proofs.YtipnaphikbjhbaaDoor
