/- value.Digits of every number. -/
import Derived.Test.YthebpkcnhghofaaDoorHlp
namespace Go.Proofs.YthebpkcnhghofaaDoor
open Go.RowKit Go.Lib

theorem dist33 (n : Int) (h : inI64 n) (w : World) : Calls Tryd.prog 59 #[.int .i64 n] w fun e w' => e = .returned (.int .u64 (n.natAbs : Int)) ∧ w' = w := by
  unfold inI64 at h
  by_cases hn : n < 0
  · go_enter Tryd.func59, Tryd.ntmps59
    go_wp2
    go_ret
    refine ⟨?_, rfl⟩
    show Ending.returned (.int .u64 _) = _
    congr 2
    simp [IntKind.wrap, IntKind.bits, IntKind.signed]
    omega
  · go_enter Tryd.func59, Tryd.ntmps59
    go_wp2
    go_ret
    refine ⟨?_, rfl⟩
    show Ending.returned (.int .u64 _) = _
    congr 2
    omega

/-- The last k digits of u, the higher ones first. -/
def lowD (u : Nat) : Nat → Bs
  | 0 => []
  | k + 1 => UInt8.ofNat (48 + u / 10 ^ k % 10) :: lowD u k
theorem lowD_length (u : Nat) : ∀ k, (lowD u k).length = k
  | 0 => rfl
  | k + 1 => by simp [lowD, lowD_length u k]
theorem lowD_snoc (u : Nat) : ∀ k, lowD u (k + 1) = lowD (u / 10) k ++ [UInt8.ofNat (48 + u % 10)]
  | 0 => by simp [lowD]
  | k + 1 => by
    rw [lowD, lowD_snoc u k]
    simp only [lowD, List.cons_append, Nat.div_div_eq_div_mul]
    rw [Nat.pow_succ, Nat.mul_comm (10 ^ k) 10]
theorem lowD_all (u : Nat) : lowD u (nDigits u) = decDigits u := by
  induction u using Nat.strongRecOn with
  | _ u ih =>
    by_cases h : u < 10
    · rw [nDigits_small h, decDigits, dif_pos h]
      simp only [lowD, Nat.pow_zero, Nat.div_one]
      rw [Nat.mod_eq_of_lt h]
    · rw [nDigits_big h, lowD_snoc, ih (u / 10) (by omega)]
      conv => rhs; rw [decDigits, dif_neg h]
theorem nDigits_rest (u k : Nat) (h : k < nDigits u) : k = 0 ∨ u / 10 ^ k ≠ 0 := by
  induction k generalizing u with
  | zero => exact .inl rfl
  | succ k ih =>
    right
    by_cases hu : u < 10
    · rw [nDigits_small hu] at h; omega
    · rw [nDigits_big hu] at h
      rw [Nat.pow_succ, Nat.mul_comm, ← Nat.div_div_eq_div_mul]
      rcases ih (u / 10) (by omega) with rfl | h'
      · simp; omega
      · exact h'
theorem nDigits_done (u : Nat) : u / 10 ^ nDigits u = 0 := Nat.div_eq_of_lt (lt_pow_nDigits u)
theorem nDigits_le (u : Nat) (h : u < 10 ^ 19) : nDigits u ≤ 19 := by
  by_cases hc : nDigits u ≤ 19
  · exact hc
  · rcases nDigits_rest u 19 (by omega) with h0 | h0
    · omega
    · exact absurd (Nat.div_eq_of_lt h) h0

/-- The block of the digits: noughts, then what was laid. -/
def dblk (ds : Bs) : Bs := List.replicate (20 - ds.length) 0 ++ ds
abbrev dw (w : World) (ds : Bs) : World := w.alloc (.cells (cellsB (dblk ds)).toArray 79)
theorem dblk_length (ds : Bs) (h : ds.length ≤ 20) : (dblk ds).length = 20 := by simp [dblk]; omega
theorem dw_cell (w : World) (ds : Bs) (h : ds.length ≤ 20) (j : Nat) (hj : j < 20) : (dw w ds).cell? ⟨w.heap.size, j, none⟩ = some (.int .u8 (((dblk ds).getD j 0).toNat : Int)) := by
  rw [World.cell?_alloc_new]
  have := cellsB_get (dblk ds) j (by rw [dblk_length ds h]; exact hj)
  simpa using this
theorem dblk_set (ds : Bs) (b : UInt8) (k : Nat) (hk : ds.length = k) (h : k < 20) : (dblk ds).set (19 - k) b = dblk (b :: ds) := by
  subst hk
  unfold dblk
  rw [show 20 - ds.length = (19 - ds.length) + 1 by omega, List.replicate_succ', List.append_assoc, List.length_cons, show 20 - (ds.length + 1) = 19 - ds.length by omega]
  rw [List.set_append_right _ _ (by simp)]
  simp
theorem cells_set (ds : Bs) (b : UInt8) (k : Nat) (hk : ds.length = k) (h : k < 20) (z : Int) (hz : z = (b.toNat : Int)) : (cellsB (dblk ds)).set (19 - k) (.int .u8 z) = cellsB (dblk (b :: ds)) := by
  rw [← dblk_set ds b k hk h, hz]
  unfold cellsB
  rw [List.map_set]
theorem dig_byte (r : Nat) : (48 : Int) + (r : Int) % 10 = ((UInt8.ofNat (48 + r % 10)).toNat : Int) := by
  rw [UInt8.toNat_ofNat']; omega
/-- Behind the noughts lie the digits. -/
theorem dw_at (w : World) (ds : Bs) (k : Nat) (hk : ds.length = k) (h : k ≤ 20) : At (dw w ds) w.heap.size (20 - k) ds := fun i hi => by
  rw [dw_cell w ds (by omega) (20 - k + i) (by omega)]
  unfold dblk
  rw [hk]
  simp only [List.getD]
  rw [List.getElem?_append_right (by simp)]
  simp
theorem dw_conv (w : World) (ds : Bs) (k f c : Nat) (hk : ds.length = k) (h : k ≤ 20) (hf : f = 20 - k) : (convert 35 9 (.slice (some ⟨w.heap.size, f, none⟩) k c)).run Tryd.prog (dw w ds) = .ok (.string (str ds)) (dw w ds) := by
  subst hf
  exact conv_n hk (dw_at w ds k hk h)

theorem slice50 (w : World) (b f m : Nat) (l : Int) (hl : l = (f : Int)) (hm : m + f = 20) (h1 : 1 ≤ m) : (Instr.sliceAt 79 (.pointer (some ⟨b, 0, none⟩)) (some (.int .i64 l)) none none).run Tryd.prog w = .ok (.slice (some ⟨b, f, none⟩) m m) w := by
  subst hl
  have ha : Tryd.prog.arrayLen 79 = 20 := by kernel_rfl
  have e := run_sliceAt_array_l (P := Tryd.prog) w 79 ⟨b, 0, none⟩ (by kernel_rfl) .i64 (f : Int) (by omega) (by rw [ha]; omega)
  rw [e, ha, show (sizeOf (Tryd.prog.elem 79)).run Tryd.prog w = .ok 1 w from by kernel_rfl]
  simp only [Result.andThen_ok, slicedAt, Int.toNat_natCast, Nat.mul_one]
  rw [if_neg (by omega), show 20 - f = m by omega, show (⟨b, 0, none⟩ : Addr).add f = ⟨b, f, none⟩ by unfold Addr.add; split <;> simp_all]

set_option maxRecDepth 100000 in
set_option maxHeartbeats 4000000 in
theorem digits16 (n : Int) (h : inI64 n) (w : World) : Calls Tryd.prog 52 #[.int .i64 n] w fun e w' => e = .returned (.string (str (itoa n))) ∧ Below w.heap.size w w' := by
  have c33 := dist33 n h
  obtain ⟨u, hu⟩ : ∃ u, n.natAbs = u := ⟨_, rfl⟩
  rw [hu] at c33
  have hub : u ≤ 9223372036854775808 := by unfold inI64 at h; omega
  have hnd : nDigits u ≤ 19 := nDigits_le u (by omega)
  obtain ⟨N, hN⟩ : ∃ N, nDigits u = N := ⟨_, rfl⟩
  have HI : Hid (nDigits u = N) := hN
  rw [hN] at hnd
  clear hN
  go_enter Tryd.func52, Tryd.ntmps52
  go_wp2_with (go_at_call 59; refine (c33 _).mono ?_; rintro e w1 ⟨rfl, rfl⟩)
  go_loopw [4, 5, 9] (fun r f i wr => ∃ k : Nat, k < N ∧ r = .int .u64 ((u / 10 ^ k : Nat) : Int) ∧ i = .int .i64 (k : Int) ∧ wr = dw w (lowD u k)) (fun _ _ i _ => 20 - (Lib.intOf i).toNat)
  case atStart => exact ⟨0, by have := nDigits_pos u; rw [HI.out] at this; exact this, by simp, rfl, by rfl⟩
  case round =>
    obtain ⟨k, hk, rfl, rfl, rfl⟩ := hrel
    have hl := lowD_length u k
    have hcl := dw_cell w (lowD u k) (by omega) (19 - k) (by omega)
    have hkz : (k : Int) < 20 := by omega
    generalize hr : u / 10 ^ k = r at *
    have hrb : r < 18446744073709551616 := by rw [← hr]; exact Nat.lt_of_le_of_lt (Nat.div_le_self _ _) (by omega)
    by_cases hlast : k + 1 < N
    · have hne : ¬ ((r : Int) / 10 = 0) := by
        rcases nDigits_rest u (k + 1) (by rw [HI.out]; exact hlast) with h0 | h0
        · omega
        · rw [Nat.pow_succ, ← Nat.div_div_eq_div_mul, hr] at h0; omega
      have HW : Hid ((cellsB (dblk (lowD u k))).set (19 - k) (.int .u8 (48 + (r : Int) % 10)) = cellsB (dblk (lowD u (k + 1)))) := by
        rw [lowD, hr]
        exact cells_set _ _ k hl (by omega) _ (dig_byte r)
      have HR : Hid (u / 10 ^ (k + 1) = r / 10) := by
        show _ = _
        rw [Nat.pow_succ, ← Nat.div_div_eq_div_mul, hr]
      go_wp2
      exact ⟨⟨k + 1, hlast, by rw [HR.out]; rfl, by go_num, by rw [HW.out]⟩, by simp [Lib.intOf]; omega⟩
    · have hkN : k + 1 = N := by omega
      have hne : (r : Int) / 10 = 0 := by
        have h0 := nDigits_done u
        rw [HI.out, ← hkN, Nat.pow_succ, ← Nat.div_div_eq_div_mul, hr] at h0; omega
      have hW : (cellsB (dblk (lowD u k))).set (19 - k) (.int .u8 (48 + (r : Int) % 10)) = cellsB (dblk (decDigits u)) := by
        rw [← lowD_all u, HI.out, ← hkN, lowD, hr]
        exact cells_set _ _ k hl (by omega) _ (dig_byte r)
      have hdl : (decDigits u).length = k + 1 := by rw [decDigits_length, HI.out, hkN]
      by_cases hn : n < 0
      · have hcl2 := dw_cell w (decDigits u) (by omega) (19 - k - 1) (by omega)
        have hget : (cellsB (dblk (decDigits u)))[19 - k - 1]? = some (.int .u8 (((dblk (decDigits u)).getD (19 - k - 1) 0).toNat : Int)) := cellsB_get _ _ (by rw [dblk_length _ (by omega)]; omega)
        have hW2 : (cellsB (dblk (decDigits u))).set (19 - k - 1) (.int .u8 45) = cellsB (dblk (45 :: decDigits u)) := cells_set _ 45 (k + 1) hdl (by omega) _ rfl
        have cv : ∀ c, (convert 35 9 (.slice (some ⟨w.heap.size, 19 - k - 1, none⟩) (k + 2) c)).run Tryd.prog (dw w (45 :: decDigits u)) = .ok (.string (str (45 :: decDigits u))) (dw w (45 :: decDigits u)) := fun c => dw_conv w _ (k + 2) (19 - k - 1) c (by simp [hdl]) (by omega) (by omega)
        have sl := fun W => slice50 W w.heap.size (19 - k - 1) (k + 2) (19 - (k : Int) - 1) (by omega) (by omega) (by omega)
        have HQ : Hid (itoa n = 45 :: decDigits u) := by show _ = _; unfold itoa; rw [if_pos hn, hu]
        clear hdl hkN
        go_wp2
        go_ret
        exact ⟨by rw [HQ.out]; rfl, al _ _⟩
      · have cv : ∀ c, (convert 35 9 (.slice (some ⟨w.heap.size, 19 - k, none⟩) (k + 1) c)).run Tryd.prog (dw w (decDigits u)) = .ok (.string (str (decDigits u))) (dw w (decDigits u)) := fun c => dw_conv w _ (k + 1) (19 - k) c hdl (by omega) (by omega)
        have sl := fun W => slice50 W w.heap.size (19 - k) (k + 1) (19 - (k : Int)) (by omega) (by omega) (by omega)
        have HQ : Hid (itoa n = decDigits u) := by
          show _ = _
          unfold itoa; rw [if_neg hn, show n.toNat = u by omega]
        clear hdl hkN
        go_wp2
        go_ret
        exact ⟨by rw [HQ.out]; rfl, al _ _⟩

end Go.Proofs.YthebpkcnhghofaaDoor
