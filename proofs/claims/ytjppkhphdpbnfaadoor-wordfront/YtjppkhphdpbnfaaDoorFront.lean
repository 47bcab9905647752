/- Plain facts on the first runes of a text, and on what is read back of a quoted one. -/
import Derived.Test.YtjppkhphdpbnfaaDoorLaws
namespace Go.Proofs.YtjppkhphdpbnfaaDoor
open Go.Lib

/-- What is cut off behind a rune does not change it. -/
theorem decodeN_cut (n m b0 b1 b2 b3 c1 c2 c3 : Nat) (hmn : m ≤ n) (h1 : 1 < m → c1 = b1) (h2 : 2 < m → c2 = b2) (h3 : 3 < m → c3 = b3) (hw : (decodeN n b0 b1 b2 b3).2 ≤ m) :
    decodeN m b0 c1 c2 c3 = decodeN n b0 b1 b2 b3 := by
  rcases decodeN_shape m b0 c1 c2 c3 with ⟨a0, e⟩ | ⟨a0, a1, a2, a3, e⟩ | ⟨a0, a1, a2, a3, a4, a5, e⟩ | ⟨a0, a1, a2, a3, a4, a5, a6, e⟩ | e
  · rw [decodeN_ascii _ _ _ _ _ a0, decodeN_ascii _ _ _ _ _ a0]
  · obtain rfl := h1 a1
    rw [e]
    unfold decodeN
    rw [if_neg (by omega), if_pos ⟨a0, by omega, a2⟩, if_pos (by omega)]
  · obtain rfl := h1 (by omega)
    obtain rfl := h2 a1
    rw [e]
    unfold decodeN
    rw [if_neg (by omega), if_neg (by omega), if_pos ⟨a0, ⟨by omega, a2⟩, by omega, a3⟩, if_pos ⟨by omega, by omega⟩]
  · obtain rfl := h1 (by omega)
    obtain rfl := h2 (by omega)
    obtain rfl := h3 a1
    rw [e]
    unfold decodeN
    rw [if_neg (by omega), if_neg (by omega), if_neg (by omega), if_pos ⟨a0, ⟨by omega, a2⟩, ⟨by omega, a3⟩, by omega, a4⟩, if_pos ⟨by omega, by omega⟩]
  · rcases decodeN_shape n b0 b1 b2 b3 with ⟨x0, y⟩ | ⟨x0, x1, x2, x3, y⟩ | ⟨x0, x1, x2, x3, x4, x5, y⟩ | ⟨x0, x1, x2, x3, x4, x5, x6, y⟩ | y
    · rw [decodeN_ascii _ _ _ _ _ x0, decodeN_ascii _ _ _ _ _ x0]
    · rw [y] at hw
      simp only at hw
      obtain rfl := h1 (by omega)
      rw [y]
      unfold decodeN
      rw [if_neg (by omega), if_pos ⟨x0, by omega, x2⟩, if_pos (by omega)]
    · rw [y] at hw
      simp only at hw
      obtain rfl := h1 (by omega)
      obtain rfl := h2 (by omega)
      rw [y]
      unfold decodeN
      rw [if_neg (by omega), if_neg (by omega), if_pos ⟨x0, ⟨by omega, x2⟩, by omega, x3⟩, if_pos ⟨by omega, by omega⟩]
    · rw [y] at hw
      simp only at hw
      obtain rfl := h1 (by omega)
      obtain rfl := h2 (by omega)
      obtain rfl := h3 (by omega)
      rw [y]
      unfold decodeN
      rw [if_neg (by omega), if_neg (by omega), if_neg (by omega), if_pos ⟨x0, ⟨by omega, x2⟩, ⟨by omega, x3⟩, by omega, x4⟩, if_pos ⟨by omega, by omega⟩]
    · rw [e, y]

theorem decode_take {l : Bs} {j : Nat} (hne : l ≠ []) (hj : (decodeL l).2 ≤ j) : decodeL (l.take j) = decodeL l := by
  have hw := decodeL_width l
  have hle := decodeL_le l hne
  rw [decodeL_N] at hw hle hj
  rw [decodeL_N, decodeL_N, getD_takeU _ _ _ (by omega)]
  refine decodeN_cut _ _ _ _ _ _ _ _ _ (by rw [List.length_take]; omega) ?_ ?_ ?_ (by rw [List.length_take]; omega)
  · intro h
    rw [List.length_take] at h
    rw [getD_takeU _ _ _ (by omega)]
  · intro h
    rw [List.length_take] at h
    rw [getD_takeU _ _ _ (by omega)]
  · intro h
    rw [List.length_take] at h
    rw [getD_takeU _ _ _ (by omega)]

theorem front_facts : ∀ (N : Nat) (l : Bs), ∃ j, j ≤ l.length ∧ frontR N l = l.take j ∧ lenR (l.take j) ≤ N ∧ (lenR (l.take j) = N ∨ j = l.length) ∧ lenR (l.take j) + lenR (l.drop j) = lenR l
  | 0, l => ⟨0, Nat.zero_le _, by simp [frontR], by simp [lenR_nil], .inl (by simp [lenR_nil]), by simp [lenR_nil]⟩
  | N + 1, l => by
    by_cases hne : l = []
    · subst hne
      exact ⟨0, Nat.le_refl _, by simp [frontR], by simp [lenR_nil], .inr rfl, by simp [lenR_nil]⟩
    · obtain ⟨j, h1, h2, h3, h4, h5⟩ := front_facts N (l.drop (decodeL l).2)
      have hw := decodeL_width l
      have hle := decodeL_le l hne
      rw [List.length_drop] at h1 h4
      have hd : decodeL (l.take ((decodeL l).2 + j)) = decodeL l := decode_take hne (by omega)
      have hne2 : l.take ((decodeL l).2 + j) ≠ [] := by
        intro e
        have := congrArg List.length e
        have hl : 0 < l.length := List.length_pos_iff.2 hne
        rw [List.length_take, List.length_nil] at this
        omega
      have hlen : lenR (l.take ((decodeL l).2 + j)) = 1 + lenR ((l.drop (decodeL l).2).take j) := by
        rw [lenR_step hne2, hd]
        congr 2
        rw [List.drop_take]
        congr 1
        omega
      refine ⟨(decodeL l).2 + j, by omega, ?_, by omega, ?_, ?_⟩
      · rw [frontR_step N hne, h2, ← List.take_add]
      · rcases h4 with h4 | h4
        · left; omega
        · right; omega
      · rw [hlen, lenR_step hne, ← List.drop_drop]
        omega

/-- What is read back of a quoted text, whatever follows it but a mark. -/
theorem unq_quote {l t : Bs} (hr : rightR l = true) (ht : t.head? ≠ some 39) : unq (39 :: dbl l ++ [39] ++ t) = (l, (39 :: dbl l ++ [39]).length, 0) := by
  have e : 39 :: dbl l ++ [39] ++ t = 39 :: (dbl l ++ 39 :: t) := by simp
  rw [e, unq_mark, scan_dbl t ht l]
  simp [hr]

theorem quote_len {l : Bs} : (39 :: dbl l ++ [39]).length = l.length + 2 + l.count 39 := by
  simp [dbl_length]
  omega

end Go.Proofs.YtjppkhphdpbnfaaDoor
