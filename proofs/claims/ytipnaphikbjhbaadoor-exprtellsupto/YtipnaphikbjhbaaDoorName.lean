/- Names: word.Name and the reference's. -/
import Derived.Test.YtipnaphikbjhbaaDoorKey3
namespace Go.Proofs.YtipnaphikbjhbaaDoor
open Go.RowKit Go.Lib

def nameR (l : Bs) : Bool := (decide (1 ≤ l.length) && decide (l.length ≤ 8)) && (nameFrom true l && !keyR l)
theorem nameR_len {l : Bs} (h : ¬ (1 ≤ l.length ∧ l.length ≤ 8)) : nameR l = false := by
  have : (decide (1 ≤ l.length) && decide (l.length ≤ 8)) = false := by
    rw [← Bool.not_eq_true, Bool.and_eq_true, decide_eq_true_eq, decide_eq_true_eq]; exact h
  simp [nameR, this]
theorem nameR_else {l : Bs} (h1 : 1 ≤ l.length) (h2 : l.length ≤ 8) : nameR l = (nameFrom true l && !keyR l) := by simp [nameR, h1, h2]

def smallN (r : Nat) : Bool := decide (97 ≤ r) && decide (r ≤ 122)
def digitN (r : Nat) : Bool := decide (48 ≤ r) && decide (r ≤ 57)

theorem nameFrom_ok {first : Bool} {b : UInt8} {t : Bs} (h : (smallB b || (!first && (b.toNat == 95 || digitB b))) = true) : nameFrom first (b :: t) = nameFrom false t := by
  simp only [nameFrom, h, Bool.true_and]
theorem nameFrom_bad {first : Bool} {b : UInt8} {t : Bs} (h : (smallB b || (!first && (b.toNat == 95 || digitB b))) = false) : nameFrom first (b :: t) = false := by
  simp only [nameFrom, h, Bool.false_and]

/-- The rune at a place, against its first byte. -/
theorem rune_byte {s : ByteArray} {pos : Nat} (hp : pos < s.size) : ∃ b : UInt8, (bs s).drop pos = b :: (bs s).drop (pos + 1) ∧ smallN (Utf8.decode s pos).1 = smallB b ∧ digitN (Utf8.decode s pos).1 = digitB b ∧ ((Utf8.decode s pos).1 = 95 ↔ b.toNat = 95) ∧
    (b.toNat < 128 → (Utf8.decode s pos).2 = 1) ∧ (¬ b.toNat < 128 → smallB b = false ∧ digitB b = false ∧ b.toNat ≠ 95) := by
  have hcons := rest_cons hp
  have hdec := rest_decode s pos
  refine ⟨s[pos]'hp, hcons, ?_⟩
  generalize s[pos]'hp = b at hcons
  by_cases hlow : b.toNat < 128
  · rw [hcons, ascii_head hlow] at hdec
    rw [← hdec]
    exact ⟨rfl, rfl, Iff.rfl, fun _ => rfl, fun h => absurd hlow h⟩
  · have hh := (high_bytes _ (rest_ne hp) (by rw [hcons]; simpa using hlow)).1
    rw [hdec] at hh
    have e1 : smallB b = false := by simp [smallB]; omega
    have e2 : digitB b = false := by simp [digitB]; omega
    have e3 : smallN (Utf8.decode s pos).1 = false := by simp [smallN]; omega
    have e4 : digitN (Utf8.decode s pos).1 = false := by simp [digitN]; omega
    exact ⟨e3.trans e1.symm, e4.trans e2.symm, ⟨fun h => by omega, fun h => by omega⟩, fun h => absurd h hlow, fun _ => ⟨e1, e2, by omega⟩⟩

end Go.Proofs.YtipnaphikbjhbaaDoor
