/- Plain facts on values as bytes: the order of bytes, a number's eight bytes, the value that bytes begin with, numerals. No program in this text. -/
import Derived.Test.YtipnaphikbjhbaaDoorPlain
import Derived.Lib.Bytealg
import Derived.Lib.Small
import Derived.Lib.ItoaNum
import Derived.Lib.ParseIntBTie
namespace Go.Proofs.YtipnaphikbjhbaaDoor
open Go.Lib

/-! ### the order of bytes -/
theorem cb_self : ∀ a : Bs, compareBytes a a = 0
  | [] => rfl
  | x :: a => by
    unfold compareBytes
    rw [if_neg (UInt8.lt_irrefl x), if_neg (UInt8.lt_irrefl x), cb_self a]
theorem cb_zero : ∀ a b : Bs, compareBytes a b = 0 → a = b
  | [], [], _ => rfl
  | [], _ :: _, h => by simp [compareBytes] at h
  | _ :: _, [], h => by simp [compareBytes] at h
  | x :: a, y :: b, h => by
    unfold compareBytes at h
    split at h
    · simp at h
    · split at h
      · simp at h
      · rename_i h1 h2
        rw [UInt8.le_antisymm (UInt8.not_lt.1 h2) (UInt8.not_lt.1 h1), cb_zero a b h]
theorem cb_three : ∀ a b : Bs, compareBytes a b = -1 ∨ compareBytes a b = 0 ∨ compareBytes a b = 1
  | [], [] => .inr (.inl rfl)
  | [], _ :: _ => .inl rfl
  | _ :: _, [] => .inr (.inr rfl)
  | x :: a, y :: b => by
    unfold compareBytes
    split
    · exact .inl rfl
    · split
      · exact .inr (.inr rfl)
      · exact cb_three a b
theorem cb_turn : ∀ a b : Bs, compareBytes b a = -compareBytes a b
  | [], [] => rfl
  | [], _ :: _ => rfl
  | _ :: _, [] => rfl
  | x :: a, y :: b => by
    unfold compareBytes
    by_cases h1 : x < y
    · have h2 : ¬ y < x := fun h => by rw [UInt8.lt_iff_toNat_lt] at *; omega
      simp [h1, h2]
    · by_cases h2 : y < x
      · simp [h1, h2]
      · simp only [h1, h2, if_false]; exact cb_turn a b
theorem cb_trans : ∀ a b c : Bs, compareBytes a b ≤ 0 → compareBytes b c ≤ 0 → compareBytes a c ≤ 0 ∧ ((compareBytes a b < 0 ∨ compareBytes b c < 0) → compareBytes a c < 0)
  | [], [], [], _, _ => by simp [compareBytes]
  | [], [], _ :: _, _, _ => by simp [compareBytes]
  | [], _ :: _, [], _, h => by simp [compareBytes] at h
  | [], _ :: _, _ :: _, _, _ => by simp [compareBytes]
  | _ :: _, [], _, h, _ => by simp [compareBytes] at h
  | _ :: _, _ :: _, [], _, h => by simp [compareBytes] at h
  | x :: a, y :: b, z :: c, h1, h2 => by
    have ih := cb_trans a b c
    unfold compareBytes at h1 h2 ⊢
    simp only [UInt8.lt_iff_toNat_lt] at *
    by_cases e1 : x.toNat < y.toNat
    · by_cases e2 : y.toNat < z.toNat
      · rw [if_pos (by omega : x.toNat < z.toNat)]; simp
      · by_cases e3 : z.toNat < y.toNat
        · simp [e2, e3] at h2
        · rw [if_pos (by omega : x.toNat < z.toNat)]; simp
    · by_cases e1' : y.toNat < x.toNat
      · simp [e1, e1'] at h1
      · have exy : x.toNat = y.toNat := by omega
        rw [exy]
        simp only [e1, e1', if_false] at h1
        by_cases e2 : y.toNat < z.toNat
        · rw [if_pos e2]; simp
        · by_cases e3 : z.toNat < y.toNat
          · simp [e2, e3] at h2
          · simp only [e2, e3, if_false] at h2
            simp only [e2, e3, if_false, Nat.lt_irrefl]
            exact ih h1 h2

theorem ci_three (x y : Int) : (x < y ∧ compareInt x y = -1) ∨ (x = y ∧ compareInt x y = 0) ∨ (y < x ∧ compareInt x y = 1) := by
  unfold compareInt
  by_cases h : x < y
  · exact .inl ⟨h, by simp [h]⟩
  · by_cases h' : y < x
    · exact .inr (.inr ⟨h', by simp [h, h']⟩)
    · exact .inr (.inl ⟨by omega, by simp [h, h']⟩)

/-- Which of two values comes first. -/
def cmpV (k n : Int) (s : Bs) (k' n' : Int) (s' : Bs) : Int := if k ≠ k' then compareInt k k' else if n ≠ n' then compareInt n n' else compareBytes s s'

theorem cmpV_turn (k n : Int) (s : Bs) (k' n' : Int) (s' : Bs) : cmpV k' n' s' k n s = -cmpV k n s k' n' s' := by
  have h1 := ci_three k k'
  have h2 := ci_three k' k
  have h3 := ci_three n n'
  have h4 := ci_three n' n
  unfold cmpV
  by_cases hk : k = k'
  · subst hk
    by_cases hn : n = n'
    · subst hn
      simp only [ne_eq, not_true_eq_false, if_false]
      exact cb_turn s s'
    · simp only [ne_eq, not_true_eq_false, if_false, hn, Ne.symm hn, not_false_eq_true, if_true]
      omega
  · simp only [ne_eq, hk, Ne.symm hk, not_false_eq_true, if_true]
    omega
theorem cmpV_self (k n : Int) (s : Bs) : cmpV k n s k n s = 0 := by simp [cmpV, cb_self]
theorem cmpV_zero {k n : Int} {s : Bs} {k' n' : Int} {s' : Bs} (h : cmpV k n s k' n' s' = 0) : k = k' ∧ n = n' ∧ s = s' := by
  have h1 := ci_three k k'
  have h3 := ci_three n n'
  unfold cmpV at h
  by_cases hk : k = k'
  · by_cases hn : n = n'
    · simp only [hk, hn, ne_eq, not_true_eq_false, if_false] at h
      exact ⟨hk, hn, cb_zero _ _ h⟩
    · simp only [hk, hn, ne_eq, not_true_eq_false, if_false, not_false_eq_true, if_true] at h
      omega
  · simp only [ne_eq, hk, not_false_eq_true, if_true] at h
    omega
theorem cmpV_three (k n : Int) (s : Bs) (k' n' : Int) (s' : Bs) : cmpV k n s k' n' s' = -1 ∨ cmpV k n s k' n' s' = 0 ∨ cmpV k n s k' n' s' = 1 := by
  have h1 := ci_three k k'
  have h3 := ci_three n n'
  have h5 := cb_three s s'
  unfold cmpV
  split
  · omega
  · split
    · omega
    · exact h5
theorem cmpV_trans (k n : Int) (s : Bs) (k' n' : Int) (s' : Bs) (k'' n'' : Int) (s'' : Bs) (h1 : cmpV k n s k' n' s' ≤ 0) (h2 : cmpV k' n' s' k'' n'' s'' ≤ 0) :
    cmpV k n s k'' n'' s'' ≤ 0 ∧ ((cmpV k n s k' n' s' < 0 ∨ cmpV k' n' s' k'' n'' s'' < 0) → cmpV k n s k'' n'' s'' < 0) := by
  have a1 := ci_three k k'
  have a2 := ci_three k' k''
  have a3 := ci_three k k''
  have b1 := ci_three n n'
  have b2 := ci_three n' n''
  have b3 := ci_three n n''
  have c := cb_trans s s' s''
  unfold cmpV at *
  simp only [ne_eq, ite_not] at *
  by_cases hk : k = k'
  · by_cases hk2 : k' = k''
    · have hk3 : k = k'' := by omega
      rw [if_pos hk] at h1 ⊢
      rw [if_pos hk2] at h2 ⊢
      rw [if_pos hk3]
      by_cases hn : n = n'
      · by_cases hn2 : n' = n''
        · have hn3 : n = n'' := by omega
          rw [if_pos hn] at h1 ⊢
          rw [if_pos hn2] at h2 ⊢
          rw [if_pos hn3]
          exact c h1 h2
        · have hn3 : ¬ n = n'' := by omega
          rw [if_pos hn] at h1 ⊢
          rw [if_neg hn2] at h2 ⊢
          rw [if_neg hn3]
          omega
      · rw [if_neg hn] at h1 ⊢
        by_cases hn2 : n' = n''
        · have hn3 : ¬ n = n'' := by omega
          rw [if_pos hn2] at h2 ⊢
          rw [if_neg hn3]
          omega
        · rw [if_neg hn2] at h2 ⊢
          have hn3 : ¬ n = n'' := by omega
          rw [if_neg hn3]
          omega
    · have hk3 : ¬ k = k'' := by omega
      rw [if_neg hk2] at h2 ⊢
      rw [if_neg hk3]
      omega
  · rw [if_neg hk] at h1 ⊢
    by_cases hk2 : k' = k''
    · have hk3 : ¬ k = k'' := by omega
      rw [if_neg hk3]
      omega
    · rw [if_neg hk2] at h2 ⊢
      have hk3 : ¬ k = k'' := by omega
      rw [if_neg hk3]
      omega

/-! ### a number's bytes -/
/-- The number that bytes are, the highest first. -/
def num : Bs → Nat
  | [] => 0
  | b :: t => b.toNat * 256 ^ t.length + num t
theorem num_lt : ∀ l : Bs, num l < 256 ^ l.length
  | [] => by simp [num]
  | b :: t => by
    have := num_lt t
    have hb : b.toNat < 256 := b.toNat_lt
    simp only [num, List.length_cons, Nat.pow_succ]
    have h2 : b.toNat * 256 ^ t.length ≤ 255 * 256 ^ t.length := Nat.mul_le_mul_right _ (by omega)
    omega
theorem num_cmp : ∀ a b : Bs, a.length = b.length → compareBytes a b = compareInt (num a) (num b)
  | [], [], _ => by simp [compareBytes, compareInt]
  | [], _ :: _, h => by simp at h
  | _ :: _, [], h => by simp at h
  | x :: a, y :: b, h => by
    simp only [List.length_cons, Nat.add_right_cancel_iff] at h
    have ih := num_cmp a b h
    have ha := num_lt a
    have hb := num_lt b
    unfold compareBytes
    simp only [UInt8.lt_iff_toNat_lt, num]
    rw [← h] at hb ⊢
    by_cases e1 : x.toNat < y.toNat
    · rw [if_pos e1]
      have h2 : (x.toNat + 1) * 256 ^ a.length ≤ y.toNat * 256 ^ a.length := Nat.mul_le_mul_right _ e1
      rw [Nat.add_mul] at h2
      rcases ci_three ((x.toNat * 256 ^ a.length + num a : Nat) : Int) ((y.toNat * 256 ^ a.length + num b : Nat) : Int) with ⟨_, e⟩ | ⟨e, _⟩ | ⟨e, _⟩
      · exact e.symm
      · omega
      · omega
    · rw [if_neg e1]
      by_cases e2 : y.toNat < x.toNat
      · rw [if_pos e2]
        have h2 : (y.toNat + 1) * 256 ^ a.length ≤ x.toNat * 256 ^ a.length := Nat.mul_le_mul_right _ e2
        rw [Nat.add_mul] at h2
        rcases ci_three ((x.toNat * 256 ^ a.length + num a : Nat) : Int) ((y.toNat * 256 ^ a.length + num b : Nat) : Int) with ⟨e, _⟩ | ⟨e, _⟩ | ⟨_, e⟩
        · omega
        · omega
        · exact e.symm
      · rw [if_neg e2, ih]
        have exy : x.toNat = y.toNat := by omega
        rw [exy]
        unfold compareInt
        simp

/-- A number's eight bytes, the highest first. -/
def be8 (u : Nat) : Bs := [UInt8.ofNat (u / 256 / 256 / 256 / 256 / 256 / 256 / 256), UInt8.ofNat (u / 256 / 256 / 256 / 256 / 256 / 256 % 256), UInt8.ofNat (u / 256 / 256 / 256 / 256 / 256 % 256), UInt8.ofNat (u / 256 / 256 / 256 / 256 % 256), UInt8.ofNat (u / 256 / 256 / 256 % 256), UInt8.ofNat (u / 256 / 256 % 256), UInt8.ofNat (u / 256 % 256), UInt8.ofNat (u % 256)]
theorem be8_length (u : Nat) : (be8 u).length = 8 := rfl
theorem num_be8 (u : Nat) (hu : u < 18446744073709551616) : num (be8 u) = u := by
  have h7 : (UInt8.ofNat (u / 256 / 256 / 256 / 256 / 256 / 256 / 256)).toNat = u / 256 / 256 / 256 / 256 / 256 / 256 / 256 := by
    rw [UInt8.toNat_ofNat']; omega
  have hk : ∀ x : Nat, (UInt8.ofNat (x % 256)).toNat = x % 256 := fun x => by rw [UInt8.toNat_ofNat']; omega
  simp only [num, be8, List.length_cons, List.length_nil, h7, hk]
  omega
theorem num8_eq {b0 b1 b2 b3 b4 b5 b6 b7 : UInt8} : num [b0, b1, b2, b3, b4, b5, b6, b7] = ((((((b0.toNat * 256 + b1.toNat) * 256 + b2.toNat) * 256 + b3.toNat) * 256 + b4.toNat) * 256 + b5.toNat) * 256 + b6.toNat) * 256 + b7.toNat := by
  simp only [num, List.length_cons, List.length_nil]
  omega

/-! ### a value's bytes -/
/-- Can it be. -/
def rightV (k n : Int) (l : Bs) : Bool := if k = 1 then decide (l = []) else if k = 2 then (decide (n = 0) && rightR l) else false
theorem rightV_int {n : Int} {l : Bs} : rightV 1 n l = decide (l = []) := by simp [rightV]
theorem rightV_text {n : Int} {l : Bs} : rightV 2 n l = (decide (n = 0) && rightR l) := by simp [rightV]
theorem rightV_none {k n : Int} {l : Bs} (h1 : k ≠ 1) (h2 : k ≠ 2) : rightV k n l = false := by simp [rightV, h1, h2]
theorem rightV_cases {k n : Int} {l : Bs} (h : rightV k n l = true) : (k = 1 ∧ l = []) ∨ (k = 2 ∧ n = 0 ∧ rightR l = true) := by
  by_cases h1 : k = 1
  · subst h1; rw [rightV_int] at h; exact .inl ⟨rfl, by simpa using h⟩
  · by_cases h2 : k = 2
    · subst h2; rw [rightV_text] at h; simp only [Bool.and_eq_true, decide_eq_true_eq] at h; exact .inr ⟨rfl, h⟩
    · rw [rightV_none h1 h2] at h; cases h

/-- A value's bytes. -/
def bytesV (k n : Int) (l : Bs) : Bs := if k = 1 then 1 :: be8 (n + 9223372036854775808).toNat else 2 :: (l ++ [0])
theorem bytesV_int (n : Int) (l : Bs) : bytesV 1 n l = 1 :: be8 (n + 9223372036854775808).toNat := by simp [bytesV]
theorem bytesV_text (n : Int) (l : Bs) : bytesV 2 n l = 2 :: (l ++ [0]) := by simp [bytesV]

theorem decodeL_four (l : Bs) : (decodeL l).2 ≤ 4 := by
  rw [decodeL_N]
  rcases decodeN_shape l.length (l.getD 0 0).toNat (l.getD 1 0).toNat (l.getD 2 0).toNat (l.getD 3 0).toNat with ⟨h0, e⟩ | ⟨h0, h1, h2, h3, e⟩ | ⟨h0, h1, h2, h3, h4, h5, e⟩ | ⟨h0, h1, h2, h3, h4, h5, h6, e⟩ | e <;> rw [e] <;> simp
theorem right_len {l : Bs} (h : rightR l = true) : l.length ≤ 32 := by
  simp only [rightR, Bool.and_eq_true, decide_eq_true_eq] at h
  have key : ∀ (k : Nat) (l : Bs), l.length ≤ k → l.length ≤ 4 * lenR l := by
    intro k
    induction k with
    | zero => intro l h; omega
    | succ k ih =>
      intro l h
      by_cases hne : l = []
      · subst hne; simp
      · have hd := drop_lt hne
        have := ih (l.drop (decodeL l).2) (by omega)
        have hw := decodeL_four l
        rw [lenR_step hne]
        rw [List.length_drop] at this hd
        omega
  have := key _ l (Nat.le_refl _)
  omega
theorem right_bytes {l : Bs} (h : rightR l = true) : ∀ b ∈ l, 32 ≤ b.toNat := by
  simp only [rightR, Bool.and_eq_true, okBytes, List.all_eq_true, okByte, decide_eq_true_eq] at h
  exact fun b hb => (h.2.2 b hb).1

theorem text_cmp : ∀ a b : Bs, (∀ x ∈ a, 32 ≤ x.toNat) → (∀ x ∈ b, 32 ≤ x.toNat) → ∀ p q : Bs, compareBytes (a ++ 0 :: p) (b ++ 0 :: q) = if a = b then compareBytes p q else compareBytes a b
  | [], [], _, _, p, q => by simp [compareBytes]
  | [], y :: b, _, hb, p, q => by
    have := hb y (by simp)
    have h : (0 : UInt8) < y := by rw [UInt8.lt_iff_toNat_lt]; show 0 < y.toNat; omega
    simp [compareBytes, h]
  | x :: a, [], ha, _, p, q => by
    have := ha x (by simp)
    have h : (0 : UInt8) < x := by rw [UInt8.lt_iff_toNat_lt]; show 0 < x.toNat; omega
    have h' : ¬ x < (0 : UInt8) := by rw [UInt8.lt_iff_toNat_lt]; show ¬ x.toNat < 0; omega
    simp [compareBytes, h]
  | x :: a, y :: b, ha, hb, p, q => by
    have ih := text_cmp a b (fun c hc => ha c (by simp [hc])) (fun c hc => hb c (by simp [hc])) p q
    simp only [List.cons_append, compareBytes, ih, List.cons.injEq]
    by_cases h1 : x < y
    · have hne : x ≠ y := fun e => by subst e; exact UInt8.lt_irrefl _ h1
      simp [h1, hne]
    · by_cases h2 : y < x
      · have hne : x ≠ y := fun e => by subst e; exact UInt8.lt_irrefl _ h2
        simp [h1, h2, hne]
      · obtain rfl : x = y := UInt8.le_antisymm (UInt8.not_lt.1 h2) (UInt8.not_lt.1 h1)
        simp [UInt8.lt_irrefl]

theorem cb_append_same : ∀ (a p q : Bs), compareBytes (a ++ p) (a ++ q) = compareBytes p q
  | [], _, _ => rfl
  | x :: a, p, q => by
    simp only [List.cons_append, compareBytes, UInt8.lt_irrefl, if_false]
    exact cb_append_same a p q
theorem cb_append_len : ∀ (a b p q : Bs), a.length = b.length → a ≠ b → compareBytes (a ++ p) (b ++ q) = compareBytes a b
  | [], [], _, _, _, h => absurd rfl h
  | [], _ :: _, _, _, h, _ => by simp at h
  | _ :: _, [], _, _, h, _ => by simp at h
  | x :: a, y :: b, p, q, h, hne => by
    simp only [List.length_cons, Nat.add_right_cancel_iff] at h
    simp only [List.cons_append, compareBytes]
    by_cases h1 : x < y
    · simp [h1]
    · by_cases h2 : y < x
      · simp [h1, h2]
      · obtain rfl : x = y := UInt8.le_antisymm (UInt8.not_lt.1 h2) (UInt8.not_lt.1 h1)
        simp only [h1, if_false]
        exact cb_append_len a b p q h (fun e => hne (by rw [e]))

/-- A number in its range. -/
def inI64 (n : Int) : Prop := -9223372036854775808 ≤ n ∧ n ≤ 9223372036854775807

theorem be8_inj {u v : Nat} (hu : u < 18446744073709551616) (hv : v < 18446744073709551616) (h : be8 u = be8 v) : u = v := by
  rw [← num_be8 u hu, ← num_be8 v hv, h]
theorem be8_cmp {n n' : Int} (h : inI64 n) (h' : inI64 n') : compareBytes (be8 (n + 9223372036854775808).toNat) (be8 (n' + 9223372036854775808).toNat) = compareInt n n' := by
  unfold inI64 at h h'
  rw [num_cmp _ _ (by simp only [be8_length]), num_be8 _ (by omega), num_be8 _ (by omega)]
  unfold compareInt
  have e1 : (((n + 9223372036854775808).toNat : Nat) : Int) = n + 9223372036854775808 := by omega
  have e2 : (((n' + 9223372036854775808).toNat : Nat) : Int) = n' + 9223372036854775808 := by omega
  rw [e1, e2]
  congr 1
  · apply propext; omega
  · congr 1; apply propext; omega

/-- The order of bytes is that of values, whatever follows them: where they are the same, what follows decides. -/
theorem bytesV_cmp {k n : Int} {s : Bs} {k' n' : Int} {s' : Bs} (hr : rightV k n s = true) (hr' : rightV k' n' s' = true) (h : inI64 n) (h' : inI64 n') (p q : Bs) :
    compareBytes (bytesV k n s ++ p) (bytesV k' n' s' ++ q) = if cmpV k n s k' n' s' = 0 then compareBytes p q else cmpV k n s k' n' s' := by
  rcases rightV_cases hr with ⟨rfl, rfl⟩ | ⟨rfl, rfl, hs⟩ <;> rcases rightV_cases hr' with ⟨rfl, rfl⟩ | ⟨rfl, rfl, hs'⟩
  · rw [bytesV_int, bytesV_int]
    simp only [List.cons_append, compareBytes, UInt8.lt_irrefl, if_false]
    by_cases hn : n = n'
    · subst hn
      rw [cb_append_same, if_pos (cmpV_self _ _ _)]
    · have hc : cmpV 1 n [] 1 n' [] = compareInt n n' := by simp [cmpV, hn]
      have hne : compareInt n n' ≠ 0 := by have := ci_three n n'; omega
      rw [hc, if_neg hne, cb_append_len _ _ _ _ (by simp only [be8_length]), be8_cmp h h']
      intro e
      unfold inI64 at h h'
      have := be8_inj (by omega) (by omega) e
      omega
  · rw [bytesV_int, bytesV_text]; simp [compareBytes, cmpV, compareInt]
  · rw [bytesV_int, bytesV_text]; simp [compareBytes, cmpV, compareInt]
  · rw [bytesV_text, bytesV_text]
    simp only [List.cons_append, compareBytes, UInt8.lt_irrefl, if_false, List.append_assoc, List.nil_append]
    rw [text_cmp s s' (right_bytes hs) (right_bytes hs')]
    have hc : cmpV 2 0 s 2 0 s' = compareBytes s s' := by simp [cmpV]
    rw [hc]
    by_cases e : s = s'
    · subst e; simp [cb_self]
    · rw [if_neg e, if_neg (fun h => e (cb_zero _ _ h))]

/-! ### the value that bytes begin with -/
/-- The bytes ahead of the first 0. -/
def cutZ : Bs → Option Bs
  | [] => none
  | b :: t => if b = 0 then some [] else (cutZ t).map fun x => b :: x
/-- The value, and how many bytes: kind, number, text, count. -/
def readV : Bs → Option (Int × Int × Bs × Nat)
  | [] => none
  | b :: t =>
    if b = 1 then (if 8 ≤ t.length then some (1, (num (t.take 8) : Int) - 9223372036854775808, [], 9) else none)
    else if b = 2 then (match cutZ t with
      | none => none
      | some x => if rightR x then some (2, 0, x, x.length + 2) else none)
    else none

theorem cutZ_append (l p : Bs) (h : ∀ b ∈ l, 32 ≤ b.toNat) : cutZ (l ++ 0 :: p) = some l := by
  induction l with
  | nil => simp [cutZ]
  | cons b t ih =>
    have hb : b ≠ 0 := fun e => by have := h b (by simp); rw [e] at this; simp at this
    simp only [List.cons_append, cutZ, if_neg hb, ih (fun c hc => h c (by simp [hc])), Option.map_some]
theorem readV_bytes {k n : Int} {l : Bs} (hr : rightV k n l = true) (h : inI64 n) (p : Bs) : readV (bytesV k n l ++ p) = some (k, n, l, (bytesV k n l).length) := by
  rcases rightV_cases hr with ⟨rfl, rfl⟩ | ⟨rfl, rfl, hs⟩
  · rw [bytesV_int]
    unfold inI64 at h
    have ht : (be8 (n + 9223372036854775808).toNat ++ p).take 8 = be8 (n + 9223372036854775808).toNat := by
      rw [List.take_append_of_le_length (by rw [be8_length]; omega), List.take_of_length_le (by rw [be8_length]; omega)]
    simp only [List.cons_append, readV, if_true, List.length_append, be8_length, ht, num_be8 (n + 9223372036854775808).toNat (by omega), List.length_cons]
    rw [if_pos (by omega)]
    congr 3
    omega
  · rw [bytesV_text]
    simp only [List.cons_append, List.append_assoc, List.nil_append, readV, cutZ_append l p (right_bytes hs), hs, if_true, List.length_cons, List.length_append, List.length_nil]
    rfl

/-! ### numerals -/
theorem numeral_bytes (u : Nat) : ∀ b ∈ decDigits u, 48 ≤ b.toNat ∧ b.toNat ≤ 57 := by
  induction u using Nat.strongRecOn with
  | _ u ih =>
    by_cases h : u < 10
    · rw [decDigits, dif_pos h]
      intro b hb
      simp only [List.mem_singleton] at hb
      subst hb
      rw [UInt8.toNat_ofNat']; omega
    · rw [decDigits, dif_neg h]
      intro b hb
      rw [List.mem_append, List.mem_singleton] at hb
      rcases hb with hb | rfl
      · exact ih (u / 10) (by omega) b hb
      · rw [UInt8.toNat_ofNat']; omega
theorem numeral_ne (u : Nat) : decDigits u ≠ [] := by
  intro e
  have := decDigits_length u
  have h2 := nDigits_pos u
  rw [e] at this; simp at this; omega

/-- Digits read from the left, on top of what stands ahead. -/
theorem parse_numeral (u : Nat) : ∀ (r : Bs), u < 18446744073709551616 → parseUint10 0 (decDigits u ++ r) = parseUint10 u r := by
  induction u using Nat.strongRecOn with
  | _ u ih =>
    intro r hu
    by_cases h : u < 10
    · rw [decDigits, dif_pos h]
      have e : (UInt8.ofNat (48 + u)).toNat = 48 + u := by rw [UInt8.toNat_ofNat']; omega
      simp only [List.cons_append, List.nil_append, parseUint10, e]
      rw [if_pos (by omega), if_neg (by omega), if_neg (by omega)]
      congr 1
      omega
    · rw [decDigits, dif_neg h, List.append_assoc, ih (u / 10) (by omega) _ (by omega)]
      have e : (UInt8.ofNat (48 + u % 10)).toNat = 48 + u % 10 := by rw [UInt8.toNat_ofNat']; omega
      simp only [List.cons_append, List.nil_append, parseUint10, e]
      rw [if_pos (by omega), if_neg (by omega), if_neg (by omega)]
      congr 1
      omega
theorem mag_numeral (u : Nat) (hu : u < 18446744073709551616) : parseMag (decDigits u) = .ok u := by
  unfold parseMag
  rw [if_neg (numeral_ne u)]
  have := parse_numeral u [] hu
  rw [List.append_nil] at this
  rw [this]; rfl
/-- A numeral is read as its number. -/
theorem parse_itoa (n : Int) (h : inI64 n) : parseIntB 64 (itoa n) = .ok n := by
  rw [parseIntB_64]
  unfold inI64 at h
  unfold itoa
  by_cases hn : n < 0
  · rw [if_pos hn]
    unfold atoiAll
    have e : (45 : UInt8).toNat = 45 := rfl
    simp only [e, or_true, if_true, mag_numeral n.natAbs (by omega), not_true_eq_false, false_and, if_false, true_and]
    rw [if_neg (by omega)]
    congr 1
    omega
  · rw [if_neg hn]
    cases hd : decDigits n.toNat with
    | nil => exact absurd hd (numeral_ne _)
    | cons c r =>
      have hc := numeral_bytes n.toNat c (by rw [hd]; simp)
      have h1 : ¬ c.toNat = 43 := by omega
      have h2 : ¬ c.toNat = 45 := by omega
      have hm := mag_numeral n.toNat (by omega)
      rw [hd] at hm
      unfold atoiAll
      simp only [h1, h2, or_self, if_false, hm, not_false_eq_true, true_and, false_and]
      rw [if_neg (by omega)]
      congr 1
      omega
theorem itoa_ne (n : Int) : itoa n ≠ [] := by
  unfold itoa
  split
  · simp
  · exact numeral_ne _
theorem itoa_first (n : Int) {b : UInt8} {t : Bs} (h : itoa n = b :: t) : b ≠ 39 := by
  intro e
  subst e
  unfold itoa at h
  split at h
  · have := (List.cons.inj h).1
    exact absurd this (by decide)
  · have := numeral_bytes n.toNat 39 (by rw [h]; simp)
    exact absurd this.1 (by decide)
/-- A text that opens with a mark is no number. -/
theorem parse_mark (t : Bs) : parseIntB 64 (39 :: t) = .syntax := by
  rw [parseIntB_64]
  unfold atoiAll
  have e : (39 : UInt8).toNat = 39 := rfl
  have hm : parseMag (39 :: t) = .syntax := by
    unfold parseMag
    rw [if_neg (by simp)]
    unfold parseUint10
    rw [e, if_neg (by omega)]
  simp [hm]

/-! ### a value's text -/
/-- A value's text. -/
def printV (k n : Int) (l : Bs) : Bs := if k = 1 then itoa n else 39 :: dbl l ++ [39]
theorem printV_int (n : Int) (l : Bs) : printV 1 n l = itoa n := by simp [printV]
theorem printV_text (n : Int) (l : Bs) : printV 2 n l = 39 :: dbl l ++ [39] := by simp [printV]
theorem unq_quote {l : Bs} (h : rightR l = true) : unq (39 :: dbl l ++ [39]) = (l, (39 :: dbl l ++ [39]).length, 0) := by
  have hs := scan_dbl [] (by simp) l
  rw [List.cons_append]
  simp only [unq, if_true, hs, h]
  simp

end Go.Proofs.YtipnaphikbjhbaaDoor
