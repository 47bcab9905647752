/- Slices of bytes that are read; value.fromHighest. -/
import Derived.Test.YthfkmedpcmiibaaDoorOrd
import Derived.Test.YthfkmedpcmiibaaDoorRunes
import Derived.Laws.Bits64b
namespace Go.Proofs.YthfkmedpcmiibaaDoor
open Go.RowKit Go.Lib

/-- From this place on the cells hold these bytes. -/
def At (w : World) (b o : Nat) (l : Bs) : Prop := ∀ i, i < l.length → w.cell? ⟨b, o + i, none⟩ = some (.int .u8 ((l.getD i 0).toNat : Int))
/-- The slice v reads as the bytes l. -/
def SB (w : World) (v : Value) (l : Bs) : Prop := (∃ a c, v = .slice a 0 c ∧ l = []) ∨ (∃ b o c, v = .slice (some ⟨b, o, none⟩) l.length c ∧ 0 < l.length ∧ l.length ≤ c ∧ c ≤ maxLen ∧ At w b o l)

theorem At.below {w w' : World} {b o : Nat} {l : Bs} (h : At w b o l) (hb : Below w.heap.size w w') : At w' b o l := fun i hi => by
  rw [hb.cell (World.block_lt_of_cell? _ _ (h i hi))]; exact h i hi
theorem SB.below {w w' : World} {v : Value} {l : Bs} (h : SB w v l) (hb : Below w.heap.size w w') : SB w' v l := by
  rcases h with h | ⟨b, o, c, h1, h2, h3, h4, h5⟩
  · exact .inl h
  · exact .inr ⟨b, o, c, h1, h2, h3, h4, h5.below hb⟩
theorem At.head {w : World} {b o : Nat} {x : UInt8} {l : Bs} (h : At w b o (x :: l)) : w.cell? ⟨b, o, none⟩ = some (.int .u8 (x.toNat : Int)) := by
  have := h 0 (by simp)
  simpa using this
theorem At.tail {w : World} {b o : Nat} {x : UInt8} {l : Bs} (h : At w b o (x :: l)) : At w b (o + 1) l := fun i hi => by
  have := h (i + 1) (by simp; omega)
  rw [List.getD_cons_succ, show o + (i + 1) = o + 1 + i by omega] at this
  exact this
theorem At.take {w : World} {b o : Nat} {l : Bs} (n : Nat) (h : At w b o l) : At w b o (l.take n) := fun i hi => by
  rw [List.length_take] at hi
  rw [h i (by omega)]
  simp [List.getD, show i < n by omega]
theorem At.drop {w : World} {b o : Nat} {l : Bs} (n : Nat) (h : At w b o l) : At w b (o + n) (l.drop n) := fun i hi => by
  rw [List.length_drop] at hi
  have := h (n + i) (by omega)
  rw [← Nat.add_assoc] at this
  rw [this]
  simp [List.getD]

theorem num_snoc (l : Bs) (b : UInt8) : num (l ++ [b]) = num l * 256 + b.toNat := by
  induction l with
  | nil => simp [num]
  | cons x t ih =>
    simp only [List.cons_append, num, ih, List.length_append, List.length_cons, List.length_nil, Nat.zero_add, Nat.pow_succ]
    rw [← Nat.mul_assoc, Nat.add_mul, Nat.add_assoc]
theorem num_take (l : Bs) (k : Nat) (h : k < l.length) : num (l.take (k + 1)) = num (l.take k) * 256 + (l.getD k 0).toNat := by
  rw [List.take_succ_eq_append_getElem h, num_snoc]
  simp [List.getD, h]
theorem num_take_lt (l : Bs) (k : Nat) : num (l.take k) < 256 ^ k := by
  have := num_lt (l.take k)
  have h2 : (l.take k).length ≤ k := List.length_take_le _ _
  exact Nat.lt_of_lt_of_le this (Nat.pow_le_pow_right (by decide) h2)
theorem or_low (a b : Nat) (h : b < 256) : (a * 256) ||| b = a * 256 + b := by
  have := Nat.shiftLeft_add_eq_or_of_lt (i := 8) (b := b) (by simpa using h) a
  rw [Nat.shiftLeft_eq] at this
  simpa using this.symm
theorem shl_or (a b : Nat) (ha : a < 72057594037927936) (hb : b < 256) : bits .or .u64 ((a : Int) * 256) (b : Int) = ((a * 256 + b : Nat) : Int) := by
  have := bits_or_u64_nat (a * 256) b (by omega) (by omega)
  rw [or_low _ _ hb] at this
  rw [← this]
  rfl

set_option maxRecDepth 100000 in
set_option maxHeartbeats 2000000 in
theorem from47 (b o c : Nat) (l : Bs) (w : World) (h8 : 8 ≤ l.length) (hm : l.length ≤ maxLen) (hat : At w b o l) :
    Calls Tryd.prog 73 #[.slice (some ⟨b, o, none⟩) l.length c] w fun e w' => e = .returned (.int .u64 (num (l.take 8) : Nat)) ∧ w' = w := by
  unfold maxLen at hm
  go_enter Tryd.func73, Tryd.ntmps73
  go_wp2
  go_loop [3, 5] (fun u i => ∃ k : Nat, k ≤ 8 ∧ i = .int .i64 (k : Int) ∧ u = .int .u64 ((num (l.take k) : Nat) : Int)) (fun _ i => 8 - (intOf i).toNat)
  case atStart => exact ⟨0, by omega, rfl, rfl⟩
  case round =>
    obtain ⟨k, hk, rfl, rfl⟩ := hrel
    by_cases hlt : k < 8
    · have hc := hat k (by omega)
      have HN : Hid (num (l.take (k + 1)) = num (l.take k) * 256 + (l.getD k 0).toNat) := num_take l k (by omega)
      have hz : num (l.take k) < 72057594037927936 := Nat.lt_of_lt_of_le (num_take_lt l k) (Nat.le_trans (Nat.pow_le_pow_right (by decide) (show k ≤ 7 by omega)) (by decide))
      have hb := (l.getD k 0).toNat_lt
      have hso := shl_or _ _ hz hb
      generalize hu : num (l.take k) = u at *
      generalize hx : (l.getD k 0).toNat = x at *
      have hkz : (k : Int) < 8 := by omega
      have hkl : (k : Int) < (l.length : Int) := by omega
      go_wp2
      go_round
      case rel => exact ⟨k + 1, by omega, by go_num, by rw [HN.out, Int.natCast_add, Int.natCast_mul]; rfl⟩
      case measure => simp [intOf]; omega
    · have : k = 8 := by omega
      subst this
      go_wp2
      go_ret
      exact ⟨rfl, rfl⟩

end Go.Proofs.YthfkmedpcmiibaaDoor
