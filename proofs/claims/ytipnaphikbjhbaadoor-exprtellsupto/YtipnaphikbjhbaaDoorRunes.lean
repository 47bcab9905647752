/- Contracts of word.Len, word.Front and word.closingMark: loops over a text's runes. -/
import Derived.Test.YtipnaphikbjhbaaDoorPlain
import Derived.Test.YtipnaphikbjhbaaDoorRows
import Derived.WalkKit
import Derived.WalkSpells
import Derived.WalkLawsBesides
import Derived.Laws.RangeAny
import Derived.Laws.RangeString
import Derived.Laws.Runes
import Derived.Below
namespace Go.Proofs.YtipnaphikbjhbaaDoor
open Go.RowKit Go.Lib

/-- A text's bytes. -/
abbrev bs (s : ByteArray) : Bs := s.data.toList
theorem bs_length (s : ByteArray) : (bs s).length = s.size := rfl

theorem rest_ne {s : ByteArray} {pos : Nat} (h : pos < s.size) : (bs s).drop pos ≠ [] := by
  intro e
  have := congrArg List.length e
  rw [List.length_drop, bs_length] at this
  simp at this; omega
theorem rest_nil {s : ByteArray} {pos : Nat} (h : ¬ pos < s.size) : (bs s).drop pos = [] := by
  apply List.drop_eq_nil_of_le; rw [bs_length]; omega
theorem rest_decode (s : ByteArray) (pos : Nat) : decodeL ((bs s).drop pos) = Utf8.decode s pos := decodeL_drop s pos
theorem rest_next (s : ByteArray) (pos : Nat) : ((bs s).drop pos).drop (Utf8.decode s pos).2 = (bs s).drop (pos + (Utf8.decode s pos).2) := by rw [List.drop_drop]
theorem rest_width {s : ByteArray} {pos : Nat} (h : pos < s.size) : pos + (Utf8.decode s pos).2 ≤ s.size := by
  have := decodeL_le _ (rest_ne h)
  rw [rest_decode, List.length_drop, bs_length] at this
  omega
theorem rest_head {s : ByteArray} {pos : Nat} (h : pos < s.size) : ((bs s).drop pos).getD 0 0 = s[pos]'h := by
  rw [getD_dropU, Nat.add_zero]
  have : s.data.toList.getD pos 0 = s.get! pos := getD_get!' s pos
  rw [show (bs s).getD pos 0 = s.get! pos from this]
  exact get_at s pos h
theorem rest_cons {s : ByteArray} {pos : Nat} (h : pos < s.size) : (bs s).drop pos = (s[pos]'h) :: (bs s).drop (pos + 1) := by
  have e : (bs s).drop pos = (bs s)[pos]'(by rw [bs_length]; exact h) :: (bs s).drop (pos + 1) := List.drop_eq_getElem_cons (by rw [bs_length]; exact h)
  rw [e]; rfl

theorem iter_below (w : World) (s : ByteArray) (pos : Nat) : Below w.heap.size w (w.iter s pos) := (Below.refl _ _).alloc (Nat.le_refl _) _

theorem str_of_list (s : ByteArray) : (⟨(bs s).toArray⟩ : ByteArray) = s := by cases s; simp
theorem ext_take (s : ByteArray) (a b : Nat) : s.extract a b = ⟨(((bs s).take b).drop a).toArray⟩ := by
  apply ByteArray.ext
  apply Array.toList_inj.1
  rw [ByteArray.data_extract, Array.toList_extract, List.extract_eq_drop_take']

/-! ### the closing mark -/
theorem scan_plain : ∀ (q R : Bs), (∀ b ∈ q, b ≠ 39) → scan (q ++ R) = (scan R).map fun x => (q ++ x.1, x.2 + q.length)
  | [], R, _ => by cases h : scan R <;> simp [h]
  | b :: q, R, h => by
    have hb : b ≠ 39 := h b (by simp)
    have ih := scan_plain q R (fun c hc => h c (by simp [hc]))
    rw [List.cons_append]
    cases hq : q ++ R with
    | nil =>
      rw [hq] at ih
      obtain ⟨rfl, rfl⟩ := List.append_eq_nil_iff.1 hq
      simp [scan, hb]
    | cons c u =>
      rw [hq] at ih
      rw [scan, if_neg hb, ih]
      cases h : scan R <;> simp
      omega

/-- Where the closing mark stands, counted from the first byte. -/
def closeOf (t : Bs) : Nat := match scan t with
  | none => 0
  | some (_, k) => k + 1
def closes (t : Bs) : Bool := (scan t).isSome

/-- What a scan that has come to place pos knows. -/
def Sc (t R : Bs) (pos : Nat) (alone : Bool) : Prop :=
  if alone then 2 ≤ pos ∧ ∃ p, scan t = (scan (39 :: R)).map fun x => (p ++ x.1, x.2 + (pos - 2))
  else 1 ≤ pos ∧ ∃ p, scan t = (scan R).map fun x => (p ++ x.1, x.2 + (pos - 1))

theorem sc_start (t : Bs) : Sc t t 1 false := ⟨Nat.le_refl _, [], by cases h : scan t <;> simp⟩
theorem sc_open {t R : Bs} {pos : Nat} (h : Sc t (39 :: R) pos false) : Sc t R (pos + 1) true := by
  obtain ⟨h1, p, h2⟩ := h
  exact ⟨by omega, p, h2⟩
theorem sc_pair {t R : Bs} {pos : Nat} (h : Sc t (39 :: R) pos true) : Sc t R (pos + 1) false := by
  obtain ⟨h1, p, h2⟩ := h
  refine ⟨by omega, p ++ [39], ?_⟩
  rw [h2]
  simp only [scan, if_true]
  cases h : scan R <;> simp
  omega
theorem sc_shut {t R : Bs} {b : UInt8} {pos : Nat} (hb : b ≠ 39) (h : Sc t (b :: R) pos true) : closeOf t = pos - 1 ∧ closes t = true ∧ 2 ≤ pos := by
  obtain ⟨h1, p, h2⟩ := h
  have e : scan t = some (p, pos - 2) := by rw [h2]; simp [scan, hb]
  exact ⟨by rw [closeOf, e]; simp only; omega, by rw [closes, e]; rfl, h1⟩
theorem sc_plain {t R q : Bs} {pos n : Nat} (hq : ∀ b ∈ q, b ≠ 39) (hn : q.length = n) (h : Sc t (q ++ R) pos false) : Sc t R (pos + n) false := by
  obtain ⟨h1, p, h2⟩ := h
  refine ⟨by omega, p ++ q, ?_⟩
  rw [h2, scan_plain q R hq]
  cases h : scan R <;> simp
  omega
theorem sc_end_alone {t : Bs} {pos : Nat} (h : Sc t [] pos true) : closeOf t = pos - 1 ∧ closes t = true ∧ 2 ≤ pos := by
  obtain ⟨h1, p, h2⟩ := h
  have e : scan t = some (p, pos - 2) := by rw [h2]; simp [scan]
  exact ⟨by rw [closeOf, e]; simp only; omega, by rw [closes, e]; rfl, h1⟩
theorem sc_end {t : Bs} {pos : Nat} (h : Sc t [] pos false) : closeOf t = 0 ∧ closes t = false := by
  obtain ⟨h1, p, h2⟩ := h
  have e : scan t = none := by rw [h2]; simp [scan]
  exact ⟨by rw [closeOf, e], by rw [closes, e]; rfl⟩

end Go.Proofs.YtipnaphikbjhbaaDoor
