/- Texts as lists of bytes. -/
import Derived.Test.YthfkmedpcmiibaaDoorPlain
import Derived.Test.YthfkmedpcmiibaaDoorRows
import Derived.WalkKit
import Derived.WalkSpells
import Derived.WalkLawsBesides
import Derived.Laws.RangeAny
import Derived.Laws.RangeString
import Derived.Laws.Runes
import Derived.Below
namespace Go.Proofs.YthfkmedpcmiibaaDoor
open Go.RowKit Go.Lib

/-- A text's bytes. -/
abbrev bs (s : ByteArray) : Bs := s.data.toList
theorem bs_length (s : ByteArray) : (bs s).length = s.size := rfl

theorem rest_ne {s : ByteArray} {pos : Nat} (h : pos < s.size) : (bs s).drop pos ≠ [] := by
  intro e
  have := congrArg List.length e
  rw [List.length_drop, bs_length] at this
  simp at this; omega
theorem rest_nil {s : ByteArray} {pos : Nat} (h : ¬ pos < s.size) : (bs s).drop pos = [] := by
  apply List.drop_eq_nil_of_le; rw [bs_length]; omega
theorem rest_decode (s : ByteArray) (pos : Nat) : decodeL ((bs s).drop pos) = Utf8.decode s pos := decodeL_drop s pos
theorem rest_next (s : ByteArray) (pos : Nat) : ((bs s).drop pos).drop (Utf8.decode s pos).2 = (bs s).drop (pos + (Utf8.decode s pos).2) := by rw [List.drop_drop]
theorem rest_width {s : ByteArray} {pos : Nat} (h : pos < s.size) : pos + (Utf8.decode s pos).2 ≤ s.size := by
  have := decodeL_le _ (rest_ne h)
  rw [rest_decode, List.length_drop, bs_length] at this
  omega
theorem rest_head {s : ByteArray} {pos : Nat} (h : pos < s.size) : ((bs s).drop pos).getD 0 0 = s[pos]'h := by
  rw [getD_dropU, Nat.add_zero]
  have : s.data.toList.getD pos 0 = s.get! pos := getD_get!' s pos
  rw [show (bs s).getD pos 0 = s.get! pos from this]
  exact get_at s pos h
theorem rest_cons {s : ByteArray} {pos : Nat} (h : pos < s.size) : (bs s).drop pos = (s[pos]'h) :: (bs s).drop (pos + 1) := by
  have e : (bs s).drop pos = (bs s)[pos]'(by rw [bs_length]; exact h) :: (bs s).drop (pos + 1) := List.drop_eq_getElem_cons (by rw [bs_length]; exact h)
  rw [e]; rfl

theorem iter_below (w : World) (s : ByteArray) (pos : Nat) : Below w.heap.size w (w.iter s pos) := (Below.refl _ _).alloc (Nat.le_refl _) _

theorem str_of_list (s : ByteArray) : (⟨(bs s).toArray⟩ : ByteArray) = s := by cases s; simp
theorem ext_take (s : ByteArray) (a b : Nat) : s.extract a b = ⟨(((bs s).take b).drop a).toArray⟩ := by
  apply ByteArray.ext
  apply Array.toList_inj.1
  rw [ByteArray.data_extract, Array.toList_extract, List.extract_eq_drop_take']

end Go.Proofs.YthfkmedpcmiibaaDoor
