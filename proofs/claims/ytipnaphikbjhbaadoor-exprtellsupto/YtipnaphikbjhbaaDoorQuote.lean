/- Quoting: word.Quote and the reference's. -/
import Derived.Test.YtipnaphikbjhbaaDoorRefs2
namespace Go.Proofs.YtipnaphikbjhbaaDoor
open Go.RowKit Go.Lib

/-- A text of these bytes. -/
abbrev str (l : Bs) : ByteArray := ⟨l.toArray⟩
theorem bs_str (l : Bs) : bs (str l) = l := by simp [bs]
theorem str_bs (s : ByteArray) : str (bs s) = s := str_of_list s
theorem str_size (l : Bs) : (str l).size = l.length := by rw [← bs_length, bs_str]
theorem str_append (a b : Bs) : str a ++ str b = str (a ++ b) := by
  apply ByteArray.ext
  simp [str, ByteArray.data_append]

/-- A text within marks, and the error. -/
def quoteR (l : Bs) : Bs × Nat := if rightR l then (39 :: dbl l ++ [39], 0) else ([], 3)
theorem quoteR_yes {l : Bs} (h : rightR l = true) : quoteR l = (39 :: dbl l ++ [39], 0) := by simp [quoteR, h]
theorem quoteR_no {l : Bs} (h : rightR l = false) : quoteR l = ([], 3) := by simp [quoteR, h]

theorem dbl_le (l : Bs) : (dbl l).length ≤ 2 * l.length := by
  rw [dbl_length]
  have := List.count_le_length (a := (39 : UInt8)) (l := l)
  omega

theorem rep36 (s : ByteArray) (hs : s.size ≤ 100000) (w : World) (hg : Good w) :
    Calls Tryd.prog 81 #[.string s, .string ⟨#[39]⟩, .string ⟨#[39, 39]⟩] w fun e w' => e = .returned (.string (str (dbl (bs s)))) ∧ Below w.heap.size w w' := by
  obtain ⟨m, hm⟩ := hg.mx
  have h1 : (1 : Nat) ≤ (⟨#[39]⟩ : ByteArray).size := by decide
  have hc : Lib.countB s ⟨#[39]⟩ ≤ s.size := Lib.countB_le ⟨#[39]⟩ h1 _ s (Nat.le_refl _)
  have h2 : (⟨#[39, 39]⟩ : ByteArray).size = 2 := rfl
  have c := Tryd.strings_ReplaceAll s ⟨#[39]⟩ ⟨#[39, 39]⟩ m w (by omega) hm h1 (by rw [h2]; omega)
  refine c.mono ?_
  rintro e w' ⟨rfl, hb⟩
  refine ⟨?_, hb⟩
  have := dbl_eq (bs s)
  rw [show Lib.replaceAll s.data.toList (⟨#[39]⟩ : ByteArray).data.toList (⟨#[39, 39]⟩ : ByteArray).data.toList = dbl (bs s) from this]

theorem unrep36 (s : ByteArray) (hs : s.size ≤ 100000) (w : World) (hg : Good w) :
    Calls Tryd.prog 81 #[.string s, .string ⟨#[39, 39]⟩, .string ⟨#[39]⟩] w fun e w' => e = .returned (.string (str (undbl (bs s)))) ∧ Below w.heap.size w w' := by
  obtain ⟨m, hm⟩ := hg.mx
  have h1 : (1 : Nat) ≤ (⟨#[39, 39]⟩ : ByteArray).size := by decide
  have hc : Lib.countB s ⟨#[39, 39]⟩ ≤ s.size := Lib.countB_le ⟨#[39, 39]⟩ h1 _ s (Nat.le_refl _)
  have h2 : (⟨#[39]⟩ : ByteArray).size = 1 := rfl
  have c := Tryd.strings_ReplaceAll s ⟨#[39, 39]⟩ ⟨#[39]⟩ m w (by omega) hm h1 (by rw [h2]; omega)
  refine c.mono ?_
  rintro e w' ⟨rfl, hb⟩
  refine ⟨?_, hb⟩
  have := undblAll_eq (bs s)
  rw [show Lib.replaceAll s.data.toList (⟨#[39, 39]⟩ : ByteArray).data.toList (⟨#[39]⟩ : ByteArray).data.toList = undbl (bs s) from this]

theorem quote_form (l : Bs) : (⟨#[39]⟩ : ByteArray) ++ str (dbl l) ++ ⟨#[39]⟩ = str (39 :: dbl l ++ [39]) := by
  rw [show (⟨#[39]⟩ : ByteArray) = str [39] from rfl, str_append, str_append]; rfl

theorem undbl_le : ∀ (n : Nat) (l : Bs), l.length ≤ n → (undbl l).length ≤ l.length
  | _, [], _ => by simp [undbl]
  | _, [b], _ => by simp [undbl]
  | 0, b :: c :: t, h => by simp at h
  | n + 1, b :: c :: t, h => by
    simp only [List.length_cons] at h
    unfold undbl
    split
    · have := undbl_le n t (by omega)
      simp only [List.length_cons]; omega
    · have := undbl_le n (c :: t) (by simp only [List.length_cons]; omega)
      simp only [List.length_cons] at this ⊢; omega

set_option maxRecDepth 100000 in
set_option maxHeartbeats 2000000 in
theorem quote26 (s : ByteArray) (w : World) (hs : s.size ≤ 100000) (hg : Good w) :
    Calls Tryd.prog 75 #[.string s] w fun e w' => e = .returned (.tuple #[.string (str (quoteR (bs s)).1), .int .i64 ((quoteR (bs s)).2 : Nat)]) ∧ Below w.heap.size w w' := by
  have c12 := right12 s w (by omega) hg
  cases hV : rightR (bs s)
  · rw [hV] at c12
    rw [quoteR_no hV]
    go_enter Tryd.func75, Tryd.ntmps75
    go_wp2_with (go_at_call 71; refine c12.mono ?_; rintro e w1 ⟨rfl, hb⟩)
    go_ret2
    exact ⟨rfl, hb⟩
  · rw [hV] at c12
    rw [quoteR_yes hV, ← quote_form]
    have hz := dbl_le (bs s)
    rw [bs_length] at hz
    obtain ⟨q, hq⟩ : ∃ q, str (dbl (bs s)) = q := ⟨_, rfl⟩
    have hqz : q.size ≤ 200000 := by rw [← hq, str_size]; omega
    have c36 : ∀ w1, Good w1 → Calls Tryd.prog 81 #[.string s, .string ⟨#[39]⟩, .string ⟨#[39, 39]⟩] w1 fun e w' => e = .returned (.string q) ∧ Below w1.heap.size w1 w' := fun w1 h => by rw [← hq]; exact rep36 s hs w1 h
    rw [hq]
    go_enter Tryd.func75, Tryd.ntmps75
    go_wp2_with (first
      | (go_at_call 71; refine c12.mono ?_; rintro e w1 ⟨rfl, hb⟩)
      | (go_at_call 81; refine (c36 _ (hg.below hb)).mono ?_; rintro e w2 ⟨rfl, hb2⟩))
    go_ret2
    exact ⟨rfl, bmore hb hb2⟩

/-! ### Unquote -/
theorem unq_mark {t : Bs} : unq (39 :: t) = (match scan t with
      | none => ([], (39 :: t).length, 8)
      | some (x, k) => if rightR x then (x, k + 2, 0) else ([], 0, 3)) := by
  cases h : scan t <;> simp [unq, h]
theorem unq_other {b : UInt8} {t : Bs} (h : b ≠ 39) : unq (b :: t) = ([], 0, 8) := by simp [unq, h]

end Go.Proofs.YtipnaphikbjhbaaDoor
