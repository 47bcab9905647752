/- Contract of word.closingMark: a loop over a text's runes. -/
import Derived.Test.YthebpkcnhghofaaDoorPlain
import Derived.Test.YthebpkcnhghofaaDoorRows
import Derived.WalkKit
import Derived.WalkSpells
import Derived.WalkLawsBesides
import Derived.Laws.RangeAny
import Derived.Laws.RangeString
import Derived.Laws.Runes
import Derived.Below
namespace Go.Proofs.YthebpkcnhghofaaDoor
open Go.RowKit Go.Lib

/-- A text's bytes. -/
abbrev bs (s : ByteArray) : Bs := s.data.toList
theorem bs_length (s : ByteArray) : (bs s).length = s.size := rfl

theorem rest_ne {s : ByteArray} {pos : Nat} (h : pos < s.size) : (bs s).drop pos ≠ [] := by
  intro e
  have := congrArg List.length e
  rw [List.length_drop, bs_length] at this
  simp at this; omega
theorem rest_nil {s : ByteArray} {pos : Nat} (h : ¬ pos < s.size) : (bs s).drop pos = [] := by
  apply List.drop_eq_nil_of_le; rw [bs_length]; omega
theorem rest_decode (s : ByteArray) (pos : Nat) : decodeL ((bs s).drop pos) = Utf8.decode s pos := decodeL_drop s pos
theorem rest_next (s : ByteArray) (pos : Nat) : ((bs s).drop pos).drop (Utf8.decode s pos).2 = (bs s).drop (pos + (Utf8.decode s pos).2) := by rw [List.drop_drop]
theorem rest_width {s : ByteArray} {pos : Nat} (h : pos < s.size) : pos + (Utf8.decode s pos).2 ≤ s.size := by
  have := decodeL_le _ (rest_ne h)
  rw [rest_decode, List.length_drop, bs_length] at this
  omega
theorem rest_head {s : ByteArray} {pos : Nat} (h : pos < s.size) : ((bs s).drop pos).getD 0 0 = s[pos]'h := by
  rw [getD_dropU, Nat.add_zero]
  have : s.data.toList.getD pos 0 = s.get! pos := getD_get!' s pos
  rw [show (bs s).getD pos 0 = s.get! pos from this]
  exact get_at s pos h
theorem rest_cons {s : ByteArray} {pos : Nat} (h : pos < s.size) : (bs s).drop pos = (s[pos]'h) :: (bs s).drop (pos + 1) := by
  have e : (bs s).drop pos = (bs s)[pos]'(by rw [bs_length]; exact h) :: (bs s).drop (pos + 1) := List.drop_eq_getElem_cons (by rw [bs_length]; exact h)
  rw [e]; rfl

theorem iter_below (w : World) (s : ByteArray) (pos : Nat) : Below w.heap.size w (w.iter s pos) := (Below.refl _ _).alloc (Nat.le_refl _) _

theorem str_of_list (s : ByteArray) : (⟨(bs s).toArray⟩ : ByteArray) = s := by cases s; simp
theorem ext_take (s : ByteArray) (a b : Nat) : s.extract a b = ⟨(((bs s).take b).drop a).toArray⟩ := by
  apply ByteArray.ext
  apply Array.toList_inj.1
  rw [ByteArray.data_extract, Array.toList_extract, List.extract_eq_drop_take']

/-! ### the closing mark -/
theorem scan_plain : ∀ (q R : Bs), (∀ b ∈ q, b ≠ 39) → scan (q ++ R) = (scan R).map fun x => (q ++ x.1, x.2 + q.length)
  | [], R, _ => by cases h : scan R <;> simp [h]
  | b :: q, R, h => by
    have hb : b ≠ 39 := h b (by simp)
    have ih := scan_plain q R (fun c hc => h c (by simp [hc]))
    rw [List.cons_append]
    cases hq : q ++ R with
    | nil =>
      rw [hq] at ih
      obtain ⟨rfl, rfl⟩ := List.append_eq_nil_iff.1 hq
      simp [scan, hb]
    | cons c u =>
      rw [hq] at ih
      rw [scan, if_neg hb, ih]
      cases h : scan R <;> simp
      omega

/-- Where the closing mark stands, counted from the first byte. -/
def closeOf (t : Bs) : Nat := match scan t with
  | none => 0
  | some (_, k) => k + 1
def closes (t : Bs) : Bool := (scan t).isSome

/-- What a scan that has come to place pos knows. -/
def Sc (t R : Bs) (pos : Nat) (alone : Bool) : Prop :=
  if alone then 2 ≤ pos ∧ ∃ p, scan t = (scan (39 :: R)).map fun x => (p ++ x.1, x.2 + (pos - 2))
  else 1 ≤ pos ∧ ∃ p, scan t = (scan R).map fun x => (p ++ x.1, x.2 + (pos - 1))

theorem sc_start (t : Bs) : Sc t t 1 false := ⟨Nat.le_refl _, [], by cases h : scan t <;> simp⟩
theorem sc_open {t R : Bs} {pos : Nat} (h : Sc t (39 :: R) pos false) : Sc t R (pos + 1) true := by
  obtain ⟨h1, p, h2⟩ := h
  exact ⟨by omega, p, h2⟩
theorem sc_pair {t R : Bs} {pos : Nat} (h : Sc t (39 :: R) pos true) : Sc t R (pos + 1) false := by
  obtain ⟨h1, p, h2⟩ := h
  refine ⟨by omega, p ++ [39], ?_⟩
  rw [h2]
  simp only [scan, if_true]
  cases h : scan R <;> simp
  omega
theorem sc_shut {t R : Bs} {b : UInt8} {pos : Nat} (hb : b ≠ 39) (h : Sc t (b :: R) pos true) : closeOf t = pos - 1 ∧ closes t = true ∧ 2 ≤ pos := by
  obtain ⟨h1, p, h2⟩ := h
  have e : scan t = some (p, pos - 2) := by rw [h2]; simp [scan, hb]
  exact ⟨by rw [closeOf, e]; simp only; omega, by rw [closes, e]; rfl, h1⟩
theorem sc_plain {t R q : Bs} {pos n : Nat} (hq : ∀ b ∈ q, b ≠ 39) (hn : q.length = n) (h : Sc t (q ++ R) pos false) : Sc t R (pos + n) false := by
  obtain ⟨h1, p, h2⟩ := h
  refine ⟨by omega, p ++ q, ?_⟩
  rw [h2, scan_plain q R hq]
  cases h : scan R <;> simp
  omega
theorem sc_end_alone {t : Bs} {pos : Nat} (h : Sc t [] pos true) : closeOf t = pos - 1 ∧ closes t = true ∧ 2 ≤ pos := by
  obtain ⟨h1, p, h2⟩ := h
  have e : scan t = some (p, pos - 2) := by rw [h2]; simp [scan]
  exact ⟨by rw [closeOf, e]; simp only; omega, by rw [closes, e]; rfl, h1⟩
theorem sc_end {t : Bs} {pos : Nat} (h : Sc t [] pos false) : closeOf t = 0 ∧ closes t = false := by
  obtain ⟨h1, p, h2⟩ := h
  have e : scan t = none := by rw [h2]; simp [scan]
  exact ⟨by rw [closeOf, e], by rw [closes, e]; rfl⟩

set_option maxRecDepth 100000 in
set_option maxHeartbeats 2000000 in
theorem closing38 (s : ByteArray) (t : Bs) (w : World) (hs : s.size < 4611686018427387904) (ht : bs s = 39 :: t) :
    Calls Tryd.prog 42 #[.string s] w fun e w' => e = .returned (.tuple #[.int .i64 (closeOf t : Nat), .bool (closes t)]) ∧ Below w.heap.size w w' := by
  have hsz : 0 < s.size := by rw [← bs_length, ht]; simp
  go_enter Tryd.func42, Tryd.ntmps42
  go_wp2
  go_loopw [4] (fun a w' => ∃ (pos : Nat) (alone : Bool), w' = w.iter s pos ∧ a = .bool alone ∧ pos ≤ s.size ∧ ((pos = 0 ∧ alone = false) ∨ (1 ≤ pos ∧ Sc t ((bs s).drop pos) pos alone))) (fun _ w' => s.size - w'.iterPos w.heap.size)
  case atStart => exact ⟨0, false, rfl, rfl, Nat.zero_le _, .inl ⟨rfl, rfl⟩⟩
  case round =>
    obtain ⟨pos, alone, rfl, rfl, hps, hc⟩ := hrel
    by_cases hp : pos < s.size
    · have hnx : ∀ ty, (Instr.next (.pointer (some ⟨w.heap.size, 0, none⟩)) true ty).run Tryd.prog (w.iter s pos) = _ := fun ty => run_next_any w s pos ty hp
      have hwd := width_pos s pos
      have hwl := rest_width hp
      have hcons := rest_cons hp
      have hdec := rest_decode s pos
      generalize hb : s[pos]'hp = b at hcons
      obtain ⟨r, hr⟩ : ∃ r, (Utf8.decode s pos).1 = r := ⟨_, rfl⟩
      obtain ⟨wd, hw⟩ : ∃ k, (Utf8.decode s pos).2 = k := ⟨_, rfl⟩
      rw [hr, hw] at hnx
      rw [hw] at hwd hwl
      rcases hc with ⟨rfl, rfl⟩ | ⟨h1, hsc⟩
      · -- the first mark
        have hb39 : b = 39 := by
          rw [List.drop_zero, ht] at hcons
          exact (List.cons.inj hcons).1.symm
        have hw1 : wd = 1 := by
          rw [hcons, hb39, ascii_head (by decide)] at hdec
          rw [← hw, ← hdec]
        subst hw1
        clear hdec hr hw
        go_wp2
        go_roundw
        case rel =>
          refine ⟨0 + 1, false, rfl, rfl, by omega, .inr ⟨by omega, ?_⟩⟩
          rw [ht]
          exact sc_start t
        case measure =>
          simp
          omega
      · have hp0 : ¬ ((pos : Int) = 0) := by omega
        by_cases hb39 : b = 39
        · subst hb39
          have hd : decodeL ((bs s).drop pos) = (39, 1) := by rw [hcons]; exact ascii_head (by decide)
          have hr1 : r = 39 := by rw [← hr, ← hdec, hd]
          have hw1 : wd = 1 := by rw [← hw, ← hdec, hd]
          subst hr1 hw1
          rw [hcons] at hsc
          clear hdec hr hw hd hcons
          cases alone
          · have hn := sc_open hsc
            clear hsc
            go_wp2
            go_roundw
            case rel => exact ⟨pos + 1, true, rfl, rfl, by omega, .inr ⟨by omega, hn⟩⟩
            case measure =>
              simp
              omega
          · have hn := sc_pair hsc
            clear hsc
            go_wp2
            go_roundw
            case rel => exact ⟨pos + 1, false, rfl, rfl, by omega, .inr ⟨by omega, hn⟩⟩
            case measure =>
              simp
              omega
        · have hr39 : r ≠ 39 := by
            by_cases hlow : b.toNat < 128
            · rw [hcons, ascii_head hlow] at hdec
              rw [← hr, ← hdec]
              intro e
              exact hb39 (UInt8.toNat_inj.1 e)
            · have := (high_bytes _ (rest_ne hp) (by rw [hcons]; simpa using hlow)).1
              rw [hdec, hr] at this
              omega
          have hri : ¬ ((r : Int) = 39) := by omega
          cases alone
          · have hq : ∀ c ∈ ((bs s).drop pos).take wd, c ≠ 39 := by
              by_cases hlow : b.toNat < 128
              · rw [hcons, ascii_head hlow] at hdec
                have : wd = 1 := by rw [← hw, ← hdec]
                subst this
                rw [hcons]
                intro c hc
                simp at hc
                rw [hc]; exact hb39
              · intro c hc e
                have := (high_bytes _ (rest_ne hp) (by rw [hcons]; simpa using hlow)).2 c (by rw [hdec, hw]; exact hc)
                rw [e] at this
                exact absurd this (by decide)
            have hsc' := hsc
            rw [← List.take_append_drop wd ((bs s).drop pos)] at hsc'
            have hn := sc_plain (n := wd) hq (by rw [List.length_take, List.length_drop, bs_length]; omega) hsc'
            rw [List.drop_drop] at hn
            clear hsc hsc' hcons hdec hr hw hq
            go_wp2
            go_roundw
            case rel => exact ⟨pos + wd, false, rfl, rfl, by omega, .inr ⟨by omega, hn⟩⟩
            case measure =>
              simp
              omega
          · rw [hcons] at hsc
            obtain ⟨e1, e2, e3⟩ := sc_shut hb39 hsc
            clear hsc hcons hdec hr hw
            have hz : ((pos - 1 : Nat) : Int) = (pos : Int) - 1 := by omega
            go_wp2
            go_ret2
            exact ⟨by rw [e1, e2, hz]; rfl, iter_below w s _⟩
    · have hnx : ∀ ty, (Instr.next (.pointer (some ⟨w.heap.size, 0, none⟩)) true ty).run Tryd.prog (w.iter s pos) = _ := fun ty => run_next_end w s pos ty hp
      rcases hc with ⟨rfl, rfl⟩ | ⟨h1, hsc⟩
      · omega
      · rw [rest_nil hp] at hsc
        cases alone
        · obtain ⟨e1, e2⟩ := sc_end hsc
          clear hsc
          go_wp2
          go_ret2
          exact ⟨by rw [e1, e2]; rfl, iter_below w s _⟩
        · obtain ⟨e1, e2, e3⟩ := sc_end_alone hsc
          clear hsc
          have hz : ((pos - 1 : Nat) : Int) = (s.size : Int) - 1 := by omega
          go_wp2
          go_ret2
          exact ⟨by rw [e1, e2, hz]; rfl, iter_below w s _⟩

end Go.Proofs.YthebpkcnhghofaaDoor
