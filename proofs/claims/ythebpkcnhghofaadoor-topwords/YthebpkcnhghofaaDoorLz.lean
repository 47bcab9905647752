/- Names and numbers with signs between, by plain data. -/
import Derived.Test.YthebpkcnhghofaaDoorLx
namespace Go.Proofs.YthebpkcnhghofaaDoor
open Go.RowKit Go.Lib
set_option maxRecDepth 100000

def partL : List Bs := [[97], [98, 49], [99, 95, 100], [55], [45, 53], [49, 50, 48]]
def signL : List Bs := [[60, 61], [60, 62], [40], [44], [61], [42]]
def partU (u : UInt8) : Bs := partL.getD (u.toNat % 6) []
def signU (u : UInt8) : Bs := signL.getD (u.toNat / 6 % 6) []
theorem partU_mem (u : UInt8) : partU u ∈ partL := by
  unfold partU
  have : u.toNat % 6 < 6 := Nat.mod_lt _ (by decide)
  rw [List.getD_eq_getElem?_getD, List.getElem?_eq_getElem (by simpa [partL] using this)]
  exact List.getElem_mem _
theorem signU_mem (u : UInt8) : signU u ∈ signL := by
  unfold signU
  have : u.toNat / 6 % 6 < 6 := Nat.mod_lt _ (by decide)
  rw [List.getD_eq_getElem?_getD, List.getElem?_eq_getElem (by simpa [signL] using this)]
  exact List.getElem_mem _
def fullQ (w : Bs) : Q4 := ((begB w).1, w, (begB w).2.2.1, w.length)
theorem beg_sign (s : Bs) (hs : s ∈ signL) (rest : Bs) : begB (s ++ rest) = fullQ s := by
  simp only [signL, List.mem_cons, List.not_mem_nil, or_false] at hs
  rcases hs with rfl | rfl | rfl | rfl | rfl | rfl <;> rfl
theorem full7 : numT [55] = fullQ [55] := by kernel_rfl
theorem full5 : numT [45, 53] = fullQ [45, 53] := by kernel_rfl
theorem full120 : numT [49, 50, 48] = fullQ [49, 50, 48] := by kernel_rfl
theorem beg_part (p s : Bs) (hp : p ∈ partL) (hs : s ∈ signL) (rest : Bs) : begB (p ++ (s ++ rest)) = fullQ p := by
  simp only [partL, signL, List.mem_cons, List.not_mem_nil, or_false] at hp hs
  rcases hp with rfl | rfl | rfl | rfl | rfl | rfl
  · rcases hs with rfl | rfl | rfl | rfl | rfl | rfl <;> rfl
  · rcases hs with rfl | rfl | rfl | rfl | rfl | rfl <;> rfl
  · rcases hs with rfl | rfl | rfl | rfl | rfl | rfl <;> rfl
  · rw [← full7]
    rcases hs with rfl | rfl | rfl | rfl | rfl | rfl <;> rfl
  · rw [← full5]
    rcases hs with rfl | rfl | rfl | rfl | rfl | rfl <;> rfl
  · rw [← full120]
    rcases hs with rfl | rfl | rfl | rfl | rfl | rfl <;> rfl
theorem begins_ok : ∀ w ∈ partL ++ signL, w ≠ [] ∧ spcI ((w.headD 0).toNat : Int) = false := by decide

/-- A token that is the text w alone, at the place a. -/
def tkW (w : Bs) (a : Nat) : Tk := ⟨(begB w).1, w, (begB w).2.2.1, a⟩
def toksW : Nat → List Bs → List Tk
  | _, [] => []
  | pos, w :: r => tkW w pos :: toksW (pos + w.length) r
theorem toksW_length : ∀ (ws : List Bs) (pos : Nat), (toksW pos ws).length = ws.length
  | [], _ => rfl
  | w :: r, pos => by simp [toksW, toksW_length r]
theorem toksW_at : ∀ (ws : List Bs) (pos i : Nat) (w : Bs), ws[i]? = some w → (toksW pos ws)[i]? = some (tkW w (pos + (ws.take i).flatten.length))
  | [], _, _, _, h => by simp at h
  | w :: r, pos, 0, x, h => by
    simp only [List.getElem?_cons_zero, Option.some.injEq] at h
    subst h
    simp [toksW]
  | w :: r, pos, i + 1, x, h => by
    have := toksW_at r (pos + w.length) i x (by simpa using h)
    rw [toksW, List.getElem?_cons_succ, this, List.take_succ_cons, List.flatten_cons, List.length_append, Nat.add_assoc]
theorem lex_one {w rest : Bs} {pos : Nat} {acc : List Tk} (hw : w ∈ partL ++ signL) (hb : begB (w ++ rest) = fullQ w) (hl : acc.length < 100) : lexB pos (w ++ rest) acc = lexB (pos + w.length) rest (acc ++ [tkW w pos]) := by
  obtain ⟨hne, hsp⟩ := begins_ok w hw
  cases w with
  | nil => exact absurd rfl hne
  | cons b t =>
    rw [List.cons_append] at hb ⊢
    rw [lexB_tok (by simpa using hsp) (by rw [hb]; simp [fullQ]) (by omega), hb]
    show lexB (pos + (b :: t).length) (((b :: t) ++ rest).drop (b :: t).length) _ = _
    rw [List.drop_left]
    rfl
def wantL (us : List UInt8) : List Bs := us.flatMap fun u => [partU u, signU u]
def textL (us : List UInt8) : Bs := us.flatMap fun u => partU u ++ signU u
theorem text_want : ∀ us : List UInt8, textL us = (wantL us).flatten
  | [] => rfl
  | u :: r => by
    have := text_want r
    simp only [textL, wantL, List.flatMap_cons, List.flatten_append] at this ⊢
    rw [this]
    simp
theorem lex_words : ∀ (us : List UInt8) (pos : Nat) (acc : List Tk), acc.length + 2 * us.length ≤ 100 → lexB pos (textL us) acc = (acc ++ toksW pos (wantL us), 0, 0)
  | [], pos, acc, _ => by simp [textL, wantL, toksW, lexB_nil]
  | u :: r, pos, acc, h => by
    simp only [List.length_cons] at h
    rw [show textL (u :: r) = partU u ++ (signU u ++ textL r) by simp [textL]]
    rw [lex_one (List.mem_append_left _ (partU_mem u)) (beg_part _ _ (partU_mem u) (signU_mem u) _) (by omega)]
    rw [lex_one (List.mem_append_right _ (signU_mem u)) (beg_sign _ (signU_mem u) _) (by simp; omega)]
    rw [lex_words r _ _ (by simp; omega)]
    rw [show wantL (u :: r) = partU u :: signU u :: wantL r by simp [wantL]]
    simp [toksW]
theorem short_words : ∀ w ∈ partL ++ signL, w.length ≤ 3 := by decide
theorem text_len : ∀ us : List UInt8, (textL us).length ≤ 6 * us.length
  | [] => by simp [textL]
  | u :: r => by
    have h1 := short_words _ (List.mem_append_left _ (partU_mem u))
    have h2 := short_words _ (List.mem_append_right _ (signU_mem u))
    have := text_len r
    rw [show textL (u :: r) = partU u ++ (signU u ++ textL r) by simp [textL]]
    simp only [List.length_append, List.length_cons]
    omega
theorem toks_words (us : List UInt8) (h : us.length ≤ 20) : toks (textL us) = (toksW 0 (wantL us), 0, 0) := by
  have := text_len us
  unfold toks
  rw [if_neg (by omega), lex_words us 0 [] (by simp; omega)]
  simp
end Go.Proofs.YthebpkcnhghofaaDoor
