/- What tokens are like, by plain data: their places. -/
import Derived.Test.YtipnaphikbjhbaaDoorLx
namespace Go.Proofs.YtipnaphikbjhbaaDoor
open Go.RowKit Go.Lib

/-- What a text begins with, where it begins with a token. -/
structure BegOk (b : UInt8) (t : Bs) (x : Q4) : Prop where
  lo : 1 ≤ x.1
  hi : x.1 ≤ 4
  pre : x.1 = 2 ∨ x.1 = 4 → x.2.1 <+: b :: t
  quo : x.1 = 3 ↔ b = 39
theorem digI39 : digI ((39 : UInt8).toNat : Int) = false := by decide
theorem ltrI39 : ltrI ((39 : UInt8).toNat : Int) = false := by decide
theorem begB_ok (b : UInt8) (t : Bs) (h : (begB (b :: t)).2.2.2 ≠ 0) : BegOk b t (begB (b :: t)) := by
  have hnum : ∀ m, b ≠ 39 → (numT ((b :: t).take m)).2.2.2 ≠ 0 → BegOk b t (numT ((b :: t).take m)) := fun m hb hn => by
    unfold numT at hn ⊢
    split at hn
    · rename_i h0
      rw [if_pos h0]
      exact ⟨by simp, by simp, fun _ => List.take_prefix _ _, by simp [hb]⟩
    · exact absurd rfl hn
  rw [begB_cons] at h ⊢
  split at h
  · rename_i h45
    rw [if_pos h45]
    exact hnum _ (by rw [h45]; decide) h
  · rename_i h45
    rw [if_neg h45]
    split at h
    · rename_i hd
      rw [if_pos hd]
      exact hnum _ (fun e => by rw [e, digI39] at hd; cases hd) h
    · rename_i hd
      rw [if_neg hd]
      split at h
      · rename_i hl
        rw [if_pos hl]
        have hb : b ≠ 39 := fun e => by rw [e, ltrI39] at hl; cases hl
        unfold wordT at h ⊢
        split at h
        · exact absurd rfl h
        · rename_i h0
          rw [if_neg h0]
          exact ⟨by simp, by simp, fun e => by simp at e, by simp [hb]⟩
      · rename_i hl
        rw [if_neg hl]
        split at h
        · rename_i hb
          rw [if_pos hb]
          unfold quoT at h ⊢
          split at h
          · rename_i h0
            rw [if_pos h0]
            exact ⟨by simp, by simp, fun e => by simp at e, by simp [hb]⟩
          · exact absurd rfl h
        · rename_i hb
          rw [if_neg hb]
          refine ⟨by simp [sgnT], by simp [sgnT], fun _ => ?_, by simp [sgnT, hb]⟩
          rcases signB_mem (b :: t) with h1 | ⟨_, h2⟩
          · exfalso
            apply h
            show (signB (b :: t)).length = 0
            rw [h1]; rfl
          · show signB (b :: t) <+: b :: t
            simpa [hasPrefix] using h2

/-- What a token of the text s is like. -/
structure TkOk (s : Bs) (x : Tk) : Prop where
  at' : x.a < s.length
  lo : 1 ≤ x.k
  hi : x.k ≤ 4
  pre : x.k = 2 ∨ x.k = 4 → x.t <+: s.drop x.a
  quo : x.k = 3 ↔ s.getD x.a 0 = 39
/-- Tokens that stand ahead of pos, one behind the other. -/
structure AccOk (s : Bs) (pos : Nat) (acc : List Tk) : Prop where
  each : ∀ x ∈ acc, TkOk s x
  rise : ∀ i x y, acc[i]? = some x → acc[i + 1]? = some y → x.a < y.a
  last : ∀ x ∈ acc, x.a < pos
  few : acc.length ≤ 100
theorem AccOk.more {s : Bs} {pos pos' : Nat} {acc : List Tk} (h : AccOk s pos acc) (hp : pos ≤ pos') : AccOk s pos' acc := ⟨h.each, h.rise, fun x hx => Nat.lt_of_lt_of_le (h.last x hx) hp, h.few⟩
theorem AccOk.snoc {s : Bs} {pos n : Nat} {acc : List Tk} {x : Tk} (h : AccOk s pos acc) (hx : TkOk s x) (ha : x.a = pos) (hn : 0 < n) (hl : acc.length ≠ 100) : AccOk s (pos + n) (acc ++ [x]) := by
  refine ⟨fun y hy => ?_, fun i y z hy hz => ?_, fun y hy => ?_, ?_⟩
  · rcases List.mem_append.1 hy with hy | hy
    · exact h.each y hy
    · rw [List.mem_singleton.1 hy]; exact hx
  · have hi := (List.getElem?_eq_some_iff.1 hz).1
    rw [List.length_append, List.length_singleton] at hi
    by_cases hi2 : i + 1 < acc.length
    · rw [List.getElem?_append_left (by omega)] at hy
      rw [List.getElem?_append_left hi2] at hz
      exact h.rise i y z hy hz
    · have e : i + 1 = acc.length := by omega
      rw [List.getElem?_append_left (by omega)] at hy
      rw [e, List.getElem?_append_right (Nat.le_refl _), Nat.sub_self] at hz
      simp only [List.getElem?_cons_zero, Option.some.injEq] at hz
      rw [← hz, ha]
      exact h.last y (List.mem_of_getElem? hy)
  · rcases List.mem_append.1 hy with hy | hy
    · have := h.last y hy; omega
    · rw [List.mem_singleton.1 hy, ha]; omega
  · rw [List.length_append, List.length_singleton]; have := h.few; omega
/-- What comes out. -/
def OutOk (s : Bs) (R : List Tk × Nat × Nat) : Prop := (R.2.2 = 0 ∧ AccOk s s.length R.1) ∨ (R.1 = [] ∧ (R.2.2 = 8 ∨ R.2.2 = 4))
theorem lexB_ok (s : Bs) : ∀ (n pos : Nat) (acc : List Tk), s.length - pos ≤ n → pos ≤ s.length → AccOk s pos acc → OutOk s (lexB pos (s.drop pos) acc)
  | n, pos, acc, hn, hp, ha => by
    by_cases hlt : pos < s.length
    · obtain ⟨b, t, e⟩ : ∃ b t, s.drop pos = b :: t := ⟨s[pos], s.drop (pos + 1), List.drop_eq_getElem_cons hlt⟩
      have hb : s.getD pos 0 = b := by
        have := congrArg (·[0]?) e
        simp at this
        rw [List.getD_eq_getElem?_getD, List.getElem?_eq_getElem hlt]
        simpa [hlt] using this
      have ht : s.drop (pos + 1) = t := by rw [← List.drop_drop, e]; rfl
      rw [e]
      cases n with
      | zero => omega
      | succ n =>
        cases hs : spcI (b.toNat : Int)
        · by_cases h0 : (begB (b :: t)).2.2.2 = 0
          · rw [lexB_err hs h0]
            exact .inr ⟨rfl, .inl rfl⟩
          · by_cases h1 : acc.length = 100
            · rw [lexB_full hs h0 h1]
              exact .inr ⟨rfl, .inr rfl⟩
            · rw [lexB_tok hs h0 h1]
              have hok := begB_ok b t h0
              have hen := (begB_ends (b :: t)).1
              have hl : (b :: t).length = s.length - pos := by rw [← e, List.length_drop]
              rw [hl] at hen
              generalize hx : begB (b :: t) = x at *
              rw [← e, List.drop_drop]
              refine lexB_ok s n (pos + x.2.2.2) _ (by omega) (by omega) (ha.snoc (n := x.2.2.2) ⟨hlt, hok.lo, hok.hi, fun h => by rw [e]; exact hok.pre h, by rw [hb]; exact hok.quo⟩ rfl (by omega) h1)
        · rw [lexB_space hs, ← ht]
          exact lexB_ok s n (pos + 1) acc (by omega) (by omega) (ha.more (by omega))
    · rw [List.drop_eq_nil_of_le (by omega), lexB_nil]
      have : pos = s.length := by omega
      subst this
      exact .inl ⟨rfl, ha⟩
theorem toks_ok (s : Bs) : OutOk s (toks s) := by
  unfold toks
  split
  · exact .inr ⟨rfl, .inr rfl⟩
  · exact lexB_ok s s.length 0 [] (by omega) (by omega) ⟨fun x hx => by simp at hx, fun i x y h => by simp at h, fun x hx => by simp at hx, by simp⟩
end Go.Proofs.YtipnaphikbjhbaaDoor
