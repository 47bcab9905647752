/- The order of rows is that of their bytes; a row with at most eight values. -/
import Derived.Test.YthfkmedpcmiibaaDoorDec
namespace Go.Proofs.YthfkmedpcmiibaaDoor
open Go.RowKit Go.Lib
set_option maxRecDepth 100000

theorem VAt.take {w : World} {b o : Nat} {l : List Vt} (n : Nat) (h : VAt w b o l) : VAt w b o (l.take n) := fun i x hx => h i x (by
  rw [List.getElem?_take] at hx
  split at hx
  · exact hx
  · cases hx)

theorem cb_cons (x y : UInt8) (p q : Bs) : compareBytes (x :: p) (y :: q) = if x.toNat < y.toNat then -1 else if y.toNat < x.toNat then 1 else compareBytes p q := by
  simp [compareBytes, UInt8.lt_iff_toNat_lt]

theorem flat_cmp : ∀ a b : List Vt, (∀ x ∈ a, okV x = true ∧ inI64 x.2.1) → (∀ x ∈ b, okV x = true ∧ inI64 x.2.1) → ∀ p q : Bs, compareBytes (flat a ++ 0 :: p) (flat b ++ 0 :: q) = if cmpL a b = 0 then compareBytes p q else cmpL a b
  | [], [], _, _, p, q => by simp [flat, cmpL, compareBytes]
  | [], y :: b, _, hb, p, q => by
    obtain ⟨c, r, hc, h0⟩ := flat_begins (hb y (by simp)).1
    rw [flat_cons, hc]
    simp only [flat, List.flatMap_nil, List.nil_append, List.cons_append, cb_cons, cmpL]
    rw [if_pos (by simp; omega)]
    rfl
  | x :: a, [], ha, _, p, q => by
    obtain ⟨c, r, hc, h0⟩ := flat_begins (ha x (by simp)).1
    rw [flat_cons, hc]
    simp only [flat, List.flatMap_nil, List.nil_append, List.cons_append, cb_cons, cmpL]
    rw [if_neg (by simp), if_pos (by simp; omega)]
    rfl
  | x :: a, y :: b, ha, hb, p, q => by
    have ih := flat_cmp a b (fun z hz => ha z (by simp [hz])) (fun z hz => hb z (by simp [hz])) p q
    have h1 := bytesV_cmp (ha x (by simp)).1 (hb y (by simp)).1 (ha x (by simp)).2 (hb y (by simp)).2 (flat a ++ 0 :: p) (flat b ++ 0 :: q)
    rw [flat_cons, flat_cons, List.append_assoc, List.append_assoc]
    refine Eq.trans h1 ?_
    rw [show cmpV x.1 x.2.1 (bs x.2.2) y.1 y.2.1 (bs y.2.2) = cmpT x y from rfl, ih]
    unfold cmpL
    by_cases h : cmpT x y = 0
    · rw [if_pos h, if_pos h]
      cases a <;> cases b <;> rfl
    · rw [if_neg h, if_neg h, if_neg h]

theorem two_cmp {f g : Int} (h1 : -1000 ≤ f) (h2 : f ≤ 1000) (h3 : -1000 ≤ g) (h4 : g ≤ 1000) (p q : Bs) : compareBytes (two f ++ p) (two g ++ q) = if f = g then compareBytes p q else compareInt f g := by
  have e1 := UInt8.toNat_ofNat' (n := (f + 1000).toNat / 256)
  have e2 := UInt8.toNat_ofNat' (n := (f + 1000).toNat % 256)
  have e3 := UInt8.toNat_ofNat' (n := (g + 1000).toNat / 256)
  have e4 := UInt8.toNat_ofNat' (n := (g + 1000).toNat % 256)
  simp only [two, List.cons_append, List.nil_append, cb_cons, e1, e2, e3, e4]
  clear e1 e2 e3 e4
  unfold compareInt
  by_cases h : f = g
  · subst h
    simp
  · rw [if_neg h]
    repeat' split
    all_goals first | rfl | omega

theorem enc_cmp {a b : List Vt} {f t f' t' : Int} (ha : rightRow a f t = true) (hb : rightRow b f' t' = true) (na : Few a) (nb : Few b) (P Q : Bs) :
    compareBytes (encR a f t ++ P) (encR b f' t' ++ Q) = if cmpR a f t b f' t' = 0 then compareBytes P Q else cmpR a f t b f' t' := by
  obtain ⟨_, _, oka, sa⟩ := rightRow_parts ha
  obtain ⟨_, _, okb, sb⟩ := rightRow_parts hb
  have hsa : -1000 ≤ f ∧ f < t ∧ t ≤ 1000 := by simpa [spanR] using sa
  have hsb : -1000 ≤ f' ∧ f' < t' ∧ t' ≤ 1000 := by simpa [spanR] using sb
  have e : ∀ (vs : List Vt) (x y : Int) (R : Bs), encR vs x y ++ R = flat vs ++ 0 :: (two x ++ (two y ++ R)) := fun vs x y R => by unfold encR; simp
  rw [e, e, flat_cmp a b (fun x hx => ⟨oka x hx, (na x hx).1⟩) (fun x hx => ⟨okb x hx, (nb x hx).1⟩), two_cmp (by omega) (by omega) (by omega) (by omega), two_cmp (by omega) (by omega) (by omega) (by omega)]
  unfold cmpR
  have hne : ∀ x y : Int, x ≠ y → compareInt x y ≠ 0 := fun x y h => by
    unfold compareInt
    repeat' split
    all_goals omega
  have hss : ∀ x : Int, compareInt x x = 0 := fun x => by simp [compareInt]
  by_cases h1 : cmpL a b = 0
  · simp only [h1, if_true]
    by_cases h2 : f = f'
    · subst h2
      simp only [if_true]
      by_cases h3 : t = t'
      · subst h3; simp [hss]
      · simp [h3, hne t t' h3]
    · simp [h2, hne f f' h2]
  · simp [h1]

end Go.Proofs.YthfkmedpcmiibaaDoor
