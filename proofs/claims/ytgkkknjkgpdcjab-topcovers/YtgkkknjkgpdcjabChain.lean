/- Chains of spans: pieces that meet, from one point to another; they are told by their ends. -/
import Derived.Test.YtgkkknjkgpdcjabHelp
namespace Go.Proofs.Ytgkkknjkgpdcjab

def Chn : Int → List (Int × Int) → Int → Prop
  | a, [], b => a = b
  | a, x :: r, b => x.1 = a ∧ a < x.2 ∧ Chn x.2 r b
/-- one of them ends there -/
def E (l : List (Int × Int)) (p : Int) : Prop := ∃ x, x ∈ l ∧ x.2 = p
theorem E_nil (p : Int) : ¬ E [] p := by rintro ⟨x, h, _⟩; simp at h
theorem E_cons (x : Int × Int) (l : List (Int × Int)) (p : Int) : E (x :: l) p ↔ x.2 = p ∨ E l p := by
  constructor
  · rintro ⟨y, hy, h⟩
    rcases List.mem_cons.1 hy with rfl | hy
    · exact .inl h
    · exact .inr ⟨y, hy, h⟩
  · rintro (h | ⟨y, hy, h⟩)
    · exact ⟨x, by simp, h⟩
    · exact ⟨y, List.mem_cons_of_mem _ hy, h⟩
theorem E_append (l m : List (Int × Int)) (p : Int) : E (l ++ m) p ↔ E l p ∨ E m p := by
  induction l with
  | nil => simp [E_nil]
  | cons x r ih => rw [List.cons_append, E_cons, E_cons, ih, or_assoc]

theorem chn_le : ∀ (l : List (Int × Int)) (a b : Int), Chn a l b → a ≤ b
  | [], a, b, h => by rw [show a = b from h]; exact Int.le_refl _
  | x :: r, a, b, h => by have := chn_le r _ _ h.2.2; have := h.2.1; omega
theorem chn_end : ∀ (l : List (Int × Int)) (a b : Int), Chn a l b → ∀ p, E l p → a < p ∧ p ≤ b
  | [], _, _, _, p, hp => absurd hp (E_nil p)
  | x :: r, a, b, h, p, hp => by
    have h1 := h.2.1
    have h2 := chn_le r _ _ h.2.2
    rcases (E_cons _ _ _).1 hp with e | e
    · omega
    · have := chn_end r _ _ h.2.2 p e; omega
theorem chn_unique : ∀ (l m : List (Int × Int)) (a b : Int), Chn a l b → Chn a m b → (∀ p, E l p ↔ E m p) → l = m
  | [], [], _, _, _, _, _ => rfl
  | [], y :: s, a, b, _, _, h => absurd ((h y.2).2 ((E_cons _ _ _).2 (.inl rfl))) (E_nil _)
  | x :: r, [], a, b, _, _, h => absurd ((h x.2).1 ((E_cons _ _ _).2 (.inl rfl))) (E_nil _)
  | x :: r, y :: s, a, b, hl, hm, h => by
    have er := chn_end r _ _ hl.2.2
    have es := chn_end s _ _ hm.2.2
    have hh : ∀ p, (x.2 = p ∨ E r p) ↔ (y.2 = p ∨ E s p) := fun p => by rw [← E_cons, ← E_cons]; exact h p
    have e2 : x.2 = y.2 := by
      rcases (hh x.2).1 (.inl rfl) with q | q
      · exact q.symm
      · have q1 := es _ q
        rcases (hh y.2).2 (.inl rfl) with q2 | q2
        · exact q2
        · have := er _ q2; omega
    have e1 : x.1 = y.1 := hl.1.trans hm.1.symm
    have exy : x = y := Prod.ext e1 e2
    subst exy
    rw [chn_unique r s x.2 b hl.2.2 hm.2.2 fun p => ?_]
    constructor
    · intro hp
      have := er _ hp
      rcases (hh p).1 (.inr hp) with q | q
      · omega
      · exact q
    · intro hp
      have := es _ hp
      rcases (hh p).2 (.inr hp) with q | q
      · omega
      · exact q
theorem chn_snoc : ∀ (l : List (Int × Int)) (a f c : Int), Chn a l f → f < c → Chn a (l ++ [(f, c)]) c
  | [], a, f, c, h, hc => by
    have e : a = f := h
    subst e
    exact ⟨rfl, hc, rfl⟩
  | x :: r, a, f, c, h, hc => ⟨h.1, h.2.1, chn_snoc r _ _ _ h.2.2 hc⟩
theorem chn_mem : ∀ (l : List (Int × Int)) (a b : Int), Chn a l b → ∀ x, x ∈ l → a ≤ x.1 ∧ x.1 < x.2 ∧ x.2 ≤ b
  | [], _, _, _, x, hx => by simp at hx
  | y :: r, a, b, h, x, hx => by
    have h1 := h.1
    have h2 := h.2.1
    have h3 := chn_le r _ _ h.2.2
    rcases List.mem_cons.1 hx with rfl | hx
    · omega
    · have := chn_mem r _ _ h.2.2 x hx; omega
theorem chn_pt : ∀ (l : List (Int × Int)) (a b : Int), Chn a l b → ∀ p, Pt l p ↔ a ≤ p ∧ p < b
  | [], a, b, h, p => by
    have e : a = b := h
    constructor
    · intro hp; exact absurd hp (pt_nil _)
    · intro hp; omega
  | y :: r, a, b, h, p => by
    have h1 := h.1
    have h2 := h.2.1
    have h3 := chn_le r _ _ h.2.2
    rw [pt_cons, chn_pt r _ _ h.2.2]
    constructor
    · rintro (q | q) <;> omega
    · intro q
      by_cases hp : p < y.2
      · exact .inl (by omega)
      · exact .inr (by omega)
theorem chn_step : ∀ (l : List (Int × Int)) (a b : Int), Chn a l b → ∀ j, (hj : j + 1 < l.length) → l[j].2 = l[j + 1].1
  | [], _, _, _, j, hj => by simp at hj
  | [x], _, _, _, j, hj => by simp at hj
  | x :: y :: r, a, b, h, j, hj => by
    cases j with
    | zero => exact h.2.2.1.symm
    | succ j =>
      have := chn_step (y :: r) _ _ h.2.2 j (by simpa using hj)
      simpa using this

/-- behind k of the rising points -/
structure Cutd (cs : List Int) (a : Int) (k : Nat) (l : List (Int × Int)) (f : Int) : Prop where
  chn : Chn a l f
  ends : ∀ p, E l p ↔ p ∈ cs.take k
  at_ : f = a ∨ E l f
  len : l.length ≤ k

theorem Cutd.start (cs : List Int) (a : Int) : Cutd cs a 0 [] a := ⟨rfl, fun p => by simp [E_nil], .inl rfl, by simp⟩
theorem Cutd.step {cs : List Int} {a f : Int} {k : Nat} {l : List (Int × Int)} (h : Cutd cs a k l f) (hk : k < cs.length) (ha : a < cs[k]) (hs : ∀ j, (hj : j < k) → cs[j] ≤ cs[k]) : Cutd cs a (k + 1) (addP l f cs[k]) cs[k] := by
  have hf : f ≤ cs[k] := by
    rcases h.at_ with q | q
    · omega
    · have := (h.ends f).1 q
      obtain ⟨j, hj, e⟩ := List.mem_iff_getElem.1 this
      have hj' : j < k := by simp at hj; omega
      rw [List.getElem_take] at e
      rw [← e]; exact hs j hj'
  unfold addP
  by_cases hlt : f < cs[k]
  · rw [if_pos hlt]
    refine ⟨chn_snoc _ _ _ _ h.chn hlt, fun p => ?_, .inr ?_, by have := h.len; simp; omega⟩
    · rw [E_append, h.ends, List.take_succ_eq_append_getElem hk, E_cons, List.mem_append]
      constructor
      · rintro (q | q | q)
        · exact .inl q
        · exact .inr (by simp [← q])
        · exact absurd q (E_nil _)
      · rintro (q | q)
        · exact .inl q
        · exact .inr (.inl (by simpa using Eq.symm (List.mem_singleton.1 q)))
    · rw [E_append, E_cons]; exact .inr (.inl rfl)
  · have e : f = cs[k] := by omega
    rw [if_neg hlt]
    have hE : E l cs[k] := by
      rcases h.at_ with q | q
      · omega
      · rw [← e]; exact q
    refine ⟨by rw [← e]; exact h.chn, fun p => ?_, .inr hE, by have := h.len; omega⟩
    rw [h.ends, List.take_succ_eq_append_getElem hk, List.mem_append]
    constructor
    · exact .inl
    · rintro (q | q)
      · exact q
      · rw [List.mem_singleton.1 q]; exact (h.ends _).1 hE
theorem Cutd.finish {cs : List Int} {a b f : Int} {l : List (Int × Int)} (h : Cutd cs a cs.length l f) (hab : a < b) (hc : ∀ c, c ∈ cs → c < b) : Chn a (addP l f b) b ∧ (∀ p, E (addP l f b) p ↔ p = b ∨ p ∈ cs) ∧ (addP l f b).length ≤ cs.length + 1 := by
  have he := h.ends
  rw [List.take_length] at he
  have hf : f < b := by
    rcases h.at_ with q | q
    · omega
    · exact hc f ((he f).1 q)
  unfold addP
  rw [if_pos hf]
  refine ⟨chn_snoc _ _ _ _ h.chn hf, fun p => ?_, by have := h.len; simp; omega⟩
  rw [E_append, E_cons, he]
  constructor
  · rintro (q | q | q)
    · exact .inr q
    · exact .inl q.symm
    · exact absurd q (E_nil _)
  · rintro (q | q)
    · exact .inr (.inl q.symm)
    · exact .inl q

/-- the reference's: behind all points ahead of p -/
structure Rcut (at_ : List Int) (a b : Int) (p : Int) (l : List (Int × Int)) (f : Int) : Prop where
  chn : Chn a l f
  lt : f < p
  ends : ∀ q, E l q ↔ a < q ∧ q < p ∧ (q = b ∨ q ∈ at_)
  last : f = a ∨ E l f
  len : (l.length : Int) ≤ p - a - 1

theorem Rcut.start (at_ : List Int) (a b : Int) : Rcut at_ a b (a + 1) [] a := ⟨rfl, by omega, fun q => ⟨fun h => absurd h (E_nil _), fun h => by omega⟩, .inl rfl, by simp; omega⟩
theorem Rcut.yes {at_ : List Int} {a b p f : Int} {l : List (Int × Int)} (h : Rcut at_ a b p l f) (hc : p = b ∨ p ∈ at_) (hap : a < p) : Rcut at_ a b (p + 1) (l ++ [(f, p)]) p := by
  refine ⟨chn_snoc _ _ _ _ h.chn h.lt, by omega, fun q => ?_, .inr (by rw [E_append, E_cons]; exact .inr (.inl rfl)), by have := h.len; simp; omega⟩
  rw [E_append, E_cons, h.ends]
  constructor
  · rintro (⟨q1, q2, q3⟩ | q1 | q1)
    · exact ⟨q1, by omega, q3⟩
    · simp only at q1; subst q1; exact ⟨hap, by omega, hc⟩
    · exact absurd q1 (E_nil _)
  · rintro ⟨q1, q2, q3⟩
    by_cases e : q = p
    · exact .inr (.inl e.symm)
    · exact .inl ⟨q1, by omega, q3⟩
theorem Rcut.no {at_ : List Int} {a b p f : Int} {l : List (Int × Int)} (h : Rcut at_ a b p l f) (hc : ¬ (p = b ∨ p ∈ at_)) : Rcut at_ a b (p + 1) l f := by
  refine ⟨h.chn, by have := h.lt; omega, fun q => ?_, h.last, by have := h.len; omega⟩
  rw [h.ends]
  constructor
  · rintro ⟨q1, q2, q3⟩; exact ⟨q1, by omega, q3⟩
  · rintro ⟨q1, q2, q3⟩
    by_cases e : q = p
    · subst e; exact absurd q3 hc
    · exact ⟨q1, by omega, q3⟩
theorem Rcut.finish {at_ : List Int} {a b f : Int} {l : List (Int × Int)} (h : Rcut at_ a b (b + 1) l f) (hab : a < b) : Chn a l b ∧ ∀ q, E l q ↔ q = b ∨ (a < q ∧ q < b ∧ q ∈ at_) := by
  have hb : E l b := (h.ends b).2 ⟨hab, by omega, .inl rfl⟩
  have hfb : f = b := by
    have := h.lt
    have := (chn_end l _ _ h.chn b hb).2
    omega
  refine ⟨by rw [← hfb]; exact h.chn, fun q => ?_⟩
  rw [h.ends]
  constructor
  · rintro ⟨q1, q2, q3⟩
    by_cases e : q = b
    · exact .inl e
    · exact .inr ⟨q1, by omega, q3.resolve_left e⟩
  · rintro (q | ⟨q1, q2, q3⟩)
    · subst q; exact ⟨hab, by omega, .inl rfl⟩
    · exact ⟨q1, by omega, .inr q3⟩

end Go.Proofs.Ytgkkknjkgpdcjab
