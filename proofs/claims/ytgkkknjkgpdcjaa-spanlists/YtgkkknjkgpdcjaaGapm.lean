/- The numbers of gaps: what is left of a span, piece by piece. -/
import Derived.Test.YtgkkknjkgpdcjaaLive
namespace Go.Proofs.Ytgkkknjkgpdcjaa

/-- behind k of the joined ones: the pieces gs, and where the next one begins -/
structure Gapped (ys : List (Int × Int)) (a b : Int) (k : Nat) (gs : List (Int × Int)) (f : Int) : Prop where
  canon : Canon gs
  lo : a ≤ f
  hi : f ≤ b
  ends : ∀ y, y ∈ gs → y.2 < f
  pt : ∀ p, Pt gs p ↔ a ≤ p ∧ p < f ∧ ¬ Pt (ys.take k) p
  ahead : ∀ p, a ≤ p → p < b → Pt (ys.drop k) p → f ≤ p
  done : ∀ p, Pt (ys.take k) p → a ≤ p → p < b → p < f
  len : gs.length ≤ k

theorem pt_drop (ys : List (Int × Int)) (k : Nat) (h : k < ys.length) (p : Int) : Pt (ys.drop k) p ↔ (ys[k].1 ≤ p ∧ p < ys[k].2) ∨ Pt (ys.drop (k + 1)) p := by
  rw [List.drop_eq_getElem_cons h, pt_cons]

theorem canon_drop {ys : List (Int × Int)} (h : Canon ys) (k : Nat) (hk : k < ys.length) (p : Int) (hp : Pt (ys.drop (k + 1)) p) : ys[k].2 < p := by
  have h2 : Canon (ys.drop k) := ⟨fun x hx => h.1 x (List.mem_of_mem_drop hx), h.2.sublist (List.drop_sublist _ _)⟩
  rw [List.drop_eq_getElem_cons hk] at h2
  exact canon_head h2 p hp

theorem addP_pt (gs : List (Int × Int)) (f x : Int) (p : Int) : Pt (addP gs f x) p ↔ Pt gs p ∨ (f ≤ p ∧ p < x) := by
  unfold addP
  by_cases h : f < x
  · rw [if_pos h, pt_append, pt_cons]; simp [pt_nil]
  · rw [if_neg h]
    constructor
    · exact .inl
    · rintro (h2 | h2)
      · exact h2
      · omega
theorem addP_canon {gs : List (Int × Int)} {f x : Int} (h : Canon gs) (he : ∀ y, y ∈ gs → y.2 < f) (hf : -1000 ≤ f) (hx : x ≤ 1000) : Canon (addP gs f x) := by
  unfold addP
  by_cases hl : f < x
  · rw [if_pos hl]
    refine ⟨fun y hy => ?_, ?_⟩
    · rcases List.mem_append.1 hy with hy | hy
      · exact h.1 y hy
      · rw [List.mem_singleton.1 hy, rightB_iff]; omega
    · rw [List.pairwise_append]
      exact ⟨h.2, by simp, fun y hy z hz => by rw [List.mem_singleton.1 hz]; exact he y hy⟩
  · rw [if_neg hl]; exact h
theorem addP_mem {gs : List (Int × Int)} {f x : Int} {y : Int × Int} (h : y ∈ addP gs f x) : y ∈ gs ∨ y = (f, x) := by
  unfold addP at h
  split at h
  · simpa using h
  · exact .inl h
theorem addP_len (gs : List (Int × Int)) (f x : Int) : (addP gs f x).length ≤ gs.length + 1 := by
  unfold addP; split <;> simp

theorem Gapped.start (ys : List (Int × Int)) (a b : Int) (h : a ≤ b) : Gapped ys a b 0 [] a where
  canon := ⟨by simp, by simp⟩
  lo := Int.le_refl _
  hi := h
  ends := by simp
  pt := fun p => ⟨fun h => absurd h (pt_nil _), fun h => by omega⟩
  ahead := fun p h _ _ => h
  done := fun p h => absurd h (by simpa using pt_nil p)
  len := by simp

theorem Gapped.skip {ys gs : List (Int × Int)} {a b f : Int} {k : Nat} (h : Gapped ys a b k gs f) (hk : k < ys.length) (hno : ¬ (max ys[k].1 a < min ys[k].2 b)) (hab : a < b) (hr : ys[k].1 < ys[k].2) : Gapped ys a b (k + 1) gs f where
  canon := h.canon
  lo := h.lo
  hi := h.hi
  ends := h.ends
  pt := fun p => by
    rw [h.pt, pt_take_succ _ _ hk]
    have := h.hi
    constructor
    · rintro ⟨h1, h2, h3⟩
      exact ⟨h1, h2, fun h4 => by rcases h4 with h4 | h4; exact h3 h4; omega⟩
    · rintro ⟨h1, h2, h3⟩
      exact ⟨h1, h2, fun h4 => h3 (.inl h4)⟩
  ahead := fun p h1 h2 h3 => h.ahead p h1 h2 ((pt_drop _ _ hk _).2 (.inr h3))
  done := fun p h1 h2 h3 => by
    rcases (pt_take_succ _ _ hk _).1 h1 with h4 | h4
    · exact h.done p h4 h2 h3
    · omega
  len := by have := h.len; omega

theorem Gapped.add {ys gs : List (Int × Int)} {a b f : Int} {k : Nat} (h : Gapped ys a b k gs f) (hy : Canon ys) (hk : k < ys.length) (hyes : max ys[k].1 a < min ys[k].2 b) (ha : -1000 ≤ a) (hb : b ≤ 1000) :
    Gapped ys a b (k + 1) (addP gs f (max ys[k].1 a)) (min ys[k].2 b) := by
  have hfx : f ≤ max ys[k].1 a := h.ahead _ (by omega) (by omega) ((pt_drop _ _ hk _).2 (.inl ⟨by omega, by omega⟩))
  have hlo := h.lo
  have hhi := h.hi
  refine ⟨addP_canon h.canon h.ends (by omega) (by omega), by omega, by omega, ?_, ?_, ?_, ?_, ?_⟩
  · intro y hm
    rcases addP_mem hm with h1 | h1
    · have := h.ends y h1; omega
    · rw [h1]; exact hyes
  · intro p
    rw [addP_pt, h.pt, pt_take_succ _ _ hk]
    constructor
    · rintro (⟨h1, h2, h3⟩ | ⟨h1, h2⟩)
      · exact ⟨h1, by omega, fun h4 => by rcases h4 with h4 | h4; exact h3 h4; omega⟩
      · refine ⟨by omega, by omega, fun h4 => ?_⟩
        rcases h4 with h4 | h4
        · have := h.done p h4 (by omega) (by omega); omega
        · omega
    · rintro ⟨h1, h2, h3⟩
      by_cases h4 : p < f
      · exact .inl ⟨h1, h4, fun h5 => h3 (.inl h5)⟩
      · exact .inr ⟨by omega, by
          rcases Int.lt_or_le p (max ys[k].1 a) with h5 | h5
          · exact h5
          · exact absurd (.inr ⟨by omega, by omega⟩) h3⟩
  · intro p _ _ h3
    have := canon_drop hy k hk p h3; omega
  · intro p h1 h2 h3
    rcases (pt_take_succ _ _ hk _).1 h1 with h4 | h4
    · have := h.done p h4 h2 h3; omega
    · omega
  · have := h.len; have := addP_len gs f (max ys[k].1 a); omega

theorem Gapped.finish {ys gs : List (Int × Int)} {a b f : Int} (h : Gapped ys a b ys.length gs f) (ha : -1000 ≤ a) (hb : b ≤ 1000) :
    Canon (addP gs f b) ∧ (∀ p, Pt (addP gs f b) p ↔ (a ≤ p ∧ p < b) ∧ ¬ Pt ys p) ∧ (addP gs f b).length ≤ ys.length + 1 := by
  have hlo := h.lo
  have hhi := h.hi
  refine ⟨addP_canon h.canon h.ends (by omega) hb, fun p => ?_, by have := h.len; have := addP_len gs f b; omega⟩
  have hp := h.pt p
  have hd := h.done p
  rw [List.take_length] at hp hd
  rw [addP_pt, hp]
  constructor
  · rintro (⟨h1, h2, h3⟩ | ⟨h1, h2⟩)
    · exact ⟨⟨h1, by omega⟩, h3⟩
    · exact ⟨⟨by omega, h2⟩, fun h3 => by have := hd h3 (by omega) h2; omega⟩
  · rintro ⟨⟨h1, h2⟩, h3⟩
    by_cases h4 : p < f
    · exact .inl ⟨h1, h4, h3⟩
    · exact .inr ⟨by omega, h2⟩

end Go.Proofs.Ytgkkknjkgpdcjaa
