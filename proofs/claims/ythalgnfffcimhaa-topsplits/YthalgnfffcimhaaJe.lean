/- Lists of spans and their points: a rising list none of which touches the next one is told by its points. -/
import Derived.Test.YthalgnfffcimhaaJd
namespace Go.Proofs.Ythalgnfffcimhaa.Sp

/-- p is a point of one of the list's -/
def Pt (xs : List (Int × Int)) (p : Int) : Prop := ∃ x, x ∈ xs ∧ x.1 ≤ p ∧ p < x.2
/-- rising, none touches the next -/
def Canon (xs : List (Int × Int)) : Prop := (∀ x, x ∈ xs → rightB x.1 x.2 = true) ∧ xs.Pairwise fun x y => x.2 < y.1

theorem pt_nil (p : Int) : ¬ Pt [] p := by rintro ⟨x, h, _⟩; simp at h
theorem pt_cons (x : Int × Int) (xs : List (Int × Int)) (p : Int) : Pt (x :: xs) p ↔ (x.1 ≤ p ∧ p < x.2) ∨ Pt xs p := by
  constructor
  · rintro ⟨y, hy, h⟩
    rcases List.mem_cons.1 hy with rfl | hy
    · exact .inl h
    · exact .inr ⟨y, hy, h⟩
  · rintro (h | ⟨y, hy, h⟩)
    · exact ⟨x, by simp, h⟩
    · exact ⟨y, List.mem_cons_of_mem _ hy, h⟩
theorem pt_append (xs ys : List (Int × Int)) (p : Int) : Pt (xs ++ ys) p ↔ Pt xs p ∨ Pt ys p := by
  induction xs with
  | nil => simp [pt_nil]
  | cons x r ih => rw [List.cons_append, pt_cons, pt_cons, ih, or_assoc]
theorem pt_perm {xs ys : List (Int × Int)} (h : xs.Perm ys) (p : Int) : Pt xs p ↔ Pt ys p := by
  constructor
  · rintro ⟨x, hx, hp⟩; exact ⟨x, h.mem_iff.1 hx, hp⟩
  · rintro ⟨x, hx, hp⟩; exact ⟨x, h.mem_iff.2 hx, hp⟩

theorem canon_head {x : Int × Int} {xs : List (Int × Int)} (h : Canon (x :: xs)) (p : Int) (hp : Pt xs p) : x.2 < p := by
  obtain ⟨y, hy, h1, _⟩ := hp
  have := (List.pairwise_cons.1 h.2).1 y hy
  omega
theorem canon_tail {x : Int × Int} {xs : List (Int × Int)} (h : Canon (x :: xs)) : Canon xs := ⟨fun y hy => h.1 y (List.mem_cons_of_mem _ hy), (List.pairwise_cons.1 h.2).2⟩

theorem canon_unique : ∀ (xs ys : List (Int × Int)), Canon xs → Canon ys → (∀ p, Pt xs p ↔ Pt ys p) → xs = ys
  | [], [], _, _, _ => rfl
  | [], y :: ys, _, hy, h => by
    have r := (rightB_iff _ _).1 (hy.1 y (by simp))
    exact absurd ((h y.1).2 ((pt_cons _ _ _).2 (.inl ⟨Int.le_refl _, r.2.1⟩))) (pt_nil _)
  | x :: xs, [], hx, _, h => by
    have r := (rightB_iff _ _).1 (hx.1 x (by simp))
    exact absurd ((h x.1).1 ((pt_cons _ _ _).2 (.inl ⟨Int.le_refl _, r.2.1⟩))) (pt_nil _)
  | x :: xs, y :: ys, hx, hy, h => by
    have rx := (rightB_iff _ _).1 (hx.1 x (by simp))
    have ry := (rightB_iff _ _).1 (hy.1 y (by simp))
    have kx := canon_head hx
    have ky := canon_head hy
    have hh : ∀ p, ((x.1 ≤ p ∧ p < x.2) ∨ Pt xs p) ↔ ((y.1 ≤ p ∧ p < y.2) ∨ Pt ys p) := fun p => by rw [← pt_cons, ← pt_cons]; exact h p
    have e1 : x.1 = y.1 := by
      have a := (hh x.1).1 (.inl ⟨Int.le_refl _, rx.2.1⟩)
      have b := (hh y.1).2 (.inl ⟨Int.le_refl _, ry.2.1⟩)
      rcases a with a | a
      · rcases b with b | b
        · omega
        · have := kx _ b; omega
      · have := ky _ a
        rcases b with b | b
        · omega
        · have := kx _ b; omega
    have e2 : x.2 = y.2 := by
      rcases (show x.2 < y.2 ∨ x.2 = y.2 ∨ y.2 < x.2 by omega) with c | c | c
      · have a := (hh x.2).2 (.inl ⟨by omega, c⟩)
        rcases a with a | a
        · omega
        · have := kx _ a; omega
      · exact c
      · have a := (hh y.2).1 (.inl ⟨by omega, c⟩)
        rcases a with a | a
        · omega
        · have := ky _ a; omega
    have e : x = y := Prod.ext e1 e2
    subst e
    rw [canon_unique xs ys (canon_tail hx) (canon_tail hy) fun p => ?_]
    constructor
    · intro hp
      have := kx _ hp
      rcases (hh p).1 (.inr hp) with a | a
      · omega
      · exact a
    · intro hp
      have := ky _ hp
      rcases (hh p).2 (.inr hp) with a | a
      · omega
      · exact a

/-- a point of one that is right -/
def Has (xs : List (Int × Int)) (p : Int) : Prop := Pt (rights xs) p

/-- what Join has behind k of the rising ones -/
structure Joined (rs : List (Int × Int)) (k : Nat) (acc : List (Int × Int)) : Prop where
  canon : Canon acc
  pt : ∀ p, Pt acc p ↔ Pt (rs.take k) p
  ahead : ∀ y, y ∈ acc → ∀ j, (h : j < rs.length) → k ≤ j → y.1 ≤ rs[j].1
  len : acc.length ≤ k

theorem Joined.start (rs : List (Int × Int)) : Joined rs 0 [] := ⟨⟨by simp, by simp⟩, by simp, by simp, by simp⟩

theorem pt_take_succ (rs : List (Int × Int)) (k : Nat) (h : k < rs.length) (p : Int) : Pt (rs.take (k + 1)) p ↔ Pt (rs.take k) p ∨ (rs[k].1 ≤ p ∧ p < rs[k].2) := by
  rw [List.take_succ_eq_append_getElem h, pt_append, pt_cons]
  simp [pt_nil]

theorem Joined.add {rs acc : List (Int × Int)} {k : Nat} (h : Joined rs k acc) (hk : k < rs.length) (hr : ∀ x, x ∈ rs → rightB x.1 x.2 = true) (hs : Rising rs) (hlast : ∀ y, y ∈ acc → y.2 < rs[k].1) : Joined rs (k + 1) (acc ++ [rs[k]]) := by
  refine ⟨⟨?_, ?_⟩, ?_, ?_, ?_⟩
  · intro x hx
    rcases List.mem_append.1 hx with hx | hx
    · exact h.canon.1 x hx
    · rw [List.mem_singleton.1 hx]; exact hr _ (List.getElem_mem hk)
  · rw [List.pairwise_append]
    exact ⟨h.canon.2, by simp, fun x hx y hy => by rw [List.mem_singleton.1 hy]; exact hlast x hx⟩
  · intro p
    rw [pt_append, pt_take_succ _ _ hk, h.pt, pt_cons]
    simp [pt_nil]
  · intro y hy j hj hkj
    rcases List.mem_append.1 hy with hy | hy
    · exact h.ahead y hy j hj (by omega)
    · rw [List.mem_singleton.1 hy]
      exact hs k j hj (by omega)
  · have := h.len; simp; omega

theorem Joined.widen {rs ini : List (Int × Int)} {a b m : Int} {k : Nat} (h : Joined rs k (ini ++ [(a, b)])) (hk : k < rs.length) (hr : ∀ x, x ∈ rs → rightB x.1 x.2 = true) (hle : rs[k].1 ≤ b) (hm : m = max b rs[k].2) : Joined rs (k + 1) (ini ++ [(a, m)]) := by
  have ha : a ≤ rs[k].1 := h.ahead (a, b) (by simp) k hk (Nat.le_refl _)
  have r1 := (rightB_iff _ _).1 (h.canon.1 (a, b) (by simp))
  have r2 := (rightB_iff _ _).1 (hr _ (List.getElem_mem hk))
  have hp := h.canon.2
  rw [List.pairwise_append] at hp
  refine ⟨⟨?_, ?_⟩, ?_, ?_, ?_⟩
  · intro x hx
    rcases List.mem_append.1 hx with hx | hx
    · exact h.canon.1 x (by simp [hx])
    · rw [List.mem_singleton.1 hx, rightB_iff]; simp only at *; omega
  · rw [List.pairwise_append]
    refine ⟨hp.1, by simp, fun x hx y hy => ?_⟩
    have := hp.2.2 x hx (a, b) (by simp)
    rw [List.mem_singleton.1 hy]; simpa using this
  · intro p
    have hpt := h.pt p
    rw [pt_append, pt_cons] at hpt
    rw [pt_append, pt_take_succ _ _ hk, ← hpt, pt_cons]
    have := pt_nil p
    constructor
    · rintro (c | c | c)
      · exact .inl (.inl c)
      · by_cases hpb : p < b
        · exact .inl (.inr (.inl ⟨c.1, hpb⟩))
        · exact .inr ⟨by omega, by have := c.2; simp only at this; omega⟩
      · exact absurd c this
    · rintro ((c | c | c) | c)
      · exact .inl c
      · exact .inr (.inl ⟨c.1, by have := c.2; simp only at *; omega⟩)
      · exact absurd c this
      · exact .inr (.inl ⟨by simp only; omega, by simp only; omega⟩)
  · intro y hy j hj hkj
    rcases List.mem_append.1 hy with hy | hy
    · exact h.ahead y (by simp [hy]) j hj (by omega)
    · rw [List.mem_singleton.1 hy]
      have := h.ahead (a, b) (by simp) j hj (by omega)
      simpa using this
  · have := h.len; simp at this ⊢; omega

end Go.Proofs.Ythalgnfffcimhaa.Sp
