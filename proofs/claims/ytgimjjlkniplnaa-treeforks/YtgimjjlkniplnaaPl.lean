/- Pairs by keys, rising: what is put, taken out, found; plain. -/
import Derived.Test.YtgimjjlkniplnaaOd
namespace Go.Proofs.Ytgimjjlkniplnaa
open Go

abbrev Pr := ByteArray × ByteArray
def lt (a b : ByteArray) : Bool := decide (cmpS a b = -1)
theorem lt_irrefl (a : ByteArray) : lt a a = false := by
  have := (ordS.eq a a).2 rfl
  simp [lt, this]
theorem lt_trans {a b c : ByteArray} (h : lt a b = true) (k : lt b c = true) : lt a c = true := by
  simp only [lt, decide_eq_true_eq] at *
  exact ordS.trans _ _ _ h k
theorem lt_three (a b : ByteArray) : lt a b = true ∨ a = b ∨ lt b a = true := by
  simp only [lt, decide_eq_true_eq]
  have h1 := ordS.three a b
  have h2 := ordS.neg a b
  have h3 := ordS.eq a b
  rcases h1 with h | h | h
  · exact .inl h
  · exact .inr (.inl (h3.1 h))
  · exact .inr (.inr (by omega))
theorem lt_not {a b : ByteArray} (h : lt a b = true) : lt b a = false := by
  cases h2 : lt b a
  · rfl
  · have := lt_trans h h2
    rw [lt_irrefl] at this
    cases this
theorem lt_ne {a b : ByteArray} (h : lt a b = true) : a ≠ b := fun e => by rw [e, lt_irrefl] at h; cases h
theorem nlt_eq {a b : ByteArray} (h : lt a b = false) (k : lt b a = false) : a = b := by
  rcases lt_three a b with q | q | q
  · rw [q] at h; cases h
  · exact q
  · rw [q] at k; cases k
theorem nlt_lt {a b c : ByteArray} (h : lt b a = false) (k : lt b c = true) : lt a c = true := by
  rcases lt_three a b with q | q | q
  · exact lt_trans q k
  · rw [q]; exact k
  · rw [q] at h; cases h
theorem lt_nlt {a b c : ByteArray} (h : lt a b = true) (k : lt c b = false) : lt a c = true := by
  rcases lt_three b c with q | q | q
  · exact lt_trans h q
  · rw [← q]; exact h
  · rw [q] at k; cases k

def Srt (kv : List Pr) : Prop := kv.Pairwise fun a b => lt a.1 b.1 = true
def lo (kv : List Pr) (k : ByteArray) : List Pr := kv.filter fun p => lt p.1 k
def ge (kv : List Pr) (k : ByteArray) : List Pr := kv.filter fun p => !lt p.1 k
def hi (kv : List Pr) (k : ByteArray) : List Pr := kv.filter fun p => lt k p.1
def le (kv : List Pr) (k : ByteArray) : List Pr := kv.filter fun p => !lt k p.1
def put (kv : List Pr) (p : Pr) : List Pr := lo kv p.1 ++ p :: hi kv p.1
def del (kv : List Pr) (k : ByteArray) : List Pr := lo kv k ++ hi kv k
def has (kv : List Pr) (k : ByteArray) : Bool := kv.any fun p => decide (p.1 = k)

/-- A list that is cut at a place, ahead of which all keys are below k, and from which on none is. -/
theorem cut_lo : ∀ {kv : List Pr} {i : Nat} {k : ByteArray}, (∀ (j : Nat) (p : Pr), kv[j]? = some p → (lt p.1 k = true ↔ j < i)) → lo kv k = kv.take i ∧ ge kv k = kv.drop i
  | [], i, k, _ => by simp [lo, ge]
  | p :: kv, 0, k, h => by
    have h0 : lt p.1 k = false := by
      have := (h 0 p rfl)
      cases hq : lt p.1 k
      · rfl
      · exact absurd (this.1 hq) (by omega)
    have ih := @cut_lo kv 0 k (fun j q hj => ⟨fun hl => by have := (h (j + 1) q (by simpa using hj)).1 hl; omega, fun hl => by omega⟩)
    simp only [lo, ge, List.filter_cons, h0] at ih ⊢
    simp only [List.take_zero, List.drop_zero] at ih ⊢
    simp [ih.1, ih.2]
  | p :: kv, i + 1, k, h => by
    have h0 : lt p.1 k = true := (h 0 p rfl).2 (by omega)
    have ih := @cut_lo kv i k (fun j q hj => by have := h (j + 1) q (by simpa using hj); rw [this]; omega)
    simp only [lo, ge, List.filter_cons, h0] at ih ⊢
    simp [ih.1, ih.2]
theorem Srt.get {kv : List Pr} (h : Srt kv) {i j : Nat} {p q : Pr} (hi : kv[i]? = some p) (hj : kv[j]? = some q) (hij : i < j) : lt p.1 q.1 = true := by
  obtain ⟨h1, rfl⟩ := List.getElem?_eq_some_iff.1 hi
  obtain ⟨h2, rfl⟩ := List.getElem?_eq_some_iff.1 hj
  exact List.pairwise_iff_getElem.1 h i j h1 h2 hij
theorem filter_all {l : List Pr} {f : Pr → Bool} (h : ∀ x ∈ l, f x = true) : l.filter f = l := List.filter_eq_self.2 h
theorem filter_none {l : List Pr} {f : Pr → Bool} (h : ∀ x ∈ l, f x = false) : l.filter f = [] := List.filter_eq_nil_iff.2 (fun x hx => by rw [h x hx]; simp)
/-- The key is found at the place. -/
theorem cut_found {kv : List Pr} {i : Nat} {k : ByteArray} {p : Pr} (hs : Srt kv) (hp : kv[i]? = some p) (hk : p.1 = k) (h : ∀ (j : Nat) (p : Pr), kv[j]? = some p → (lt p.1 k = true ↔ j < i)) : hi kv k = kv.drop (i + 1) ∧ le kv k = kv.take (i + 1) ∧ has kv k = true := by
  subst hk
  have e : kv = kv.take (i + 1) ++ kv.drop (i + 1) := (List.take_append_drop _ _).symm
  have h1 : ∀ x ∈ kv.take (i + 1), lt p.1 x.1 = false := fun x hx => by
    obtain ⟨j, hj⟩ := List.getElem?_of_mem hx
    rw [List.getElem?_take] at hj
    split at hj
    · rename_i hji
      by_cases hij : j = i
      · subst hij
        rw [hp] at hj
        cases hj
        exact lt_irrefl _
      · exact lt_not (hs.get hj hp (by omega))
    · cases hj
  have h2 : ∀ x ∈ kv.drop (i + 1), lt p.1 x.1 = true := fun x hx => by
    obtain ⟨j, hj⟩ := List.getElem?_of_mem hx
    rw [List.getElem?_drop] at hj
    exact hs.get hp hj (by omega)
  refine ⟨?_, ?_, ?_⟩
  · unfold hi
    rw [e, List.filter_append, filter_none h1, filter_all h2]
    simp
  · unfold le
    rw [e, List.filter_append, filter_all (fun x hx => by rw [h1 x hx]; rfl), filter_none (fun x hx => by rw [h2 x hx]; rfl)]
    simp
  · exact List.any_eq_true.2 ⟨p, List.mem_of_getElem? hp, by simp⟩
/-- It is not there. -/
theorem cut_none {kv : List Pr} {i : Nat} {k : ByteArray} (h : ∀ (j : Nat) (p : Pr), kv[j]? = some p → (lt p.1 k = true ↔ j < i)) (hn : ∀ p, kv[i]? = some p → p.1 ≠ k) (hs : Srt kv) : hi kv k = kv.drop i ∧ le kv k = kv.take i ∧ has kv k = false := by
  have e : kv = kv.take i ++ kv.drop i := (List.take_append_drop _ _).symm
  have h1 : ∀ x ∈ kv.take i, lt x.1 k = true := fun x hx => by
    obtain ⟨j, hj⟩ := List.getElem?_of_mem hx
    rw [List.getElem?_take] at hj
    split at hj
    · exact (h j x hj).2 (by omega)
    · cases hj
  have h2 : ∀ x ∈ kv.drop i, lt k x.1 = true := fun x hx => by
    obtain ⟨j, hj⟩ := List.getElem?_of_mem hx
    rw [List.getElem?_drop] at hj
    have hl : ∃ p, kv[i]? = some p := by
      have := (List.getElem?_eq_some_iff.1 hj).1
      exact ⟨_, List.getElem?_eq_getElem (by omega)⟩
    obtain ⟨p, hp⟩ := hl
    have hp1 : lt p.1 k = false := by
      cases hq : lt p.1 k
      · rfl
      · exact absurd ((h i p hp).1 hq) (by omega)
    have hp2 : lt k p.1 = true := by
      rcases lt_three p.1 k with q | q | q
      · rw [q] at hp1; cases hp1
      · exact absurd q (hn p hp)
      · exact q
    by_cases hj0 : j = 0
    · subst hj0
      rw [Nat.add_zero, hp] at hj
      cases hj
      exact hp2
    · exact lt_trans hp2 (hs.get hp hj (by omega))
  refine ⟨?_, ?_, ?_⟩
  · unfold hi
    rw [e, List.filter_append, filter_none (fun x hx => lt_not (h1 x hx)), filter_all h2]
    simp
  · unfold le
    rw [e, List.filter_append, filter_all (fun x hx => by rw [lt_not (h1 x hx)]; rfl), filter_none (fun x hx => by rw [h2 x hx]; rfl)]
    simp
  · rw [e]
    unfold has
    rw [List.any_append, Bool.or_eq_false_iff]
    refine ⟨List.any_eq_false.2 fun x hx => ?_, List.any_eq_false.2 fun x hx => ?_⟩
    · simpa using lt_ne (h1 x hx)
    · simpa using (lt_ne (h2 x hx)).symm
/-- Three lists, one behind the other, of which the middle one alone has to do with k. -/
structure Mid (A B C : List Pr) (k : ByteArray) : Prop where
  a : ∀ x ∈ A, lt x.1 k = true
  c : ∀ x ∈ C, lt k x.1 = true
section
variable {A B C : List Pr} {k : ByteArray}
theorem Mid.lo (h : Mid A B C k) : lo (A ++ B ++ C) k = A ++ lo B k := by
  unfold Ytgimjjlkniplnaa.lo
  rw [List.filter_append, List.filter_append, filter_all h.a, filter_none (fun x hx => lt_not (h.c x hx)), List.append_nil]
theorem Mid.hi (h : Mid A B C k) : hi (A ++ B ++ C) k = hi B k ++ C := by
  unfold Ytgimjjlkniplnaa.hi
  rw [List.filter_append, List.filter_append, filter_none (fun x hx => lt_not (h.a x hx)), filter_all h.c, List.nil_append]
theorem Mid.ge (h : Mid A B C k) : ge (A ++ B ++ C) k = ge B k ++ C := by
  unfold Ytgimjjlkniplnaa.ge
  rw [List.filter_append, List.filter_append, filter_none (l := A) (fun x hx => by rw [h.a x hx]; rfl), filter_all (l := C) (fun x hx => by rw [lt_not (h.c x hx)]; rfl), List.nil_append]
theorem Mid.le (h : Mid A B C k) : le (A ++ B ++ C) k = A ++ le B k := by
  unfold Ytgimjjlkniplnaa.le
  rw [List.filter_append, List.filter_append, filter_all (l := A) (fun x hx => by rw [lt_not (h.a x hx)]; rfl), filter_none (l := C) (fun x hx => by rw [h.c x hx]; rfl), List.append_nil]
theorem Mid.put {v : ByteArray} (h : Mid A B C k) : put (A ++ B ++ C) (k, v) = A ++ put B (k, v) ++ C := by
  unfold Ytgimjjlkniplnaa.put
  rw [h.lo, h.hi]
  simp
theorem Mid.del (h : Mid A B C k) : del (A ++ B ++ C) k = A ++ del B k ++ C := by
  unfold Ytgimjjlkniplnaa.del
  rw [h.lo, h.hi]
  simp
theorem Mid.has (h : Mid A B C k) : has (A ++ B ++ C) k = has B k := by
  unfold Ytgimjjlkniplnaa.has
  rw [List.any_append, List.any_append]
  have h1 : A.any (fun p => decide (p.1 = k)) = false := List.any_eq_false.2 fun x hx => by simpa using lt_ne (h.a x hx)
  have h2 : C.any (fun p => decide (p.1 = k)) = false := List.any_eq_false.2 fun x hx => by simpa using (lt_ne (h.c x hx)).symm
  rw [h1, h2]
  simp
end
theorem Srt.append {A B : List Pr} : Srt (A ++ B) ↔ Srt A ∧ Srt B ∧ ∀ x ∈ A, ∀ y ∈ B, lt x.1 y.1 = true := List.pairwise_append
theorem Srt.filter {l : List Pr} (h : Srt l) (f : Pr → Bool) : Srt (l.filter f) := List.Pairwise.filter f h
theorem Srt.put {kv : List Pr} (h : Srt kv) (p : Pr) : Srt (put kv p) := by
  refine Srt.append.2 ⟨h.filter _, List.pairwise_cons.2 ⟨fun x hx => ?_, h.filter _⟩, fun x hx y hy => ?_⟩
  · exact (List.mem_filter.1 hx).2
  · have h1 := (List.mem_filter.1 hx).2
    rcases List.mem_cons.1 hy with rfl | hy
    · exact h1
    · exact lt_trans h1 (List.mem_filter.1 hy).2
theorem Srt.del {kv : List Pr} (h : Srt kv) (k : ByteArray) : Srt (del kv k) :=
  Srt.append.2 ⟨h.filter _, h.filter _, fun _ hx _ hy => lt_trans (List.mem_filter.1 hx).2 (List.mem_filter.1 hy).2⟩
theorem part_len {kv : List Pr} (hs : Srt kv) (k : ByteArray) : (lo kv k).length + (hi kv k).length + (has kv k).toNat = kv.length := by
  induction kv with
  | nil => rfl
  | cons p kv ih =>
    obtain ⟨hp, hs'⟩ := List.pairwise_cons.1 hs
    have ih := ih hs'
    have e1 : lo (p :: kv) k = if lt p.1 k then p :: lo kv k else lo kv k := by simp only [lo, List.filter_cons]
    have e2 : hi (p :: kv) k = if lt k p.1 then p :: hi kv k else hi kv k := by simp only [hi, List.filter_cons]
    have e3 : has (p :: kv) k = (decide (p.1 = k) || has kv k) := by simp only [has, List.any_cons]
    rw [e1, e2, e3, List.length_cons]
    rcases lt_three p.1 k with q | q | q
    · have hd : decide (p.1 = k) = false := by simpa using lt_ne q
      rw [q, lt_not q, hd]
      simp
      omega
    · subst q
      have hn : has kv p.1 = false := List.any_eq_false.2 fun x hx => by simpa using (lt_ne (hp x hx)).symm
      rw [hn] at ih ⊢
      rw [lt_irrefl]
      simp at ih ⊢
      omega
    · have hd : decide (p.1 = k) = false := by simpa using (lt_ne q).symm
      rw [q, lt_not q, hd]
      simp
      omega
theorem put_len {kv : List Pr} (hs : Srt kv) (p : Pr) : (put kv p).length + (has kv p.1).toNat = kv.length + 1 := by
  have := part_len hs p.1
  unfold put
  rw [List.length_append, List.length_cons]
  omega
theorem del_len {kv : List Pr} (hs : Srt kv) {k : ByteArray} (h : has kv k = true) : (del kv k).length + 1 = kv.length := by
  have := part_len hs k
  rw [h] at this
  unfold del
  rw [List.length_append]
  simp at this
  omega
end Go.Proofs.Ytgimjjlkniplnaa
