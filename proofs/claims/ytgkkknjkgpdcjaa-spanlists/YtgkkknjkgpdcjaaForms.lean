/- Contracts with their slices written out; points counted. -/
import Derived.Test.YtgkkknjkgpdcjaaCovers
import Derived.Test.YtgkkknjkgpdcjaaAppend
namespace Go.Proofs.Ytgkkknjkgpdcjaa
open Go.RowKit

theorem few20_form (v : Value) (xs : List (Int × Int)) (w : World) (h : SRow w v xs) (hm : xs.length ≤ maxLen) :
    Calls Try.prog 20 #[v] w fun e w' => ∃ p cap m ts, e = .returned (.slice p m cap) ∧ m ≤ 30 ∧ Hid (m = ts.length ∧ SRow w (.slice p m cap) ts) ∧ w' = w := by
  refine (few20 v xs w h hm).mono ?_
  rintro e w' ⟨v', rfl, hs, rfl⟩
  have hs' := hs
  obtain ⟨p, cap, rfl, _⟩ := hs.form
  exact ⟨p, cap, _, xs.take 30, rfl, by simp; omega, ⟨rfl, hs'⟩, rfl⟩

theorem join24_s (v : Value) (xs : List (Int × Int)) (w : World) (hl : xs.length ≤ 100000) (h : SRow w v xs) :
    Calls Try.prog 24 #[v] w fun e w' => ∃ p cap n ys, e = .returned (.slice p n cap) ∧ n ≤ 100000 ∧ Hid (n = ys.length ∧ Canon ys ∧ (∀ p, Pt ys p ↔ Has xs p) ∧ SRow w' (.slice p n cap) ys) ∧ Below w.heap.size w w' := by
  refine (join24 v xs w hl h).mono ?_
  rintro e w1 ⟨v1, ys, rfl, hc, hp, hlen, ho, hb1⟩
  have hs := ho.srow
  obtain ⟨p, cap, rfl, hf⟩ := ho.srow.form
  exact ⟨p, cap, _, ys, rfl, by omega, ⟨rfl, hc, hp, hs⟩, hb1⟩

theorem canon_step {ys : List (Int × Int)} (h : Canon ys) (j : Nat) (hj : j + 1 < ys.length) : ys[j].2 < ys[j + 1].1 := by
  have := h.2
  rw [List.pairwise_iff_getElem] at this
  exact this j (j + 1) (by omega) hj (by omega)

theorem canon_nil {ys : List (Int × Int)} (h : Canon ys) (hp : ∀ p, ¬ Pt ys p) : ys = [] := by
  rcases ys with _ | ⟨y, r⟩
  · rfl
  · have q := (rightB_iff _ _).1 (h.1 y (by simp))
    exact absurd ((pt_cons _ _ _).2 (.inl ⟨Int.le_refl _, q.2.1⟩)) (hp y.1)

theorem SRow.same {w w' : World} {v : Value} {xs : List (Int × Int)} (h : SRow w v xs) (he : w'.heap = w.heap) : SRow w' v xs := by
  unfold SRow at *
  simp only [World.cell?, he] at *
  exact h

theorem canon_has {ys : List (Int × Int)} (h : Canon ys) (p : Int) : Has ys p ↔ Pt ys p := by
  have e : rights ys = ys := by
    unfold rights
    rw [List.filter_eq_self]
    exact h.1
  unfold Has; rw [e]
theorem has_perm {xs ys : List (Int × Int)} (h : xs.Perm ys) (p : Int) : Has xs p ↔ Has ys p := pt_perm (h.filter _) p

theorem gaps26_s (v : Value) (xs : List (Int × Int)) (a b : Int) (w : World) (hl : xs.length ≤ 50000) (h : SRow w v xs) :
    Calls Try.prog 26 #[v, .agg #[.int .i64 a, .int .i64 b]] w fun e w' => ∃ p cap n gs, e = .returned (.slice p n cap) ∧ n ≤ xs.length + 1 ∧ Hid (n = gs.length ∧ Canon gs ∧ (∀ p, Pt gs p ↔ hasB a b p = true ∧ ¬ Has xs p) ∧ SRow w' (.slice p n cap) gs ∧ gs.length ≤ xs.length + 1) ∧ Below w.heap.size w w' := by
  refine (gaps26 v xs a b w hl h).mono ?_
  rintro e w1 ⟨v1, gs, rfl, hc, hp, hlen, ho, hb1⟩
  have hs := ho.srow
  obtain ⟨p, cap, rfl, hf⟩ := ho.srow.form
  exact ⟨p, cap, _, gs, rfl, hlen, ⟨rfl, hc, hp, hs, hlen⟩, hb1⟩

/-- is a point one of the list's? -/
def ptB (ys : List (Int × Int)) (p : Int) : Bool := ys.any fun y => decide (y.1 ≤ p) && decide (p < y.2)
theorem ptB_iff (ys : List (Int × Int)) (p : Int) : ptB ys p = true ↔ Pt ys p := by
  simp only [ptB, List.any_eq_true, Bool.and_eq_true, decide_eq_true_eq, Pt]
/-- how many of the first n points are such -/
def cnt (f : Int → Bool) : Nat → Int
  | 0 => 0
  | n + 1 => cnt f n + if f ((n : Int) - 1000) = true then 1 else 0
theorem cnt_congr {f g : Int → Bool} (n : Nat) (h : ∀ p, f p = g p) : cnt f n = cnt g n := by
  induction n with
  | zero => rfl
  | succ n ih => simp only [cnt, ih, h]
theorem cnt_or {f g : Int → Bool} (n : Nat) (h : ∀ p, ¬ (f p = true ∧ g p = true)) : cnt (fun p => f p || g p) n = cnt f n + cnt g n := by
  induction n with
  | zero => rfl
  | succ n ih =>
    simp only [cnt, ih]
    have := h ((n : Int) - 1000)
    by_cases h1 : f ((n : Int) - 1000) = true
    · have h2 : ¬ g ((n : Int) - 1000) = true := fun h2 => this ⟨h1, h2⟩
      rw [if_pos h1, if_neg h2, if_pos (by rw [h1]; rfl)]; omega
    · by_cases h2 : g ((n : Int) - 1000) = true
      · rw [if_neg h1, if_pos h2, if_pos (by rw [h2]; simp)]; omega
      · rw [if_neg h1, if_neg h2, if_neg (by simp only [Bool.or_eq_true]; rintro (h | h); exact h1 h; exact h2 h)]; omega
theorem cnt_span (a b : Int) (ha : -1000 ≤ a) (hab : a ≤ b) (n : Nat) : cnt (fun p => decide (a ≤ p) && decide (p < b)) n = max 0 (min b ((n : Int) - 1000) - a) := by
  induction n with
  | zero => simp only [cnt]; omega
  | succ n ih =>
    simp only [cnt, ih, Bool.and_eq_true, decide_eq_true_eq]
    split <;> omega
theorem cnt_none (n : Nat) : cnt (fun _ => false) n = 0 := by
  induction n with
  | zero => rfl
  | succ n ih => simp [cnt, ih]
theorem lenL_cnt : ∀ (ys : List (Int × Int)), Canon ys → lenL ys = cnt (ptB ys) 2000
  | [], _ => by
    have : cnt (ptB []) 2000 = cnt (fun _ => false) 2000 := cnt_congr _ (fun p => by simp [ptB])
    rw [this, cnt_none]; rfl
  | y :: r, h => by
    have q := (rightB_iff _ _).1 (h.1 y (by simp))
    have e : cnt (ptB (y :: r)) 2000 = cnt (fun p => (decide (y.1 ≤ p) && decide (p < y.2)) || ptB r p) 2000 := cnt_congr _ (fun p => by simp [ptB])
    have d : ∀ p, ¬ ((decide (y.1 ≤ p) && decide (p < y.2)) = true ∧ ptB r p = true) := fun p ⟨h1, h2⟩ => by
      have := canon_head h p ((ptB_iff _ _).1 h2)
      simp only [Bool.and_eq_true, decide_eq_true_eq] at h1
      omega
    rw [e, cnt_or _ d, cnt_span _ _ q.1 (by omega), ← lenL_cnt r (canon_tail h)]
    simp only [lenL]; omega

/-- gaps and what is had are the span -/
theorem parts_len {gs hs : List (Int × Int)} {a b : Int} (hg : Canon gs) (hh : Canon hs) (ha : -1000 ≤ a) (hab : a < b) (hb : b ≤ 1000) (h1 : ∀ p, (Pt gs p ∨ Pt hs p) ↔ a ≤ p ∧ p < b) (h2 : ∀ p, ¬ (Pt gs p ∧ Pt hs p)) : lenL gs + lenL hs = b - a := by
  rw [lenL_cnt _ hg, lenL_cnt _ hh, ← cnt_or 2000 (fun p ⟨q1, q2⟩ => h2 p ⟨(ptB_iff _ _).1 q1, (ptB_iff _ _).1 q2⟩)]
  rw [cnt_congr (g := fun p => decide (a ≤ p) && decide (p < b)) 2000 (fun p => by
    rw [Bool.eq_iff_iff, Bool.or_eq_true, ptB_iff, ptB_iff, h1, Bool.and_eq_true, decide_eq_true_eq, decide_eq_true_eq]), cnt_span _ _ ha (by omega)]
  omega

theorem count30_c (v : Value) (gs : List (Int × Int)) (w : World) (hl : gs.length ≤ 100000) (hc : Canon gs) (h : SRow w v gs) :
    Calls Try.prog 30 #[v] w fun e w' => e = .returned (.int .i64 (lenL gs)) ∧ Below w.heap.size w w' := by
  refine (count30 v gs w hl h).mono ?_
  rintro e w' ⟨ys, rfl, hcy, hp, hb⟩
  have e : ys = gs := canon_unique _ _ hcy hc (fun p => by rw [hp, canon_has hc])
  rw [e]
  exact ⟨rfl, hb⟩

end Go.Proofs.Ytgkkknjkgpdcjaa
