/- Two lists have one Canon just if they have the same values at each point at which something changes; plain. -/
import Derived.Test.YtpagnphabchfcaaPn
import Derived.Test.YtpagnphabchfcaaPo
namespace Go.Proofs.Ytpagnphabchfcaa
set_option maxRecDepth 100000
theorem mem_upTo (d : Array Int) (x : Int) : ∀ m, x ∈ Lib.compactUpTo d m ↔ ∃ j, j < m ∧ d[j]! = x
  | 0 => by simp [Lib.compactUpTo]
  | m + 1 => by
    rw [Lib.compactUpTo_succ, List.mem_append, mem_upTo d x m]
    constructor
    · rintro (⟨j, h1, h2⟩ | h)
      · exact ⟨j, by omega, h2⟩
      · split at h
        · simp only [List.mem_singleton] at h
          exact ⟨m, by omega, h.symm⟩
        · cases h
    · rintro ⟨j, h1, h2⟩
      by_cases hj : j < m
      · exact .inl ⟨j, hj, h2⟩
      · obtain rfl : j = m := by omega
        by_cases hk : Lib.keeps d j = true
        · exact .inr (by rw [if_pos hk]; simp [h2])
        · have h0 : ¬ j = 0 := fun e => hk (by simp [Lib.keeps, e])
          have he : d[j]! = d[j - 1]! := Classical.byContradiction fun e => hk (by simp [Lib.keeps, e])
          exact .inl ⟨j - 1, by omega, by rw [← he]; exact h2⟩
theorem mem_compact (zs : List Int) (x : Int) : x ∈ Lib.compact zs ↔ x ∈ zs := by
  unfold Lib.compact
  rw [mem_upTo]
  constructor
  · rintro ⟨j, h1, h2⟩
    have : zs.toArray[j]! = zs[j] := by simp [h1]
    rw [this] at h2
    rw [← h2]
    exact List.getElem_mem h1
  · intro h
    obtain ⟨j, h1, h2⟩ := List.mem_iff_getElem.1 h
    exact ⟨j, h1, by simp [h1, h2]⟩
theorem mem_points (l : List Rw) (p : Int) : p ∈ pointsR l ↔ ∃ r ∈ l, Sp.rightB r.2.1 r.2.2 = true ∧ (p = r.2.1 ∨ p = r.2.2) := by
  unfold pointsR
  rw [mem_compact, show sortI (ptsL l) = (ptsL l).mergeSort (fun x y => decide (x ≤ y)) from rfl, (List.mergeSort_perm _ _).mem_iff]
  unfold ptsL
  rw [List.mem_flatMap]
  constructor
  · rintro ⟨r, hr, h⟩
    split at h
    · rename_i hb
      exact ⟨r, hr, hb, by simpa using h⟩
    · cases h
  · rintro ⟨r, hr, hb, h⟩
    exact ⟨r, hr, by rw [if_pos hb]; simpa using h⟩
theorem exists_max : ∀ (Q : List Int), Q ≠ [] → ∃ q ∈ Q, ∀ z ∈ Q, z ≤ q
  | [], h => absurd rfl h
  | [x], _ => ⟨x, by simp, by simp⟩
  | x :: y :: Q, _ => by
    obtain ⟨q, hq, h⟩ := exists_max (y :: Q) (by simp)
    by_cases hx : x ≤ q
    · refine ⟨q, List.mem_cons_of_mem _ hq, fun z hz => ?_⟩
      rcases List.mem_cons.1 hz with rfl | hz
      · exact hx
      · exact h z hz
    · refine ⟨x, List.mem_cons_self, fun z hz => ?_⟩
      rcases List.mem_cons.1 hz with rfl | hz
      · exact Int.le_refl _
      · have := h z hz
        omega
theorem hasR_iff (p : Int) (r : Rw) : hasR p r = true ↔ Sp.rightB r.2.1 r.2.2 = true ∧ r.2.1 ≤ p ∧ p < r.2.2 := by
  simp only [hasR, Sp.hasB, Bool.and_eq_true, decide_eq_true_eq]
theorem has_all {a b : List Rw} (h : ∀ p ∈ pointsR a ++ pointsR b, atR a p = atR b p) (v : List Vt) (p : Int) : (∃ r ∈ a, r.1 = v ∧ hasR p r = true) ↔ (∃ r ∈ b, r.1 = v ∧ hasR p r = true) := by
  obtain ⟨P, hP⟩ : ∃ P, P = pointsR a ++ pointsR b := ⟨_, rfl⟩
  have hin : ∀ r, r ∈ a ∨ r ∈ b → Sp.rightB r.2.1 r.2.2 = true → r.2.1 ∈ P ∧ r.2.2 ∈ P := fun r hr hb => by
    rw [hP]
    rcases hr with hr | hr
    · exact ⟨List.mem_append.2 (.inl ((mem_points a _).2 ⟨r, hr, hb, .inl rfl⟩)), List.mem_append.2 (.inl ((mem_points a _).2 ⟨r, hr, hb, .inr rfl⟩))⟩
    · exact ⟨List.mem_append.2 (.inr ((mem_points b _).2 ⟨r, hr, hb, .inl rfl⟩)), List.mem_append.2 (.inr ((mem_points b _).2 ⟨r, hr, hb, .inr rfl⟩))⟩
  rw [← hP] at h
  by_cases hQ : P.filter (fun z => decide (z ≤ p)) = []
  · have no : ∀ r, r ∈ a ∨ r ∈ b → ¬ hasR p r = true := fun r hr hp => by
      obtain ⟨h1, h2, h3⟩ := (hasR_iff p r).1 hp
      have : r.2.1 ∈ P.filter (fun z => decide (z ≤ p)) := List.mem_filter.2 ⟨(hin r hr h1).1, by simpa using h2⟩
      rw [hQ] at this
      cases this
    exact ⟨fun ⟨r, hr, _, hp⟩ => absurd hp (no r (.inl hr)), fun ⟨r, hr, _, hp⟩ => absurd hp (no r (.inr hr))⟩
  · obtain ⟨q, hq, hmax⟩ := exists_max _ hQ
    obtain ⟨hq1, hq2⟩ := List.mem_filter.1 hq
    rw [decide_eq_true_eq] at hq2
    have same : ∀ r, r ∈ a ∨ r ∈ b → (hasR p r = true ↔ hasR q r = true) := fun r hr => by
      rw [hasR_iff, hasR_iff]
      constructor
      · rintro ⟨h1, h2, h3⟩
        have := hmax _ (List.mem_filter.2 ⟨(hin r hr h1).1, by simpa using h2⟩)
        exact ⟨h1, this, by omega⟩
      · rintro ⟨h1, h2, h3⟩
        refine ⟨h1, by omega, ?_⟩
        by_cases ht : r.2.2 ≤ p
        · have := hmax _ (List.mem_filter.2 ⟨(hin r hr h1).2, by simpa using ht⟩)
          omega
        · omega
    have e := h q hq1
    have m1 := at_mem a q v
    have m2 := at_mem b q v
    rw [e] at m1
    have := m1.symm.trans m2
    constructor
    · rintro ⟨r, hr, hv, hp⟩
      obtain ⟨r', hr', hv', hp'⟩ := this.1 ⟨r, hr, hv, (same r (.inl hr)).1 hp⟩
      exact ⟨r', hr', hv', (same r' (.inr hr')).2 hp'⟩
    · rintro ⟨r, hr, hv, hp⟩
      obtain ⟨r', hr', hv', hp'⟩ := this.2 ⟨r, hr, hv, (same r (.inr hr)).1 hp⟩
      exact ⟨r', hr', hv', (same r' (.inl hr')).2 hp'⟩
/-- P15.3's second half. -/
theorem canon_one (a b : List Rw) : (∀ p ∈ pointsR a ++ pointsR b, atR a p = atR b p) ↔ canonR a = canonR b := by
  constructor
  · intro h
    exact canonRows_unique (canon_form _) (canon_form _) fun v p => by rw [canon_has, canon_has]; exact has_all h v p
  · intro h p _
    rw [← canon_at a p, ← canon_at b p, h]
end Go.Proofs.Ytpagnphabchfcaa
