/- The runs of a list in order, plain. -/
import Derived.Test.YthalgnfffcimhaaRb
namespace Go.Proofs.Ythalgnfffcimhaa
set_option maxRecDepth 100000
theorem endF_same (L : List (List Vt)) (i : Nat) : ∀ f j k, j ≤ k → k < endF L i f j → L[i]? = L[k]?
  | 0, j, k, h1, h2 => by unfold endF at h2; omega
  | f + 1, j, k, h1, h2 => by
    unfold endF at h2
    split at h2
    · rename_i hc
      by_cases hk : k = j
      · rw [hk]; exact hc.2
      · exact endF_same L i f (j + 1) k (by omega) h2
    · omega
theorem endF_next (L : List (List Vt)) (i : Nat) : ∀ f j, L.length ≤ j + f → endF L i f j < L.length → L[i]? ≠ L[endF L i f j]?
  | 0, j, h1, h2 => by unfold endF at h2; omega
  | f + 1, j, h1, h2 => by
    unfold endF at h2 ⊢
    split at h2
    · rename_i hc
      rw [if_pos hc]
      exact endF_next L i f (j + 1) (by omega) h2
    · rename_i hc
      rw [if_neg hc]
      exact fun e => hc ⟨h2, e⟩
theorem cutsF_same (L : List (List Vt)) : ∀ f i x, x ∈ cutsF L f i → i ≤ x.1 ∧ x.1 < x.2 ∧ x.2 ≤ L.length ∧ (∀ k, x.1 ≤ k → k < x.2 → L[x.1]? = L[k]?) ∧ (x.2 < L.length → L[x.1]? ≠ L[x.2]?)
  | 0, _, x, h => by cases h
  | f + 1, i, x, h => by
    unfold cutsF at h
    split at h
    · rename_i hi
      have he := endF_le L i L.length (i + 1) hi
      rcases List.mem_cons.1 h with rfl | h
      · refine ⟨Nat.le_refl _, he.1, he.2, fun k h1 h2 => ?_, fun h2 => endF_next L i L.length (i + 1) (by omega) h2⟩
        by_cases hk : k = i
        · rw [hk]
        · exact endF_same L i L.length (i + 1) k (by omega) h2
      · have := cutsF_same L f _ x h
        exact ⟨by omega, this.2⟩
    · cases h
theorem cutsF_cover (L : List (List Vt)) : ∀ f i, L.length ≤ i + f → ∀ k, i ≤ k → k < L.length → ∃ x ∈ cutsF L f i, x.1 ≤ k ∧ k < x.2
  | 0, i, h, k, h1, h2 => by omega
  | f + 1, i, h, k, h1, h2 => by
    unfold cutsF
    rw [if_pos (by omega)]
    have he := endF_le L i L.length (i + 1) (by omega)
    by_cases hk : k < endF L i L.length (i + 1)
    · exact ⟨_, List.mem_cons_self, h1, hk⟩
    · obtain ⟨x, hx, q⟩ := cutsF_cover L f (endF L i L.length (i + 1)) (by omega) k (by omega) h2
      exact ⟨x, List.mem_cons_of_mem _ hx, q⟩
theorem cutsF_pair (L : List (List Vt)) : ∀ f i, (cutsF L f i).Pairwise fun x y => x.2 ≤ y.1
  | 0, _ => List.Pairwise.nil
  | f + 1, i => by
    unfold cutsF
    split
    · refine List.pairwise_cons.2 ⟨fun y hy => (cutsF_same L f _ y hy).1, cutsF_pair L f _⟩
    · exact List.Pairwise.nil
/-- Not behind, by values' order. -/
theorem le_trans3 {a b c : List Vt} (h1 : cmpL a b ≠ 1) (h2 : cmpL b c ≠ 1) : cmpL a c ≠ 1 := by
  have a1 := ordL.three a b
  have a2 := ordL.three b c
  have n3 := ordL.neg a c
  rcases a1 with a1 | a1 | a1
  · rcases a2 with a2 | a2 | a2
    · have := ordL.trans _ _ _ a1 a2
      omega
    · obtain rfl := (ordL.eq _ _).1 a2
      exact h1
    · exact absurd a2 h2
  · obtain rfl := (ordL.eq _ _).1 a1
    exact h2
  · exact absurd a1 h1
/-- The values of a list of rows in order do not fall. -/
theorem rise_vals {S : List Rw} (h : Rise S) : (S.map (·.1)).Pairwise fun a b => cmpL a b ≠ 1 := by
  rw [List.pairwise_map]
  refine h.imp fun {a b} q => ?_
  intro e
  apply q
  have n := ordL.neg b.1 a.1
  have n2 := ordL.neg a.1 b.1
  have hz : cmpL b.1 a.1 = -1 := by have := ordL.three b.1 a.1; omega
  unfold cmpR lexP
  rw [if_neg (by omega)]
  exact hz
/-- The runs of a list that does not fall begin with values that rise. -/
theorem cuts_rise {L : List (List Vt)} (h : L.Pairwise fun a b => cmpL a b ≠ 1) {x y : Nat × Nat} {u v : List Vt} (hx : x ∈ cuts L) (hy : y ∈ cuts L) (hxy : x.2 ≤ y.1) (hu : L[x.1]? = some u) (hv : L[y.1]? = some v) : cmpL u v = -1 := by
  obtain ⟨_, x1, x2, _, x4⟩ := cutsF_same L _ _ x hx
  obtain ⟨_, y1, y2, _, _⟩ := cutsF_same L _ _ y hy
  have hlt : x.2 < L.length := by omega
  have hne := x4 hlt
  have hg := List.pairwise_iff_getElem.1 h
  obtain ⟨hu1, hu2⟩ := List.getElem?_eq_some_iff.1 hu
  obtain ⟨hv1, hv2⟩ := List.getElem?_eq_some_iff.1 hv
  have h1 := hg x.1 x.2 hu1 hlt x1
  rw [hu, List.getElem?_eq_getElem hlt] at hne
  rw [hu2] at h1
  have h2 : cmpL (L[x.2]) v ≠ 1 := by
    by_cases e : x.2 = y.1
    · have : L[x.2] = v := by rw [← hv2]; congr
      rw [this, (ordL.eq v v).2 rfl]
      decide
    · have := hg x.2 y.1 hlt hv1 (by omega)
      rw [hv2] at this
      exact this
  have h0 : cmpL u (L[x.2]) = -1 := by
    have := ordL.three u (L[x.2])
    have hz : cmpL u (L[x.2]) ≠ 0 := fun e => hne (by rw [(ordL.eq _ _).1 e])
    omega
  have a2 := ordL.three (L[x.2]) v
  rcases a2 with a2 | a2 | a2
  · exact ordL.trans _ _ _ h0 a2
  · rw [← (ordL.eq _ _).1 a2]; exact h0
  · exact absurd a2 h2
end Go.Proofs.Ythalgnfffcimhaa
