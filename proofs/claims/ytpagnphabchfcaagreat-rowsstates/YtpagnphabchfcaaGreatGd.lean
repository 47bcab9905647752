/- The runs of a list in order, plain. · What At and Canon answer, told by points; plain. · Canon's rows are the fewest, and have the same points; plain. · Two lists have one Canon just if they have the same values at each point at which something changes; plain. · A drawn region whose callees keep a predicate. -/
import Derived.Test.YtpagnphabchfcaaGreatGb
import Derived.Test.YtpagnphabchfcaaGreatGc
/-! ### The runs of a list in order, plain. -/
namespace Go.Proofs.YtpagnphabchfcaaGreat
set_option maxRecDepth 100000
theorem endF_same (L : List (List Vt)) (i : Nat) : ∀ f j k, j ≤ k → k < endF L i f j → L[i]? = L[k]?
  | 0, j, k, h1, h2 => by unfold endF at h2; omega
  | f + 1, j, k, h1, h2 => by
    unfold endF at h2
    split at h2
    · rename_i hc
      by_cases hk : k = j
      · rw [hk]; exact hc.2
      · exact endF_same L i f (j + 1) k (by omega) h2
    · omega
theorem endF_next (L : List (List Vt)) (i : Nat) : ∀ f j, L.length ≤ j + f → endF L i f j < L.length → L[i]? ≠ L[endF L i f j]?
  | 0, j, h1, h2 => by unfold endF at h2; omega
  | f + 1, j, h1, h2 => by
    unfold endF at h2 ⊢
    split at h2
    · rename_i hc
      rw [if_pos hc]
      exact endF_next L i f (j + 1) (by omega) h2
    · rename_i hc
      rw [if_neg hc]
      exact fun e => hc ⟨h2, e⟩
theorem cutsF_same (L : List (List Vt)) : ∀ f i x, x ∈ cutsF L f i → i ≤ x.1 ∧ x.1 < x.2 ∧ x.2 ≤ L.length ∧ (∀ k, x.1 ≤ k → k < x.2 → L[x.1]? = L[k]?) ∧ (x.2 < L.length → L[x.1]? ≠ L[x.2]?)
  | 0, _, x, h => by cases h
  | f + 1, i, x, h => by
    unfold cutsF at h
    split at h
    · rename_i hi
      have he := endF_le L i L.length (i + 1) hi
      rcases List.mem_cons.1 h with rfl | h
      · refine ⟨Nat.le_refl _, he.1, he.2, fun k h1 h2 => ?_, fun h2 => endF_next L i L.length (i + 1) (by omega) h2⟩
        by_cases hk : k = i
        · rw [hk]
        · exact endF_same L i L.length (i + 1) k (by omega) h2
      · have := cutsF_same L f _ x h
        exact ⟨by omega, this.2⟩
    · cases h
theorem cutsF_cover (L : List (List Vt)) : ∀ f i, L.length ≤ i + f → ∀ k, i ≤ k → k < L.length → ∃ x ∈ cutsF L f i, x.1 ≤ k ∧ k < x.2
  | 0, i, h, k, h1, h2 => by omega
  | f + 1, i, h, k, h1, h2 => by
    unfold cutsF
    rw [if_pos (by omega)]
    have he := endF_le L i L.length (i + 1) (by omega)
    by_cases hk : k < endF L i L.length (i + 1)
    · exact ⟨_, List.mem_cons_self, h1, hk⟩
    · obtain ⟨x, hx, q⟩ := cutsF_cover L f (endF L i L.length (i + 1)) (by omega) k (by omega) h2
      exact ⟨x, List.mem_cons_of_mem _ hx, q⟩
theorem cutsF_pair (L : List (List Vt)) : ∀ f i, (cutsF L f i).Pairwise fun x y => x.2 ≤ y.1
  | 0, _ => List.Pairwise.nil
  | f + 1, i => by
    unfold cutsF
    split
    · refine List.pairwise_cons.2 ⟨fun y hy => (cutsF_same L f _ y hy).1, cutsF_pair L f _⟩
    · exact List.Pairwise.nil
/-- Not behind, by values' order. -/
theorem le_trans3 {a b c : List Vt} (h1 : cmpL a b ≠ 1) (h2 : cmpL b c ≠ 1) : cmpL a c ≠ 1 := by
  have a1 := ordL.three a b
  have a2 := ordL.three b c
  have n3 := ordL.neg a c
  rcases a1 with a1 | a1 | a1
  · rcases a2 with a2 | a2 | a2
    · have := ordL.trans _ _ _ a1 a2
      omega
    · obtain rfl := (ordL.eq _ _).1 a2
      exact h1
    · exact absurd a2 h2
  · obtain rfl := (ordL.eq _ _).1 a1
    exact h2
  · exact absurd a1 h1
/-- The values of a list of rows in order do not fall. -/
theorem rise_vals {S : List Rw} (h : Rise S) : (S.map (·.1)).Pairwise fun a b => cmpL a b ≠ 1 := by
  rw [List.pairwise_map]
  refine h.imp fun {a b} q => ?_
  intro e
  apply q
  have n := ordL.neg b.1 a.1
  have n2 := ordL.neg a.1 b.1
  have hz : cmpL b.1 a.1 = -1 := by have := ordL.three b.1 a.1; omega
  unfold cmpR lexP
  rw [if_neg (by omega)]
  exact hz
/-- The runs of a list that does not fall begin with values that rise. -/
theorem cuts_rise {L : List (List Vt)} (h : L.Pairwise fun a b => cmpL a b ≠ 1) {x y : Nat × Nat} {u v : List Vt} (hx : x ∈ cuts L) (hy : y ∈ cuts L) (hxy : x.2 ≤ y.1) (hu : L[x.1]? = some u) (hv : L[y.1]? = some v) : cmpL u v = -1 := by
  obtain ⟨_, x1, x2, _, x4⟩ := cutsF_same L _ _ x hx
  obtain ⟨_, y1, y2, _, _⟩ := cutsF_same L _ _ y hy
  have hlt : x.2 < L.length := by omega
  have hne := x4 hlt
  have hg := List.pairwise_iff_getElem.1 h
  obtain ⟨hu1, hu2⟩ := List.getElem?_eq_some_iff.1 hu
  obtain ⟨hv1, hv2⟩ := List.getElem?_eq_some_iff.1 hv
  have h1 := hg x.1 x.2 hu1 hlt x1
  rw [hu, List.getElem?_eq_getElem hlt] at hne
  rw [hu2] at h1
  have h2 : cmpL (L[x.2]) v ≠ 1 := by
    by_cases e : x.2 = y.1
    · have : L[x.2] = v := by rw [← hv2]; congr
      rw [this, (ordL.eq v v).2 rfl]
      decide
    · have := hg x.2 y.1 hlt hv1 (by omega)
      rw [hv2] at this
      exact this
  have h0 : cmpL u (L[x.2]) = -1 := by
    have := ordL.three u (L[x.2])
    have hz : cmpL u (L[x.2]) ≠ 0 := fun e => hne (by rw [(ordL.eq _ _).1 e])
    omega
  have a2 := ordL.three (L[x.2]) v
  rcases a2 with a2 | a2 | a2
  · exact ordL.trans _ _ _ h0 a2
  · rw [← (ordL.eq _ _).1 a2]; exact h0
  · exact absurd a2 h2
end Go.Proofs.YtpagnphabchfcaaGreat
/-! ### What At and Canon answer, told by points; plain. -/
namespace Go.Proofs.YtpagnphabchfcaaGreat
set_option maxRecDepth 100000
theorem cmpL_self (v : List Vt) : cmpL v v = 0 := (ordL.eq v v).2 rfl
def StrictV (A : List (List Vt)) : Prop := A.Pairwise fun a b => cmpL a b = -1
theorem strict_unique {A B : List (List Vt)} (ha : StrictV A) (hb : StrictV B) (h : ∀ v, v ∈ A ↔ v ∈ B) : A = B := by
  have nd : ∀ {C : List (List Vt)}, StrictV C → C.Nodup := fun {C} hc => hc.imp fun {a b} q e => by subst e; rw [cmpL_self] at q; omega
  refine List.Perm.eq_of_pairwise (fun a b _ _ h1 h2 => ?_) ha hb ((List.perm_ext_iff_of_nodup (nd ha) (nd hb)).2 h)
  have := ordL.neg a b
  omega
/-- The values of a list in order, each once. -/
def heads (S : List Rw) : List (List Vt) := (cuts (S.map (·.1))).map (valsAt S)
theorem valsAt_of {S : List Rw} {x : Nat × Nat} {v : List Vt} (h : (S.map (·.1))[x.1]? = some v) : valsAt S x = v := by
  rw [List.getElem?_map] at h
  unfold valsAt
  rw [h]
  rfl
theorem cut_some {L : List (List Vt)} {x : Nat × Nat} (hx : x ∈ cuts L) : ∃ v, L[x.1]? = some v := by
  obtain ⟨_, x1, x2, _⟩ := cutsF_same L _ _ x hx
  exact ⟨_, List.getElem?_eq_getElem (by omega)⟩
theorem heads_strict {S : List Rw} (h : Rise S) : StrictV (heads S) := by
  unfold StrictV heads
  rw [List.pairwise_map]
  refine List.Pairwise.imp_of_mem (fun {x y} hx hy hxy => ?_) (cutsF_pair (S.map (·.1)) (S.map (·.1)).length 0)
  obtain ⟨u, hu⟩ := cut_some hx
  obtain ⟨v, hv⟩ := cut_some hy
  rw [valsAt_of hu, valsAt_of hv]
  exact cuts_rise (rise_vals h) hx hy hxy hu hv
theorem heads_mem (S : List Rw) (v : List Vt) : v ∈ heads S ↔ ∃ r ∈ S, r.1 = v := by
  unfold heads
  constructor
  · intro h
    obtain ⟨x, hx, rfl⟩ := List.mem_map.1 h
    obtain ⟨u, hu⟩ := cut_some hx
    rw [valsAt_of hu]
    obtain ⟨r, hr, rfl⟩ := List.mem_map.1 (List.mem_of_getElem? hu)
    exact ⟨r, hr, rfl⟩
  · rintro ⟨r, hr, rfl⟩
    obtain ⟨k, hk⟩ := List.mem_iff_getElem?.1 hr
    have hk' : (S.map (·.1))[k]? = some r.1 := by rw [List.getElem?_map, hk]; rfl
    obtain ⟨x, hx, h1, h2⟩ := cutsF_cover (S.map (·.1)) (S.map (·.1)).length 0 (by omega) k (Nat.zero_le _) (List.getElem?_eq_some_iff.1 hk').1
    refine List.mem_map.2 ⟨x, hx, valsAt_of ?_⟩
    rw [(cutsF_same _ _ _ x hx).2.2.2.1 k h1 h2]
    exact hk'
theorem at_eq (l : List Rw) (p : Int) : atR l p = heads (sortR (l.filter (hasR p))) := rfl
theorem at_strict (l : List Rw) (p : Int) : StrictV (atR l p) := heads_strict (sortR_rise _)
theorem at_mem (l : List Rw) (p : Int) (v : List Vt) : v ∈ atR l p ↔ ∃ r ∈ l, r.1 = v ∧ hasR p r = true := by
  rw [at_eq, heads_mem]
  constructor
  · rintro ⟨r, hr, h⟩
    have := List.mem_filter.1 ((sortR_perm _).mem_iff.1 hr)
    exact ⟨r, this.1, h, this.2⟩
  · rintro ⟨r, hr, h, hp⟩
    exact ⟨r, (sortR_perm _).mem_iff.2 (List.mem_filter.2 ⟨hr, hp⟩), h⟩
/-- Which values are where: what At tells. -/
theorem at_unique {l m : List Rw} {p q : Int} (h : ∀ v, (∃ r ∈ l, r.1 = v ∧ hasR p r = true) ↔ (∃ r ∈ m, r.1 = v ∧ hasR q r = true)) : atR l p = atR m q :=
  strict_unique (at_strict _ _) (at_strict _ _) fun v => by rw [at_mem, at_mem]; exact h v
/-- The fewest rows: what they are like. -/
def CanonRows (C : List Rw) : Prop := (∀ r ∈ C, Sp.rightB r.2.1 r.2.2 = true) ∧ C.Pairwise fun a b => cmpL a.1 b.1 = -1 ∨ (a.1 = b.1 ∧ a.2.2 < b.2.1)
/-- A value's spans. -/
def spansOf (C : List Rw) (v : List Vt) : List (Int × Int) := (C.filter (fun r => decide (r.1 = v))).map (·.2)
theorem mem_spansOf (C : List Rw) (v : List Vt) (s : Int × Int) : s ∈ spansOf C v ↔ (v, s) ∈ C := by
  unfold spansOf
  constructor
  · intro h
    obtain ⟨r, hr, rfl⟩ := List.mem_map.1 h
    obtain ⟨h1, h2⟩ := List.mem_filter.1 hr
    rw [decide_eq_true_eq] at h2
    rw [← h2]
    exact h1
  · intro h
    exact List.mem_map.2 ⟨(v, s), List.mem_filter.2 ⟨h, by simp⟩, rfl⟩
theorem CanonRows.spans {C : List Rw} (h : CanonRows C) (v : List Vt) : Sp.Canon (spansOf C v) := by
  refine ⟨fun s hs => h.1 (v, s) ((mem_spansOf C v s).1 hs), ?_⟩
  unfold spansOf
  rw [List.pairwise_map]
  refine List.Pairwise.imp_of_mem (fun {a b} ha hb q => ?_) (h.2.filter _)
  have ea := (List.mem_filter.1 ha).2
  have eb := (List.mem_filter.1 hb).2
  rw [decide_eq_true_eq] at ea eb
  rcases q with q | q
  · rw [ea, eb, cmpL_self] at q; omega
  · exact q.2
theorem canonRows_unique {C D : List Rw} (hC : CanonRows C) (hD : CanonRows D) (h : ∀ v p, (∃ r ∈ C, r.1 = v ∧ hasR p r = true) ↔ (∃ r ∈ D, r.1 = v ∧ hasR p r = true)) : C = D := by
  have pt : ∀ {C : List Rw}, CanonRows C → ∀ v p, Sp.Pt (spansOf C v) p ↔ ∃ r ∈ C, r.1 = v ∧ hasR p r = true := fun {C} hC v p => by
    unfold Sp.Pt
    constructor
    · rintro ⟨s, hs, h1, h2⟩
      have hm := (mem_spansOf C v s).1 hs
      exact ⟨(v, s), hm, rfl, by have := hC.1 _ hm; simp only at this; simp [hasR, Sp.hasB, this, h1, h2]⟩
    · rintro ⟨r, hr, rfl, hp⟩
      simp only [hasR, Sp.hasB, Bool.and_eq_true, decide_eq_true_eq] at hp
      exact ⟨r.2, (mem_spansOf C r.1 r.2).2 hr, hp.2.1, hp.2.2⟩
  have hs : ∀ v, spansOf C v = spansOf D v := fun v => Sp.canon_unique _ _ (hC.spans v) (hD.spans v) fun p => by rw [pt hC, pt hD]; exact h v p
  have hm : ∀ z : Rw, z ∈ C ↔ z ∈ D := fun z => by rw [← mem_spansOf C z.1 z.2, ← mem_spansOf D z.1 z.2, hs]
  have nd : ∀ {C : List Rw}, CanonRows C → C.Nodup := fun {C} hC => List.Pairwise.imp_of_mem (fun {a b} ha hb q e => by
    subst e
    rcases q with q | q
    · rw [cmpL_self] at q; omega
    · have := (Sp.rightB_iff _ _).1 (hC.1 a ha)
      omega) hC.2
  refine List.Perm.eq_of_pairwise (fun a b ha hb h1 h2 => ?_) hC.2 hD.2 ((List.perm_ext_iff_of_nodup (nd hC) (nd hD)).2 hm)
  have n := ordL.neg a.1 b.1
  have ra := (Sp.rightB_iff _ _).1 (hC.1 a ha)
  have rb := (Sp.rightB_iff _ _).1 (hD.1 b hb)
  rcases h1 with h1 | ⟨e1, h1⟩
  · rcases h2 with h2 | ⟨e2, h2⟩
    · omega
    · rw [e2, cmpL_self] at h1; omega
  · rcases h2 with h2 | ⟨e2, h2⟩
    · rw [e1, cmpL_self] at h2; omega
    · omega
end Go.Proofs.YtpagnphabchfcaaGreat
/-! ### Canon's rows are the fewest, and have the same points; plain. -/
namespace Go.Proofs.YtpagnphabchfcaaGreat
set_option maxRecDepth 100000
theorem joined_ex (rs : List (Int × Int)) (hr : ∀ x, x ∈ rs → Sp.rightB x.1 x.2 = true) (hs : Sp.Rising rs) : ∀ k, k ≤ rs.length → ∃ acc, Sp.Joined rs k acc
  | 0, _ => ⟨[], Sp.Joined.start rs⟩
  | k + 1, hk => by
    obtain ⟨acc, h⟩ := joined_ex rs hr hs k (by omega)
    rcases List.eq_nil_or_concat acc with rfl | ⟨ini, ab, rfl⟩
    · exact ⟨_, h.add (by omega) hr hs (fun y hy => by cases hy)⟩
    · obtain ⟨a, b⟩ := ab
      rw [List.concat_eq_append] at h
      by_cases hle : (rs[k]'(by omega)).1 ≤ b
      · exact ⟨_, h.widen (by omega) hr hle rfl⟩
      · refine ⟨_, h.add (by omega) hr hs (fun y hy => ?_)⟩
        have hp := h.canon.2
        rw [List.pairwise_append] at hp
        have r1 := (Sp.rightB_iff _ _).1 (h.canon.1 (a, b) (by simp))
        rcases List.mem_append.1 hy with hy | hy
        · have := hp.2.2 y hy (a, b) (by simp)
          simp only at this r1
          omega
        · simp only [List.mem_singleton] at hy
          subst hy
          simp only
          omega
theorem joinS_spec (xs : List (Int × Int)) : Sp.Canon (joinS xs) ∧ ∀ p, Sp.Pt (joinS xs) p ↔ Sp.Has xs p := by
  obtain ⟨rs, hrs⟩ : ∃ rs, rs = (Sp.rights xs).mergeSort fun x y => decide (x.1 ≤ y.1) := ⟨_, rfl⟩
  have hperm : rs.Perm (Sp.rights xs) := by rw [hrs]; exact List.mergeSort_perm _ _
  have hr : ∀ x, x ∈ rs → Sp.rightB x.1 x.2 = true := fun x hx => (List.mem_filter.1 (hperm.mem_iff.1 hx)).2
  have hs : Sp.Rising rs := by
    have hp := List.pairwise_mergeSort (le := fun x y : Int × Int => decide (x.1 ≤ y.1)) (fun a b c h1 h2 => by simp only [decide_eq_true_eq] at *; omega) (fun a b => by simp only [Bool.or_eq_true, decide_eq_true_eq]; omega) (Sp.rights xs)
    rw [← hrs] at hp
    intro i j hj hij
    have := List.pairwise_iff_getElem.1 hp i j (by omega) hj hij
    simpa using this
  obtain ⟨acc, h⟩ := joined_ex rs hr hs rs.length (Nat.le_refl _)
  have hpt : ∀ p, Sp.Pt acc p ↔ Sp.Has xs p := fun p => by
    rw [h.pt, List.take_length]
    exact Sp.pt_perm hperm p
  rw [← joinS_eq h.canon hpt]
  exact ⟨h.canon, hpt⟩
theorem joinS_len (xs : List (Int × Int)) : (joinS xs).length ≤ xs.length := by
  obtain ⟨rs, hrs⟩ : ∃ rs, rs = (Sp.rights xs).mergeSort fun x y => decide (x.1 ≤ y.1) := ⟨_, rfl⟩
  have hperm : rs.Perm (Sp.rights xs) := by rw [hrs]; exact List.mergeSort_perm _ _
  have hr : ∀ x, x ∈ rs → Sp.rightB x.1 x.2 = true := fun x hx => (List.mem_filter.1 (hperm.mem_iff.1 hx)).2
  have hs : Sp.Rising rs := by
    have hp := List.pairwise_mergeSort (le := fun x y : Int × Int => decide (x.1 ≤ y.1)) (fun a b c h1 h2 => by simp only [decide_eq_true_eq] at *; omega) (fun a b => by simp only [Bool.or_eq_true, decide_eq_true_eq]; omega) (Sp.rights xs)
    rw [← hrs] at hp
    intro i j hj hij
    have := List.pairwise_iff_getElem.1 hp i j (by omega) hj hij
    simpa using this
  obtain ⟨acc, h⟩ := joined_ex rs hr hs rs.length (Nat.le_refl _)
  have hpt : ∀ p, Sp.Pt acc p ↔ Sp.Has xs p := fun p => by
    rw [h.pt, List.take_length]
    exact Sp.pt_perm hperm p
  rw [← joinS_eq h.canon hpt]
  have h1 := h.len
  have h2 := hperm.length_eq
  have h3 := Sp.rights_len xs
  omega
theorem mem_run {S : List Rw} {x : Nat × Nat} {r : Rw} : r ∈ run S x ↔ ∃ k, x.1 ≤ k ∧ k < x.2 ∧ S[k]? = some r := by
  unfold run
  rw [List.mem_iff_getElem?]
  constructor
  · rintro ⟨i, hi⟩
    rw [List.getElem?_take] at hi
    split at hi
    · rw [List.getElem?_drop] at hi
      exact ⟨x.1 + i, by omega, by omega, hi⟩
    · cases hi
  · rintro ⟨k, h1, h2, h3⟩
    refine ⟨k - x.1, ?_⟩
    rw [List.getElem?_take, if_pos (by omega), List.getElem?_drop, show x.1 + (k - x.1) = k by omega]
    exact h3
theorem canonX_eq (S : List Rw) (x : Nat × Nat) : canonX S x = (joinS ((run S x).map (·.2))).map fun s => (valsAt S x, s) := rfl
theorem canon_form (l : List Rw) : CanonRows (canonR l) := by
  have hS := sortR_rise l
  obtain ⟨S, hSe⟩ : ∃ S, sortR l = S := ⟨_, rfl⟩
  unfold canonR
  rw [hSe] at hS ⊢
  unfold canonG
  constructor
  · intro r hr
    obtain ⟨x, hx, hr⟩ := List.mem_flatMap.1 hr
    rw [canonX_eq] at hr
    obtain ⟨s, hs, rfl⟩ := List.mem_map.1 hr
    exact (joinS_spec _).1.1 s hs
  · rw [List.pairwise_flatMap]
    refine ⟨fun x hx => ?_, ?_⟩
    · rw [canonX_eq, List.pairwise_map]
      exact (joinS_spec _).1.2.imp fun h => .inr ⟨rfl, h⟩
    · refine List.Pairwise.imp_of_mem (fun {x y} hx hy hxy => ?_) (cutsF_pair (S.map (·.1)) (S.map (·.1)).length 0)
      intro a ha b hb
      rw [canonX_eq] at ha hb
      obtain ⟨s, _, rfl⟩ := List.mem_map.1 ha
      obtain ⟨t, _, rfl⟩ := List.mem_map.1 hb
      obtain ⟨u, hu⟩ := cut_some hx
      obtain ⟨v, hv⟩ := cut_some hy
      simp only
      rw [valsAt_of hu, valsAt_of hv]
      exact .inl (cuts_rise (rise_vals hS) hx hy hxy hu hv)
theorem canon_has (l : List Rw) (v : List Vt) (p : Int) : (∃ r ∈ canonR l, r.1 = v ∧ hasR p r = true) ↔ (∃ r ∈ l, r.1 = v ∧ hasR p r = true) := by
  obtain ⟨S, hSe⟩ : ∃ S, sortR l = S := ⟨_, rfl⟩
  have hmS : ∀ r, r ∈ S ↔ r ∈ l := fun r => by rw [← hSe]; exact (sortR_perm l).mem_iff
  have hrow : ∀ x ∈ cuts (S.map (·.1)), ∀ r ∈ run S x, r.1 = valsAt S x := fun x hx r hr => by
    obtain ⟨k, h1, h2, h3⟩ := mem_run.1 hr
    have hk' : (S.map (·.1))[k]? = some r.1 := by rw [List.getElem?_map, h3]; rfl
    rw [← (cutsF_same _ _ _ x hx).2.2.2.1 k h1 h2] at hk'
    exact (valsAt_of hk').symm
  have hpt : ∀ x, (∃ s ∈ joinS ((run S x).map (·.2)), s.1 ≤ p ∧ p < s.2) ↔ ∃ r ∈ run S x, hasR p r = true := fun x => by
    have h := (joinS_spec ((run S x).map (·.2))).2 p
    unfold Sp.Pt Sp.Has Sp.Pt Sp.rights at h
    rw [show (∃ s ∈ joinS ((run S x).map (·.2)), s.1 ≤ p ∧ p < s.2) = (∃ s, s ∈ joinS ((run S x).map (·.2)) ∧ s.1 ≤ p ∧ p < s.2) from rfl, h]
    constructor
    · rintro ⟨s, hs, h1, h2⟩
      obtain ⟨hs1, hs2⟩ := List.mem_filter.1 hs
      obtain ⟨r, hr, rfl⟩ := List.mem_map.1 hs1
      exact ⟨r, hr, by simp [hasR, Sp.hasB, hs2, h1, h2]⟩
    · rintro ⟨r, hr, hp⟩
      simp only [hasR, Sp.hasB, Bool.and_eq_true, decide_eq_true_eq] at hp
      exact ⟨r.2, List.mem_filter.2 ⟨List.mem_map.2 ⟨r, hr, rfl⟩, hp.1⟩, hp.2.1, hp.2.2⟩
  unfold canonR
  rw [hSe]
  unfold canonG
  constructor
  · rintro ⟨r, hr, rfl, hp⟩
    obtain ⟨x, hx, hr⟩ := List.mem_flatMap.1 hr
    rw [canonX_eq] at hr
    obtain ⟨s, hs, rfl⟩ := List.mem_map.1 hr
    simp only [hasR, Sp.hasB, Bool.and_eq_true, decide_eq_true_eq] at hp
    obtain ⟨q, hq, hqp⟩ := (hpt x).1 ⟨s, hs, hp.2.1, hp.2.2⟩
    obtain ⟨k, _, _, h3⟩ := mem_run.1 hq
    exact ⟨q, (hmS q).1 (List.mem_of_getElem? h3), hrow x hx q hq, hqp⟩
  · rintro ⟨r, hr, rfl, hp⟩
    obtain ⟨k, hk⟩ := List.mem_iff_getElem?.1 ((hmS r).2 hr)
    have hk' : (S.map (·.1))[k]? = some r.1 := by rw [List.getElem?_map, hk]; rfl
    obtain ⟨x, hx, h1, h2⟩ := cutsF_cover (S.map (·.1)) (S.map (·.1)).length 0 (by omega) k (Nat.zero_le _) (List.getElem?_eq_some_iff.1 hk').1
    have hrm : r ∈ run S x := mem_run.2 ⟨k, h1, h2, hk⟩
    obtain ⟨s, hs, q1, q2⟩ := (hpt x).2 ⟨r, hrm, hp⟩
    refine ⟨(valsAt S x, s), List.mem_flatMap.2 ⟨x, hx, by rw [canonX_eq]; exact List.mem_map.2 ⟨s, hs, rfl⟩⟩, (hrow x hx r hrm).symm, ?_⟩
    have := (joinS_spec _).1.1 s hs
    simp [hasR, Sp.hasB, this, q1, q2]
theorem canon_len (l : List Rw) : (canonR l).length ≤ l.length * l.length := by
  unfold canonR
  have hS := (sortR_perm l).length_eq
  have hc := cutsF_len ((sortR l).map (·.1)) ((sortR l).map (·.1)).length 0
  rw [List.length_map, hS] at hc
  obtain ⟨S, hSe⟩ : ∃ S, sortR l = S := ⟨_, rfl⟩
  rw [hSe] at hS hc ⊢
  have hx : ∀ x, (canonX S x).length ≤ l.length := fun x => by
    rw [canonX_eq, List.length_map]
    refine Nat.le_trans (joinS_len _) ?_
    rw [List.length_map, run, List.length_take, List.length_drop]
    omega
  have hg : ∀ cs : List (Nat × Nat), (canonG S cs).length ≤ cs.length * l.length := fun cs => by
    induction cs with
    | nil => simp [canonG]
    | cons x cs ih =>
      rw [show canonG S (x :: cs) = canonX S x ++ canonG S cs by simp [canonG], List.length_append, List.length_cons, Nat.succ_mul]
      have := hx x
      omega
  refine Nat.le_trans (hg _) (Nat.mul_le_mul_right _ ?_)
  unfold cuts
  rw [List.length_map, hS]
  exact hc
theorem canon_mem (l : List Rw) {r : Rw} (hr : r ∈ canonR l) : ∃ q ∈ l, q.1 = r.1 := by
  have h := (Sp.rightB_iff _ _).1 ((canon_form l).1 r hr)
  obtain ⟨q, hq, e, _⟩ := (canon_has l r.1 r.2.1).1 ⟨r, hr, rfl, by simp [hasR, Sp.hasB, (canon_form l).1 r hr, h.2.1]⟩
  exact ⟨q, hq, e⟩
/-- Canon has the same values at each point. -/
theorem canon_at (l : List Rw) (p : Int) : atR (canonR l) p = atR l p := at_unique fun v => canon_has l v p
/-- Canon of Canon is Canon. -/
theorem canon_canon (l : List Rw) : canonR (canonR l) = canonR l := canonRows_unique (canon_form _) (canon_form _) fun v p => canon_has (canonR l) v p
end Go.Proofs.YtpagnphabchfcaaGreat
/-! ### Two lists have one Canon just if they have the same values at each point at which something changes; plain. -/
namespace Go.Proofs.YtpagnphabchfcaaGreat
set_option maxRecDepth 100000
theorem mem_upTo (d : Array Int) (x : Int) : ∀ m, x ∈ Lib.compactUpTo d m ↔ ∃ j, j < m ∧ d[j]! = x
  | 0 => by simp [Lib.compactUpTo]
  | m + 1 => by
    rw [Lib.compactUpTo_succ, List.mem_append, mem_upTo d x m]
    constructor
    · rintro (⟨j, h1, h2⟩ | h)
      · exact ⟨j, by omega, h2⟩
      · split at h
        · simp only [List.mem_singleton] at h
          exact ⟨m, by omega, h.symm⟩
        · cases h
    · rintro ⟨j, h1, h2⟩
      by_cases hj : j < m
      · exact .inl ⟨j, hj, h2⟩
      · obtain rfl : j = m := by omega
        by_cases hk : Lib.keeps d j = true
        · exact .inr (by rw [if_pos hk]; simp [h2])
        · have h0 : ¬ j = 0 := fun e => hk (by simp [Lib.keeps, e])
          have he : d[j]! = d[j - 1]! := Classical.byContradiction fun e => hk (by simp [Lib.keeps, e])
          exact .inl ⟨j - 1, by omega, by rw [← he]; exact h2⟩
theorem mem_compact (zs : List Int) (x : Int) : x ∈ Lib.compact zs ↔ x ∈ zs := by
  unfold Lib.compact
  rw [mem_upTo]
  constructor
  · rintro ⟨j, h1, h2⟩
    have : zs.toArray[j]! = zs[j] := by simp [h1]
    rw [this] at h2
    rw [← h2]
    exact List.getElem_mem h1
  · intro h
    obtain ⟨j, h1, h2⟩ := List.mem_iff_getElem.1 h
    exact ⟨j, h1, by simp [h1, h2]⟩
theorem mem_points (l : List Rw) (p : Int) : p ∈ pointsR l ↔ ∃ r ∈ l, Sp.rightB r.2.1 r.2.2 = true ∧ (p = r.2.1 ∨ p = r.2.2) := by
  unfold pointsR
  rw [mem_compact, show sortI (ptsL l) = (ptsL l).mergeSort (fun x y => decide (x ≤ y)) from rfl, (List.mergeSort_perm _ _).mem_iff]
  unfold ptsL
  rw [List.mem_flatMap]
  constructor
  · rintro ⟨r, hr, h⟩
    split at h
    · rename_i hb
      exact ⟨r, hr, hb, by simpa using h⟩
    · cases h
  · rintro ⟨r, hr, hb, h⟩
    exact ⟨r, hr, by rw [if_pos hb]; simpa using h⟩
theorem exists_max : ∀ (Q : List Int), Q ≠ [] → ∃ q ∈ Q, ∀ z ∈ Q, z ≤ q
  | [], h => absurd rfl h
  | [x], _ => ⟨x, by simp, by simp⟩
  | x :: y :: Q, _ => by
    obtain ⟨q, hq, h⟩ := exists_max (y :: Q) (by simp)
    by_cases hx : x ≤ q
    · refine ⟨q, List.mem_cons_of_mem _ hq, fun z hz => ?_⟩
      rcases List.mem_cons.1 hz with rfl | hz
      · exact hx
      · exact h z hz
    · refine ⟨x, List.mem_cons_self, fun z hz => ?_⟩
      rcases List.mem_cons.1 hz with rfl | hz
      · exact Int.le_refl _
      · have := h z hz
        omega
theorem hasR_iff (p : Int) (r : Rw) : hasR p r = true ↔ Sp.rightB r.2.1 r.2.2 = true ∧ r.2.1 ≤ p ∧ p < r.2.2 := by
  simp only [hasR, Sp.hasB, Bool.and_eq_true, decide_eq_true_eq]
theorem has_all {a b : List Rw} (h : ∀ p ∈ pointsR a ++ pointsR b, atR a p = atR b p) (v : List Vt) (p : Int) : (∃ r ∈ a, r.1 = v ∧ hasR p r = true) ↔ (∃ r ∈ b, r.1 = v ∧ hasR p r = true) := by
  obtain ⟨P, hP⟩ : ∃ P, P = pointsR a ++ pointsR b := ⟨_, rfl⟩
  have hin : ∀ r, r ∈ a ∨ r ∈ b → Sp.rightB r.2.1 r.2.2 = true → r.2.1 ∈ P ∧ r.2.2 ∈ P := fun r hr hb => by
    rw [hP]
    rcases hr with hr | hr
    · exact ⟨List.mem_append.2 (.inl ((mem_points a _).2 ⟨r, hr, hb, .inl rfl⟩)), List.mem_append.2 (.inl ((mem_points a _).2 ⟨r, hr, hb, .inr rfl⟩))⟩
    · exact ⟨List.mem_append.2 (.inr ((mem_points b _).2 ⟨r, hr, hb, .inl rfl⟩)), List.mem_append.2 (.inr ((mem_points b _).2 ⟨r, hr, hb, .inr rfl⟩))⟩
  rw [← hP] at h
  by_cases hQ : P.filter (fun z => decide (z ≤ p)) = []
  · have no : ∀ r, r ∈ a ∨ r ∈ b → ¬ hasR p r = true := fun r hr hp => by
      obtain ⟨h1, h2, h3⟩ := (hasR_iff p r).1 hp
      have : r.2.1 ∈ P.filter (fun z => decide (z ≤ p)) := List.mem_filter.2 ⟨(hin r hr h1).1, by simpa using h2⟩
      rw [hQ] at this
      cases this
    exact ⟨fun ⟨r, hr, _, hp⟩ => absurd hp (no r (.inl hr)), fun ⟨r, hr, _, hp⟩ => absurd hp (no r (.inr hr))⟩
  · obtain ⟨q, hq, hmax⟩ := exists_max _ hQ
    obtain ⟨hq1, hq2⟩ := List.mem_filter.1 hq
    rw [decide_eq_true_eq] at hq2
    have same : ∀ r, r ∈ a ∨ r ∈ b → (hasR p r = true ↔ hasR q r = true) := fun r hr => by
      rw [hasR_iff, hasR_iff]
      constructor
      · rintro ⟨h1, h2, h3⟩
        have := hmax _ (List.mem_filter.2 ⟨(hin r hr h1).1, by simpa using h2⟩)
        exact ⟨h1, this, by omega⟩
      · rintro ⟨h1, h2, h3⟩
        refine ⟨h1, by omega, ?_⟩
        by_cases ht : r.2.2 ≤ p
        · have := hmax _ (List.mem_filter.2 ⟨(hin r hr h1).2, by simpa using ht⟩)
          omega
        · omega
    have e := h q hq1
    have m1 := at_mem a q v
    have m2 := at_mem b q v
    rw [e] at m1
    have := m1.symm.trans m2
    constructor
    · rintro ⟨r, hr, hv, hp⟩
      obtain ⟨r', hr', hv', hp'⟩ := this.1 ⟨r, hr, hv, (same r (.inl hr)).1 hp⟩
      exact ⟨r', hr', hv', (same r' (.inr hr')).2 hp'⟩
    · rintro ⟨r, hr, hv, hp⟩
      obtain ⟨r', hr', hv', hp'⟩ := this.2 ⟨r, hr, hv, (same r (.inr hr)).1 hp⟩
      exact ⟨r', hr', hv', (same r' (.inl hr')).2 hp'⟩
/-- P15.3's second half. -/
theorem canon_one (a b : List Rw) : (∀ p ∈ pointsR a ++ pointsR b, atR a p = atR b p) ↔ canonR a = canonR b := by
  constructor
  · intro h
    exact canonRows_unique (canon_form _) (canon_form _) fun v p => by rw [canon_has, canon_has]; exact has_all h v p
  · intro h p _
    rw [← canon_at a p, ← canon_at b p, h]
end Go.Proofs.YtpagnphabchfcaaGreat
/-! ### A drawn region whose callees keep a predicate. -/
namespace Go.Proofs.YtpagnphabchfcaaGreat
open Go.RowKit Go.Shelf
theorem mixedTry : Tryz.prog.follows .mixedOrders = true := by kernel_rfl
/-- A world of which S is known. -/
structure GW (S : World → Prop) where
  w : World
  h : S w
theorem wp_region_gw {id : Nat} {Q : Exit → Act → World → Prop} {a : Act} {w : World} {l : List Oper} (S : World → Prop) (hB : Region.lexB .any l.toArray = true) (hS : S w.drew)
    (h : wpQuiet Tryz.prog l.toArray (fun w' => ∃ p : GW S, w' = p.w) (fun a' => ∀ w', (∃ p : GW S, w' = p.w) → Q .normal a' w') l a) : (Code.region id l.toArray true).wp Tryz.prog Q a w :=
  wp_region_quiet (C := fun w' => ∃ p : GW S, w' = p.w) mixedTry hB ⟨⟨_, hS⟩, rfl⟩ (by simpa using h)
theorem calls_gw {S : World → Prop} {f : FuncId} {args : Array Value} {v : Value} (p : GW S) (h : Calls Tryz.prog f args p.w fun e w' => e = .returned v ∧ S w') : Calls Tryz.prog f args p.w fun e w'' => e = .returned v ∧ ∃ p' : GW S, w'' = p'.w :=
  h.mono fun _ _ ⟨he, hs⟩ => ⟨he, ⟨_, hs⟩, rfl⟩
end Go.Proofs.YtpagnphabchfcaaGreat
