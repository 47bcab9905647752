/- What At and Canon answer, told by points; plain. -/
import Derived.Test.YthalgnfffcimhaaPl
namespace Go.Proofs.Ythalgnfffcimhaa
set_option maxRecDepth 100000
theorem cmpL_self (v : List Vt) : cmpL v v = 0 := (ordL.eq v v).2 rfl
def StrictV (A : List (List Vt)) : Prop := A.Pairwise fun a b => cmpL a b = -1
theorem strict_unique {A B : List (List Vt)} (ha : StrictV A) (hb : StrictV B) (h : ∀ v, v ∈ A ↔ v ∈ B) : A = B := by
  have nd : ∀ {C : List (List Vt)}, StrictV C → C.Nodup := fun {C} hc => hc.imp fun {a b} q e => by subst e; rw [cmpL_self] at q; omega
  refine List.Perm.eq_of_pairwise (fun a b _ _ h1 h2 => ?_) ha hb ((List.perm_ext_iff_of_nodup (nd ha) (nd hb)).2 h)
  have := ordL.neg a b
  omega
/-- The values of a list in order, each once. -/
def heads (S : List Rw) : List (List Vt) := (cuts (S.map (·.1))).map (valsAt S)
theorem valsAt_of {S : List Rw} {x : Nat × Nat} {v : List Vt} (h : (S.map (·.1))[x.1]? = some v) : valsAt S x = v := by
  rw [List.getElem?_map] at h
  unfold valsAt
  rw [h]
  rfl
theorem cut_some {L : List (List Vt)} {x : Nat × Nat} (hx : x ∈ cuts L) : ∃ v, L[x.1]? = some v := by
  obtain ⟨_, x1, x2, _⟩ := cutsF_same L _ _ x hx
  exact ⟨_, List.getElem?_eq_getElem (by omega)⟩
theorem heads_strict {S : List Rw} (h : Rise S) : StrictV (heads S) := by
  unfold StrictV heads
  rw [List.pairwise_map]
  refine List.Pairwise.imp_of_mem (fun {x y} hx hy hxy => ?_) (cutsF_pair (S.map (·.1)) (S.map (·.1)).length 0)
  obtain ⟨u, hu⟩ := cut_some hx
  obtain ⟨v, hv⟩ := cut_some hy
  rw [valsAt_of hu, valsAt_of hv]
  exact cuts_rise (rise_vals h) hx hy hxy hu hv
theorem heads_mem (S : List Rw) (v : List Vt) : v ∈ heads S ↔ ∃ r ∈ S, r.1 = v := by
  unfold heads
  constructor
  · intro h
    obtain ⟨x, hx, rfl⟩ := List.mem_map.1 h
    obtain ⟨u, hu⟩ := cut_some hx
    rw [valsAt_of hu]
    obtain ⟨r, hr, rfl⟩ := List.mem_map.1 (List.mem_of_getElem? hu)
    exact ⟨r, hr, rfl⟩
  · rintro ⟨r, hr, rfl⟩
    obtain ⟨k, hk⟩ := List.mem_iff_getElem?.1 hr
    have hk' : (S.map (·.1))[k]? = some r.1 := by rw [List.getElem?_map, hk]; rfl
    obtain ⟨x, hx, h1, h2⟩ := cutsF_cover (S.map (·.1)) (S.map (·.1)).length 0 (by omega) k (Nat.zero_le _) (List.getElem?_eq_some_iff.1 hk').1
    refine List.mem_map.2 ⟨x, hx, valsAt_of ?_⟩
    rw [(cutsF_same _ _ _ x hx).2.2.2.1 k h1 h2]
    exact hk'
theorem at_eq (l : List Rw) (p : Int) : atR l p = heads (sortR (l.filter (hasR p))) := rfl
theorem at_strict (l : List Rw) (p : Int) : StrictV (atR l p) := heads_strict (sortR_rise _)
theorem at_mem (l : List Rw) (p : Int) (v : List Vt) : v ∈ atR l p ↔ ∃ r ∈ l, r.1 = v ∧ hasR p r = true := by
  rw [at_eq, heads_mem]
  constructor
  · rintro ⟨r, hr, h⟩
    have := List.mem_filter.1 ((sortR_perm _).mem_iff.1 hr)
    exact ⟨r, this.1, h, this.2⟩
  · rintro ⟨r, hr, h, hp⟩
    exact ⟨r, (sortR_perm _).mem_iff.2 (List.mem_filter.2 ⟨hr, hp⟩), h⟩
/-- Which values are where: what At tells. -/
theorem at_unique {l m : List Rw} {p q : Int} (h : ∀ v, (∃ r ∈ l, r.1 = v ∧ hasR p r = true) ↔ (∃ r ∈ m, r.1 = v ∧ hasR q r = true)) : atR l p = atR m q :=
  strict_unique (at_strict _ _) (at_strict _ _) fun v => by rw [at_mem, at_mem]; exact h v
/-- The fewest rows: what they are like. -/
def CanonRows (C : List Rw) : Prop := (∀ r ∈ C, Sp.rightB r.2.1 r.2.2 = true) ∧ C.Pairwise fun a b => cmpL a.1 b.1 = -1 ∨ (a.1 = b.1 ∧ a.2.2 < b.2.1)
/-- A value's spans. -/
def spansOf (C : List Rw) (v : List Vt) : List (Int × Int) := (C.filter (fun r => decide (r.1 = v))).map (·.2)
theorem mem_spansOf (C : List Rw) (v : List Vt) (s : Int × Int) : s ∈ spansOf C v ↔ (v, s) ∈ C := by
  unfold spansOf
  constructor
  · intro h
    obtain ⟨r, hr, rfl⟩ := List.mem_map.1 h
    obtain ⟨h1, h2⟩ := List.mem_filter.1 hr
    rw [decide_eq_true_eq] at h2
    rw [← h2]
    exact h1
  · intro h
    exact List.mem_map.2 ⟨(v, s), List.mem_filter.2 ⟨h, by simp⟩, rfl⟩
theorem CanonRows.spans {C : List Rw} (h : CanonRows C) (v : List Vt) : Sp.Canon (spansOf C v) := by
  refine ⟨fun s hs => h.1 (v, s) ((mem_spansOf C v s).1 hs), ?_⟩
  unfold spansOf
  rw [List.pairwise_map]
  refine List.Pairwise.imp_of_mem (fun {a b} ha hb q => ?_) (h.2.filter _)
  have ea := (List.mem_filter.1 ha).2
  have eb := (List.mem_filter.1 hb).2
  rw [decide_eq_true_eq] at ea eb
  rcases q with q | q
  · rw [ea, eb, cmpL_self] at q; omega
  · exact q.2
theorem canonRows_unique {C D : List Rw} (hC : CanonRows C) (hD : CanonRows D) (h : ∀ v p, (∃ r ∈ C, r.1 = v ∧ hasR p r = true) ↔ (∃ r ∈ D, r.1 = v ∧ hasR p r = true)) : C = D := by
  have pt : ∀ {C : List Rw}, CanonRows C → ∀ v p, Sp.Pt (spansOf C v) p ↔ ∃ r ∈ C, r.1 = v ∧ hasR p r = true := fun {C} hC v p => by
    unfold Sp.Pt
    constructor
    · rintro ⟨s, hs, h1, h2⟩
      have hm := (mem_spansOf C v s).1 hs
      exact ⟨(v, s), hm, rfl, by have := hC.1 _ hm; simp only at this; simp [hasR, Sp.hasB, this, h1, h2]⟩
    · rintro ⟨r, hr, rfl, hp⟩
      simp only [hasR, Sp.hasB, Bool.and_eq_true, decide_eq_true_eq] at hp
      exact ⟨r.2, (mem_spansOf C r.1 r.2).2 hr, hp.2.1, hp.2.2⟩
  have hs : ∀ v, spansOf C v = spansOf D v := fun v => Sp.canon_unique _ _ (hC.spans v) (hD.spans v) fun p => by rw [pt hC, pt hD]; exact h v p
  have hm : ∀ z : Rw, z ∈ C ↔ z ∈ D := fun z => by rw [← mem_spansOf C z.1 z.2, ← mem_spansOf D z.1 z.2, hs]
  have nd : ∀ {C : List Rw}, CanonRows C → C.Nodup := fun {C} hC => List.Pairwise.imp_of_mem (fun {a b} ha hb q e => by
    subst e
    rcases q with q | q
    · rw [cmpL_self] at q; omega
    · have := (Sp.rightB_iff _ _).1 (hC.1 a ha)
      omega) hC.2
  refine List.Perm.eq_of_pairwise (fun a b ha hb h1 h2 => ?_) hC.2 hD.2 ((List.perm_ext_iff_of_nodup (nd hC) (nd hD)).2 hm)
  have n := ordL.neg a.1 b.1
  have ra := (Sp.rightB_iff _ _).1 (hC.1 a ha)
  have rb := (Sp.rightB_iff _ _).1 (hD.1 b hb)
  rcases h1 with h1 | ⟨e1, h1⟩
  · rcases h2 with h2 | ⟨e2, h2⟩
    · omega
    · rw [e2, cmpL_self] at h1; omega
  · rcases h2 with h2 | ⟨e2, h2⟩
    · rw [e1, cmpL_self] at h2; omega
    · omega
end Go.Proofs.Ythalgnfffcimhaa
