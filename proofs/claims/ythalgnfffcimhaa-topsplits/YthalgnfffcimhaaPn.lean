/- Canon's rows are the fewest, and have the same points; plain. -/
import Derived.Test.YthalgnfffcimhaaPm
namespace Go.Proofs.Ythalgnfffcimhaa
set_option maxRecDepth 100000
theorem joined_ex (rs : List (Int × Int)) (hr : ∀ x, x ∈ rs → Sp.rightB x.1 x.2 = true) (hs : Sp.Rising rs) : ∀ k, k ≤ rs.length → ∃ acc, Sp.Joined rs k acc
  | 0, _ => ⟨[], Sp.Joined.start rs⟩
  | k + 1, hk => by
    obtain ⟨acc, h⟩ := joined_ex rs hr hs k (by omega)
    rcases List.eq_nil_or_concat acc with rfl | ⟨ini, ab, rfl⟩
    · exact ⟨_, h.add (by omega) hr hs (fun y hy => by cases hy)⟩
    · obtain ⟨a, b⟩ := ab
      rw [List.concat_eq_append] at h
      by_cases hle : (rs[k]'(by omega)).1 ≤ b
      · exact ⟨_, h.widen (by omega) hr hle rfl⟩
      · refine ⟨_, h.add (by omega) hr hs (fun y hy => ?_)⟩
        have hp := h.canon.2
        rw [List.pairwise_append] at hp
        have r1 := (Sp.rightB_iff _ _).1 (h.canon.1 (a, b) (by simp))
        rcases List.mem_append.1 hy with hy | hy
        · have := hp.2.2 y hy (a, b) (by simp)
          simp only at this r1
          omega
        · simp only [List.mem_singleton] at hy
          subst hy
          simp only
          omega
theorem joinS_spec (xs : List (Int × Int)) : Sp.Canon (joinS xs) ∧ ∀ p, Sp.Pt (joinS xs) p ↔ Sp.Has xs p := by
  obtain ⟨rs, hrs⟩ : ∃ rs, rs = (Sp.rights xs).mergeSort fun x y => decide (x.1 ≤ y.1) := ⟨_, rfl⟩
  have hperm : rs.Perm (Sp.rights xs) := by rw [hrs]; exact List.mergeSort_perm _ _
  have hr : ∀ x, x ∈ rs → Sp.rightB x.1 x.2 = true := fun x hx => (List.mem_filter.1 (hperm.mem_iff.1 hx)).2
  have hs : Sp.Rising rs := by
    have hp := List.pairwise_mergeSort (le := fun x y : Int × Int => decide (x.1 ≤ y.1)) (fun a b c h1 h2 => by simp only [decide_eq_true_eq] at *; omega) (fun a b => by simp only [Bool.or_eq_true, decide_eq_true_eq]; omega) (Sp.rights xs)
    rw [← hrs] at hp
    intro i j hj hij
    have := List.pairwise_iff_getElem.1 hp i j (by omega) hj hij
    simpa using this
  obtain ⟨acc, h⟩ := joined_ex rs hr hs rs.length (Nat.le_refl _)
  have hpt : ∀ p, Sp.Pt acc p ↔ Sp.Has xs p := fun p => by
    rw [h.pt, List.take_length]
    exact Sp.pt_perm hperm p
  rw [← joinS_eq h.canon hpt]
  exact ⟨h.canon, hpt⟩
theorem joinS_len (xs : List (Int × Int)) : (joinS xs).length ≤ xs.length := by
  obtain ⟨rs, hrs⟩ : ∃ rs, rs = (Sp.rights xs).mergeSort fun x y => decide (x.1 ≤ y.1) := ⟨_, rfl⟩
  have hperm : rs.Perm (Sp.rights xs) := by rw [hrs]; exact List.mergeSort_perm _ _
  have hr : ∀ x, x ∈ rs → Sp.rightB x.1 x.2 = true := fun x hx => (List.mem_filter.1 (hperm.mem_iff.1 hx)).2
  have hs : Sp.Rising rs := by
    have hp := List.pairwise_mergeSort (le := fun x y : Int × Int => decide (x.1 ≤ y.1)) (fun a b c h1 h2 => by simp only [decide_eq_true_eq] at *; omega) (fun a b => by simp only [Bool.or_eq_true, decide_eq_true_eq]; omega) (Sp.rights xs)
    rw [← hrs] at hp
    intro i j hj hij
    have := List.pairwise_iff_getElem.1 hp i j (by omega) hj hij
    simpa using this
  obtain ⟨acc, h⟩ := joined_ex rs hr hs rs.length (Nat.le_refl _)
  have hpt : ∀ p, Sp.Pt acc p ↔ Sp.Has xs p := fun p => by
    rw [h.pt, List.take_length]
    exact Sp.pt_perm hperm p
  rw [← joinS_eq h.canon hpt]
  have h1 := h.len
  have h2 := hperm.length_eq
  have h3 := Sp.rights_len xs
  omega
theorem mem_run {S : List Rw} {x : Nat × Nat} {r : Rw} : r ∈ run S x ↔ ∃ k, x.1 ≤ k ∧ k < x.2 ∧ S[k]? = some r := by
  unfold run
  rw [List.mem_iff_getElem?]
  constructor
  · rintro ⟨i, hi⟩
    rw [List.getElem?_take] at hi
    split at hi
    · rw [List.getElem?_drop] at hi
      exact ⟨x.1 + i, by omega, by omega, hi⟩
    · cases hi
  · rintro ⟨k, h1, h2, h3⟩
    refine ⟨k - x.1, ?_⟩
    rw [List.getElem?_take, if_pos (by omega), List.getElem?_drop, show x.1 + (k - x.1) = k by omega]
    exact h3
theorem canonX_eq (S : List Rw) (x : Nat × Nat) : canonX S x = (joinS ((run S x).map (·.2))).map fun s => (valsAt S x, s) := rfl
theorem canon_form (l : List Rw) : CanonRows (canonR l) := by
  have hS := sortR_rise l
  obtain ⟨S, hSe⟩ : ∃ S, sortR l = S := ⟨_, rfl⟩
  unfold canonR
  rw [hSe] at hS ⊢
  unfold canonG
  constructor
  · intro r hr
    obtain ⟨x, hx, hr⟩ := List.mem_flatMap.1 hr
    rw [canonX_eq] at hr
    obtain ⟨s, hs, rfl⟩ := List.mem_map.1 hr
    exact (joinS_spec _).1.1 s hs
  · rw [List.pairwise_flatMap]
    refine ⟨fun x hx => ?_, ?_⟩
    · rw [canonX_eq, List.pairwise_map]
      exact (joinS_spec _).1.2.imp fun h => .inr ⟨rfl, h⟩
    · refine List.Pairwise.imp_of_mem (fun {x y} hx hy hxy => ?_) (cutsF_pair (S.map (·.1)) (S.map (·.1)).length 0)
      intro a ha b hb
      rw [canonX_eq] at ha hb
      obtain ⟨s, _, rfl⟩ := List.mem_map.1 ha
      obtain ⟨t, _, rfl⟩ := List.mem_map.1 hb
      obtain ⟨u, hu⟩ := cut_some hx
      obtain ⟨v, hv⟩ := cut_some hy
      simp only
      rw [valsAt_of hu, valsAt_of hv]
      exact .inl (cuts_rise (rise_vals hS) hx hy hxy hu hv)
theorem canon_has (l : List Rw) (v : List Vt) (p : Int) : (∃ r ∈ canonR l, r.1 = v ∧ hasR p r = true) ↔ (∃ r ∈ l, r.1 = v ∧ hasR p r = true) := by
  obtain ⟨S, hSe⟩ : ∃ S, sortR l = S := ⟨_, rfl⟩
  have hmS : ∀ r, r ∈ S ↔ r ∈ l := fun r => by rw [← hSe]; exact (sortR_perm l).mem_iff
  have hrow : ∀ x ∈ cuts (S.map (·.1)), ∀ r ∈ run S x, r.1 = valsAt S x := fun x hx r hr => by
    obtain ⟨k, h1, h2, h3⟩ := mem_run.1 hr
    have hk' : (S.map (·.1))[k]? = some r.1 := by rw [List.getElem?_map, h3]; rfl
    rw [← (cutsF_same _ _ _ x hx).2.2.2.1 k h1 h2] at hk'
    exact (valsAt_of hk').symm
  have hpt : ∀ x, (∃ s ∈ joinS ((run S x).map (·.2)), s.1 ≤ p ∧ p < s.2) ↔ ∃ r ∈ run S x, hasR p r = true := fun x => by
    have h := (joinS_spec ((run S x).map (·.2))).2 p
    unfold Sp.Pt Sp.Has Sp.Pt Sp.rights at h
    rw [show (∃ s ∈ joinS ((run S x).map (·.2)), s.1 ≤ p ∧ p < s.2) = (∃ s, s ∈ joinS ((run S x).map (·.2)) ∧ s.1 ≤ p ∧ p < s.2) from rfl, h]
    constructor
    · rintro ⟨s, hs, h1, h2⟩
      obtain ⟨hs1, hs2⟩ := List.mem_filter.1 hs
      obtain ⟨r, hr, rfl⟩ := List.mem_map.1 hs1
      exact ⟨r, hr, by simp [hasR, Sp.hasB, hs2, h1, h2]⟩
    · rintro ⟨r, hr, hp⟩
      simp only [hasR, Sp.hasB, Bool.and_eq_true, decide_eq_true_eq] at hp
      exact ⟨r.2, List.mem_filter.2 ⟨List.mem_map.2 ⟨r, hr, rfl⟩, hp.1⟩, hp.2.1, hp.2.2⟩
  unfold canonR
  rw [hSe]
  unfold canonG
  constructor
  · rintro ⟨r, hr, rfl, hp⟩
    obtain ⟨x, hx, hr⟩ := List.mem_flatMap.1 hr
    rw [canonX_eq] at hr
    obtain ⟨s, hs, rfl⟩ := List.mem_map.1 hr
    simp only [hasR, Sp.hasB, Bool.and_eq_true, decide_eq_true_eq] at hp
    obtain ⟨q, hq, hqp⟩ := (hpt x).1 ⟨s, hs, hp.2.1, hp.2.2⟩
    obtain ⟨k, _, _, h3⟩ := mem_run.1 hq
    exact ⟨q, (hmS q).1 (List.mem_of_getElem? h3), hrow x hx q hq, hqp⟩
  · rintro ⟨r, hr, rfl, hp⟩
    obtain ⟨k, hk⟩ := List.mem_iff_getElem?.1 ((hmS r).2 hr)
    have hk' : (S.map (·.1))[k]? = some r.1 := by rw [List.getElem?_map, hk]; rfl
    obtain ⟨x, hx, h1, h2⟩ := cutsF_cover (S.map (·.1)) (S.map (·.1)).length 0 (by omega) k (Nat.zero_le _) (List.getElem?_eq_some_iff.1 hk').1
    have hrm : r ∈ run S x := mem_run.2 ⟨k, h1, h2, hk⟩
    obtain ⟨s, hs, q1, q2⟩ := (hpt x).2 ⟨r, hrm, hp⟩
    refine ⟨(valsAt S x, s), List.mem_flatMap.2 ⟨x, hx, by rw [canonX_eq]; exact List.mem_map.2 ⟨s, hs, rfl⟩⟩, (hrow x hx r hrm).symm, ?_⟩
    have := (joinS_spec _).1.1 s hs
    simp [hasR, Sp.hasB, this, q1, q2]
theorem canon_len (l : List Rw) : (canonR l).length ≤ l.length * l.length := by
  unfold canonR
  have hS := (sortR_perm l).length_eq
  have hc := cutsF_len ((sortR l).map (·.1)) ((sortR l).map (·.1)).length 0
  rw [List.length_map, hS] at hc
  obtain ⟨S, hSe⟩ : ∃ S, sortR l = S := ⟨_, rfl⟩
  rw [hSe] at hS hc ⊢
  have hx : ∀ x, (canonX S x).length ≤ l.length := fun x => by
    rw [canonX_eq, List.length_map]
    refine Nat.le_trans (joinS_len _) ?_
    rw [List.length_map, run, List.length_take, List.length_drop]
    omega
  have hg : ∀ cs : List (Nat × Nat), (canonG S cs).length ≤ cs.length * l.length := fun cs => by
    induction cs with
    | nil => simp [canonG]
    | cons x cs ih =>
      rw [show canonG S (x :: cs) = canonX S x ++ canonG S cs by simp [canonG], List.length_append, List.length_cons, Nat.succ_mul]
      have := hx x
      omega
  refine Nat.le_trans (hg _) (Nat.mul_le_mul_right _ ?_)
  unfold cuts
  rw [List.length_map, hS]
  exact hc
theorem canon_mem (l : List Rw) {r : Rw} (hr : r ∈ canonR l) : ∃ q ∈ l, q.1 = r.1 := by
  have h := (Sp.rightB_iff _ _).1 ((canon_form l).1 r hr)
  obtain ⟨q, hq, e, _⟩ := (canon_has l r.1 r.2.1).1 ⟨r, hr, rfl, by simp [hasR, Sp.hasB, (canon_form l).1 r hr, h.2.1]⟩
  exact ⟨q, hq, e⟩
/-- Canon has the same values at each point. -/
theorem canon_at (l : List Rw) (p : Int) : atR (canonR l) p = atR l p := at_unique fun v => canon_has l v p
/-- Canon of Canon is Canon. -/
theorem canon_canon (l : List Rw) : canonR (canonR l) = canonR l := canonRows_unique (canon_form _) (canon_form _) fun v p => canon_has (canonR l) v p
end Go.Proofs.Ythalgnfffcimhaa
