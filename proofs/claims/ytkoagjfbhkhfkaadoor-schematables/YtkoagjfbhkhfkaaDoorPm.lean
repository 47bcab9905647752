/- Create on both catalogs. -/
import Derived.Test.YtkoagjfbhkhfkaaDoorPl
namespace Go.Proofs.YtkoagjfbhkhfkaaDoor
open Go.RowKit Go.Lib
set_option maxRecDepth 100000
variable {w w' : World} {B c m r : Nat} {nv lv nv' : Value} {E E' : List En} {L : List Tv} {t : Tb}
/-- A table's parent stands ahead of it, and fits. -/
def Ahead (T : List Tb) : Prop := ∀ (i : Nat) (x : Tb), T[i]? = some x → x.p = [] ∨ ∃ (k : Nat) (y : Tb), k < i ∧ T[k]? = some y ∧ y.n = x.p ∧ 0 ≤ x.r ∧ x.r.toNat < x.cols.length ∧ kindAt x.cols x.r.toNat = kindAt y.cols 0
theorem Ahead.snoc {T : List Tb} (h : Ahead T) {t : Tb} (ht : t.p = [] ∨ ∃ y ∈ T, y.n = t.p ∧ 0 ≤ t.r ∧ t.r.toNat < t.cols.length ∧ kindAt t.cols t.r.toNat = kindAt y.cols 0) : Ahead (T ++ [t]) := by
  intro i x hx
  by_cases hi : i < T.length
  · rw [List.getElem?_append_left hi] at hx
    rcases h i x hx with h1 | ⟨k, y, h1, h2, h3⟩
    · exact .inl h1
    · exact .inr ⟨k, y, h1, by rw [List.getElem?_append_left (by omega)]; exact h2, h3⟩
  · rw [List.getElem?_append_right (by omega)] at hx
    have hi0 : i - T.length = 0 := by
      have := (List.getElem?_eq_some_iff.1 hx).1
      simp at this
      omega
    rw [hi0] at hx
    simp at hx
    subst hx
    rcases ht with h1 | ⟨y, hy, h1⟩
    · exact .inl h1
    · obtain ⟨k, hk, hky⟩ := List.getElem_of_mem hy
      refine .inr ⟨k, y, by omega, ?_, h1⟩
      rw [List.getElem?_append_left hk, List.getElem?_eq_getElem hk, hky]
/-- Behind the program's Create, ahead of the reference's. -/
structure Mid (B : Nat) (w : World) (c m : Nat) (nv' : Value) (E E' : List En) (r : Nat) (lv : Value) (L : List Tv) (t : Tb) : Prop where
  cat : Cat w c m nv' E'
  rc : RCat (fun k => ¬ foot c m nv' k) w r lv L
  eq : L.map (·.1) = (E.map (·.1)).reverse
  nd : (E.map (·.1.n)).Nodup
  ge : ∀ k, foot c m nv' k ∨ k = r → B ≤ k
  new : (refuse E t ≠ 0 ∧ E' = E) ∨ (refuse E t = 0 ∧ ∃ g, E' = (t, g) :: E)
  same : refuseR L t = refuse E t
theorem Mid.below (h : Mid B w c m nv' E E' r lv L t) (hb : Below w.heap.size w w') : Mid B w' c m nv' E E' r lv L t := ⟨h.cat.below hb, h.rc.below hb, h.eq, h.nd, h.ge, h.new, h.same⟩
theorem prog_create (h : Two B w c m nv E r lv L) (hB : B ≤ w.heap.size) (n p : ByteArray) (v : Value) (l : List Cl) (q : Int) (hv : SC w v l) (hl : l.length ≤ 1000) :
    Calls Tryd.prog 20 #[.pointer (some ⟨c, 0, none⟩), TB n v p q] w fun e w' => e = .returned (.int .i64 (refuse E ⟨bs n, l, bs p, q⟩)) ∧ ∃ nv' E', Mid B w' c m nv' E E' r lv L ⟨bs n, l, bs p, q⟩ ∧ Below B w w' := by
  have hsame := h.refuses ⟨bs n, l, bs p, q⟩
  by_cases hr : refuse E ⟨bs n, l, bs p, q⟩ = 0
  · refine (create6_yes h.cat n p v l q hv hl hr).mono fun e w' ⟨h1, nv', g, h2, h3, h4, _⟩ => ⟨by rw [hr]; exact h1, nv', _, ⟨h2, h.step1 h3 h4, h.eq, h.nd, fun k hk => ?_, .inr ⟨hr, g, rfl⟩, hsame⟩, h3.below hB (fun i hi => h.ge i (.inl hi))⟩
    rcases hk with hk | hk
    · exact (h4 k hk).elim (fun h5 => h.ge k (.inl h5)) (fun h5 => Nat.le_trans hB h5)
    · exact h.ge k (.inr hk)
  · exact (create6_no h.cat n p v l q hv hl hr).mono fun e w' ⟨h1, h2⟩ => ⟨h1, nv, E, ⟨h.cat.below h2, h.rc.below h2, h.eq, h.nd, h.ge, .inl ⟨hr, rfl⟩, hsame⟩, h2.mono hB⟩
theorem refuse_fnd (h : refuse E t = 0) : fnd E t.n = none := by
  unfold refuse at h
  split at h
  · cases h
  · split at h
    · cases h
    · rename_i h2
      simpa using h2
theorem refuseR_ahead (h : refuseR L t = 0) : t.p = [] ∨ ∃ y ∈ L.map (·.1), y.n = t.p ∧ 0 ≤ t.r ∧ t.r.toNat < t.cols.length ∧ kindAt t.cols t.r.toNat = kindAt y.cols 0 := by
  have hrt := refuseR_ok h
  unfold refuseR at h
  by_cases hp : t.p = []
  · exact .inl hp
  · right
    simp only [hrt, Bool.true_eq_false, if_false, if_neg hp] at h
    split at h
    · cases h
    · split at h
      · cases h
      · simp only [rtB, rpB, if_neg hp, Bool.and_eq_true, decide_eq_true_eq] at hrt
        obtain ⟨_, ⟨_, h6⟩, h7⟩ := hrt
        cases hf : rfnd L t.p with
        | none => rw [hf] at h; simp at h
        | some x =>
          rw [hf] at h
          obtain ⟨hx1, hx2⟩ := rfnd_mem hf
          refine ⟨x.1, List.mem_map.2 ⟨x, hx1, rfl⟩, hx2, by omega, by omega, ?_⟩
          by_cases he : kindAt t.cols t.r.toNat = kindAt x.1.cols 0
          · exact he
          · simp [he] at h
theorem ref_create (n p : ByteArray) (l : List Cl) (q : Int) (h : Mid B w c m nv' E E' r lv L ⟨bs n, l, bs p, q⟩) (hg : Good w) (hB : B ≤ w.heap.size) (v : Value) (hv : SC w v l) (hl : l.length ≤ 1000) :
    Calls Tryd.prog 21 #[.pointer (some ⟨r, 0, none⟩), TB n v p q] w fun e w' => e = .returned (.int .i64 (refuse E ⟨bs n, l, bs p, q⟩)) ∧ ∃ lv' L', Two B w' c m nv' E' r lv' L' ∧ Below B w w' ∧ (Ahead (L.map (·.1)) → Ahead (L'.map (·.1))) := by
  rcases h.new with ⟨hr, rfl⟩ | ⟨hr, g, rfl⟩
  · refine (rcreate_no h.rc hg n p v l q hv hl (by rw [h.same]; exact hr)).mono fun e w' ⟨h1, h2⟩ => ⟨by rw [← h.same]; exact h1, lv, L, ⟨h.cat.below h2, h.rc.below h2, h.eq, h.nd, h.ge⟩, h2.mono hB, id⟩
  · have hr2 : refuseR L ⟨bs n, l, bs p, q⟩ = 0 := by rw [h.same]; exact hr
    refine (rcreate_yes h.rc (fun k hk hf => by have := h.cat.lt (foot_cat hf); omega) hg n p v l q hv hl hr2).mono fun e w' ⟨h1, lv', v', h2, h3⟩ => ⟨by rw [hr]; exact h1, lv', _, ⟨Two.keep2 h.cat h.rc.blk h3, h2, ?_, ?_, h.ge⟩, h3.below hB (fun i hi => by cases hi; exact h.ge _ (.inr rfl)), fun ha => ?_⟩
    · rw [List.map_append, h.eq]
      simp
    · rw [List.map_cons, List.nodup_cons]
      refine ⟨fun hm => ?_, h.nd⟩
      obtain ⟨x, hx, hxe⟩ := List.mem_map.1 hm
      have := List.find?_eq_none.1 (refuse_fnd hr) x hx
      simp at this
      exact this hxe
    · rw [List.map_append]
      exact ha.snoc (refuseR_ahead hr2)
end Go.Proofs.YtkoagjfbhkhfkaaDoor
