/- Records as sectors; what is there behind a crash. · What waits, one sector behind the other; what a log on a disk holds. · A log goes from state to state: append, flush, switch, crash. -/
import Derived.Test.YtnganmekiloigaaGa
/-! ### Records as sectors; what is there behind a crash. -/
namespace Go.Proofs.Ytnganmekiloigaa
/-- How many pieces a record has; its part i; a sector. -/
def np (b : Bs) : Nat := (b.length + 56) / 57
def partOf (b : Bs) (i : Nat) : Bs := (b.drop (57 * i)).take 57
def pad57 (b : Bs) : Bs := b ++ List.replicate (57 - b.length) 0
def secOf (e p k n : Nat) (part : Bs) : Bs := [UInt8.ofNat (e / 256), UInt8.ofNat e, UInt8.ofNat (p / 256), UInt8.ofNat p, UInt8.ofNat k, UInt8.ofNat n, UInt8.ofNat part.length] ++ pad57 part
theorem part_length (b : Bs) (i : Nat) : (partOf b i).length = min 57 (b.length - 57 * i) := by simp [partOf]
theorem pad57_length {b : Bs} (h : b.length ≤ 57) : (pad57 b).length = 57 := by simp [pad57]; omega
theorem sec_length {e p k n : Nat} {b : Bs} (h : b.length ≤ 57) : (secOf e p k n b).length = 64 := by simp [secOf, pad57_length h]
theorem pc_sec {e p k n : Nat} {b : Bs} (he : e < 65536) (hp : p < 65536) (hk : k < 256) (hn : n < 256) (hb : b.length ≤ 57) : pcOf (secOf e p k n b) = ⟨e, p, k, n, b.length, pad57 b⟩ := by
  simp only [pcOf, u8, secOf, List.cons_append, List.nil_append, List.getD_cons_zero, List.getD_cons_succ, UInt8.toNat_ofNat', List.drop_succ_cons, List.drop_zero]
  congr 1 <;> omega
def layP (e p : Nat) (b : Bs) : List Bs := (List.range (np b)).map fun i => secOf e (p + i) i (np b) (partOf b i)
theorem lay_length (e p : Nat) (b : Bs) : (layP e p b).length = np b := by simp [layP]
theorem lay_get {e p i : Nat} {b : Bs} (hi : i < np b) : (layP e p b)[i]? = some (secOf e (p + i) i (np b) (partOf b i)) := by simp [layP, hi]
def layAll (e : Nat) : Nat → List Bs → List Bs
  | _, [] => []
  | u, b :: r => layP e u b ++ layAll e (u + np b) r
theorem layAll_append (e : Nat) : ∀ (u : Nat) (l m : List Bs), layAll e u (l ++ m) = layAll e u l ++ layAll e (u + (layAll e u l).length) m
  | u, [], m => by simp [layAll]
  | u, b :: l, m => by
    rw [List.cons_append, layAll, layAll_append e (u + np b) l m, layAll, List.append_assoc, List.length_append, lay_length]
    congr 3; omega
theorem parts_take (b : Bs) : ∀ m, (List.range m).flatMap (partOf b) = b.take (57 * m)
  | 0 => by simp
  | m + 1 => by
    rw [List.range_succ, List.flatMap_append, parts_take b m, List.flatMap_singleton, partOf, Nat.mul_succ, List.take_add]
theorem parts_all (b : Bs) : (List.range (np b)).flatMap (partOf b) = b := by
  rw [parts_take, List.take_of_length_le]
  unfold np; omega

theorem stand_lay {H : List Pc} {e u : Nat} {b : Bs} (he0 : 0 < e) (he : e < 65536) (hb0 : 1 ≤ b.length) (hb : b.length ≤ 3648) (hu : u + np b ≤ H.length) (hH : H.length ≤ 60000) (hat : ∀ i, i < np b → H[u + i]? = ((layP e u b)[i]?).map pcOf) : standP H u = some ⟨e, np b, b⟩ := by
  have hn : 1 ≤ np b ∧ np b ≤ 64 := by unfold np; omega
  have hx : ∀ i, i < np b → H[u + i]? = some ⟨e, u + i, i, np b, (partOf b i).length, pad57 (partOf b i)⟩ := fun i hi => by
    rw [hat i hi, lay_get hi, Option.map_some, pc_sec he (by omega) (by omega) (by omega) (by rw [part_length]; omega)]
  have h0 := hx 0 (by omega)
  rw [Nat.add_zero] at h0
  rw [stand_of h0 he0 hn.1 hn.2 hu ?_]
  · simp only
    congr 2
    refine Eq.trans (flatMap_congr' (g := partOf b) fun i hi => ?_) (parts_all b)
    unfold bytesAt
    rw [hx i (List.mem_range.1 hi)]
    simp [pad57]
  · intro i hi
    simp only at hi
    unfold due
    rw [hx i hi]
    simp only [beq_self_eq_true, Bool.true_and]
    have hp := part_length b i
    split
    · rename_i hi2
      rw [beq_iff_eq, hp]
      unfold np at hi2
      omega
    · rw [decide_eq_true_iff, hp]
      omega

theorem lay_epoch {e u : Nat} (he : e < 65536) {b x : Bs} (h : x ∈ layP e u b) : (pcOf x).e = e := by
  simp only [layP, List.mem_map, List.mem_range] at h
  obtain ⟨i, hi, rfl⟩ := h
  simp only [pcOf, u8, secOf, List.cons_append, List.nil_append, List.getD_cons_zero, List.getD_cons_succ, UInt8.toNat_ofNat']
  omega
theorem layAll_epoch {e : Nat} (he : e < 65536) : ∀ {u : Nat} {l : List Bs} {x : Bs}, x ∈ layAll e u l → (pcOf x).e = e
  | _, [], _, h => by simp [layAll] at h
  | u, b :: r, x, h => by
    rcases List.mem_append.1 h with h | h
    · exact lay_epoch he h
    · exact layAll_epoch he h

/-- What is in force behind a crash: where a Write stayed that one, else what was. -/
def Mixed (H H' : List Pc) (u : Nat) (X : List Bs) (keep : Nat → Bool) : Prop := ∀ i, H'[u + i]? = if i < X.length ∧ keep i = true then (X[i]?).map pcOf else H[u + i]?
theorem Mixed.next {H H' : List Pc} {u e : Nat} {b : Bs} {r : List Bs} {keep : Nat → Bool} (h : Mixed H H' u (layAll e u (b :: r)) keep) : Mixed H H' (u + np b) (layAll e (u + np b) r) fun i => keep (np b + i) := fun i => by
  have := h (np b + i)
  rw [← Nat.add_assoc] at this
  rw [this, layAll, List.length_append, lay_length, List.getElem?_append_right (by rw [lay_length]; omega), lay_length, Nat.add_sub_cancel_left]
  by_cases hc : i < (layAll e (u + np b) r).length
  · simp only [hc, true_and, show np b + i < np b + (layAll e (u + np b) r).length by omega]
  · simp only [hc, false_and, show ¬ np b + i < np b + (layAll e (u + np b) r).length by omega]
theorem Mixed.first {H H' : List Pc} {u e i : Nat} {b : Bs} {r : List Bs} {keep : Nat → Bool} (h : Mixed H H' u (layAll e u (b :: r)) keep) (hi : i < np b) : H'[u + i]? = if keep i = true then ((layP e u b)[i]?).map pcOf else H[u + i]? := by
  rw [h i, layAll, List.length_append, lay_length, List.getElem?_append_left (by rw [lay_length]; omega)]
  simp only [show i < np b + (layAll e (u + np b) r).length by omega, true_and]
theorem not_whole {H H' : List Pc} {u E i0 : Nat} {b : Bs} {l : List Bs} {keep : Nat → Bool} {r : Rc} (hE : E < 65536) (hb0 : 1 ≤ b.length) (hb : b.length ≤ 3648) (hu : u + np b ≤ 60000) (hm : Mixed H H' u (layAll E u (b :: l)) keep) (hold : ∀ i x, u ≤ i → H[i]? = some x → x.e < E) (hi0 : i0 < np b) (hk : keep i0 = false) (hs : standP H' u = some r) : keep 0 = false ∧ r.e < E := by
  have hn : 1 ≤ np b ∧ np b ≤ 64 := by unfold np; omega
  obtain ⟨f, h1, h2, h3, h4, h5, h6, h7, h8, h9⟩ := stand_some hs
  have q0 := hm.first (i := 0) (by omega)
  rw [Nat.add_zero, h1] at q0
  by_cases k0 : keep 0 = true
  · exfalso
    rw [if_pos k0, lay_get (by omega), Option.map_some, pc_sec hE (by omega) (by omega) (by omega) (by rw [part_length]; omega)] at q0
    obtain rfl := Option.some.inj q0
    simp only at h2 h3
    obtain ⟨x, hx, hxe, _⟩ := due_get (h8 i0 (by omega))
    rw [hm.first hi0, hk] at hx
    have := hold (u + i0) x (Nat.le_add_right _ _) (by simpa using hx)
    simp only at hxe
    omega
  · rw [if_neg k0] at q0
    have := hold u f (Nat.le_refl _) q0.symm
    exact ⟨by simpa using k0, by omega⟩
theorem phaseE {H H' : List Pc} {E : Nat} (hE0 : 0 < E) (hE : E < 65536) (hl : H'.length = H.length) (hH : H.length ≤ 60000) : ∀ (more : List Bs) (u : Nat) (keep : Nat → Bool), Mixed H H' u (layAll E u more) keep → (∀ i x, u ≤ i → H[i]? = some x → x.e < E) → u + (layAll E u more).length ≤ H.length → (∀ b ∈ more, 1 ≤ b.length ∧ b.length ≤ 3648) →
    ∃ j u', j ≤ more.length ∧ Chain H' u E (more.take j) u' E ∧ Ends H' u' E ∧ ((∀ i, keep i = true) → j = more.length ∧ u' = u + (layAll E u more).length)
  | [], u, keep, hm, hold, hu, hb => by
    refine ⟨0, u, Nat.le_refl _, .nil _ _, fun r hr => ?_, fun _ => ⟨rfl, by simp [layAll]⟩⟩
    obtain ⟨f, h1, h2, _⟩ := stand_some hr
    have := hm 0
    simp only [layAll, List.length_nil, Nat.lt_irrefl, false_and, if_false, Nat.add_zero] at this
    have := hold u f (Nat.le_refl _) (this.symm.trans h1)
    omega
  | b :: r, u, keep, hm, hold, hu, hb => by
    have hb1 := hb b (by simp)
    have hu' := hu
    rw [layAll, List.length_append, lay_length] at hu
    by_cases ha : ∀ i, i < np b → keep i = true
    · have hs : standP H' u = some ⟨E, np b, b⟩ := stand_lay hE0 hE hb1.1 hb1.2 (by omega) (by omega) fun i hi => by rw [hm.first hi, if_pos (ha i hi)]
      obtain ⟨j, u', hj, hc, he, hall⟩ := phaseE hE0 hE hl hH r (u + np b) _ hm.next (fun i x hi => hold i x (by omega)) (by omega) fun c hc => hb c (by simp [hc])
      refine ⟨j + 1, u', by simp; omega, .cons hs (Nat.le_refl _) hc, he, fun h => ?_⟩
      obtain ⟨h1, h2⟩ := hall fun i => h _
      rw [layAll, List.length_append, lay_length, h1, h2]
      exact ⟨rfl, by omega⟩
    · have ⟨i0, hi0⟩ : ∃ i, ¬ (i < np b → keep i = true) := Classical.not_forall.1 ha
      have hi1 : i0 < np b ∧ keep i0 = false := by
        by_cases h1 : i0 < np b
        · exact ⟨h1, by simpa [h1] using hi0⟩
        · exact absurd (fun h => absurd h h1) hi0
      refine ⟨0, u, Nat.zero_le _, .nil _ _, fun r' hr => (not_whole hE hb1.1 hb1.2 (by omega) hm hold hi1.1 hi1.2 hr).2, fun h => ?_⟩
      rw [h i0] at hi1
      cases hi1.2
/-- Behind a crash: what was sure, and a beginning of what was behind it. -/
theorem phase0 {H H' : List Pc} {E e1 : Nat} (hE0 : 0 < E) (hE : E < 65536) (hl : H'.length = H.length) (hH : H.length ≤ 60000) (he1 : e1 ≤ E) (more : List Bs) (u : Nat) (keep : Nat → Bool) (hm : Mixed H H' u (layAll E u more) keep) (hold : ∀ i x, u ≤ i → H[i]? = some x → x.e < E) (hu : u + (layAll E u more).length ≤ H.length) (hb : ∀ b ∈ more, 1 ≤ b.length ∧ b.length ≤ 3648) (hends : Ends H u e1) :
    ∃ j u' e', j ≤ more.length ∧ Chain H' u e1 (more.take j) u' e' ∧ Ends H' u' e' ∧ e' ≤ E ∧ ((∀ i, keep i = true) → j = more.length ∧ u' = u + (layAll E u more).length) := by
  match more, hm, hu, hb with
  | [], hm, hu, hb =>
    refine ⟨0, u, e1, Nat.le_refl _, .nil _ _, fun r hr => ?_, he1, fun _ => ⟨rfl, by simp [layAll]⟩⟩
    refine hends r (stand_congr hr hl.symm fun i _ => ?_)
    have := hm i
    simp only [layAll, List.length_nil, Nat.not_lt_zero, false_and, if_false] at this
    exact this.symm
  | b :: r, hm, hu, hb =>
    have hb1 := hb b (by simp)
    have hu' := hu
    rw [layAll, List.length_append, lay_length] at hu
    by_cases ha : ∀ i, i < np b → keep i = true
    · have hs : standP H' u = some ⟨E, np b, b⟩ := stand_lay hE0 hE hb1.1 hb1.2 (by omega) (by omega) fun i hi => by rw [hm.first hi, if_pos (ha i hi)]
      obtain ⟨j, u', hj, hc, he, hall⟩ := phaseE hE0 hE hl hH r (u + np b) _ hm.next (fun i x hi => hold i x (by omega)) (by omega) fun c hc => hb c (by simp [hc])
      refine ⟨j + 1, u', E, by simp; omega, .cons hs he1 hc, he, Nat.le_refl _, fun h => ?_⟩
      obtain ⟨h1, h2⟩ := hall fun i => h _
      rw [layAll, List.length_append, lay_length, h1, h2]
      exact ⟨rfl, by omega⟩
    · have ⟨i0, hi0⟩ : ∃ i, ¬ (i < np b → keep i = true) := Classical.not_forall.1 ha
      have hi1 : i0 < np b ∧ keep i0 = false := by
        by_cases h1 : i0 < np b
        · exact ⟨h1, by simpa [h1] using hi0⟩
        · exact absurd (fun h => absurd h h1) hi0
      refine ⟨0, u, e1, Nat.zero_le _, .nil _ _, fun r' hr => ?_, he1, fun h => ?_⟩
      · obtain ⟨k0, hlt⟩ := not_whole hE hb1.1 hb1.2 (by omega) hm hold hi1.1 hi1.2 hr
        refine hends r' (stand_congr hr hl.symm fun i hi => ?_)
        obtain ⟨f, h1, h2, h3, h4, h5, h6, h7, h8, h9⟩ := stand_some hr
        obtain ⟨x, hx, hxe, _⟩ := due_get (h8 i hi)
        have q := hm i
        by_cases hc : i < (layAll E u (b :: r)).length ∧ keep i = true
        · rw [if_pos hc, hx, List.getElem?_eq_getElem hc.1] at q
          have := layAll_epoch hE (List.getElem_mem hc.1)
          rw [Option.map_some] at q
          rw [← Option.some.inj q] at this
          omega
        · rw [if_neg hc] at q
          exact q.symm
      · rw [h i0] at hi1
        cases hi1.2
end Go.Proofs.Ytnganmekiloigaa
/-! ### What waits, one sector behind the other; what a log on a disk holds. -/
namespace Go.Proofs.Ytnganmekiloigaa
/-- Writes that wait, one sector behind the other from b on. -/
def waitOf : Nat → List Bs → List (Nat × Bs)
  | _, [] => []
  | b, x :: r => (b, x) :: waitOf (b + 1) r
theorem waitOf_append : ∀ (X Y : List Bs) (b : Nat), waitOf b (X ++ Y) = waitOf b X ++ waitOf (b + X.length) Y
  | [], Y, b => by simp [waitOf]
  | x :: X, Y, b => by rw [List.cons_append, waitOf, waitOf_append X Y (b + 1), waitOf, List.cons_append, List.length_cons, show b + 1 + X.length = b + (X.length + 1) by omega]
theorem waitOf_length : ∀ (X : List Bs) (b : Nat), (waitOf b X).length = X.length
  | [], _ => rfl
  | x :: X, b => by rw [waitOf, List.length_cons, waitOf_length X, List.length_cons]
theorem land_wait (keep : Nat → Bool) : ∀ (X : List Bs) (k b : Nat) (s : List Bs) (j : Nat), b + X.length ≤ s.length → (land keep k (waitOf b X) s)[j]? = if b ≤ j ∧ j - b < X.length ∧ keep (k + (j - b)) = true then X[j - b]? else s[j]?
  | [], k, b, s, j, _ => by simp [waitOf, land]
  | x :: X, k, b, s, j, h => by
    rw [waitOf, land, land_wait keep X (k + 1) (b + 1) _ j (by split <;> simp at h ⊢ <;> omega)]
    by_cases hj : j = b
    · subst hj
      have h1 : j < s.length := by simp at h; omega
      by_cases hk : keep k = true
      · simp [hk, h1]; intro h; omega
      · simp [hk]; intro h; omega
    · have hs : (if keep k = true then s.set b x else s)[j]? = s[j]? := by split <;> simp [Ne.symm hj]
      rw [hs]
      by_cases hlt : b ≤ j
      · obtain ⟨m, rfl⟩ : ∃ m, j = b + (m + 1) := ⟨j - b - 1, by omega⟩
        have e1 : b + (m + 1) - (b + 1) = m := by omega
        have e2 : b + (m + 1) - b = m + 1 := by omega
        rw [e1, e2]
        simp only [List.length_cons, List.getElem?_cons_succ]
        by_cases hc : m < X.length ∧ keep (k + (m + 1)) = true
        · rw [if_pos ⟨by omega, hc.1, by rw [show k + 1 + m = k + (m + 1) by omega]; exact hc.2⟩, if_pos ⟨by omega, by omega, hc.2⟩]
        · rw [if_neg (fun h => hc ⟨h.2.1, by rw [show k + (m + 1) = k + 1 + m by omega]; exact h.2.2⟩), if_neg (fun h => hc ⟨by omega, h.2.2⟩)]
      · rw [if_neg (by omega), if_neg (by omega)]
/-- A log on a disk that does all it is asked: what is sure, and what is behind it. -/
structure Inv (R : Nat) (D : Dk) (h E cnt en u e1 : Nat) (sure more : List Bs) : Prop where
  cut : D.cut = false
  off : D.off = false
  len : D.secs.length = 2 * R
  half : h = 0 ∨ h = 1
  wait : D.wait = waitOf (h * R + u) (layAll E u more)
  chain : Chain (halfP D.secs h) 0 0 sure u e1
  ends : Ends (halfP D.secs h) u e1
  e1 : e1 ≤ E
  old : ∀ (i : Nat) (x : Pc), u ≤ i → (halfP D.secs h)[i]? = some x → x.e < E
  all : ∀ x ∈ pcs D.secs, x.e ≤ E
  other : (∃ r, standP (halfP D.secs h) 0 = some r ∧ 0 < u ∧ ∀ x ∈ halfP D.secs (1 - h), x.e < r.e) ∨ (sure = [] ∧ h = 0 ∧ ∀ x ∈ halfP D.secs 1, x.e = 0)
  ep : 0 < E ∧ E < 65000
  cnt' : cnt = sure.length + more.length
  en' : en = u + (layAll E u more).length
  room : en ≤ R
  recs : ∀ b ∈ more, 1 ≤ b.length ∧ b.length ≤ 3648
theorem epoch0_zero {H : List Pc} (h : ∀ x ∈ H, x.e = 0) : epoch0 H = 0 := by
  unfold epoch0
  cases hs : standP H 0 with
  | none => rfl
  | some r =>
    obtain ⟨f, h1, h2, h3, h4, _⟩ := stand_some hs
    have := h f (List.mem_of_getElem? h1)
    omega
theorem epoch0_lt {H : List Pc} {e : Nat} (he : 0 < e) (h : ∀ x ∈ H, x.e < e) : epoch0 H < e := by
  unfold epoch0
  cases hs : standP H 0 with
  | none => exact he
  | some r =>
    obtain ⟨f, h1, h2, _⟩ := stand_some hs
    have := h f (List.mem_of_getElem? h1)
    simp only; omega
theorem force_of {S : List Bs} {h : Nat} {r : Rc} (hh : h = 0 ∨ h = 1) (hs : standP (halfP S h) 0 = some r) (ho : ∀ x ∈ halfP S (1 - h), x.e < r.e) : forceP S = h := by
  have h0 : 0 < r.e := by obtain ⟨f, _, _, _, h4, _⟩ := stand_some hs; exact h4
  have e0 : epoch0 (halfP S h) = r.e := by unfold epoch0; rw [hs]
  have e1 := epoch0_lt h0 ho
  unfold forceP
  rcases hh with rfl | rfl
  · rw [if_neg (by simp at e1; omega)]
  · rw [if_pos (by simp at e1; omega)]
/-- The halves behind a crash. -/
theorem half_mixed {R u h : Nat} {S : List Bs} {X : List Bs} {keep : Nat → Bool} (hS : S.length = 2 * R) (hh : h = 0 ∨ h = 1) (hu : u + X.length ≤ R) :
    (halfP (land keep 0 (waitOf (h * R + u) X) S) h).length = (halfP S h).length ∧ (∀ i, i < u → (halfP (land keep 0 (waitOf (h * R + u) X) S) h)[i]? = (halfP S h)[i]?) ∧ Mixed (halfP S h) (halfP (land keep 0 (waitOf (h * R + u) X) S) h) u X keep ∧ halfP (land keep 0 (waitOf (h * R + u) X) S) (1 - h) = halfP S (1 - h) := by
  have hl : (land keep 0 (waitOf (h * R + u) X) S).length = 2 * R := by rw [land_length, hS]
  have hr : 2 * R / 2 = R := by omega
  have hb : h * R + u + X.length ≤ S.length := by rcases hh with rfl | rfl <;> omega
  have hk : h < 2 ∧ 1 - h < 2 := by omega
  have key : ∀ i, i < R → (halfP (land keep 0 (waitOf (h * R + u) X) S) h)[i]? = if u ≤ i ∧ i - u < X.length ∧ keep (i - u) = true then (X[i - u]?).map pcOf else (halfP S h)[i]? := fun i hi => by
    rw [halfP_get (by rw [hl, hr]; exact hi), halfP_get (by rw [hS, hr]; exact hi), hl, hr, hS, hr, land_wait keep X 0 _ S _ hb]
    by_cases hc : u ≤ i ∧ i - u < X.length ∧ keep (i - u) = true
    · have e : h * R + i - (h * R + u) = i - u := by omega
      rw [if_pos hc, if_pos ⟨by omega, by rw [e]; exact hc.2.1, by rw [e, Nat.zero_add]; exact hc.2.2⟩, e]
    · rw [if_neg hc]
      rw [if_neg (fun hq => hc (by
        have e : h * R + i - (h * R + u) = i - u := by omega
        rw [e, Nat.zero_add] at hq
        exact ⟨by omega, hq.2.1, hq.2.2⟩))]
  have hlH : (halfP (land keep 0 (waitOf (h * R + u) X) S) h).length = (halfP S h).length := by rw [halfP_length hk.1, halfP_length hk.1, hl, hS]
  refine ⟨hlH, fun i hi => ?_, fun i => ?_, ?_⟩
  · rw [key i (by omega), if_neg (by omega)]
  · by_cases hi : u + i < R
    · rw [key (u + i) hi]
      have e : u + i - u = i := by omega
      rw [e]
      by_cases hc : i < X.length ∧ keep i = true
      · rw [if_pos hc, if_pos ⟨by omega, hc⟩]
      · rw [if_neg hc, if_neg (fun hq => hc hq.2)]
    · rw [if_neg (by omega), List.getElem?_eq_none (by rw [hlH, halfP_length hk.1, hS]; omega), List.getElem?_eq_none (by rw [halfP_length hk.1, hS]; omega)]
  · apply List.ext_getElem?
    intro i
    by_cases hi : i < R
    · rw [halfP_get (by rw [hl, hr]; exact hi), halfP_get (by rw [hS, hr]; exact hi), hl, hr, hS, hr, land_wait keep X 0 _ S _ hb, if_neg]
      rcases hh with rfl | rfl <;> simp <;> omega
    · rw [List.getElem?_eq_none (by rw [halfP_length hk.2, hl]; omega), List.getElem?_eq_none (by rw [halfP_length hk.2, hS]; omega)]
end Go.Proofs.Ytnganmekiloigaa
/-! ### A log goes from state to state: append, flush, switch, crash. -/
namespace Go.Proofs.Ytnganmekiloigaa
section
variable {R h E cnt en u e1 : Nat} {D : Dk} {sure more : List Bs}
theorem Inv.halfLen (i : Inv R D h E cnt en u e1 sure more) : (halfP D.secs h).length = R ∧ (halfP D.secs (1 - h)).length = R := by
  have := i.len
  have := i.half
  exact ⟨by rw [halfP_length (by omega)]; omega, by rw [halfP_length (by omega)]; omega⟩
theorem mem_half {S : List Bs} {k : Nat} {x : Pc} (h : x ∈ halfP S k) : x ∈ pcs S := List.mem_of_mem_drop (List.mem_of_mem_take h)
theorem mem_halves {S : List Bs} {R : Nat} (hS : S.length = 2 * R) {x : Pc} (hx : x ∈ pcs S) : x ∈ halfP S 0 ∨ x ∈ halfP S 1 := by
  have hr : 2 * R / 2 = R := by omega
  have e0 : halfP S 0 = (pcs S).take R := by simp [halfP, hS]
  have e1 : halfP S 1 = (pcs S).drop R := by
    unfold halfP
    rw [hS, hr, Nat.one_mul, List.take_of_length_le (by simp [pcs, hS]; omega)]
  rw [e0, e1]
  rw [← List.take_append_drop R (pcs S)] at hx
  exact List.mem_append.1 hx
/-- What is on the disk behind a crash, or a flush. -/
theorem Inv.landed (i : Inv R D h E cnt en u e1 sure more) (hR : R ≤ 60000) (keep : Nat → Bool) :
    ∃ j u' e', j ≤ more.length ∧ Chain (halfP (land keep 0 D.wait D.secs) h) 0 0 (sure ++ more.take j) u' e' ∧ Ends (halfP (land keep 0 D.wait D.secs) h) u' e' ∧ e' ≤ E ∧ u ≤ u' ∧ ((∀ k, keep k = true) → j = more.length ∧ u' = en) ∧
      (land keep 0 D.wait D.secs).length = 2 * R ∧ (∀ x ∈ pcs (land keep 0 D.wait D.secs), x.e ≤ E) ∧ halfP (land keep 0 D.wait D.secs) (1 - h) = halfP D.secs (1 - h) ∧
      ((∃ r, standP (halfP (land keep 0 D.wait D.secs) h) 0 = some r ∧ 0 < u' ∧ ∀ x ∈ halfP (land keep 0 D.wait D.secs) (1 - h), x.e < r.e) ∨ (sure ++ more.take j = [] ∧ h = 0 ∧ ∀ x ∈ halfP (land keep 0 D.wait D.secs) 1, x.e = 0)) ∧ forceP (land keep 0 D.wait D.secs) = h := by
  have hu : u + (layAll E u more).length ≤ R := by have := i.en'; have := i.room; omega
  obtain ⟨m1, m2, m3, m4⟩ := half_mixed (keep := keep) i.len i.half hu
  rw [← i.wait] at m1 m2 m3 m4
  have hl := i.halfLen
  obtain ⟨j, u', e', hj, hc, he, hle, hall⟩ := phase0 i.ep.1 (by have := i.ep.2; omega) m1 (by omega) i.e1 more u keep m3 i.old (by omega) i.recs i.ends
  have hch := (i.chain.congr m1 m2).append hc
  have hlen : (land keep 0 D.wait D.secs).length = 2 * R := by rw [land_length, i.len]
  have hin : ∀ x ∈ halfP (land keep 0 D.wait D.secs) h, x.e ≤ E := fun x hx => by
    obtain ⟨k, hk, rfl⟩ := List.mem_iff_getElem.1 hx
    by_cases hku : k < u
    · have := m2 k hku
      rw [List.getElem?_eq_getElem hk] at this
      exact i.all _ (mem_half (List.mem_of_getElem? this.symm))
    · obtain ⟨q, rfl⟩ : ∃ q, k = u + q := ⟨k - u, by omega⟩
      have := m3 q
      rw [List.getElem?_eq_getElem hk] at this
      split at this
      · rename_i hq
        rw [List.getElem?_eq_getElem hq.1, Option.map_some] at this
        rw [Option.some.inj this, layAll_epoch (by have := i.ep.2; omega) (List.getElem_mem hq.1)]
        exact Nat.le_refl _
      · exact i.all _ (mem_half (List.mem_of_getElem? this.symm))
  have hpall : ∀ x ∈ pcs (land keep 0 D.wait D.secs), x.e ≤ E := fun x hx => by
    have hother : ∀ y ∈ halfP (land keep 0 D.wait D.secs) (1 - h), y.e ≤ E := fun y hy => by rw [m4] at hy; exact i.all y (mem_half hy)
    rcases mem_halves hlen hx with h1 | h1
    · rcases i.half with rfl | rfl
      · exact hin x h1
      · exact hother x h1
    · rcases i.half with rfl | rfl
      · exact hother x h1
      · exact hin x h1
  have hoth : (∃ r, standP (halfP (land keep 0 D.wait D.secs) h) 0 = some r ∧ 0 < u' ∧ ∀ x ∈ halfP (land keep 0 D.wait D.secs) (1 - h), x.e < r.e) ∨ (sure ++ more.take j = [] ∧ h = 0 ∧ ∀ x ∈ halfP (land keep 0 D.wait D.secs) 1, x.e = 0) := by
    rcases i.other with ⟨r, hr, h0, ho⟩ | ⟨rfl, rfl, ho⟩
    · refine .inl ⟨r, ?_, by have := hc.le.1; omega, by rw [m4]; exact ho⟩
      have hch0 := i.chain
      cases hsu : sure with
      | nil => rw [hsu] at hch0; cases hch0; omega
      | cons b l =>
        rw [hsu] at hch0
        cases hch0 with
        | cons hs he' hr' =>
          rw [hr] at hs
          cases hs
          have := hr'.le
          exact stand_congr hr m1 fun k hk => m2 _ (by omega)
    · cases hsm : more.take j with
      | nil => exact .inr ⟨by simp, rfl, by rw [show (1 : Nat) = 1 - 0 from rfl, m4]; exact ho⟩
      | cons b l =>
        have hu0 : u = 0 := by have hch0 := i.chain; cases hch0; rfl
        subst hu0
        rw [hsm] at hc
        cases hc with
        | @cons _ _ _ _ r _ hs he' hr' =>
          have := hr'.le
          obtain ⟨f, _, _, _, h4, h5, _⟩ := stand_some hs
          refine .inl ⟨r, hs, by omega, fun x hx => ?_⟩
          rw [m4] at hx
          have := ho x hx
          omega
  refine ⟨j, u', e', hj, hch, he, hle, hc.le.1, fun ha => ?_, hlen, hpall, m4, hoth, ?_⟩
  · obtain ⟨h1, h2⟩ := hall ha
    exact ⟨h1, by rw [h2, i.en']⟩
  · rcases hoth with ⟨r, hr, _, ho⟩ | ⟨hnil, rfl, ho⟩
    · exact force_of i.half hr ho
    · unfold forceP
      rw [if_neg]
      rw [epoch0_zero ho]
      omega
/-- Flush: all is sure. -/
theorem Inv.flush (i : Inv R D h E cnt en u e1 sure more) (hR : R ≤ 60000) : D.flush.1 = 0 ∧ ∃ e', Inv R D.flush.2 h E cnt en en e' (sure ++ more) [] := by
  have hsp : D.spend = (true, D) := by unfold Dk.spend; rw [if_neg (by rw [i.cut]; simp)]
  have hf : D.flush = (0, { D with secs := land (fun _ => true) 0 D.wait D.secs, wait := [] }) := by
    unfold Dk.flush
    rw [if_neg (by rw [i.off]; simp), hsp]
    simp
  obtain ⟨j, u', e', hj, hch, he, hle, huu, hall, hlen, hp, m4, hoth, _⟩ := i.landed hR (fun _ => true)
  obtain ⟨rfl, rfl⟩ := hall fun _ => rfl
  rw [List.take_length] at hch hoth
  rw [hf]
  refine ⟨rfl, e', i.cut, i.off, hlen, i.half, by simp [layAll, waitOf], hch, he, hle, ?_, hp, hoth, i.ep, by simp [i.cnt'], by simp [layAll], i.room, by simp⟩
  intro k x hk hx
  have hu : u + (layAll E u more).length ≤ R := by have := i.en'; have := i.room; omega
  obtain ⟨m1, m2, m3, _⟩ := half_mixed (keep := fun _ => true) i.len i.half hu
  rw [← i.wait] at m1 m2 m3
  obtain ⟨q, rfl⟩ : ∃ q, k = u + q := ⟨k - u, by have := i.en'; omega⟩
  rw [m3 q, if_neg (by have := i.en'; omega)] at hx
  exact i.old _ x (by omega) hx
/-- Append: one more behind. -/
theorem Inv.append (i : Inv R D h E cnt en u e1 sure more) {b : Bs} (hb : 1 ≤ b.length ∧ b.length ≤ 3648) (hn : en + np b ≤ R) {D' : Dk} (hD : D' = { D with wait := D.wait ++ waitOf (h * R + en) (layP E en b) }) :
    Inv R D' h E (cnt + 1) (en + np b) u e1 sure (more ++ [b]) := by
  subst hD
  have e1' : layAll E u (more ++ [b]) = layAll E u more ++ layP E en b := by rw [layAll_append, ← i.en']; simp [layAll]
  refine ⟨i.cut, i.off, i.len, i.half, ?_, i.chain, i.ends, i.e1, i.old, i.all, i.other, i.ep, by simp [i.cnt']; omega, by rw [e1', List.length_append, lay_length, i.en']; omega, hn, ?_⟩
  · show D.wait ++ _ = _
    rw [e1', waitOf_append, i.wait, i.en', Nat.add_assoc]
  · intro c hc
    rcases List.mem_append.1 hc with hc | hc
    · exact i.recs c hc
    · simp at hc; subst hc; exact hb
/-- Crash, and Open: what was sure, and a beginning of what was behind it. -/
theorem Inv.crash (i : Inv R D h E cnt en u e1 sure more) (hR : R ≤ 60000) (hE : E < 64990) (keep : List Bool) :
    ∃ j u' e', j ≤ more.length ∧ Chain (halfP (D.crash keep).secs h) 0 0 (sure ++ more.take j) u' e' ∧ Ends (halfP (D.crash keep).secs h) u' e' ∧ forceP (D.crash keep).secs = h ∧ great (pcs (D.crash keep).secs) ≤ E ∧
      Inv R (D.crash keep) h (great (pcs (D.crash keep).secs) + 1) (sure ++ more.take j).length u' u' e' (sure ++ more.take j) [] ∧ (D.crash keep).wait = [] := by
  obtain ⟨j, u', e', hj, hch, he, hle, huu, hall, hlen, hp, m4, hoth, hf⟩ := i.landed hR (fun k => keep.getD k false)
  have hg : great (pcs (D.crash keep).secs) ≤ E := great_bound _ 0 E (Nat.zero_le _) hp
  have hgm : ∀ x ∈ pcs (D.crash keep).secs, x.e ≤ great (pcs (D.crash keep).secs) := (great_le _ 0).2
  refine ⟨j, u', e', hj, hch, he, hf, hg, ⟨rfl, rfl, hlen, i.half, by simp [layAll, waitOf, Dk.crash], hch, he, ?_, fun k x _ hx => Nat.lt_succ_of_le (hgm x (mem_half (List.mem_of_getElem? hx))), fun x hx => Nat.le_succ_of_le (hgm x hx), hoth, ⟨by omega, by omega⟩, by simp, by simp [layAll], ?_, by simp⟩, rfl⟩
  · have hl : (halfP (D.crash keep).secs h).length = R := by rw [halfP_length (by have := i.half; omega)]; show (land _ 0 D.wait D.secs).length / 2 = R; rw [hlen]; omega
    have : e' ≤ great (pcs (D.crash keep).secs) := by
      clear hf hoth hall
      have key : ∀ {p e l u e'}, Chain (halfP (D.crash keep).secs h) p e l u e' → e ≤ great (pcs (D.crash keep).secs) → e' ≤ great (pcs (D.crash keep).secs) := by
        intro p e l u e' hc
        induction hc with
        | nil => exact id
        | cons hs he' hr ih =>
          intro _
          obtain ⟨f, h1, h2, _⟩ := stand_some hs
          have := hgm f (mem_half (List.mem_of_getElem? h1))
          exact ih (by omega)
      exact key hch (Nat.zero_le _)
    omega
  · have hl : (halfP (D.crash keep).secs h).length = R := by rw [halfP_length (by have := i.half; omega)]; show (land _ 0 D.wait D.secs).length / 2 = R; rw [hlen]; omega
    exact Nat.le_trans (hch.room (Nat.zero_le _)) (Nat.le_of_eq hl)
theorem land_append (keep : Nat → Bool) : ∀ (a b : List (Nat × Bs)) (k : Nat) (s : List Bs), land keep k (a ++ b) s = land keep (k + a.length) b (land keep k a s)
  | [], b, k, s => rfl
  | x :: a, b, k, s => by
    rw [List.cons_append, land, land_append keep a b (k + 1), land, List.length_cons, show k + 1 + a.length = k + (a.length + 1) by omega]
theorem land_true : ∀ (a : List (Nat × Bs)) (k m : Nat) (s : List Bs), land (fun _ => true) k a s = land (fun _ => true) m a s
  | [], _, _, _ => rfl
  | x :: a, k, m, s => by rw [land, land, land_true a (k + 1) (m + 1)]
/-- Switch: its record alone, in the other half. -/
theorem Inv.switch (i : Inv R D h E cnt en u e1 sure more) (hR : R ≤ 60000) (hE : E < 64990) {b : Bs} (hb : 1 ≤ b.length ∧ b.length ≤ 3648) (hn : np b ≤ R) {D' : Dk} (hD : D' = { D with wait := D.wait ++ waitOf ((1 - h) * R) (layP (E + 1) 0 b) }) :
    D'.flush.1 = 0 ∧ Inv R D'.flush.2 (1 - h) (E + 1) 1 (np b) (np b) (E + 1) [b] [] := by
  subst hD
  have hh := i.half
  have hf : Dk.flush { D with wait := D.wait ++ waitOf ((1 - h) * R) (layP (E + 1) 0 b) } = (0, { D with secs := land (fun _ => true) 0 (D.wait ++ waitOf ((1 - h) * R) (layP (E + 1) 0 b)) D.secs, wait := [] }) := by
    unfold Dk.flush Dk.spend
    simp [i.off, i.cut]
  obtain ⟨j, u', e', hj, hch, he, hle, huu, hall, hlen, hp, m4, hoth, _⟩ := i.landed hR (fun _ => true)
  have hS2 : land (fun _ => true) 0 (D.wait ++ waitOf ((1 - h) * R) (layP (E + 1) 0 b)) D.secs = land (fun _ => true) 0 (waitOf ((1 - h) * R + 0) (layP (E + 1) 0 b)) (land (fun _ => true) 0 D.wait D.secs) := by
    rw [land_append, Nat.add_zero]
    exact land_true _ _ _ _
  obtain ⟨n1, n2, n3, n4⟩ := half_mixed (u := 0) (X := layP (E + 1) 0 b) (h := 1 - h) (keep := fun _ => true) hlen (by omega) (by rw [lay_length]; omega)
  rw [← hS2] at n1 n2 n3 n4
  have hhh : 1 - (1 - h) = h := by omega
  rw [hhh] at n4
  rw [hf]
  have hl2 : (land (fun _ => true) 0 (D.wait ++ waitOf ((1 - h) * R) (layP (E + 1) 0 b)) D.secs).length = 2 * R := by rw [land_length, i.len]
  generalize land (fun _ => true) 0 (D.wait ++ waitOf ((1 - h) * R) (layP (E + 1) 0 b)) D.secs = S2 at *
  have hHl : (halfP S2 (1 - h)).length = R := by rw [halfP_length (by omega), hl2]; omega
  have hnp : 1 ≤ np b ∧ np b ≤ 64 := by unfold np; omega
  have hE2 := i.ep.2
  have hst : standP (halfP S2 (1 - h)) 0 = some ⟨E + 1, np b, b⟩ := stand_lay (by omega) (by omega) hb.1 hb.2 (by rw [hHl]; omega) (by rw [hHl]; omega) fun k hk => by
    rw [n3 k, if_pos ⟨by rw [lay_length]; exact hk, rfl⟩]
  have hold : ∀ (k : Nat) (x : Pc), np b ≤ k → (halfP S2 (1 - h))[k]? = some x → x.e ≤ E := fun k x hk hx => by
    have := n3 k
    rw [Nat.zero_add] at this
    rw [this, if_neg (by rw [lay_length]; omega)] at hx
    exact hp x (mem_half (List.mem_of_getElem? hx))
  have hsame : ∀ x ∈ halfP S2 h, x.e ≤ E := fun x hx => by rw [n4] at hx; exact hp x (mem_half hx)
  have hmine : ∀ x ∈ halfP S2 (1 - h), x.e ≤ E + 1 := fun x hx => by
    obtain ⟨k, hk, rfl⟩ := List.mem_iff_getElem.1 hx
    by_cases hkn : k < np b
    · have := n3 k
      rw [Nat.zero_add, List.getElem?_eq_getElem hk, if_pos ⟨by rw [lay_length]; exact hkn, rfl⟩, List.getElem?_eq_getElem (by rw [lay_length]; exact hkn), Option.map_some] at this
      rw [Option.some.inj this, lay_epoch (by omega) (List.getElem_mem _)]
      exact Nat.le_refl _
    · have := hold k _ (by omega) (List.getElem?_eq_getElem hk)
      omega
  refine ⟨rfl, i.cut, i.off, hl2, by omega, by simp [layAll, waitOf], ?_, ?_, Nat.le_refl _, fun k x hk hx => Nat.lt_succ_of_le (hold k x hk hx), ?_, .inl ⟨_, hst, by omega, ?_⟩, ⟨by omega, by omega⟩, rfl, by simp [layAll], by omega, by simp⟩
  · have := Chain.cons hst (Nat.zero_le _) (.nil _ _)
    simpa using this
  · intro r hr
    obtain ⟨f, h1, h2, _⟩ := stand_some hr
    have := hold _ f (Nat.le_refl _) h1
    omega
  · intro x hx
    rcases mem_halves hl2 hx with h1 | h1
    · rcases hh with rfl | rfl
      · exact Nat.le_succ_of_le (hsame x h1)
      · exact hmine x h1
    · rcases hh with rfl | rfl
      · exact hmine x h1
      · exact Nat.le_succ_of_le (hsame x h1)
  · intro x hx
    rw [hhh] at hx
    exact Nat.lt_succ_of_le (hsame x hx)
/-- A new disk, and the log on it. -/
theorem inv_new (R : Nat) : Inv R (newDk (2 * R)) 0 1 0 0 0 0 [] [] := by
  have hz : ∀ x ∈ pcs (newDk (2 * R)).secs, x.e = 0 := fun x hx => by
    simp only [pcs, newDk, List.mem_map, List.mem_replicate] at hx
    obtain ⟨s, ⟨_, rfl⟩, rfl⟩ := hx
    rfl
  refine ⟨rfl, rfl, by simp [newDk], .inl rfl, by simp [newDk, layAll, waitOf], .nil _ _, ?_, by omega, fun k x _ hx => ?_, fun x hx => ?_, .inr ⟨rfl, rfl, fun x hx => hz x (mem_half hx)⟩, ⟨by omega, by omega⟩, rfl, by simp [layAll], by omega, by simp⟩
  · intro r hr
    obtain ⟨f, h1, h2, h3, h4, _⟩ := stand_some hr
    have := hz f (mem_half (List.mem_of_getElem? h1))
    omega
  · rw [hz x (mem_half (List.mem_of_getElem? hx))]; omega
  · rw [hz x hx]; omega
/-- What Open tells of a disk whose log is so. -/
theorem Inv.opens (i : Inv R D h E cnt en u e1 sure []) : forceP D.secs = h ∧ (toldP D.secs).map Rc.b = sure ∧ ((toldP D.secs).map Rc.n).sum = u ∧ (toldP D.secs).length = sure.length := by
  have hf : forceP D.secs = h := by
    rcases i.other with ⟨r, hr, _, ho⟩ | ⟨_, rfl, ho⟩
    · exact force_of i.half hr ho
    · unfold forceP
      rw [if_neg]
      rw [epoch0_zero ho]
      omega
  have hl := i.halfLen
  have hu := i.chain.room (Nat.zero_le _)
  have ht := chain_told i.chain i.ends (D.secs.length / 2 + 1) (by have := i.len; omega)
  have e : toldP D.secs = chainP (halfP D.secs h) (D.secs.length / 2 + 1) 0 0 := by unfold toldP; rw [hf]
  rw [e]
  refine ⟨hf, ht.1, by have := ht.2; omega, ?_⟩
  rw [← ht.1, List.length_map]
end
end Go.Proofs.Ytnganmekiloigaa
