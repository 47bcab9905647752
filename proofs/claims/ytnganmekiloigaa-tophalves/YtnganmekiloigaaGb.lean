/- Records as sectors; what is there behind a crash. -/
import Derived.Test.YtnganmekiloigaaGa
namespace Go.Proofs.Ytnganmekiloigaa
/-- How many pieces a record has; its part i; a sector. -/
def np (b : Bs) : Nat := (b.length + 56) / 57
def partOf (b : Bs) (i : Nat) : Bs := (b.drop (57 * i)).take 57
def pad57 (b : Bs) : Bs := b ++ List.replicate (57 - b.length) 0
def secOf (e p k n : Nat) (part : Bs) : Bs := [UInt8.ofNat (e / 256), UInt8.ofNat e, UInt8.ofNat (p / 256), UInt8.ofNat p, UInt8.ofNat k, UInt8.ofNat n, UInt8.ofNat part.length] ++ pad57 part
theorem part_length (b : Bs) (i : Nat) : (partOf b i).length = min 57 (b.length - 57 * i) := by simp [partOf]
theorem pad57_length {b : Bs} (h : b.length ≤ 57) : (pad57 b).length = 57 := by simp [pad57]; omega
theorem sec_length {e p k n : Nat} {b : Bs} (h : b.length ≤ 57) : (secOf e p k n b).length = 64 := by simp [secOf, pad57_length h]
theorem pc_sec {e p k n : Nat} {b : Bs} (he : e < 65536) (hp : p < 65536) (hk : k < 256) (hn : n < 256) (hb : b.length ≤ 57) : pcOf (secOf e p k n b) = ⟨e, p, k, n, b.length, pad57 b⟩ := by
  simp only [pcOf, u8, secOf, List.cons_append, List.nil_append, List.getD_cons_zero, List.getD_cons_succ, UInt8.toNat_ofNat', List.drop_succ_cons, List.drop_zero]
  congr 1 <;> omega
def layP (e p : Nat) (b : Bs) : List Bs := (List.range (np b)).map fun i => secOf e (p + i) i (np b) (partOf b i)
theorem lay_length (e p : Nat) (b : Bs) : (layP e p b).length = np b := by simp [layP]
theorem lay_get {e p i : Nat} {b : Bs} (hi : i < np b) : (layP e p b)[i]? = some (secOf e (p + i) i (np b) (partOf b i)) := by simp [layP, hi]
def layAll (e : Nat) : Nat → List Bs → List Bs
  | _, [] => []
  | u, b :: r => layP e u b ++ layAll e (u + np b) r
theorem layAll_append (e : Nat) : ∀ (u : Nat) (l m : List Bs), layAll e u (l ++ m) = layAll e u l ++ layAll e (u + (layAll e u l).length) m
  | u, [], m => by simp [layAll]
  | u, b :: l, m => by
    rw [List.cons_append, layAll, layAll_append e (u + np b) l m, layAll, List.append_assoc, List.length_append, lay_length]
    congr 3; omega
theorem parts_take (b : Bs) : ∀ m, (List.range m).flatMap (partOf b) = b.take (57 * m)
  | 0 => by simp
  | m + 1 => by
    rw [List.range_succ, List.flatMap_append, parts_take b m, List.flatMap_singleton, partOf, Nat.mul_succ, List.take_add]
theorem parts_all (b : Bs) : (List.range (np b)).flatMap (partOf b) = b := by
  rw [parts_take, List.take_of_length_le]
  unfold np; omega

theorem stand_lay {H : List Pc} {e u : Nat} {b : Bs} (he0 : 0 < e) (he : e < 65536) (hb0 : 1 ≤ b.length) (hb : b.length ≤ 3648) (hu : u + np b ≤ H.length) (hH : H.length ≤ 60000) (hat : ∀ i, i < np b → H[u + i]? = ((layP e u b)[i]?).map pcOf) : standP H u = some ⟨e, np b, b⟩ := by
  have hn : 1 ≤ np b ∧ np b ≤ 64 := by unfold np; omega
  have hx : ∀ i, i < np b → H[u + i]? = some ⟨e, u + i, i, np b, (partOf b i).length, pad57 (partOf b i)⟩ := fun i hi => by
    rw [hat i hi, lay_get hi, Option.map_some, pc_sec he (by omega) (by omega) (by omega) (by rw [part_length]; omega)]
  have h0 := hx 0 (by omega)
  rw [Nat.add_zero] at h0
  rw [stand_of h0 he0 hn.1 hn.2 hu ?_]
  · simp only
    congr 2
    refine Eq.trans (flatMap_congr' (g := partOf b) fun i hi => ?_) (parts_all b)
    unfold bytesAt
    rw [hx i (List.mem_range.1 hi)]
    simp [pad57]
  · intro i hi
    simp only at hi
    unfold due
    rw [hx i hi]
    simp only [beq_self_eq_true, Bool.true_and]
    have hp := part_length b i
    split
    · rename_i hi2
      rw [beq_iff_eq, hp]
      unfold np at hi2
      omega
    · rw [decide_eq_true_iff, hp]
      omega

theorem lay_epoch {e u : Nat} (he : e < 65536) {b x : Bs} (h : x ∈ layP e u b) : (pcOf x).e = e := by
  simp only [layP, List.mem_map, List.mem_range] at h
  obtain ⟨i, hi, rfl⟩ := h
  simp only [pcOf, u8, secOf, List.cons_append, List.nil_append, List.getD_cons_zero, List.getD_cons_succ, UInt8.toNat_ofNat']
  omega
theorem layAll_epoch {e : Nat} (he : e < 65536) : ∀ {u : Nat} {l : List Bs} {x : Bs}, x ∈ layAll e u l → (pcOf x).e = e
  | _, [], _, h => by simp [layAll] at h
  | u, b :: r, x, h => by
    rcases List.mem_append.1 h with h | h
    · exact lay_epoch he h
    · exact layAll_epoch he h

/-- What is in force behind a crash: where a Write stayed that one, else what was. -/
def Mixed (H H' : List Pc) (u : Nat) (X : List Bs) (keep : Nat → Bool) : Prop := ∀ i, H'[u + i]? = if i < X.length ∧ keep i = true then (X[i]?).map pcOf else H[u + i]?
theorem Mixed.next {H H' : List Pc} {u e : Nat} {b : Bs} {r : List Bs} {keep : Nat → Bool} (h : Mixed H H' u (layAll e u (b :: r)) keep) : Mixed H H' (u + np b) (layAll e (u + np b) r) fun i => keep (np b + i) := fun i => by
  have := h (np b + i)
  rw [← Nat.add_assoc] at this
  rw [this, layAll, List.length_append, lay_length, List.getElem?_append_right (by rw [lay_length]; omega), lay_length, Nat.add_sub_cancel_left]
  by_cases hc : i < (layAll e (u + np b) r).length
  · simp only [hc, true_and, show np b + i < np b + (layAll e (u + np b) r).length by omega]
  · simp only [hc, false_and, show ¬ np b + i < np b + (layAll e (u + np b) r).length by omega]
theorem Mixed.first {H H' : List Pc} {u e i : Nat} {b : Bs} {r : List Bs} {keep : Nat → Bool} (h : Mixed H H' u (layAll e u (b :: r)) keep) (hi : i < np b) : H'[u + i]? = if keep i = true then ((layP e u b)[i]?).map pcOf else H[u + i]? := by
  rw [h i, layAll, List.length_append, lay_length, List.getElem?_append_left (by rw [lay_length]; omega)]
  simp only [show i < np b + (layAll e (u + np b) r).length by omega, true_and]
theorem not_whole {H H' : List Pc} {u E i0 : Nat} {b : Bs} {l : List Bs} {keep : Nat → Bool} {r : Rc} (hE : E < 65536) (hb0 : 1 ≤ b.length) (hb : b.length ≤ 3648) (hu : u + np b ≤ 60000) (hm : Mixed H H' u (layAll E u (b :: l)) keep) (hold : ∀ i x, u ≤ i → H[i]? = some x → x.e < E) (hi0 : i0 < np b) (hk : keep i0 = false) (hs : standP H' u = some r) : keep 0 = false ∧ r.e < E := by
  have hn : 1 ≤ np b ∧ np b ≤ 64 := by unfold np; omega
  obtain ⟨f, h1, h2, h3, h4, h5, h6, h7, h8, h9⟩ := stand_some hs
  have q0 := hm.first (i := 0) (by omega)
  rw [Nat.add_zero, h1] at q0
  by_cases k0 : keep 0 = true
  · exfalso
    rw [if_pos k0, lay_get (by omega), Option.map_some, pc_sec hE (by omega) (by omega) (by omega) (by rw [part_length]; omega)] at q0
    obtain rfl := Option.some.inj q0
    simp only at h2 h3
    obtain ⟨x, hx, hxe, _⟩ := due_get (h8 i0 (by omega))
    rw [hm.first hi0, hk] at hx
    have := hold (u + i0) x (Nat.le_add_right _ _) (by simpa using hx)
    simp only at hxe
    omega
  · rw [if_neg k0] at q0
    have := hold u f (Nat.le_refl _) q0.symm
    exact ⟨by simpa using k0, by omega⟩
theorem phaseE {H H' : List Pc} {E : Nat} (hE0 : 0 < E) (hE : E < 65536) (hl : H'.length = H.length) (hH : H.length ≤ 60000) : ∀ (more : List Bs) (u : Nat) (keep : Nat → Bool), Mixed H H' u (layAll E u more) keep → (∀ i x, u ≤ i → H[i]? = some x → x.e < E) → u + (layAll E u more).length ≤ H.length → (∀ b ∈ more, 1 ≤ b.length ∧ b.length ≤ 3648) →
    ∃ j u', j ≤ more.length ∧ Chain H' u E (more.take j) u' E ∧ Ends H' u' E ∧ ((∀ i, keep i = true) → j = more.length ∧ u' = u + (layAll E u more).length)
  | [], u, keep, hm, hold, hu, hb => by
    refine ⟨0, u, Nat.le_refl _, .nil _ _, fun r hr => ?_, fun _ => ⟨rfl, by simp [layAll]⟩⟩
    obtain ⟨f, h1, h2, _⟩ := stand_some hr
    have := hm 0
    simp only [layAll, List.length_nil, Nat.lt_irrefl, false_and, if_false, Nat.add_zero] at this
    have := hold u f (Nat.le_refl _) (this.symm.trans h1)
    omega
  | b :: r, u, keep, hm, hold, hu, hb => by
    have hb1 := hb b (by simp)
    have hu' := hu
    rw [layAll, List.length_append, lay_length] at hu
    by_cases ha : ∀ i, i < np b → keep i = true
    · have hs : standP H' u = some ⟨E, np b, b⟩ := stand_lay hE0 hE hb1.1 hb1.2 (by omega) (by omega) fun i hi => by rw [hm.first hi, if_pos (ha i hi)]
      obtain ⟨j, u', hj, hc, he, hall⟩ := phaseE hE0 hE hl hH r (u + np b) _ hm.next (fun i x hi => hold i x (by omega)) (by omega) fun c hc => hb c (by simp [hc])
      refine ⟨j + 1, u', by simp; omega, .cons hs (Nat.le_refl _) hc, he, fun h => ?_⟩
      obtain ⟨h1, h2⟩ := hall fun i => h _
      rw [layAll, List.length_append, lay_length, h1, h2]
      exact ⟨rfl, by omega⟩
    · have ⟨i0, hi0⟩ : ∃ i, ¬ (i < np b → keep i = true) := Classical.not_forall.1 ha
      have hi1 : i0 < np b ∧ keep i0 = false := by
        by_cases h1 : i0 < np b
        · exact ⟨h1, by simpa [h1] using hi0⟩
        · exact absurd (fun h => absurd h h1) hi0
      refine ⟨0, u, Nat.zero_le _, .nil _ _, fun r' hr => (not_whole hE hb1.1 hb1.2 (by omega) hm hold hi1.1 hi1.2 hr).2, fun h => ?_⟩
      rw [h i0] at hi1
      cases hi1.2
/-- Behind a crash: what was sure, and a beginning of what was behind it. -/
theorem phase0 {H H' : List Pc} {E e1 : Nat} (hE0 : 0 < E) (hE : E < 65536) (hl : H'.length = H.length) (hH : H.length ≤ 60000) (he1 : e1 ≤ E) (more : List Bs) (u : Nat) (keep : Nat → Bool) (hm : Mixed H H' u (layAll E u more) keep) (hold : ∀ i x, u ≤ i → H[i]? = some x → x.e < E) (hu : u + (layAll E u more).length ≤ H.length) (hb : ∀ b ∈ more, 1 ≤ b.length ∧ b.length ≤ 3648) (hends : Ends H u e1) :
    ∃ j u' e', j ≤ more.length ∧ Chain H' u e1 (more.take j) u' e' ∧ Ends H' u' e' ∧ e' ≤ E ∧ ((∀ i, keep i = true) → j = more.length ∧ u' = u + (layAll E u more).length) := by
  match more, hm, hu, hb with
  | [], hm, hu, hb =>
    refine ⟨0, u, e1, Nat.le_refl _, .nil _ _, fun r hr => ?_, he1, fun _ => ⟨rfl, by simp [layAll]⟩⟩
    refine hends r (stand_congr hr hl.symm fun i _ => ?_)
    have := hm i
    simp only [layAll, List.length_nil, Nat.not_lt_zero, false_and, if_false] at this
    exact this.symm
  | b :: r, hm, hu, hb =>
    have hb1 := hb b (by simp)
    have hu' := hu
    rw [layAll, List.length_append, lay_length] at hu
    by_cases ha : ∀ i, i < np b → keep i = true
    · have hs : standP H' u = some ⟨E, np b, b⟩ := stand_lay hE0 hE hb1.1 hb1.2 (by omega) (by omega) fun i hi => by rw [hm.first hi, if_pos (ha i hi)]
      obtain ⟨j, u', hj, hc, he, hall⟩ := phaseE hE0 hE hl hH r (u + np b) _ hm.next (fun i x hi => hold i x (by omega)) (by omega) fun c hc => hb c (by simp [hc])
      refine ⟨j + 1, u', E, by simp; omega, .cons hs he1 hc, he, Nat.le_refl _, fun h => ?_⟩
      obtain ⟨h1, h2⟩ := hall fun i => h _
      rw [layAll, List.length_append, lay_length, h1, h2]
      exact ⟨rfl, by omega⟩
    · have ⟨i0, hi0⟩ : ∃ i, ¬ (i < np b → keep i = true) := Classical.not_forall.1 ha
      have hi1 : i0 < np b ∧ keep i0 = false := by
        by_cases h1 : i0 < np b
        · exact ⟨h1, by simpa [h1] using hi0⟩
        · exact absurd (fun h => absurd h h1) hi0
      refine ⟨0, u, e1, Nat.zero_le _, .nil _ _, fun r' hr => ?_, he1, fun h => ?_⟩
      · obtain ⟨k0, hlt⟩ := not_whole hE hb1.1 hb1.2 (by omega) hm hold hi1.1 hi1.2 hr
        refine hends r' (stand_congr hr hl.symm fun i hi => ?_)
        obtain ⟨f, h1, h2, h3, h4, h5, h6, h7, h8, h9⟩ := stand_some hr
        obtain ⟨x, hx, hxe, _⟩ := due_get (h8 i hi)
        have q := hm i
        by_cases hc : i < (layAll E u (b :: r)).length ∧ keep i = true
        · rw [if_pos hc, hx, List.getElem?_eq_getElem hc.1] at q
          have := layAll_epoch hE (List.getElem_mem hc.1)
          rw [Option.map_some] at q
          rw [← Option.some.inj q] at this
          omega
        · rw [if_neg hc] at q
          exact q.symm
      · rw [h i0] at hi1
        cases hi1.2
end Go.Proofs.Ytnganmekiloigaa
