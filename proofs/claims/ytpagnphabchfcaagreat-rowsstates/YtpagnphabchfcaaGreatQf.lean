/- The document's At. -/
import Derived.Test.YtpagnphabchfcaaGreatQe
namespace Go.Proofs.YtpagnphabchfcaaGreat
open Go.RowKit Go.Shelf
set_option maxRecDepth 100000
/-- Those at a point, without their spans. -/
def atL (p : Int) (l : List Rw) : List Rw := (l.filter (hasR p)).map fun r => (r.1, 0, 0)
theorem atL_take {l : List Rw} {k : Nat} {r : Rw} (p : Int) (h : l[k]? = some r) : atL p (l.take (k + 1)) = atL p (l.take k) ++ (if hasR p r = true then [(r.1, 0, 0)] else []) := by
  unfold atL
  rw [List.take_add_one, h, List.filter_append, List.map_append]
  cases hc : hasR p r <;> simp [hc]
theorem atL_len (p : Int) (l : List Rw) : (atL p l).length ≤ l.length := by
  unfold atL
  rw [List.length_map]
  exact List.length_filter_le _ _
theorem atL_vals {p : Int} {l : List Rw} {n : Nat} (h : ∀ r ∈ l, r.1.length ≤ n) : ∀ r ∈ atL p l, r.1.length ≤ n := fun r hr => by
  obtain ⟨q, hq, rfl⟩ := List.mem_map.1 hr
  exact h q (List.mem_filter.1 hq).1
theorem atL_span {p : Int} {l : List Rw} : ∀ r ∈ atL p l, r.2 = (0, 0) := fun r hr => by
  obtain ⟨q, hq, rfl⟩ := List.mem_map.1 hr
  rfl
/-- Values, but those that stand twice in a row. -/
def ddF (S : List Rw) : Nat → List (List Vt)
  | 0 => []
  | k + 1 => ddF S k ++ (match S[k]? with | none => [] | some r => if k = 0 ∨ S[k - 1]? ≠ some r then [r.1] else [])
theorem ddF_zero (S : List Rw) {r : Rw} (h : S[0]? = some r) : ddF S 1 = [r.1] := by simp [ddF, h]
theorem ddF_new {S : List Rw} {k : Nat} {r q : Rw} (h : S[k + 1]? = some r) (h' : S[k]? = some q) (hne : q ≠ r) : ddF S (k + 1 + 1) = ddF S (k + 1) ++ [r.1] := by
  conv => lhs; unfold ddF
  rw [h]
  simp [h', hne]
theorem ddF_old {S : List Rw} {k : Nat} {r : Rw} (h : S[k + 1]? = some r) (h' : S[k]? = some r) : ddF S (k + 1 + 1) = ddF S (k + 1) := by
  conv => lhs; unfold ddF
  rw [h]
  simp [h']
theorem cmpR_span {a b : Rw} (h : a.2 = b.2) (hne : a ≠ b) : cmpR a b = cmpL a.1 b.1 := by
  unfold cmpR lexP
  by_cases e : cmpL a.1 b.1 = 0
  · exact absurd (Prod.ext ((ordL.eq _ _).1 e) h) hne
  · rw [if_neg e]
theorem ddF_spec {S : List Rw} (h : Rise S) (hs : ∀ r ∈ S, r.2 = (0, 0)) : ∀ k, k ≤ S.length → StrictV (ddF S k) ∧ (∀ v, v ∈ ddF S k ↔ ∃ r ∈ S.take k, r.1 = v) ∧ ∀ q, S[k - 1]? = some q → 0 < k → ∀ v ∈ ddF S k, cmpL v q.1 ≠ 1
  | 0, _ => ⟨List.Pairwise.nil, fun v => by simp [ddF], fun q _ h => by omega⟩
  | 1, hk => by
    have h0 := List.getElem?_eq_getElem (l := S) (i := 0) (by omega)
    rw [ddF_zero S h0]
    refine ⟨List.pairwise_singleton _ _, fun v => ?_, fun q hq _ v hv => ?_⟩
    · rw [List.take_add_one, h0]
      simp [eq_comm]
    · simp only [Nat.sub_self] at hq
      rw [h0] at hq
      cases hq
      simp at hv
      rw [hv, cmpL_self]
      omega
  | k + 1 + 1, hk => by
    obtain ⟨i1, i2, i3⟩ := ddF_spec h hs (k + 1) (by omega)
    have h0 := List.getElem?_eq_getElem (l := S) (i := k + 1) (by omega)
    have h1 := List.getElem?_eq_getElem (l := S) (i := k) (by omega)
    obtain ⟨r, hr⟩ : ∃ r, r = S[k + 1] := ⟨_, rfl⟩
    obtain ⟨q, hq⟩ : ∃ q, q = S[k] := ⟨_, rfl⟩
    rw [← hr] at h0
    rw [← hq] at h1
    have i3' := i3 q (by rw [show k + 1 - 1 = k by omega]; exact h1) (by omega)
    have hm : ∀ v, (∃ z ∈ S.take (k + 1 + 1), z.1 = v) ↔ (∃ z ∈ S.take (k + 1), z.1 = v) ∨ r.1 = v := fun v => by
      rw [List.take_add_one, h0]
      simp only [List.mem_append, Option.toList_some, List.mem_singleton]
      constructor
      · rintro ⟨z, hz | rfl, e⟩
        · exact .inl ⟨z, hz, e⟩
        · exact .inr e
      · rintro (⟨z, hz, e⟩ | e)
        · exact ⟨z, .inl hz, e⟩
        · exact ⟨r, .inr rfl, e⟩
    by_cases e : q = r
    · subst e
      rw [ddF_old h0 h1]
      refine ⟨i1, fun v => ?_, fun z hz _ v hv => ?_⟩
      · rw [hm, i2]
        constructor
        · exact .inl
        · rintro (h | h)
          · exact h
          · exact ⟨q, List.mem_iff_getElem?.2 ⟨k, by rw [List.getElem?_take_of_lt (by omega)]; exact h1⟩, h⟩
      · rw [show k + 1 + 1 - 1 = k + 1 by omega, h0] at hz
        cases hz
        exact i3' v hv
    · rw [ddF_new h0 h1 e]
      have hqr : cmpL q.1 r.1 = -1 := by
        have p1 := List.pairwise_iff_getElem.1 h k (k + 1) (by omega) (by omega) (by omega)
        rw [← hr, ← hq] at p1
        have p2 : cmpR r q ≠ 0 := fun x => e ((ordR.eq _ _).1 x).symm
        have p3 := ordR.three r q
        have p4 := ordR.neg r q
        have p5 : cmpR q r = -1 := by omega
        rw [cmpR_span (by rw [hs r (List.mem_of_getElem? h0), hs q (List.mem_of_getElem? h1)]) e] at p5
        exact p5
      have hlt : ∀ v ∈ ddF S (k + 1), cmpL v r.1 = -1 := fun v hv => by
        have p := i3' v hv
        rcases ordL.three v q.1 with t | t | t
        · exact ordL.trans _ _ _ t hqr
        · rw [(ordL.eq _ _).1 t]; exact hqr
        · exact absurd t p
      refine ⟨?_, fun v => ?_, fun z hz _ v hv => ?_⟩
      · unfold StrictV
        rw [List.pairwise_append]
        exact ⟨i1, List.pairwise_singleton _ _, fun a ha b hb => by rw [List.mem_singleton.1 hb]; exact hlt a ha⟩
      · rw [List.mem_append, i2, hm, List.mem_singleton]
        constructor
        · rintro (h | h)
          · exact .inl h
          · exact .inr h.symm
        · rintro (h | h)
          · exact .inl h
          · exact .inr h.symm
      · rw [show k + 1 + 1 - 1 = k + 1 by omega, h0] at hz
        cases hz
        rcases List.mem_append.1 hv with hv | hv
        · have := hlt v hv; omega
        · rw [List.mem_singleton.1 hv, cmpL_self]; omega
theorem ddF_at (l : List Rw) (p : Int) : ddF (sortR (atL p l)) (sortR (atL p l)).length = atR l p := by
  obtain ⟨i1, i2, _⟩ := ddF_spec (sortR_rise (atL p l)) (fun r hr => atL_span r ((sortR_perm _).mem_iff.1 hr)) _ (Nat.le_refl _)
  refine strict_unique i1 (at_strict _ _) fun v => ?_
  rw [i2, at_mem, List.take_length]
  constructor
  · rintro ⟨r, hr, rfl⟩
    obtain ⟨q, hq, rfl⟩ := List.mem_map.1 ((sortR_perm _).mem_iff.1 hr)
    exact ⟨q, (List.mem_filter.1 hq).1, rfl, (List.mem_filter.1 hq).2⟩
  · rintro ⟨r, hr, rfl, hp⟩
    exact ⟨(r.1, 0, 0), (sortR_perm _).mem_iff.2 (List.mem_map.2 ⟨r, List.mem_filter.2 ⟨hr, hp⟩, rfl⟩), rfl⟩
theorem ddF_len (S : List Rw) : ∀ k, (ddF S k).length ≤ k
  | 0 => by simp [ddF]
  | k + 1 => by
    unfold ddF
    rw [List.length_append]
    have := ddF_len S k
    split
    · simp; omega
    · split <;> simp <;> omega
/-- Lists of values that were put together so far. -/
structure AV (w wr : World) (fo : Value) (vv : List (Value × List Vt)) (L : List (List Vt)) : Prop where
  own : wr.ownsRow w.heap.size 35 1 fo vv.length (vv.map (·.1))
  vals : ∀ x ∈ vv, SV wr (fun b => w.heap.size ≤ b) x.1 x.2
  eq : vv.map (·.2) = L
  b : Below w.heap.size w wr
theorem AV.nil (w : World) : AV w w (.slice none 0 0) [] [] := ⟨World.ownsRow_nil _ _ _ _, fun x hx => (by cases hx), rfl, Below.refl _ _⟩
theorem AV.below {w wr wr' : World} {fo : Value} {vv : List (Value × List Vt)} {L : List (List Vt)} (h : AV w wr fo vv L) (k : Below wr.heap.size wr wr') : AV w wr' fo vv L := ⟨owns_keep h.own (fun j hj => k.block j (World.ownsRow.lt h.own j hj).2), fun x hx => (h.vals x hx).below k, h.eq, bmore h.b k⟩
theorem info35 : (Tryz.prog.info? 35).map (fun i => (i.zero, i.size, i.bytes)) = some (some (.slice none 0 0), 1, 24) := by kernel_rfl
theorem AV.app {w w6 : World} {fo : Value} {vv : List (Value × List Vt)} {L : List (List Vt)} {pa : Option Addr} {vs : List Vt} {ca : Nat} (h : AV w w6 fo vv L) (hn : L.length ≤ 100000) (hsv : SV w6 (fun b => w.heap.size ≤ b) (.slice pa vs.length ca) vs) (g : Nat) (hg : w6.heap.size = g) :
    ∃ v7 w7, (Builtin.append_ #[42, 42] 42 #[fo, .slice (some ⟨g, 0, none⟩) 1 1]).run Tryz.prog (w6.alloc (.cells #[.slice pa vs.length ca] 35)) = .ok v7 w7 ∧ Hid (∃ vv', AV w w7 v7 vv' (L ++ [vs])) := by
  subst hg
  obtain ⟨i0, hi, hz0, hz1, hz2⟩ := info_parts' info35
  have hal := al w6 (.cells #[.slice pa vs.length ca] 35)
  have nb := blk_new w6 [.slice pa vs.length ca] 35
  change Blk (w6.alloc (.cells #[.slice pa vs.length ca] 35)) _ _ _ at nb
  have hlen : vv.length = L.length := by have := congrArg List.length h.eq; simpa using this
  have hB := (bmore h.b hal).size
  have h6 := h.below hal
  obtain ⟨v7, w7, hr, r1, r2, r3, r4⟩ := run_append_own_at (P := Tryz.prog) _ w.heap.size 42 42 35 i0 (.slice none 0 0) 1 24 Tryz.underlying42 hi hz0 hz1 hz2 rfl (by decide) fo vv.length (vv.map (·.1)) h6.own ⟨w6.heap.size, 0, none⟩ 1 1 [.slice pa vs.length ca] rfl (fun j x hx => by rw [Addr.add_mid, Nat.zero_add]; exact (nb.cell j).trans hx) (by intro u hu; simp at hu; subst hu; rfl) (by unfold maxLen; omega) (by omega) hB
  have hk : Keep (fun b => w.heap.size ≤ b) (w6.alloc (.cells #[.slice pa vs.length ca] 35)) w7 := (keep_of_grown r2).mono (fun b _ q => (World.ownsRow.lt h6.own b q).1)
  refine ⟨v7, w7, hr, vv ++ [(.slice pa vs.length ca, vs)], ?_, fun x hx => ?_, ?_, ?_⟩
  · simpa using r1
  · have hs : SV (w6.alloc (.cells #[.slice pa vs.length ca] 35)) (fun b => w.heap.size ≤ b) x.1 x.2 := by
      rcases List.mem_append.1 hx with hx | hx
      · exact h6.vals x hx
      · rw [List.mem_singleton.1 hx]; exact SV.below hsv hal
    exact hs.keep hk (fun _ _ h => h)
  · rw [List.map_append, h.eq]; rfl
  · exact (bmore h.b hal).trans (hk.below hB (fun i hi h => by omega))
end Go.Proofs.YtpagnphabchfcaaGreat
