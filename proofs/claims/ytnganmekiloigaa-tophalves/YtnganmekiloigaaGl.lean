/- A log goes from state to state: append, flush, switch, crash. -/
import Derived.Test.YtnganmekiloigaaGk
namespace Go.Proofs.Ytnganmekiloigaa
section
variable {R h E cnt en u e1 : Nat} {D : Dk} {sure more : List Bs}
theorem Inv.halfLen (i : Inv R D h E cnt en u e1 sure more) : (halfP D.secs h).length = R ∧ (halfP D.secs (1 - h)).length = R := by
  have := i.len
  have := i.half
  exact ⟨by rw [halfP_length (by omega)]; omega, by rw [halfP_length (by omega)]; omega⟩
theorem mem_half {S : List Bs} {k : Nat} {x : Pc} (h : x ∈ halfP S k) : x ∈ pcs S := List.mem_of_mem_drop (List.mem_of_mem_take h)
theorem mem_halves {S : List Bs} {R : Nat} (hS : S.length = 2 * R) {x : Pc} (hx : x ∈ pcs S) : x ∈ halfP S 0 ∨ x ∈ halfP S 1 := by
  have hr : 2 * R / 2 = R := by omega
  have e0 : halfP S 0 = (pcs S).take R := by simp [halfP, hS]
  have e1 : halfP S 1 = (pcs S).drop R := by
    unfold halfP
    rw [hS, hr, Nat.one_mul, List.take_of_length_le (by simp [pcs, hS]; omega)]
  rw [e0, e1]
  rw [← List.take_append_drop R (pcs S)] at hx
  exact List.mem_append.1 hx
/-- What is on the disk behind a crash, or a flush. -/
theorem Inv.landed (i : Inv R D h E cnt en u e1 sure more) (hR : R ≤ 60000) (keep : Nat → Bool) :
    ∃ j u' e', j ≤ more.length ∧ Chain (halfP (land keep 0 D.wait D.secs) h) 0 0 (sure ++ more.take j) u' e' ∧ Ends (halfP (land keep 0 D.wait D.secs) h) u' e' ∧ e' ≤ E ∧ u ≤ u' ∧ ((∀ k, keep k = true) → j = more.length ∧ u' = en) ∧
      (land keep 0 D.wait D.secs).length = 2 * R ∧ (∀ x ∈ pcs (land keep 0 D.wait D.secs), x.e ≤ E) ∧ halfP (land keep 0 D.wait D.secs) (1 - h) = halfP D.secs (1 - h) ∧
      ((∃ r, standP (halfP (land keep 0 D.wait D.secs) h) 0 = some r ∧ 0 < u' ∧ ∀ x ∈ halfP (land keep 0 D.wait D.secs) (1 - h), x.e < r.e) ∨ (sure ++ more.take j = [] ∧ h = 0 ∧ ∀ x ∈ halfP (land keep 0 D.wait D.secs) 1, x.e = 0)) ∧ forceP (land keep 0 D.wait D.secs) = h := by
  have hu : u + (layAll E u more).length ≤ R := by have := i.en'; have := i.room; omega
  obtain ⟨m1, m2, m3, m4⟩ := half_mixed (keep := keep) i.len i.half hu
  rw [← i.wait] at m1 m2 m3 m4
  have hl := i.halfLen
  obtain ⟨j, u', e', hj, hc, he, hle, hall⟩ := phase0 i.ep.1 (by have := i.ep.2; omega) m1 (by omega) i.e1 more u keep m3 i.old (by omega) i.recs i.ends
  have hch := (i.chain.congr m1 m2).append hc
  have hlen : (land keep 0 D.wait D.secs).length = 2 * R := by rw [land_length, i.len]
  have hin : ∀ x ∈ halfP (land keep 0 D.wait D.secs) h, x.e ≤ E := fun x hx => by
    obtain ⟨k, hk, rfl⟩ := List.mem_iff_getElem.1 hx
    by_cases hku : k < u
    · have := m2 k hku
      rw [List.getElem?_eq_getElem hk] at this
      exact i.all _ (mem_half (List.mem_of_getElem? this.symm))
    · obtain ⟨q, rfl⟩ : ∃ q, k = u + q := ⟨k - u, by omega⟩
      have := m3 q
      rw [List.getElem?_eq_getElem hk] at this
      split at this
      · rename_i hq
        rw [List.getElem?_eq_getElem hq.1, Option.map_some] at this
        rw [Option.some.inj this, layAll_epoch (by have := i.ep.2; omega) (List.getElem_mem hq.1)]
        exact Nat.le_refl _
      · exact i.all _ (mem_half (List.mem_of_getElem? this.symm))
  have hpall : ∀ x ∈ pcs (land keep 0 D.wait D.secs), x.e ≤ E := fun x hx => by
    have hother : ∀ y ∈ halfP (land keep 0 D.wait D.secs) (1 - h), y.e ≤ E := fun y hy => by rw [m4] at hy; exact i.all y (mem_half hy)
    rcases mem_halves hlen hx with h1 | h1
    · rcases i.half with rfl | rfl
      · exact hin x h1
      · exact hother x h1
    · rcases i.half with rfl | rfl
      · exact hother x h1
      · exact hin x h1
  have hoth : (∃ r, standP (halfP (land keep 0 D.wait D.secs) h) 0 = some r ∧ 0 < u' ∧ ∀ x ∈ halfP (land keep 0 D.wait D.secs) (1 - h), x.e < r.e) ∨ (sure ++ more.take j = [] ∧ h = 0 ∧ ∀ x ∈ halfP (land keep 0 D.wait D.secs) 1, x.e = 0) := by
    rcases i.other with ⟨r, hr, h0, ho⟩ | ⟨rfl, rfl, ho⟩
    · refine .inl ⟨r, ?_, by have := hc.le.1; omega, by rw [m4]; exact ho⟩
      have hch0 := i.chain
      cases hsu : sure with
      | nil => rw [hsu] at hch0; cases hch0; omega
      | cons b l =>
        rw [hsu] at hch0
        cases hch0 with
        | cons hs he' hr' =>
          rw [hr] at hs
          cases hs
          have := hr'.le
          exact stand_congr hr m1 fun k hk => m2 _ (by omega)
    · cases hsm : more.take j with
      | nil => exact .inr ⟨by simp, rfl, by rw [show (1 : Nat) = 1 - 0 from rfl, m4]; exact ho⟩
      | cons b l =>
        have hu0 : u = 0 := by have hch0 := i.chain; cases hch0; rfl
        subst hu0
        rw [hsm] at hc
        cases hc with
        | @cons _ _ _ _ r _ hs he' hr' =>
          have := hr'.le
          obtain ⟨f, _, _, _, h4, h5, _⟩ := stand_some hs
          refine .inl ⟨r, hs, by omega, fun x hx => ?_⟩
          rw [m4] at hx
          have := ho x hx
          omega
  refine ⟨j, u', e', hj, hch, he, hle, hc.le.1, fun ha => ?_, hlen, hpall, m4, hoth, ?_⟩
  · obtain ⟨h1, h2⟩ := hall ha
    exact ⟨h1, by rw [h2, i.en']⟩
  · rcases hoth with ⟨r, hr, _, ho⟩ | ⟨hnil, rfl, ho⟩
    · exact force_of i.half hr ho
    · unfold forceP
      rw [if_neg]
      rw [epoch0_zero ho]
      omega
/-- Flush: all is sure. -/
theorem Inv.flush (i : Inv R D h E cnt en u e1 sure more) (hR : R ≤ 60000) : D.flush.1 = 0 ∧ ∃ e', Inv R D.flush.2 h E cnt en en e' (sure ++ more) [] := by
  have hsp : D.spend = (true, D) := by unfold Dk.spend; rw [if_neg (by rw [i.cut]; simp)]
  have hf : D.flush = (0, { D with secs := land (fun _ => true) 0 D.wait D.secs, wait := [] }) := by
    unfold Dk.flush
    rw [if_neg (by rw [i.off]; simp), hsp]
    simp
  obtain ⟨j, u', e', hj, hch, he, hle, huu, hall, hlen, hp, m4, hoth, _⟩ := i.landed hR (fun _ => true)
  obtain ⟨rfl, rfl⟩ := hall fun _ => rfl
  rw [List.take_length] at hch hoth
  rw [hf]
  refine ⟨rfl, e', i.cut, i.off, hlen, i.half, by simp [layAll, waitOf], hch, he, hle, ?_, hp, hoth, i.ep, by simp [i.cnt'], by simp [layAll], i.room, by simp⟩
  intro k x hk hx
  have hu : u + (layAll E u more).length ≤ R := by have := i.en'; have := i.room; omega
  obtain ⟨m1, m2, m3, _⟩ := half_mixed (keep := fun _ => true) i.len i.half hu
  rw [← i.wait] at m1 m2 m3
  obtain ⟨q, rfl⟩ : ∃ q, k = u + q := ⟨k - u, by have := i.en'; omega⟩
  rw [m3 q, if_neg (by have := i.en'; omega)] at hx
  exact i.old _ x (by omega) hx
/-- Append: one more behind. -/
theorem Inv.append (i : Inv R D h E cnt en u e1 sure more) {b : Bs} (hb : 1 ≤ b.length ∧ b.length ≤ 3648) (hn : en + np b ≤ R) {D' : Dk} (hD : D' = { D with wait := D.wait ++ waitOf (h * R + en) (layP E en b) }) :
    Inv R D' h E (cnt + 1) (en + np b) u e1 sure (more ++ [b]) := by
  subst hD
  have e1' : layAll E u (more ++ [b]) = layAll E u more ++ layP E en b := by rw [layAll_append, ← i.en']; simp [layAll]
  refine ⟨i.cut, i.off, i.len, i.half, ?_, i.chain, i.ends, i.e1, i.old, i.all, i.other, i.ep, by simp [i.cnt']; omega, by rw [e1', List.length_append, lay_length, i.en']; omega, hn, ?_⟩
  · show D.wait ++ _ = _
    rw [e1', waitOf_append, i.wait, i.en', Nat.add_assoc]
  · intro c hc
    rcases List.mem_append.1 hc with hc | hc
    · exact i.recs c hc
    · simp at hc; subst hc; exact hb
/-- Crash, and Open: what was sure, and a beginning of what was behind it. -/
theorem Inv.crash (i : Inv R D h E cnt en u e1 sure more) (hR : R ≤ 60000) (hE : E < 64990) (keep : List Bool) :
    ∃ j u' e', j ≤ more.length ∧ Chain (halfP (D.crash keep).secs h) 0 0 (sure ++ more.take j) u' e' ∧ Ends (halfP (D.crash keep).secs h) u' e' ∧ forceP (D.crash keep).secs = h ∧ great (pcs (D.crash keep).secs) ≤ E ∧
      Inv R (D.crash keep) h (great (pcs (D.crash keep).secs) + 1) (sure ++ more.take j).length u' u' e' (sure ++ more.take j) [] ∧ (D.crash keep).wait = [] := by
  obtain ⟨j, u', e', hj, hch, he, hle, huu, hall, hlen, hp, m4, hoth, hf⟩ := i.landed hR (fun k => keep.getD k false)
  have hg : great (pcs (D.crash keep).secs) ≤ E := great_bound _ 0 E (Nat.zero_le _) hp
  have hgm : ∀ x ∈ pcs (D.crash keep).secs, x.e ≤ great (pcs (D.crash keep).secs) := (great_le _ 0).2
  refine ⟨j, u', e', hj, hch, he, hf, hg, ⟨rfl, rfl, hlen, i.half, by simp [layAll, waitOf, Dk.crash], hch, he, ?_, fun k x _ hx => Nat.lt_succ_of_le (hgm x (mem_half (List.mem_of_getElem? hx))), fun x hx => Nat.le_succ_of_le (hgm x hx), hoth, ⟨by omega, by omega⟩, by simp, by simp [layAll], ?_, by simp⟩, rfl⟩
  · have hl : (halfP (D.crash keep).secs h).length = R := by rw [halfP_length (by have := i.half; omega)]; show (land _ 0 D.wait D.secs).length / 2 = R; rw [hlen]; omega
    have : e' ≤ great (pcs (D.crash keep).secs) := by
      clear hf hoth hall
      have key : ∀ {p e l u e'}, Chain (halfP (D.crash keep).secs h) p e l u e' → e ≤ great (pcs (D.crash keep).secs) → e' ≤ great (pcs (D.crash keep).secs) := by
        intro p e l u e' hc
        induction hc with
        | nil => exact id
        | cons hs he' hr ih =>
          intro _
          obtain ⟨f, h1, h2, _⟩ := stand_some hs
          have := hgm f (mem_half (List.mem_of_getElem? h1))
          exact ih (by omega)
      exact key hch (Nat.zero_le _)
    omega
  · have hl : (halfP (D.crash keep).secs h).length = R := by rw [halfP_length (by have := i.half; omega)]; show (land _ 0 D.wait D.secs).length / 2 = R; rw [hlen]; omega
    exact Nat.le_trans (hch.room (Nat.zero_le _)) (Nat.le_of_eq hl)
theorem land_append (keep : Nat → Bool) : ∀ (a b : List (Nat × Bs)) (k : Nat) (s : List Bs), land keep k (a ++ b) s = land keep (k + a.length) b (land keep k a s)
  | [], b, k, s => rfl
  | x :: a, b, k, s => by
    rw [List.cons_append, land, land_append keep a b (k + 1), land, List.length_cons, show k + 1 + a.length = k + (a.length + 1) by omega]
theorem land_true : ∀ (a : List (Nat × Bs)) (k m : Nat) (s : List Bs), land (fun _ => true) k a s = land (fun _ => true) m a s
  | [], _, _, _ => rfl
  | x :: a, k, m, s => by rw [land, land, land_true a (k + 1) (m + 1)]
/-- Switch: its record alone, in the other half. -/
theorem Inv.switch (i : Inv R D h E cnt en u e1 sure more) (hR : R ≤ 60000) (hE : E < 64990) {b : Bs} (hb : 1 ≤ b.length ∧ b.length ≤ 3648) (hn : np b ≤ R) {D' : Dk} (hD : D' = { D with wait := D.wait ++ waitOf ((1 - h) * R) (layP (E + 1) 0 b) }) :
    D'.flush.1 = 0 ∧ Inv R D'.flush.2 (1 - h) (E + 1) 1 (np b) (np b) (E + 1) [b] [] := by
  subst hD
  have hh := i.half
  have hf : Dk.flush { D with wait := D.wait ++ waitOf ((1 - h) * R) (layP (E + 1) 0 b) } = (0, { D with secs := land (fun _ => true) 0 (D.wait ++ waitOf ((1 - h) * R) (layP (E + 1) 0 b)) D.secs, wait := [] }) := by
    unfold Dk.flush Dk.spend
    simp [i.off, i.cut]
  obtain ⟨j, u', e', hj, hch, he, hle, huu, hall, hlen, hp, m4, hoth, _⟩ := i.landed hR (fun _ => true)
  have hS2 : land (fun _ => true) 0 (D.wait ++ waitOf ((1 - h) * R) (layP (E + 1) 0 b)) D.secs = land (fun _ => true) 0 (waitOf ((1 - h) * R + 0) (layP (E + 1) 0 b)) (land (fun _ => true) 0 D.wait D.secs) := by
    rw [land_append, Nat.add_zero]
    exact land_true _ _ _ _
  obtain ⟨n1, n2, n3, n4⟩ := half_mixed (u := 0) (X := layP (E + 1) 0 b) (h := 1 - h) (keep := fun _ => true) hlen (by omega) (by rw [lay_length]; omega)
  rw [← hS2] at n1 n2 n3 n4
  have hhh : 1 - (1 - h) = h := by omega
  rw [hhh] at n4
  rw [hf]
  have hl2 : (land (fun _ => true) 0 (D.wait ++ waitOf ((1 - h) * R) (layP (E + 1) 0 b)) D.secs).length = 2 * R := by rw [land_length, i.len]
  generalize land (fun _ => true) 0 (D.wait ++ waitOf ((1 - h) * R) (layP (E + 1) 0 b)) D.secs = S2 at *
  have hHl : (halfP S2 (1 - h)).length = R := by rw [halfP_length (by omega), hl2]; omega
  have hnp : 1 ≤ np b ∧ np b ≤ 64 := by unfold np; omega
  have hE2 := i.ep.2
  have hst : standP (halfP S2 (1 - h)) 0 = some ⟨E + 1, np b, b⟩ := stand_lay (by omega) (by omega) hb.1 hb.2 (by rw [hHl]; omega) (by rw [hHl]; omega) fun k hk => by
    rw [n3 k, if_pos ⟨by rw [lay_length]; exact hk, rfl⟩]
  have hold : ∀ (k : Nat) (x : Pc), np b ≤ k → (halfP S2 (1 - h))[k]? = some x → x.e ≤ E := fun k x hk hx => by
    have := n3 k
    rw [Nat.zero_add] at this
    rw [this, if_neg (by rw [lay_length]; omega)] at hx
    exact hp x (mem_half (List.mem_of_getElem? hx))
  have hsame : ∀ x ∈ halfP S2 h, x.e ≤ E := fun x hx => by rw [n4] at hx; exact hp x (mem_half hx)
  have hmine : ∀ x ∈ halfP S2 (1 - h), x.e ≤ E + 1 := fun x hx => by
    obtain ⟨k, hk, rfl⟩ := List.mem_iff_getElem.1 hx
    by_cases hkn : k < np b
    · have := n3 k
      rw [Nat.zero_add, List.getElem?_eq_getElem hk, if_pos ⟨by rw [lay_length]; exact hkn, rfl⟩, List.getElem?_eq_getElem (by rw [lay_length]; exact hkn), Option.map_some] at this
      rw [Option.some.inj this, lay_epoch (by omega) (List.getElem_mem _)]
      exact Nat.le_refl _
    · have := hold k _ (by omega) (List.getElem?_eq_getElem hk)
      omega
  refine ⟨rfl, i.cut, i.off, hl2, by omega, by simp [layAll, waitOf], ?_, ?_, Nat.le_refl _, fun k x hk hx => Nat.lt_succ_of_le (hold k x hk hx), ?_, .inl ⟨_, hst, by omega, ?_⟩, ⟨by omega, by omega⟩, rfl, by simp [layAll], by omega, by simp⟩
  · have := Chain.cons hst (Nat.zero_le _) (.nil _ _)
    simpa using this
  · intro r hr
    obtain ⟨f, h1, h2, _⟩ := stand_some hr
    have := hold _ f (Nat.le_refl _) h1
    omega
  · intro x hx
    rcases mem_halves hl2 hx with h1 | h1
    · rcases hh with rfl | rfl
      · exact Nat.le_succ_of_le (hsame x h1)
      · exact hmine x h1
    · rcases hh with rfl | rfl
      · exact hmine x h1
      · exact Nat.le_succ_of_le (hsame x h1)
  · intro x hx
    rw [hhh] at hx
    exact Nat.lt_succ_of_le (hsame x hx)
/-- A new disk, and the log on it. -/
theorem inv_new (R : Nat) : Inv R (newDk (2 * R)) 0 1 0 0 0 0 [] [] := by
  have hz : ∀ x ∈ pcs (newDk (2 * R)).secs, x.e = 0 := fun x hx => by
    simp only [pcs, newDk, List.mem_map, List.mem_replicate] at hx
    obtain ⟨s, ⟨_, rfl⟩, rfl⟩ := hx
    rfl
  refine ⟨rfl, rfl, by simp [newDk], .inl rfl, by simp [newDk, layAll, waitOf], .nil _ _, ?_, by omega, fun k x _ hx => ?_, fun x hx => ?_, .inr ⟨rfl, rfl, fun x hx => hz x (mem_half hx)⟩, ⟨by omega, by omega⟩, rfl, by simp [layAll], by omega, by simp⟩
  · intro r hr
    obtain ⟨f, h1, h2, h3, h4, _⟩ := stand_some hr
    have := hz f (mem_half (List.mem_of_getElem? h1))
    omega
  · rw [hz x (mem_half (List.mem_of_getElem? hx))]; omega
  · rw [hz x hx]; omega
/-- What Open tells of a disk whose log is so. -/
theorem Inv.opens (i : Inv R D h E cnt en u e1 sure []) : forceP D.secs = h ∧ (toldP D.secs).map Rc.b = sure ∧ ((toldP D.secs).map Rc.n).sum = u ∧ (toldP D.secs).length = sure.length := by
  have hf : forceP D.secs = h := by
    rcases i.other with ⟨r, hr, _, ho⟩ | ⟨_, rfl, ho⟩
    · exact force_of i.half hr ho
    · unfold forceP
      rw [if_neg]
      rw [epoch0_zero ho]
      omega
  have hl := i.halfLen
  have hu := i.chain.room (Nat.zero_le _)
  have ht := chain_told i.chain i.ends (D.secs.length / 2 + 1) (by have := i.len; omega)
  have e : toldP D.secs = chainP (halfP D.secs h) (D.secs.length / 2 + 1) 0 0 := by unfold toldP; rw [hf]
  rw [e]
  refine ⟨hf, ht.1, by have := ht.2; omega, ?_⟩
  rw [← ht.1, List.length_map]
end
end Go.Proofs.Ytnganmekiloigaa
