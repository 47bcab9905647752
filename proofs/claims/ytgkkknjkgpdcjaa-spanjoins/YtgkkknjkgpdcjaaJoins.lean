/- SpanJoins: the law's walk: it answers true, and turns no old memory. -/
import Derived.Test.YtgkkknjkgpdcjaaFew
namespace Go.Proofs.Ytgkkknjkgpdcjaa
open Go.RowKit

theorem cells2_at (xs : List (Int × Int)) (j : Nat) : (cells2 xs)[j]? = xs[j / 2]?.map fun x => if j % 2 = 0 then Value.int .i64 x.1 else Value.int .i64 x.2 := by
  by_cases h : j / 2 < xs.length
  · have hg := cells2_get xs (j / 2) h
    rw [List.getElem?_eq_getElem h]
    rcases (show j % 2 = 0 ∨ j % 2 = 1 by omega) with hr | hr
    · have e : j / 2 * 2 = j := by omega
      rw [e] at hg
      rw [hg.1, hr]; simp
    · have e : j / 2 * 2 + 1 = j := by omega
      rw [e] at hg
      rw [hg.2, hr]; simp
  · rw [List.getElem?_eq_none (by rw [cells2_length]; omega), List.getElem?_eq_none (by omega)]; rfl

theorem Own.cellAt {w : World} {B g cap : Nat} {xs : List (Int × Int)} {n : Nat} (h : Own w B (.slice (some ⟨g, 0, none⟩) n cap) xs) :
    n = xs.length ∧ B ≤ g ∧ g < w.heap.size ∧ (∀ k, w.frozen? ⟨g, k, none⟩ = false) ∧ ∀ i, (hi : i < xs.length) → w.cell? ⟨g, i * 2, none⟩ = some (.int .i64 xs[i].1) ∧ w.cell? ⟨g, i * 2 + 1, none⟩ = some (.int .i64 xs[i].2) := by
  have hs := h
  obtain ⟨h1, h2⟩ := h
  rcases h2 with ⟨h0, _⟩ | ⟨g', cap', cur, hv, hb, hg, hnc, hcm, hcs, htake⟩
  · cases h0
  · cases hv
    refine ⟨rfl, hb, (Array.getElem?_eq_some_iff.1 hg).1, fun k => by simp [World.frozen?, hg], ?_⟩
    rcases hs.srow with ⟨_, hx⟩ | ⟨b', off, cap', hv, _, _, _, hc⟩
    · intro i hi
      rw [hx] at hi; simp at hi
    · cases hv
      intro i hi
      have := hc i hi
      simpa using this

theorem Own.setAt {w : World} {B g cap : Nat} {xs : List (Int × Int)} {n : Nat} (h : Own w B (.slice (some ⟨g, 0, none⟩) n cap) xs) (i : Nat) (hi : i < xs.length) (y1 y2 : Int) :
    Own ((w.setCell ⟨g, i * 2, none⟩ (.int .i64 y1)).setCell ⟨g, i * 2 + 1, none⟩ (.int .i64 y2)) B (.slice (some ⟨g, 0, none⟩) n cap) (xs.set i (y1, y2)) := by
  obtain ⟨h1, h2⟩ := h
  rcases h2 with ⟨h0, _⟩ | ⟨g', cap', cur, hv, hb, hg, hnc, hcm, hcs, htake⟩
  · cases h0
  · cases hv
    refine ⟨cells2_length _, .inr ⟨g, cap, (cur.setIfInBounds (i * 2) (.int .i64 y1)).setIfInBounds (i * 2 + 1) (.int .i64 y2), by simp, hb, ?_, by simpa using hnc, hcm, by simp [hcs], ?_⟩⟩
    · simp only [World.setCell, Array.getElem?_modify, hg]
      simp
    · apply List.ext_getElem?
      intro j
      have hj := congrArg (fun l => l[j]?) htake
      simp only [List.getElem?_take, Array.getElem?_toList, cells2_at] at hj
      simp only [List.getElem?_take, Array.getElem?_toList, Array.getElem?_setIfInBounds, cells2_at, List.length_set, List.getElem?_set, Array.size_setIfInBounds]
      by_cases c1 : j < xs.length * 2
      · rw [if_pos c1] at hj ⊢
        by_cases c2 : i * 2 + 1 = j
        · rw [if_pos c2, if_pos (by omega), if_pos (by omega), if_pos (by omega)]
          simp [show ¬ j % 2 = 0 by omega]
        · rw [if_neg c2]
          by_cases c3 : i * 2 = j
          · rw [if_pos c3, if_pos (by omega), if_pos (by omega), if_pos (by omega)]
            simp [show j % 2 = 0 by omega]
          · rw [if_neg c3, hj, if_neg (by omega)]
      · rw [if_neg c1]
        rw [if_neg (by omega), List.getElem?_eq_none (by omega)]; rfl

theorem set_swap_perm (xs : List (Int × Int)) (a b : Nat) (ha : a < xs.length) (hb : b < xs.length) : ((xs.set a xs[b]).set b xs[a]).Perm xs := by
  have h := List.set_set_perm ha hb
  exact h

theorem few20_form (v : Value) (xs : List (Int × Int)) (w : World) (h : SRow w v xs) (hm : xs.length ≤ maxLen) :
    Calls Try.prog 20 #[v] w fun e w' => ∃ p cap m ts, e = .returned (.slice p m cap) ∧ m ≤ 30 ∧ Hid (m = ts.length ∧ SRow w (.slice p m cap) ts) ∧ w' = w := by
  refine (few20 v xs w h hm).mono ?_
  rintro e w' ⟨v', rfl, hs, rfl⟩
  have hs' := hs
  obtain ⟨p, cap, rfl, _⟩ := hs.form
  exact ⟨p, cap, _, xs.take 30, rfl, by simp; omega, ⟨rfl, hs'⟩, rfl⟩

theorem join24_s (v : Value) (xs : List (Int × Int)) (w : World) (hl : xs.length ≤ 100000) (h : SRow w v xs) :
    Calls Try.prog 24 #[v] w fun e w' => ∃ p cap n ys, e = .returned (.slice p n cap) ∧ n ≤ 100000 ∧ Hid (n = ys.length ∧ Canon ys ∧ (∀ p, Pt ys p ↔ Has xs p) ∧ SRow w' (.slice p n cap) ys) ∧ Below w.heap.size w w' := by
  refine (join24 v xs w hl h).mono ?_
  rintro e w1 ⟨v1, ys, rfl, hc, hp, hlen, ho, hb1⟩
  have hs := ho.srow
  obtain ⟨p, cap, rfl, hf⟩ := ho.srow.form
  exact ⟨p, cap, _, ys, rfl, by omega, ⟨rfl, hc, hp, hs⟩, hb1⟩

theorem canon_step {ys : List (Int × Int)} (h : Canon ys) (j : Nat) (hj : j + 1 < ys.length) : ys[j].2 < ys[j + 1].1 := by
  have := h.2
  rw [List.pairwise_iff_getElem] at this
  exact this j (j + 1) (by omega) hj (by omega)

theorem canon_nil {ys : List (Int × Int)} (h : Canon ys) (hp : ∀ p, ¬ Pt ys p) : ys = [] := by
  rcases ys with _ | ⟨y, r⟩
  · rfl
  · have q := (rightB_iff _ _).1 (h.1 y (by simp))
    exact absurd ((pt_cons _ _ _).2 (.inl ⟨Int.le_refl _, q.2.1⟩)) (hp y.1)

theorem SRow.same {w w' : World} {v : Value} {xs : List (Int × Int)} (h : SRow w v xs) (he : w'.heap = w.heap) : SRow w' v xs := by
  unfold SRow at *
  simp only [World.cell?, he] at *
  exact h

theorem canon_has {ys : List (Int × Int)} (h : Canon ys) (p : Int) : Has ys p ↔ Pt ys p := by
  have e : rights ys = ys := by
    unfold rights
    rw [List.filter_eq_self]
    exact h.1
  unfold Has; rw [e]
theorem has_perm {xs ys : List (Int × Int)} (h : xs.Perm ys) (p : Int) : Has xs p ↔ Has ys p := pt_perm (h.filter _) p

set_option maxHeartbeats 2000000 in
theorem spanJoins7 (v : Value) (xs : List (Int × Int)) (x0 x1 : Int) (w : World) (h : SRow w v xs) (hm : xs.length ≤ maxLen) (hx0 : 0 ≤ x0) (hx1 : x0 ≤ 255) (hx2 : 0 ≤ x1) (hx3 : x1 ≤ 255) :
    Calls Try.prog 7 #[v, .agg #[.int .u8 x0, .int .u8 x1]] w fun e w' => e = .returned (.bool true) ∧ Below w.heap.size w w' := by
  obtain ⟨i0, hi, hz0, hz1, hz2⟩ := info_parts Try.info23
  have hW : SRow (w.alloc (.cells #[.int .u8 x0, .int .u8 x1] 43)) v xs := h.below (below1 w _) h.lt
  have hfew := few20_form v xs _ hW hm
  go_enter Try.func7, Try.ntmps7
  go_wp2_with fail
  refine hfew.mono ?_
  rintro e w1 ⟨p1, cap1, m, ts, rfl, hm30, HF, rfl⟩
  clear hfew hW h
  have hx0c : (w.alloc (.cells #[.int .u8 x0, .int .u8 x1] 43)).cell? ⟨w.heap.size, 0, none⟩ = some (.int .u8 x0) := by simp
  have hx1c : (w.alloc (.cells #[.int .u8 x0, .int .u8 x1] 43)).cell? ⟨w.heap.size, 1, none⟩ = some (.int .u8 x1) := by simp
  have hbw : Below w.heap.size w (w.alloc (.cells #[.int .u8 x0, .int .u8 x1] 43)) := below1 _ _
  have hz : w.heap.size < (w.alloc (.cells #[.int .u8 x0, .int .u8 x1] 43)).heap.size := by simp
  generalize w.alloc (.cells #[.int .u8 x0, .int .u8 x1] 43) = W at *
  go_wp2_with fail
  have hj := join24_s _ _ W (by have := HF.out.1; omega) HF.out.2
  refine hj.mono ?_
  rintro e w1 ⟨p, cap, n, ys, rfl, hn, HR, hb1⟩
  clear hj
  go_wp2_with fail
  go_loopw [6] (fun i wr => ∃ j : Nat, i = .int .i64 ((j : Int) + 1) ∧ j ≤ n ∧ ∃ q, wr = w1.drewN q) (fun i _ => n - (intOf i).toNat)
  case atStart => exact ⟨0, rfl, Nat.zero_le _, 0, rfl⟩
  case round =>
    obtain ⟨j, rfl, hjn, q, rfl⟩ := hrel
    by_cases hlt : j + 1 < n
    · obtain ⟨hny, hcan, hpt, hsr⟩ := HR.out
      have hjy : j + 1 < ys.length := by omega
      obtain ⟨p', cap', hv', hf⟩ := hsr.form
      simp only [Value.slice.injEq] at hv'
      obtain ⟨hp', hq1, hq2⟩ := hv'
      clear hq1 hq2
      subst hp'
      obtain ⟨b, off, hpe, hbl, c1, c2⟩ := hf j (by omega)
      obtain ⟨b', off', hpe', _, c3, c4⟩ := hf (j + 1) hjy
      subst hpe
      cases hpe'
      have hlt2 := canon_step hcan j hjy
      obtain ⟨y2, hy2⟩ : ∃ y, ys[j].2 = y := ⟨_, rfl⟩
      obtain ⟨y3, hy3⟩ : ∃ y, ys[j + 1].1 = y := ⟨_, rfl⟩
      rw [hy2] at c2 hlt2
      rw [hy3] at c3 hlt2
      have hd : decide (y3 ≤ y2) = false := by simp; omega
      have hlt' : (j : Int) + 1 < n := by omega
      clear hy2 hy3 hf c1 c4 hsr hcan hpt hny HR HF
      go_wp2_with fail
      go_quiet (fail)
      go_wp2
      go_roundw
      case rel => exact ⟨j + 1, by go_num, by omega, _, rfl⟩
      case measure => simp [intOf]; omega
    · obtain ⟨hny, hcan, hpt, hsr⟩ := HR.out
      obtain ⟨hmx, hsx⟩ := HF.out
      by_cases hm0 : m = 0
      · have hn0 : n = 0 := by
          have ht : ts = [] := List.eq_nil_of_length_eq_zero (by omega)
          have hy : ys = [] := canon_nil hcan (fun p hp => by rw [hpt, ht] at hp; exact pt_nil _ hp)
          rw [hny, hy]; rfl
        subst hm0 hn0
        clear hny hcan hpt hsr hmx hsx HR HF
        go_wp2_with (go_at_call 11; refine (live11 _).mono ?_; rintro e w4 ⟨rfl, hb4⟩)
        go_ret
        exact ⟨rfl, hbw.trans ((hb1.mono hbw.size).trans ((below_drewN (Below.refl _ _) q).trans (hb4.mono (Nat.le_trans hbw.size hb1.size))))⟩
      · obtain ⟨p', cap', hv', hf⟩ := hsx.form
        simp only [Value.slice.injEq] at hv'
        obtain ⟨hp', hq1, hq2⟩ := hv'
        clear hq1 hq2
        subst hp'
        obtain ⟨b, off, hpe, hbl, hq3, hq4⟩ := hf 0 (by omega)
        clear hq3 hq4
        subst hpe
        have hne : ((m : Int) == 0) = false := by simp; omega
        have hcc : ∀ i, (hi : i < ts.length) → W.cell? ⟨b, off + i * 2, none⟩ = some (.int .i64 ts[i].1) ∧ W.cell? ⟨b, off + i * 2 + 1, none⟩ = some (.int .i64 ts[i].2) := fun i hi => by
          obtain ⟨b', off', he, _, h1, h2⟩ := hf i hi
          cases he
          exact ⟨h1, h2⟩
        have HC : Hid (∀ i, (hi : i < ts.length) → W.cell? ⟨b, off + i * 2, none⟩ = some (.int .i64 ts[i].1) ∧ W.cell? ⟨b, off + i * 2 + 1, none⟩ = some (.int .i64 ts[i].2)) := hcc
        have HM : Hid (m = ts.length) := hmx
        have HS : Hid (SRow w1 (.slice p n cap) ys) := hsr
        have HP : Hid (n = ys.length ∧ Canon ys ∧ ∀ p, Pt ys p ↔ Has ts p) := ⟨hny, hcan, hpt⟩
        have hmpos : 0 < m := by omega
        clear hny hcan hpt hsr hmx hsx HR HF hf hcc
        have hb1w : b < W.heap.size := hbl
        have hst := hb1.size
        have hown0 : World.ownsRow ((w1.drewN q).alloc (.cells #[] 23)) w1.heap.size 23 2 (.slice (some ⟨w1.heap.size, 0, none⟩) 0 0) 0 [] := World.ownsRow_made (w1.drewN q) #[] 0 (Nat.le_refl _) (Nat.zero_le _) rfl
        have hnews : ∀ j u, (cells2 ts)[j]? = some u → ((w1.drewN q).alloc (.cells #[] 23)).cell? ((⟨b, off, none⟩ : Addr).add j) = some u := by
          intro j u hj
          have e1 : ((w1.drewN q).alloc (.cells #[] 23)).cell? ⟨b, off + j, none⟩ = W.cell? ⟨b, off + j, none⟩ := (bc (below1 (w1.drewN q) (.cells #[] 23)) b (off + j) (Nat.lt_of_lt_of_le hb1w hst)).trans (bc hb1 b (off + j) hb1w)
          rw [cells2_at] at hj
          by_cases hjl : j / 2 < ts.length
          · rw [List.getElem?_eq_getElem hjl] at hj
            have hq := HC.out (j / 2) hjl
            rw [show (⟨b, off, none⟩ : Addr).add j = ⟨b, off + j, none⟩ from by simp [Addr.add], e1]
            rcases (show j % 2 = 0 ∨ j % 2 = 1 by omega) with hr | hr
            · rw [show off + j / 2 * 2 = off + j by omega] at hq
              rw [hq.1]; simp [hr] at hj; rw [hj]
            · rw [show off + j / 2 * 2 + 1 = off + j by omega] at hq
              rw [hq.2]; simp [hr] at hj; rw [hj]
          · rw [List.getElem?_eq_none (by omega)] at hj
            simp at hj
        have HNW := hnews
        go_wp2_with (at_builtin; refine wpList_append_own _ rfl _ _ 31 rfl w1.heap.size 23 i0 (.agg #[.int .i64 0, .int .i64 0]) 2 16 Try.underlying31 hi hz0 hz1 hz2 rfl (by decide) _ _ _ rfl hown0 ⟨b, off, none⟩ m cap1 (cells2 ts) rfl ?c0 hnews ?c2 ?c3 ?c4 ?c5 ?_)
        case c0 => rw [cells2_length, ← HM.out]
        case c2 =>
          intro u hu
          obtain ⟨j, hj⟩ := List.getElem?_of_mem hu
          rw [cells2_at] at hj
          rcases ho : ts[j / 2]? with _ | y
          · rw [ho] at hj; simp at hj
          · rw [ho] at hj; simp at hj; subst hj; split <;> rfl
        case c3 => unfold maxLen; omega
        case c4 => omega
        case c5 => simp
        · intro v' w2 hown' hgrow _
          have R1 : Own w2 w1.heap.size v' ts := by
            unfold Own; rw [← HM.out]; simpa using hown'
          have R2 : Below w1.heap.size w1 w2 := (((below_drewN (Below.refl _ _) q)).alloc (Nat.le_refl _) _).grown hgrow (by simp) (fun k hk => by simp only [Value.ownBlock, Option.some.injEq] at hk; exact Nat.le_of_eq hk)
          clear hown' hgrow hown0 hnews HNW
          obtain ⟨g, cap2, hve⟩ : ∃ g cap, v' = .slice (some ⟨g, 0, none⟩) m cap := by
            rcases R1.2 with ⟨_, h0⟩ | ⟨g, cap, cur, hv, _⟩
            · have := HM.out; omega
            · exact ⟨g, cap, by rw [hv, ← HM.out]⟩
          subst hve
          have hxa : w2.cell? ⟨w.heap.size, 0, none⟩ = some (.int .u8 x0) := (bc R2 w.heap.size 0 (Nat.lt_of_lt_of_le hz hst)).trans ((bc hb1 w.heap.size 0 hz).trans hx0c)
          have hxb : w2.cell? ⟨w.heap.size, 1, none⟩ = some (.int .u8 x1) := (bc R2 w.heap.size 1 (Nat.lt_of_lt_of_le hz hst)).trans ((bc hb1 w.heap.size 1 hz).trans hx1c)
          have hmI : (0 : Int) < m := by omega
          clear hx0c hx1c
          go_wp2_with fail
          go_quiet (fail)
          go_wp2_with fail
          obtain ⟨ka, hka⟩ : ∃ k : Nat, x0 % (m : Int) = k := ⟨(x0 % (m : Int)).toNat, by have := Int.emod_nonneg x0 (show (m : Int) ≠ 0 by omega); omega⟩
          obtain ⟨kb, hkb⟩ : ∃ k : Nat, x1 % (m : Int) = k := ⟨(x1 % (m : Int)).toNat, by have := Int.emod_nonneg x1 (show (m : Int) ≠ 0 by omega); omega⟩
          have hkam : ka < m := by have := Int.emod_lt_of_pos x0 hmI; omega
          have hkbm : kb < m := by have := Int.emod_lt_of_pos x1 hmI; omega
          rw [hka, hkb]
          obtain ⟨hq5, hBg, hgl, hfz, hce⟩ := R1.cellAt
          clear hq5
          have hmx := HM.out
          have A := hce ka (by omega)
          have D := hce kb (by omega)
          have SW := fun (y : Int × Int) (z : Int × Int) => (R1.setAt ka (by omega) y.1 y.2).setAt kb (by simp; omega) z.1 z.2
          have PM := set_swap_perm ts ka kb (by omega) (by omega)
          obtain ⟨a1, h1⟩ : ∃ y, (ts[ka]'(by omega)).1 = y := ⟨_, rfl⟩
          obtain ⟨a2, h2⟩ : ∃ y, (ts[ka]'(by omega)).2 = y := ⟨_, rfl⟩
          obtain ⟨d1, h3⟩ : ∃ y, (ts[kb]'(by omega)).1 = y := ⟨_, rfl⟩
          obtain ⟨d2, h4⟩ : ∃ y, (ts[kb]'(by omega)).2 = y := ⟨_, rfl⟩
          have ea : ts[ka]'(by omega) = (a1, a2) := Prod.ext h1 h2
          have ed : ts[kb]'(by omega) = (d1, d2) := Prod.ext h3 h4
          rw [h1, h2] at A
          rw [h3, h4] at D
          rw [ea, ed] at PM
          have HPM : Hid (((ts.set ka (d1, d2)).set kb (a1, a2)).Perm ts) := PM
          have HSW : Hid (Own (((((w2.setCell ⟨g, ka * 2, none⟩ (.int .i64 d1)).setCell ⟨g, ka * 2 + 1, none⟩ (.int .i64 d2))).setCell ⟨g, kb * 2, none⟩ (.int .i64 a1)).setCell ⟨g, kb * 2 + 1, none⟩ (.int .i64 a2)) w1.heap.size (.slice (some ⟨g, 0, none⟩) m cap2) ((ts.set ka (d1, d2)).set kb (a1, a2))) := SW (d1, d2) (a1, a2)
          obtain ⟨A1, A2⟩ := A
          obtain ⟨D1, D2⟩ := D
          have z1 := hfz (ka * 2)
          have z2 := hfz (ka * 2 + 1)
          have z3 := hfz (kb * 2)
          have z4 := hfz (kb * 2 + 1)
          clear hka hkb hce SW PM h1 h2 h3 h4 ea ed hmx hfz R1
          by_cases hkk : ka = kb
          · subst hkk
            have q1 : d1 = a1 := by have := A1.symm.trans D1; simpa using this.symm
            have q2 : d2 = a2 := by have := A2.symm.trans D2; simpa using this.symm
            subst q1 q2
            go_region
            go_wp2_with fail
            have K1 : SRow (((((w2.drewN (nq + 1)).setCell ⟨g, ka * 2, none⟩ (.int .i64 d1)).setCell ⟨g, ka * 2 + 1, none⟩ (.int .i64 d2)).setCell ⟨g, ka * 2, none⟩ (.int .i64 d1)).setCell ⟨g, ka * 2 + 1, none⟩ (.int .i64 d2)) (.slice (some ⟨g, 0, none⟩) m cap2) ((ts.set ka (d1, d2)).set ka (d1, d2)) := (Own.same HSW.out rfl).srow
            have K2 : SRow (((((w2.drewN (nq + 1)).setCell ⟨g, ka * 2, none⟩ (.int .i64 d1)).setCell ⟨g, ka * 2 + 1, none⟩ (.int .i64 d2)).setCell ⟨g, ka * 2, none⟩ (.int .i64 d1)).setCell ⟨g, ka * 2 + 1, none⟩ (.int .i64 d2)) (.slice p n cap) ys := HS.out.below (B := w1.heap.size) (((((below_drewN R2 (nq + 1)).setCell hBg _).setCell hBg _).setCell hBg _).setCell hBg _) HS.out.lt
            have K3 : Below w1.heap.size w1 (((((w2.drewN (nq + 1)).setCell ⟨g, ka * 2, none⟩ (.int .i64 d1)).setCell ⟨g, ka * 2 + 1, none⟩ (.int .i64 d2)).setCell ⟨g, ka * 2, none⟩ (.int .i64 d1)).setCell ⟨g, ka * 2 + 1, none⟩ (.int .i64 d2)) := ((((below_drewN R2 (nq + 1)).setCell hBg _).setCell hBg _).setCell hBg _).setCell hBg _
            have hlz : ((ts.set ka (d1, d2)).set ka (d1, d2)).length ≤ 100000 := by have := HM.out; simp; omega
            have hpz := fun p => has_perm HPM.out p
            generalize (ts.set ka (d1, d2)).set ka (d1, d2) = zs at K1 hlz hpz
            generalize ((((w2.drewN (nq + 1)).setCell ⟨g, ka * 2, none⟩ (.int .i64 d1)).setCell ⟨g, ka * 2 + 1, none⟩ (.int .i64 d2)).setCell ⟨g, ka * 2, none⟩ (.int .i64 d1)).setCell ⟨g, ka * 2 + 1, none⟩ (.int .i64 d2) = W3 at K1 K2 K3 ⊢
            obtain ⟨hny, hcan, hpt⟩ := HP.out
            have hly : ys.length ≤ 100000 := by omega
            have U1 : ∀ zz : List (Int × Int), Canon zz → (∀ p, Pt zz p ↔ Has ys p) → zz = ys := fun zz hz1 hz2 => canon_unique _ _ hz1 hcan (fun p => by rw [hz2, canon_has hcan])
            have U2 : ∀ zz : List (Int × Int), Canon zz → (∀ p, Pt zz p ↔ Has zs p) → zz = ys := fun zz hz1 hz2 => canon_unique _ _ hz1 hcan (fun p => by rw [hz2, hpz, hpt])
            have HU1 : Hid (∀ zz : List (Int × Int), Canon zz → (∀ p, Pt zz p ↔ Has ys p) → zz = ys) := U1
            have HU2 : Hid (∀ zz : List (Int × Int), Canon zz → (∀ p, Pt zz p ↔ Has zs p) → zz = ys) := U2
            clear HSW HPM HS HP HC HM hny hcan hpt hpz U1 U2 A1 A2 D1 D2 z1 z2 z3 z4 hxa hxb R2 hne hmI
            refine (live11 W3).mono ?_
            rintro e w4 ⟨rfl, hb4⟩
            have K4 := K1.below hb4 K1.lt
            have K5 := K2.below hb4 K2.lt
            have K6 : Below w1.heap.size w1 w4 := K3.trans (hb4.mono K3.size)
            clear K1 K2 K3 hb4
            go_wp2_with fail
            refine (join24_s _ _ w4 hly K5).mono ?_
            rintro e w5 ⟨p5, cap5, n5, ys5, rfl, _, HR5, hb5⟩
            have e5 : ys5 = ys := HU1.out _ HR5.out.2.1 HR5.out.2.2.1
            have K7 : SRow w5 (.slice p5 n5 cap5) ys := by rw [← e5]; exact HR5.out.2.2.2
            have K8 := K5.below hb5 K5.lt
            have K9 := K4.below hb5 K4.lt
            have K10 : Below w1.heap.size w1 w5 := K6.trans (hb5.mono K6.size)
            clear K4 K5 K6 hb5 HR5 e5
            go_wp2_with fail
            refine (same21 _ _ ys w5 hly K7 K8).mono ?_
            rintro e w6 ⟨rfl, q6, rfl⟩
            have K11 := K9.same (w' := w5.drewN q6) rfl
            have K12 := K8.same (w' := w5.drewN q6) rfl
            have K13 := below_drewN K10 q6
            clear K7 K8 K9 K10
            go_wp2_with fail
            generalize w5.drewN q6 = w6 at K11 K12 K13 ⊢
            refine (join24_s _ _ w6 hlz K11).mono ?_
            rintro e w7 ⟨p7, cap7, n7, ys7, rfl, _, HR7, hb7⟩
            have e7 : ys7 = ys := HU2.out _ HR7.out.2.1 HR7.out.2.2.1
            have K14 : SRow w7 (.slice p7 n7 cap7) ys := by rw [← e7]; exact HR7.out.2.2.2
            have K15 := K12.below hb7 K12.lt
            have K16 : Below w1.heap.size w1 w7 := K13.trans (hb7.mono K13.size)
            clear K11 K12 K13 hb7 HR7 e7
            go_wp2_with fail
            refine (same21 _ _ ys w7 hly K14 K15).mono ?_
            rintro e w8 ⟨rfl, q8, rfl⟩
            go_wp2
            go_ret
            exact ⟨rfl, hbw.trans ((hb1.mono hbw.size).trans ((below_drewN K16 q8).mono (Nat.le_trans hbw.size hb1.size)))⟩
          · have hkk2 : ¬ kb = ka := fun h => hkk h.symm
            go_region
            go_wp2_with fail
            have K1 : SRow (((((w2.drewN (nq + 1)).setCell ⟨g, ka * 2, none⟩ (.int .i64 d1)).setCell ⟨g, ka * 2 + 1, none⟩ (.int .i64 d2)).setCell ⟨g, kb * 2, none⟩ (.int .i64 a1)).setCell ⟨g, kb * 2 + 1, none⟩ (.int .i64 a2)) (.slice (some ⟨g, 0, none⟩) m cap2) ((ts.set ka (d1, d2)).set kb (a1, a2)) := (Own.same HSW.out rfl).srow
            have K2 : SRow (((((w2.drewN (nq + 1)).setCell ⟨g, ka * 2, none⟩ (.int .i64 d1)).setCell ⟨g, ka * 2 + 1, none⟩ (.int .i64 d2)).setCell ⟨g, kb * 2, none⟩ (.int .i64 a1)).setCell ⟨g, kb * 2 + 1, none⟩ (.int .i64 a2)) (.slice p n cap) ys := HS.out.below (B := w1.heap.size) (((((below_drewN R2 (nq + 1)).setCell hBg _).setCell hBg _).setCell hBg _).setCell hBg _) HS.out.lt
            have K3 : Below w1.heap.size w1 (((((w2.drewN (nq + 1)).setCell ⟨g, ka * 2, none⟩ (.int .i64 d1)).setCell ⟨g, ka * 2 + 1, none⟩ (.int .i64 d2)).setCell ⟨g, kb * 2, none⟩ (.int .i64 a1)).setCell ⟨g, kb * 2 + 1, none⟩ (.int .i64 a2)) := ((((below_drewN R2 (nq + 1)).setCell hBg _).setCell hBg _).setCell hBg _).setCell hBg _
            have hlz : ((ts.set ka (d1, d2)).set kb (a1, a2)).length ≤ 100000 := by have := HM.out; simp; omega
            have hpz := fun p => has_perm HPM.out p
            generalize (ts.set ka (d1, d2)).set kb (a1, a2) = zs at K1 hlz hpz
            generalize ((((w2.drewN (nq + 1)).setCell ⟨g, ka * 2, none⟩ (.int .i64 d1)).setCell ⟨g, ka * 2 + 1, none⟩ (.int .i64 d2)).setCell ⟨g, kb * 2, none⟩ (.int .i64 a1)).setCell ⟨g, kb * 2 + 1, none⟩ (.int .i64 a2) = W3 at K1 K2 K3 ⊢
            obtain ⟨hny, hcan, hpt⟩ := HP.out
            have hly : ys.length ≤ 100000 := by omega
            have U1 : ∀ zz : List (Int × Int), Canon zz → (∀ p, Pt zz p ↔ Has ys p) → zz = ys := fun zz hz1 hz2 => canon_unique _ _ hz1 hcan (fun p => by rw [hz2, canon_has hcan])
            have U2 : ∀ zz : List (Int × Int), Canon zz → (∀ p, Pt zz p ↔ Has zs p) → zz = ys := fun zz hz1 hz2 => canon_unique _ _ hz1 hcan (fun p => by rw [hz2, hpz, hpt])
            have HU1 : Hid (∀ zz : List (Int × Int), Canon zz → (∀ p, Pt zz p ↔ Has ys p) → zz = ys) := U1
            have HU2 : Hid (∀ zz : List (Int × Int), Canon zz → (∀ p, Pt zz p ↔ Has zs p) → zz = ys) := U2
            clear HSW HPM HS HP HC HM hny hcan hpt hpz U1 U2 A1 A2 D1 D2 z1 z2 z3 z4 hxa hxb R2 hne hmI
            refine (live11 W3).mono ?_
            rintro e w4 ⟨rfl, hb4⟩
            have K4 := K1.below hb4 K1.lt
            have K5 := K2.below hb4 K2.lt
            have K6 : Below w1.heap.size w1 w4 := K3.trans (hb4.mono K3.size)
            clear K1 K2 K3 hb4
            go_wp2_with fail
            refine (join24_s _ _ w4 hly K5).mono ?_
            rintro e w5 ⟨p5, cap5, n5, ys5, rfl, _, HR5, hb5⟩
            have e5 : ys5 = ys := HU1.out _ HR5.out.2.1 HR5.out.2.2.1
            have K7 : SRow w5 (.slice p5 n5 cap5) ys := by rw [← e5]; exact HR5.out.2.2.2
            have K8 := K5.below hb5 K5.lt
            have K9 := K4.below hb5 K4.lt
            have K10 : Below w1.heap.size w1 w5 := K6.trans (hb5.mono K6.size)
            clear K4 K5 K6 hb5 HR5 e5
            go_wp2_with fail
            refine (same21 _ _ ys w5 hly K7 K8).mono ?_
            rintro e w6 ⟨rfl, q6, rfl⟩
            have K11 := K9.same (w' := w5.drewN q6) rfl
            have K12 := K8.same (w' := w5.drewN q6) rfl
            have K13 := below_drewN K10 q6
            clear K7 K8 K9 K10
            go_wp2_with fail
            generalize w5.drewN q6 = w6 at K11 K12 K13 ⊢
            refine (join24_s _ _ w6 hlz K11).mono ?_
            rintro e w7 ⟨p7, cap7, n7, ys7, rfl, _, HR7, hb7⟩
            have e7 : ys7 = ys := HU2.out _ HR7.out.2.1 HR7.out.2.2.1
            have K14 : SRow w7 (.slice p7 n7 cap7) ys := by rw [← e7]; exact HR7.out.2.2.2
            have K15 := K12.below hb7 K12.lt
            have K16 : Below w1.heap.size w1 w7 := K13.trans (hb7.mono K13.size)
            clear K11 K12 K13 hb7 HR7 e7
            go_wp2_with fail
            refine (same21 _ _ ys w7 hly K14 K15).mono ?_
            rintro e w8 ⟨rfl, q8, rfl⟩
            go_wp2
            go_ret
            exact ⟨rfl, hbw.trans ((hb1.mono hbw.size).trans ((below_drewN K16 q8).mono (Nat.le_trans hbw.size hb1.size)))⟩

end Go.Proofs.Ytgkkknjkgpdcjaa
