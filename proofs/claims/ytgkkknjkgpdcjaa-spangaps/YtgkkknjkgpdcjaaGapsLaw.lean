/- SpanGaps: the law's walk: it answers true, and turns no old memory. -/
import Derived.Test.YtgkkknjkgpdcjaaForms
namespace Go.Proofs.Ytgkkknjkgpdcjaa
open Go.RowKit

/-- in the last statement: what both lists hold, one of all, the span's box -/
def SG (w : World) (ba oa : Nat) (a b : Int) (vg vh : Value) (gs hs : List (Int × Int)) (W : World) : Prop :=
  (W.cell? ⟨ba, oa, none⟩ = some (.int .i64 a) ∧ W.cell? ⟨ba, oa + 1, none⟩ = some (.int .i64 b) ∧ W.cell? ⟨w.heap.size, 0, none⟩ = some (.int .i64 a) ∧ W.cell? ⟨w.heap.size, 1, none⟩ = some (.int .i64 b)) ∧
  (ba < W.heap.size ∧ w.heap.size < W.heap.size ∧ SRow W vg gs ∧ SRow W vh hs ∧ Below w.heap.size w W)
theorem SG.step {w W W' : World} {ba oa : Nat} {a b : Int} {vg vh : Value} {gs hs : List (Int × Int)} (h : SG w ba oa a b vg vh gs hs W) (hb : Below W.heap.size W W') : SG w ba oa a b vg vh gs hs W' := by
  obtain ⟨⟨h1, h2, h3, h4⟩, h5, h6, h7, h8, h9⟩ := h
  have hs := hb.size
  exact ⟨⟨(bc hb _ _ h5).trans h1, (bc hb _ _ h5).trans h2, (bc hb _ _ h6).trans h3, (bc hb _ _ h6).trans h4⟩, by omega, by omega, h7.below hb h7.lt, h8.below hb h8.lt, h9.trans (hb.mono (by omega))⟩
theorem kG11 {w : World} {ba oa : Nat} {a b : Int} {vg vh : Value} {gs hs : List (Int × Int)} (W : World) (h : SG w ba oa a b vg vh gs hs W) : Calls Try.prog 11 #[] W fun e w' => e = .returned (.bool true) ∧ SG w ba oa a b vg vh gs hs w' :=
  (live11 W).mono fun _ _ ⟨he, hb⟩ => ⟨he, h.step hb⟩
theorem kG30 {w : World} {ba oa : Nat} {a b : Int} {vg vh : Value} {gs hs : List (Int × Int)} (W : World) (h : SG w ba oa a b vg vh gs hs W) (hl : gs.length ≤ 100000) (hc : Canon gs) : Calls Try.prog 30 #[vg] W fun e w' => e = .returned (.int .i64 (lenL gs)) ∧ SG w ba oa a b vg vh gs hs w' :=
  (count30_c vg gs W hl hc h.2.2.2.1).mono fun _ _ ⟨he, hb⟩ => ⟨he, h.step hb⟩
theorem kH30 {w : World} {ba oa : Nat} {a b : Int} {vg vh : Value} {gs hs : List (Int × Int)} (W : World) (h : SG w ba oa a b vg vh gs hs W) (hl : hs.length ≤ 100000) (hc : Canon hs) : Calls Try.prog 30 #[vh] W fun e w' => e = .returned (.int .i64 (lenL hs)) ∧ SG w ba oa a b vg vh gs hs w' :=
  (count30_c vh hs W hl hc h.2.2.2.2.1).mono fun _ _ ⟨he, hb⟩ => ⟨he, h.step hb⟩

theorem pt_one (a b p : Int) : Pt [(a, b)] p ↔ a ≤ p ∧ p < b := by rw [pt_cons]; simp [pt_nil]
theorem has_append (xs ys : List (Int × Int)) (p : Int) : Has (xs ++ ys) p ↔ Has xs p ∨ Has ys p := by
  unfold Has rights; rw [List.filter_append, pt_append]

/-- what is had has the list's points -/
theorem gaps_facts {ts gs hs : List (Int × Int)} {a b : Int} (cg : Canon gs) (ch : Canon hs) (pg : ∀ p, Pt gs p ↔ hasB a b p = true ∧ ¬ Has ts p) (ph : ∀ p, Pt hs p ↔ hasB a b p = true ∧ ¬ Has gs p) :
    (∀ p, Pt hs p ↔ hasB a b p = true ∧ Has ts p) ∧ (rightB a b = false → gs = [] ∧ hs = []) ∧
    (rightB a b = true → lenL gs + lenL hs = b - a ∧ ∀ ys, Canon ys → (∀ p, Pt ys p ↔ Has (gs ++ hs) p) → ys = [(a, b)]) := by
  have h1 : ∀ p, Pt hs p ↔ hasB a b p = true ∧ Has ts p := fun p => by
    rw [ph, canon_has cg, pg]
    constructor
    · rintro ⟨h1, h2⟩
      refine ⟨h1, Classical.byContradiction fun h3 => h2 ⟨h1, h3⟩⟩
    · rintro ⟨h1, h2⟩
      exact ⟨h1, fun h3 => h3.2 h2⟩
  refine ⟨h1, fun hr => ?_, fun hr => ?_⟩
  · have hno : ∀ p, hasB a b p = false := fun p => by simp [hasB, hr]
    exact ⟨canon_nil cg (fun p hp => by have := ((pg p).1 hp).1; rw [hno] at this; simp at this), canon_nil ch (fun p hp => by have := ((ph p).1 hp).1; rw [hno] at this; simp at this)⟩
  · obtain ⟨r1, r2, r3⟩ := (rightB_iff _ _).1 hr
    have e : ∀ p, hasB a b p = true ↔ a ≤ p ∧ p < b := fun p => by simp only [hasB, hr, Bool.true_and, Bool.and_eq_true, decide_eq_true_eq]
    have hu : ∀ p, (Pt gs p ∨ Pt hs p) ↔ a ≤ p ∧ p < b := fun p => by
      rw [pg, h1, ← e]
      constructor
      · rintro (h | h) <;> exact h.1
      · intro h
        by_cases h2 : Has ts p
        · exact .inr ⟨h, h2⟩
        · exact .inl ⟨h, h2⟩
    refine ⟨parts_len cg ch r1 r2 r3 hu (fun p ⟨q1, q2⟩ => ((pg p).1 q1).2 ((h1 p).1 q2).2), fun ys hc hp => ?_⟩
    refine canon_unique _ _ hc ⟨by simpa using hr, by simp⟩ (fun p => ?_)
    rw [hp, has_append, canon_has cg, canon_has ch, hu, pt_one]

set_option maxHeartbeats 4000000 in
theorem spanGaps8 (v : Value) (xs : List (Int × Int)) (a b : Int) (w : World) (h : SRow w v xs) (hm : xs.length ≤ maxLen) :
    Calls Try.prog 8 #[v, .agg #[.int .i64 a, .int .i64 b]] w fun e w' => e = .returned (.bool true) ∧ Below w.heap.size w w' := by
  have hW : SRow (w.alloc (.cells #[.int .i64 a, .int .i64 b] 23)) v xs := h.below (below1 w _) h.lt
  have hfew := few20_form v xs _ hW hm
  go_enter Try.func8, Try.ntmps8
  go_wp2_with fail
  refine hfew.mono ?_
  rintro e w1 ⟨p1, cap1, m, ts, rfl, hm30, HF, rfl⟩
  clear hfew hW h
  have a0 := (box1 w a b).1
  have b0 := (box1 w a b).2
  have hbw : Below w.heap.size w (w.alloc (.cells #[.int .i64 a, .int .i64 b] 23)) := below1 _ _
  have z0 : w.heap.size < (w.alloc (.cells #[.int .i64 a, .int .i64 b] 23)).heap.size := by simp
  obtain ⟨hmt, hst⟩ := HF.out
  have hlt : ts.length ≤ 30 := by omega
  clear HF hmt
  generalize w.alloc (.cells #[.int .i64 a, .int .i64 b] 23) = W0 at *
  have HT := hideP hst
  clear hst
  go_wp2_with fail
  refine (gaps26_s _ ts a b W0 (by omega) HT.out).mono ?_
  rintro e w1 ⟨pg, cg, ng, gs, rfl, hng, HG, hb1⟩
  have a1 := (bc hb1 _ 0 z0).trans a0
  have b1 := (bc hb1 _ 1 z0).trans b0
  have z1 := Nat.lt_of_lt_of_le z0 hb1.size
  have HT1 := hideP (HT.out.below hb1 HT.out.lt)
  have hbw1 := hbw.trans (hb1.mono hbw.size)
  clear a0 b0 HT hb1 hbw z0
  obtain ⟨hngl, cgs, ptg, sg, lg⟩ := HG.out
  have HG2 := hideP (And.intro cgs (And.intro ptg (And.intro lg hngl)))
  have HSG := hideP sg
  clear HG hngl cgs ptg sg lg
  go_wp2_with fail
  refine (gaps26_s _ gs a b w1 (by have := HG2.out.2.2.1; omega) HSG.out).mono ?_
  rintro e w2 ⟨ph, ch, nh, hs, rfl, hnh, HH, hb2⟩
  have a2 := (bc hb2 _ 0 z1).trans a1
  have b2 := (bc hb2 _ 1 z1).trans b1
  have z2 := Nat.lt_of_lt_of_le z1 hb2.size
  have HT2 := hideP (HT1.out.below hb2 HT1.out.lt)
  have HSG2 := hideP (HSG.out.below hb2 HSG.out.lt)
  have hbw2 := hbw1.trans (hb2.mono hbw1.size)
  clear a1 b1 HT1 hb2 hbw1 z1 HSG
  obtain ⟨hnhl, chs, pth, sh, lh⟩ := HH.out
  have HH2 := hideP (And.intro chs (And.intro pth (And.intro lh hnhl)))
  have HSH := hideP sh
  clear HH hnhl chs pth sh lh
  have lens : gs.length ≤ 31 ∧ hs.length ≤ 32 := by have q1 := HG2.out.2.2.1; have q2 := HH2.out.2.2.1; omega
  have own0 : Own (w2.alloc (.cells #[] 23)) w2.heap.size (.slice (some ⟨w2.heap.size, 0, none⟩) 0 0) [] := World.ownsRow_made w2 #[] 0 (Nat.le_refl _) (Nat.zero_le _) rfl
  have HSG3 : SRow (w2.alloc (.cells #[] 23)) (.slice pg ng cg) gs := HSG2.out.below (below1 _ _) HSG2.out.lt
  have HO := hideP own0
  have HS3 := hideP HSG3
  clear own0 HSG3
  have hl1 : ([] : List (Int × Int)).length + gs.length ≤ 100000 := by simp; omega
  have hl2 : gs.length + hs.length ≤ 100000 := by omega
  have hsz1 : w2.heap.size ≤ (w2.alloc (.cells #[] 23)).heap.size := by simp
  have K1 : Hid (∀ v3 w3, Own w3 w2.heap.size v3 ([] ++ gs) → (w2.alloc (.cells #[] 23)).grownBy w3 (Value.ownBlock (.slice (some ⟨w2.heap.size, 0, none⟩) 0 0)) → Hid (Own w3 w2.heap.size v3 gs) ∧ Hid (Below w2.heap.size w2 w3) ∧ Hid (SRow w3 (.slice ph nh ch) hs) ∧ w2.heap.size ≤ w3.heap.size) := fun v3 w3 ho3 hg3 => by
    have hb3 : Below w2.heap.size w2 w3 := (below1 w2 _).grown hg3 (by simp) (fun k hk => by simp only [Value.ownBlock, Option.some.injEq] at hk; exact Nat.le_of_eq hk)
    exact ⟨ho3, hb3, HSH.out.below hb3 HSH.out.lt, hb3.size⟩
  have K2 : Hid (∀ v3 w3 v4 w4, Own w3 w2.heap.size v3 gs → Below w2.heap.size w2 w3 → Own w4 w2.heap.size v4 (gs ++ hs) → w3.grownBy w4 v3.ownBlock → Below w2.heap.size w2 w4 ∧ SRow w4 v4 (gs ++ hs)) := fun v3 w3 v4 w4 ho3 hb3 ho4 hg4 => by
    exact ⟨hb3.grown hg4 hb3.size (fun k hk => (World.ownsRow.lt ho3 k hk).1), ho4.srow⟩
  go_wp2_with (first | (at_builtin; refine wpList_append_spans _ rfl (.tmp 17) (.tmp 18) rfl w2.heap.size (.slice (some ⟨w2.heap.size, 0, none⟩) 0 0) (.slice pg ng cg) [] gs rfl rfl HO.out HS3.out hl1 hsz1 ?_; intro v3 w3 ho3 hg3; obtain ⟨HO3, HB3, HSH3, hz3⟩ := K1.out v3 w3 ho3 hg3; clear ho3 hg3) | (at_builtin; refine wpList_append_spans _ rfl (.tmp 19) (.tmp 20) rfl w2.heap.size v3 (.slice ph nh ch) gs hs rfl rfl HO3.out HSH3.out hl2 hz3 ?_; intro v4 w4 ho4 hg4; obtain ⟨HB4, HS4⟩ := K2.out v3 w3 v4 w4 HO3.out HB3.out ho4 hg4; clear ho4 hg4))
  have hl4 : (gs ++ hs).length ≤ 100000 := by simp; omega
  refine (join24_s v4 (gs ++ hs) w4 hl4 HS4).mono ?_
  rintro e w5 ⟨pa, ca, na, ys, rfl, hna, HA, hb5⟩
  have z4 := Nat.lt_of_lt_of_le z2 HB4.size
  have a5 := (bc hb5 _ 0 z4).trans ((bc HB4 _ 0 z2).trans a2)
  have b5 := (bc hb5 _ 1 z4).trans ((bc HB4 _ 1 z2).trans b2)
  have z5 := Nat.lt_of_lt_of_le z4 hb5.size
  have t4 := HT2.out.below HB4 HT2.out.lt
  have t5 := hideP (t4.below hb5 t4.lt)
  have g4 := HSG2.out.below HB4 HSG2.out.lt
  have g5 := hideP (g4.below hb5 g4.lt)
  have h4 := HSH.out.below HB4 HSH.out.lt
  have h5 := hideP (h4.below hb5 h4.lt)
  have hbw4 := hbw2.trans (HB4.mono hbw2.size)
  have hbw5 := hbw4.trans (hb5.mono hbw4.size)
  have FG := gaps_facts HG2.out.1 HH2.out.1 HG2.out.2.1 HH2.out.2.1
  have HFG := hideP FG
  clear FG K1 K2 HO HS3 HO3 HB3 HSH3 hz3 HS4 HB4 a2 b2 z2 z4 t4 g4 h4 HT2 HSG2 HSH hbw2 hbw4 hb5 hl1 hl2 hsz1
  cases hr : rightB a b
  · obtain ⟨e1, e2⟩ := HFG.out.2.1 hr
    have ng0 : ng = 0 := by rw [HG2.out.2.2.2, e1]; rfl
    have nh0 : nh = 0 := by rw [HH2.out.2.2.2, e2]; rfl
    clear e1 e2
    subst ng0 nh0
    go_wp2_with (first | (go_at_call 12; refine (right12 _ _ _).mono ?_; rintro e w6 ⟨rfl, rfl⟩; rw [hr]) | (go_at_call 11; refine (live11 _).mono ?_; rintro e w7 ⟨rfl, hb7⟩))
    go_ret
    exact ⟨rfl, (below_alloc hbw5 _).trans (hb7.mono (by have := hbw5.size; simp; omega))⟩
  · obtain ⟨fl, fu⟩ := HFG.out.2.2 hr
    have ey : ys = [(a, b)] := fu ys HA.out.2.1 HA.out.2.2.1
    have na1 : na = 1 := by rw [HA.out.1, ey]; rfl
    have sA := HA.out.2.2.2
    rw [ey] at sA
    obtain ⟨pa', ca', hva, hfa⟩ := sA.form
    simp only [Value.slice.injEq] at hva
    obtain ⟨hpa, hq1, hq2⟩ := hva
    subst hpa
    obtain ⟨ba, oa, hpe, zba, xa, xb⟩ := hfa 0 (by simp)
    subst hpe
    simp at xa xb
    have hsub := HFG.out.1
    have HSUB : Hid (∀ p, Pt hs p → Has ts p) := fun p hp => ((hsub p).1 hp).2
    obtain ⟨r1, r2, r3⟩ := (rightB_iff _ _).1 hr
    have hlg := lenL_bd gs HG2.out.1.1 gs.length
    have hlh := lenL_bd hs HH2.out.1.1 hs.length
    rw [List.take_length] at hlg hlh
    have HC := hideP (And.intro HG2.out.1 HH2.out.1)
    have HNH := hideP HH2.out.2.2.2
    clear hq1 hq2 hfa sA ey fu HA HFG hsub HG2 HH2 hng hnh
    subst na1
    go_wp2_with (go_at_call 12; refine (right12 _ _ _).mono ?_; rintro e w6 ⟨rfl, rfl⟩; rw [hr])
    have a6 := (bc (below1 w5 (.cells #[.int .i64 a, .int .i64 b] 23)) _ 0 z5).trans a5
    have b6 := (bc (below1 w5 (.cells #[.int .i64 a, .int .i64 b] 23)) _ 1 z5).trans b5
    have xa6 := (bc (below1 w5 (.cells #[.int .i64 a, .int .i64 b] 23)) _ oa zba).trans xa
    have xb6 := (bc (below1 w5 (.cells #[.int .i64 a, .int .i64 b] 23)) _ (oa + 1) zba).trans xb
    have t6 := hideP (t5.out.below (below1 w5 (.cells #[.int .i64 a, .int .i64 b] 23)) t5.out.lt)
    have g6 := g5.out.below (below1 w5 (.cells #[.int .i64 a, .int .i64 b] 23)) g5.out.lt
    have h6 := hideP (h5.out.below (below1 w5 (.cells #[.int .i64 a, .int .i64 b] 23)) h5.out.lt)
    have hbw6 := below_alloc hbw5 (.cells #[.int .i64 a, .int .i64 b] 23)
    have z6 : w.heap.size < (w5.alloc (.cells #[.int .i64 a, .int .i64 b] 23)).heap.size := by simp; omega
    have zba6 : ba < (w5.alloc (.cells #[.int .i64 a, .int .i64 b] 23)).heap.size := by simp; omega
    clear a5 b5 xa xb t5 g5 h5 hbw5 z5 zba
    generalize w5.alloc (.cells #[.int .i64 a, .int .i64 b] 23) = W6 at *
    have hSG : Hid (SG w ba oa a b (.slice pg ng cg) (.slice ph nh ch) gs hs W6) := ⟨⟨xa6, xb6, a6, b6⟩, zba6, z6, g6, h6.out, hbw6⟩
    clear a6 b6 xa6 xb6 g6 z6 zba6 hbw6
    go_loopw [8] (fun i wr => ∃ k : Nat, k ≤ nh ∧ i = .int .i64 k ∧ Below W6.heap.size W6 wr) (fun i _ => nh - (intOf i).toNat)
    case atStart => exact ⟨0, Nat.zero_le _, rfl, Below.refl _ _⟩
    case round =>
      obtain ⟨k, hk, rfl, hnx⟩ := hrel
      have hsz := hnx.size
      by_cases hkn : k < nh
      · have hkh : k < hs.length := by have := HNH.out; omega
        obtain ⟨pq, cq, hvq, hfq⟩ := h6.out.form
        simp only [Value.slice.injEq] at hvq
        obtain ⟨hpq, hq1, hq2⟩ := hvq
        clear hq1 hq2
        subst hpq
        obtain ⟨bb, off, hpe, zbb, d1, d2⟩ := hfq k hkh
        subst hpe
        have c1 := (bc hnx bb (off + k * 2) zbb).trans d1
        have c2 := (bc hnx bb (off + k * 2 + 1) zbb).trans d2
        have rk := HC.out.2.1 _ (List.getElem_mem hkh)
        have ck : ∀ p, hs[k].1 ≤ p → p < hs[k].2 → Has ts p := fun p q1 q2 => HSUB.out p ⟨hs[k], List.getElem_mem hkh, q1, q2⟩
        obtain ⟨y1, hy1⟩ : ∃ y, hs[k].1 = y := ⟨_, rfl⟩
        obtain ⟨y2, hy2⟩ : ∃ y, hs[k].2 = y := ⟨_, rfl⟩
        rw [hy1] at c1 rk ck
        rw [hy2] at c2 rk ck
        have tk := t6.out.below hnx t6.out.lt
        have HCO := hideP (covers28 (.slice p1 m cap1) ts y1 y2 wr (by omega) tk)
        have HCK := hideP (And.intro rk ck)
        clear hfq d1 d2 hy1 hy2 rk ck tk
        go_wp2_with fail
        refine HCO.out.mono ?_
        rintro e w7 ⟨r, rfl, hr7, hb7⟩
        have hrt : r = true := hr7.2 HCK.out
        subst hrt
        clear hr7
        go_wp2
        go_roundw
        case rel => exact ⟨k + 1, by omega, by go_num, hnx.trans (hb7.mono hsz)⟩
        case measure => simp [intOf]; omega
      · obtain ⟨cG, hcG⟩ : ∃ c, lenL gs = c := ⟨_, rfl⟩
        obtain ⟨cH, hcH⟩ : ∃ c, lenL hs = c := ⟨_, rfl⟩
        have kg := fun W hW => kG30 (w := w) (ba := ba) (oa := oa) (a := a) (b := b) (vg := .slice pg ng cg) (vh := .slice ph nh ch) (gs := gs) (hs := hs) W hW (by omega) HC.out.1
        have kh := fun W hW => kH30 (w := w) (ba := ba) (oa := oa) (a := a) (b := b) (vg := .slice pg ng cg) (vh := .slice ph nh ch) (gs := gs) (hs := hs) W hW (by omega) HC.out.2
        rw [hcG] at fl hlg kg
        rw [hcH] at fl hlh kh
        have g1 : 0 ≤ cG ∧ cG ≤ 100000 := by omega
        have g2 : 0 ≤ cH ∧ cH ≤ 100000 := by omega
        obtain ⟨g1, g1'⟩ := g1
        obtain ⟨g2, g2'⟩ := g2
        have KG := hideP kg
        have KH := hideP kh
        have hk : SG w ba oa a b (.slice pg ng cg) (.slice ph nh ch) gs hs wr.drew := (hSG.out.step hnx).step (Below.refl _ _).drew
        obtain ⟨⟨f1, f2, f3, f4⟩, _⟩ := hSG.out.step hnx
        clear kg kh hcG hcH hlg hlh HNH t6 h6 HSUB HC lens hlt hm30
        go_wp2_with fail
        go_region_held3 (fun w' => w'.cell? ⟨ba, oa, none⟩ = some (.int .i64 a) ∧ w'.cell? ⟨ba, oa + 1, none⟩ = some (.int .i64 b) ∧ w'.cell? ⟨w.heap.size, 0, none⟩ = some (.int .i64 a) ∧ w'.cell? ⟨w.heap.size, 1, none⟩ = some (.int .i64 b)) (exact hk.1)
          (first
          | (go_at_call 11; refine (kG11 _ hk).mono ?_; rintro e wk ⟨rfl, hk⟩)
          | (go_at_call_of 30 (Value.slice pg ng cg); refine (KG.out _ hk).mono ?_; rintro e wk ⟨rfl, hk⟩)
          | (go_at_call_of 30 (Value.slice ph nh ch); refine (KH.out _ hk).mono ?_; rintro e wk ⟨rfl, hk⟩))
        go_wp2
        go_ret
        exact ⟨rfl, hk.2.2.2.2.2⟩

end Go.Proofs.Ytgkkknjkgpdcjaa
