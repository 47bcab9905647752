/- SpanCuts: the law's walk: it answers true, and turns no old memory. -/
import Derived.Test.YtgkkknjkgpdcjaaRefcut
namespace Go.Proofs.Ytgkkknjkgpdcjaa
open Go.RowKit

/-- a world of which S is known -/
structure GW (S : World → Prop) where
  w : World
  h : S w

/-- a region that draws its order, whose operations only read, and whose callees keep S -/
theorem wp_region_gw {id : Nat} {Q : Exit → Act → World → Prop} {a : Act} {w : World} {l : List Oper} (S : World → Prop) (hB : Region.lexB .any l.toArray = true) (hS : S w.drew)
    (h : wpQuiet Try.prog l.toArray (fun w' => ∃ p : GW S, w' = p.w) (fun a' => ∀ w', (∃ p : GW S, w' = p.w) → Q .normal a' w') l a) : (Code.region id l.toArray true).wp Try.prog Q a w :=
  wp_region_quiet (C := fun w' => ∃ p : GW S, w' = p.w) mixedTry hB ⟨⟨_, hS⟩, rfl⟩ (by simpa using h)
theorem calls_gw {S : World → Prop} {f : FuncId} {args : Array Value} {v : Value} (p : GW S) (h : Calls Try.prog f args p.w fun e w' => e = .returned v ∧ S w') : Calls Try.prog f args p.w fun e w'' => e = .returned v ∧ ∃ p' : GW S, w'' = p'.w :=
  h.mono fun _ _ ⟨he, hs⟩ => ⟨he, ⟨_, hs⟩, rfl⟩

theorem join24_s' (v : Value) (xs : List (Int × Int)) (w : World) (hl : xs.length ≤ 100000) (h : SRow w v xs) :
    Calls Try.prog 24 #[v] w fun e w' => ∃ p cap n ys, e = .returned (.slice p n cap) ∧ n ≤ 100000 ∧ Hid (n = ys.length ∧ Canon ys ∧ (∀ p, Pt ys p ↔ Has xs p) ∧ SRow w' (.slice p n cap) ys) ∧ Below w.heap.size w w' := by
  refine (join24 v xs w hl h).mono ?_
  rintro e w1 ⟨v1, ys, rfl, hc, hp, hlen, ho, hb1⟩
  have hs := ho.srow
  obtain ⟨p, cap, rfl, hf⟩ := ho.srow.form
  exact ⟨p, cap, _, ys, rfl, by omega, ⟨rfl, hc, hp, hs⟩, hb1⟩

theorem cut34_s (v : Value) (zs : List Int) (a b : Int) (w : World) (hl : zs.length ≤ 50000) (h : IRow w v zs) :
    Calls Try.prog 34 #[.agg #[.int .i64 a, .int .i64 b], v] w fun e w' => ∃ p cap n l, e = .returned (.slice p n cap) ∧ n ≤ zs.length + 1 ∧ Hid (n = l.length ∧ CutIs a b zs l ∧ SRow w' (.slice p n cap) l) ∧ Below w.heap.size w w' := by
  refine (cut34 v zs a b w hl h).mono ?_
  rintro e w1 ⟨v1, l, rfl, hc, hlen, ho, hb1⟩
  have hs := ho.srow
  obtain ⟨p, cap, rfl, hf⟩ := ho.srow.form
  exact ⟨p, cap, _, l, rfl, hlen, ⟨rfl, hc, hs⟩, hb1⟩

/-- what is known of a list that is cut -/
theorem cut_facts {a b : Int} {zs : List Int} {l : List (Int × Int)} (h : CutIs a b zs l) :
    (∀ x, x ∈ l → rightB x.1 x.2 = true) ∧ (∀ j, (hj : j + 1 < l.length) → meetB l[j].1 l[j].2 l[j + 1].1 l[j + 1].2 = true) ∧ (rightB a b = false → l = []) ∧
    (rightB a b = true → ∀ ys, Canon ys → (∀ p, Pt ys p ↔ Has l p) → ys = [(a, b)]) := by
  rcases h with ⟨h1, h2⟩ | ⟨h1, h2, h3⟩
  · subst h2
    exact ⟨by simp, fun j hj => by simp at hj, fun _ => rfl, fun h => by rw [h1] at h; simp at h⟩
  · obtain ⟨r1, r2, r3⟩ := (rightB_iff _ _).1 h1
    have hm : ∀ x, x ∈ l → rightB x.1 x.2 = true := fun x hx => by
      have := chn_mem l a b h2 x hx
      rw [rightB_iff]; omega
    refine ⟨hm, fun j hj => ?_, fun h => by rw [h1] at h; simp at h, fun _ ys hc hp => ?_⟩
    · have e := chn_step l a b h2 j hj
      have q1 := hm _ (List.getElem_mem (show j < l.length by omega))
      have q2 := hm _ (List.getElem_mem hj)
      unfold meetB
      rw [q1, q2]
      simp [e]
    · have e : rights l = l := by unfold rights; rw [List.filter_eq_self]; exact hm
      refine canon_unique _ _ hc ⟨by simpa using h1, by simp⟩ (fun p => ?_)
      rw [hp]
      unfold Has
      rw [e, chn_pt l a b h2, pt_cons]
      simp [pt_nil]

/-- in a round: two neighbours -/
def S9 (w1 : World) (bb o1 o2 : Nat) (y1 y2 y3 y4 : Int) (W : World) : Prop :=
  (W.cell? ⟨bb, o1, none⟩ = some (.int .i64 y1) ∧ W.cell? ⟨bb, o1 + 1, none⟩ = some (.int .i64 y2) ∧ W.cell? ⟨bb, o2, none⟩ = some (.int .i64 y3) ∧ W.cell? ⟨bb, o2 + 1, none⟩ = some (.int .i64 y4)) ∧ bb < W.heap.size ∧ w1.heap.size ≤ W.heap.size ∧ Below w1.heap.size w1 W
theorem S9.step {w1 W W' : World} {bb o1 o2 : Nat} {y1 y2 y3 y4 : Int} (h : S9 w1 bb o1 o2 y1 y2 y3 y4 W) (hb : Below W.heap.size W W') : S9 w1 bb o1 o2 y1 y2 y3 y4 W' := by
  obtain ⟨⟨h1, h2, h3, h4⟩, h5, h6, h7⟩ := h
  have hs := hb.size
  exact ⟨⟨(bc hb _ _ h5).trans h1, (bc hb _ _ h5).trans h2, (bc hb _ _ h5).trans h3, (bc hb _ _ h5).trans h4⟩, by omega, by omega, h7.trans (hb.mono h6)⟩
theorem k918 {w1 : World} {bb o1 o2 : Nat} {y1 y2 y3 y4 : Int} (W : World) (h : S9 w1 bb o1 o2 y1 y2 y3 y4 W) : Calls Try.prog 18 #[.agg #[.int .i64 y1, .int .i64 y2], .agg #[.int .i64 y3, .int .i64 y4]] W fun e w' => e = .returned (.bool (meetB y1 y2 y3 y4)) ∧ S9 w1 bb o1 o2 y1 y2 y3 y4 w' :=
  (meet18 y1 y2 y3 y4 W).mono fun _ _ ⟨he, hb⟩ => ⟨he, h.step hb⟩
/-- at the end: the span's box, and maybe one of the joined -/
def S10 (w : World) (bb o1 : Nat) (x y a b : Int) (W : World) : Prop :=
  (W.cell? ⟨bb, o1, none⟩ = some (.int .i64 x) ∧ W.cell? ⟨bb, o1 + 1, none⟩ = some (.int .i64 y) ∧ W.cell? ⟨w.heap.size, 0, none⟩ = some (.int .i64 a) ∧ W.cell? ⟨w.heap.size, 1, none⟩ = some (.int .i64 b)) ∧ bb < W.heap.size ∧ w.heap.size < W.heap.size ∧ Below w.heap.size w W
theorem S10.step {w W W' : World} {bb o1 : Nat} {x y a b : Int} (h : S10 w bb o1 x y a b W) (hb : Below W.heap.size W W') : S10 w bb o1 x y a b W' := by
  obtain ⟨⟨h1, h2, h3, h4⟩, h5, h6, h7⟩ := h
  have hs := hb.size
  exact ⟨⟨(bc hb _ _ h5).trans h1, (bc hb _ _ h5).trans h2, (bc hb _ _ h6).trans h3, (bc hb _ _ h6).trans h4⟩, by omega, by omega, h7.trans (hb.mono (by omega))⟩
theorem k1011 {w : World} {bb o1 : Nat} {x y a b : Int} (W : World) (h : S10 w bb o1 x y a b W) : Calls Try.prog 11 #[] W fun e w' => e = .returned (.bool true) ∧ S10 w bb o1 x y a b w' :=
  (live11 W).mono fun _ _ ⟨he, hb⟩ => ⟨he, h.step hb⟩
theorem k1012 {w : World} {bb o1 : Nat} {x y a b : Int} {r : Bool} (hr : rightB a b = r) (W : World) (h : S10 w bb o1 x y a b W) : Calls Try.prog 12 #[.agg #[.int .i64 a, .int .i64 b]] W fun e w' => e = .returned (.bool r) ∧ S10 w bb o1 x y a b w' :=
  (right12 a b W).mono fun _ _ ⟨he, hb⟩ => ⟨by rw [he, hr], h.step (by rw [hb]; exact below1 _ _)⟩

set_option maxHeartbeats 1000000 in
theorem spanCuts5_long (bb0 off0 cap n : Nat) (ts : List Int) (a b : Int) (w : World) (hT : IRow (w.alloc (.cells #[.int .i64 a, .int .i64 b] 23)) (.slice (some ⟨bb0, off0, none⟩) 30 cap) ts) (h30 : 30 < n) (hm : n ≤ 9223372036854775807) (hcap : 30 ≤ cap) (hlt2 : ts.length ≤ 30) :
    Calls Try.prog 5 #[.agg #[.int .i64 a, .int .i64 b], .slice (some ⟨bb0, off0, none⟩) n cap] w fun e w' => e = .returned (.bool true) ∧ Below w.heap.size w w' := by
  have HT := hideP' hT
  clear hT
  go_enter Try.func5, Try.ntmps5
  go_wp2_with fail
  have a0 := (box1 w a b).1
  have b0 := (box1 w a b).2
  have z0 : w.heap.size < (w.alloc (.cells #[.int .i64 a, .int .i64 b] 23)).heap.size := by simp
  have hbw : Below w.heap.size w (w.alloc (.cells #[.int .i64 a, .int .i64 b] 23)) := below1 _ _
  generalize w.alloc (.cells #[.int .i64 a, .int .i64 b] 23) = W0 at *
  refine (cut34_s _ ts a b W0 (by omega) HT.out).mono ?_
  rintro e w1 ⟨pl, cl, nl, l, rfl, hnl, HL, hb1⟩
  have a1 := (bc hb1 _ 0 z0).trans a0
  have b1 := (bc hb1 _ 1 z0).trans b0
  have z1 := Nat.lt_of_lt_of_le z0 hb1.size
  have HT1 := hideP' (HT.out.below hb1 HT.out.lt)
  have hbw1 := hbw.trans (hb1.mono hbw.size)
  clear a0 b0 HT hb1 hbw z0
  obtain ⟨hnll, hcut, sl⟩ := HL.out
  have HC := hideP' (And.intro hnll hcut)
  have HSL := hideP' sl
  clear HL hnll hcut sl
  go_wp2_with fail
  refine (cut35 _ ts a b w1 (by omega) HT1.out).mono ?_
  rintro e w2 ⟨v2, m, rfl, hcm, hom, hb2⟩
  have hml : m = l := CutIs.same hcm HC.out.2
  rw [hml] at hom
  have a2 := (bc hb2 _ 0 z1).trans a1
  have b2 := (bc hb2 _ 1 z1).trans b1
  have z2 := Nat.lt_of_lt_of_le z1 hb2.size
  have HSL2 := hideP' (HSL.out.below hb2 HSL.out.lt)
  have HSM := hideP' hom.srow
  have hbw2 := hbw1.trans (hb2.mono hbw1.size)
  have hll : l.length ≤ 31 := by have := HC.out.1; omega
  clear a1 b1 z1 HT1 hbw1 hb2 HSL hcm hom hml
  go_wp2_with fail
  refine (same21 _ _ l w2 (by omega) HSL2.out HSM.out).mono ?_
  rintro e w3 ⟨rfl, q3, rfl⟩
  have FACT := cut_facts HC.out.2
  have HMT := hideP' FACT.2.1
  have HNO := hideP' FACT.2.2.1
  have HYES := hideP' FACT.2.2.2
  have HNL := hideP' HC.out.1
  clear FACT HC HSM
  go_wp2_with fail
  obtain ⟨pq, cq, hvq, hfq⟩ := HSL2.out.form
  simp only [Value.slice.injEq] at hvq
  obtain ⟨hpq, hx1, hx2⟩ := hvq
  clear hx1 hx2
  subst hpq
  have HFQ := hideP' hfq
  clear hfq
  go_loopw [6] (fun i wr => ∃ j : Nat, i = .int .i64 ((j : Int) + 1) ∧ j ≤ nl ∧ Below w2.heap.size w2 wr) (fun i _ => nl - (intOf i).toNat)
  case atStart => exact ⟨0, rfl, Nat.zero_le _, below_drewN (Below.refl _ _) q3⟩
  case round =>
    obtain ⟨j, rfl, hjn, hnx⟩ := hrel
    have hsz := hnx.size
    by_cases hlt : j + 1 < nl
    · have hjl : j + 1 < l.length := by have := HNL.out; omega
      obtain ⟨bb, off, hpe, hbl, d1, d2⟩ := HFQ.out j (by omega)
      obtain ⟨bb', off', hpe', _, d3, d4⟩ := HFQ.out (j + 1) hjl
      subst hpe
      cases hpe'
      have hmt := HMT.out j hjl
      obtain ⟨y1, hy1⟩ : ∃ y, l[j].1 = y := ⟨_, rfl⟩
      obtain ⟨y2, hy2⟩ : ∃ y, l[j].2 = y := ⟨_, rfl⟩
      obtain ⟨y3, hy3⟩ : ∃ y, l[j + 1].1 = y := ⟨_, rfl⟩
      obtain ⟨y4, hy4⟩ : ∃ y, l[j + 1].2 = y := ⟨_, rfl⟩
      rw [hy1] at d1 hmt
      rw [hy2] at d2 hmt
      rw [hy3] at d3 hmt
      rw [hy4] at d4 hmt
      have hk : S9 w2 bb (off + j * 2) (off + (j + 1) * 2) y1 y2 y3 y4 wr.drew := ⟨⟨(bc hnx _ _ hbl).trans d1, (bc hnx _ _ hbl).trans d2, (bc hnx _ _ hbl).trans d3, (bc hnx _ _ hbl).trans d4⟩, Nat.lt_of_lt_of_le hbl hsz, hsz, hnx.drew⟩
      have hlt' : (j : Int) + 1 < nl := by omega
      have hb1 : (j : Int) < nl := by omega
      have hb2 : j < nl := by omega
      have hb3 : (0 : Int) ≤ (j : Int) + 1 := by omega
      have hb4 : (0 : Int) ≤ (j : Int) := by omega
      have hb5 : ((j : Int) + 1).toNat = j + 1 := by omega
      have hwr : IntKind.i64.wrap (j : Int) = j := by simp [IntKind.wrap, IntKind.bits, IntKind.signed]; omega
      clear d1 d2 d3 d4 hy1 hy2 hy3 hy4 HMT HNO HYES
      go_wp2_with fail
      have Q18' := hideP' (fun W (h : S9 w2 bb (off + j * 2) (off + (j + 1) * 2) y1 y2 y3 y4 W) => k918 W h)
      go_region_held3 (fun w' => w'.cell? ⟨bb, off + j * 2, none⟩ = some (.int .i64 y1) ∧ w'.cell? ⟨bb, off + j * 2 + 1, none⟩ = some (.int .i64 y2) ∧ w'.cell? ⟨bb, off + (j + 1) * 2, none⟩ = some (.int .i64 y3) ∧ w'.cell? ⟨bb, off + (j + 1) * 2 + 1, none⟩ = some (.int .i64 y4)) (exact hk.1)
        (first
        | (go_at_call 18; refine (Q18'.out _ hk).mono ?_; rintro e wk ⟨rfl, hk⟩))
      go_wp2
      go_roundw
      case rel => exact ⟨j + 1, by go_num, by omega, hk.2.2.2⟩
      case measure => simp [intOf]; omega
    · have sl3 := HSL2.out.below hnx HSL2.out.lt
      have a3 := (bc hnx _ 0 z2).trans a2
      have b3 := (bc hnx _ 1 z2).trans b2
      have z3 := Nat.lt_of_lt_of_le z2 hsz
      have hbw3 := hbw2.trans (hnx.mono hbw2.size)
      have HJ := hideP' (join24_s' _ l wr (by omega) sl3)
      clear sl3 a2 b2 z2 hbw2 HSL2 HFQ HMT
      go_wp2_with fail
      refine HJ.out.mono ?_
      rintro e w4 ⟨pa, ca, na, ys, rfl, hna, HA, hb4⟩
      have a4 := (bc hb4 _ 0 z3).trans a3
      have b4 := (bc hb4 _ 1 z3).trans b3
      have z4 := Nat.lt_of_lt_of_le z3 hb4.size
      have hbw4 := hbw3.trans (hb4.mono hbw3.size)
      clear a3 b3 z3 hbw3 hb4 HJ hnx hsz
      cases hr : rightB a b
      · have el := HNO.out hr
        have nl0 : nl = 0 := by rw [HNL.out, el]; rfl
        have hk : S10 w w.heap.size 0 a b a b w4.drew := ⟨⟨a4, b4, a4, b4⟩, z4, z4, hbw4.drew⟩
        have s3 := fun p : GW (S10 w w.heap.size 0 a b a b) => p.h.1.2.2.1
        have s4 := fun p : GW (S10 w w.heap.size 0 a b a b) => p.h.1.2.2.2
        have inh : Nonempty (GW (S10 w w.heap.size 0 a b a b)) := ⟨⟨_, hk⟩⟩
        have Q11 := hideP' (fun p : GW (S10 w w.heap.size 0 a b a b) => calls_gw p (k1011 p.w p.h))
        have Q12 := hideP' (fun p : GW (S10 w w.heap.size 0 a b a b) => calls_gw p (k1012 hr p.w p.h))
        clear el HNO HYES HNL HA a4 b4
        subst nl0
        go_wp2_with fail
        refine wp_region_gw (S10 w w.heap.size 0 a b a b) (by kernel_rfl) hk ?_
        repeat (go_big_quiet_step (first | (go_at_call 11; exact Q11.out _) | (go_at_call 12; exact Q12.out _)))
        refine wpQuiet_nil ?_
        intro _ hw'
        obtain ⟨⟨wq, hq⟩, hw''⟩ := hw'
        subst hw''
        go_wp2
        go_ret
        exact ⟨rfl, hq.2.2.2⟩
      · have ey := HYES.out hr ys HA.out.2.1 HA.out.2.2.1
        have na1 : na = 1 := by rw [HA.out.1, ey]; rfl
        have sA := HA.out.2.2.2
        rw [ey] at sA
        obtain ⟨pa', ca', hva, hfa⟩ := sA.form
        simp only [Value.slice.injEq] at hva
        obtain ⟨hpa, hx1, hx2⟩ := hva
        clear hx1 hx2
        subst hpa
        obtain ⟨ba, oa, hpe, zba, xa, xb⟩ := hfa 0 (by simp)
        subst hpe
        simp at xa xb
        have hk : S10 w ba oa a b a b w4.drew := ⟨⟨xa, xb, a4, b4⟩, zba, z4, hbw4.drew⟩
        have s1 := fun p : GW (S10 w ba oa a b a b) => p.h.1.1
        have s2 := fun p : GW (S10 w ba oa a b a b) => p.h.1.2.1
        have s3 := fun p : GW (S10 w ba oa a b a b) => p.h.1.2.2.1
        have s4 := fun p : GW (S10 w ba oa a b a b) => p.h.1.2.2.2
        have inh : Nonempty (GW (S10 w ba oa a b a b)) := ⟨⟨_, hk⟩⟩
        have Q11 := hideP' (fun p : GW (S10 w ba oa a b a b) => calls_gw p (k1011 p.w p.h))
        have Q12 := hideP' (fun p : GW (S10 w ba oa a b a b) => calls_gw p (k1012 hr p.w p.h))
        clear ey HNO HYES HNL HA a4 b4 sA hfa xa xb
        subst na1
        go_wp2_with fail
        refine wp_region_gw (S10 w ba oa a b a b) (by kernel_rfl) hk ?_
        repeat (go_big_quiet_step (first | (go_at_call 11; exact Q11.out _) | (go_at_call 12; exact Q12.out _)))
        refine wpQuiet_nil ?_
        intro _ hw'
        obtain ⟨⟨wq, hq⟩, hw''⟩ := hw'
        subst hw''
        go_wp2
        go_ret
        exact ⟨rfl, hq.2.2.2⟩

set_option maxHeartbeats 1000000 in
theorem spanCuts5_short (pv : Option Addr) (cv n : Nat) (ts : List Int) (a b : Int) (w : World) (hT : IRow (w.alloc (.cells #[.int .i64 a, .int .i64 b] 23)) (.slice pv n cv) ts) (hn : n ≤ 30) (hlt2 : ts.length ≤ 30) :
    Calls Try.prog 5 #[.agg #[.int .i64 a, .int .i64 b], .slice pv n cv] w fun e w' => e = .returned (.bool true) ∧ Below w.heap.size w w' := by
  have HT := hideP' hT
  clear hT
  go_enter Try.func5, Try.ntmps5
  go_wp2_with fail
  have a0 := (box1 w a b).1
  have b0 := (box1 w a b).2
  have z0 : w.heap.size < (w.alloc (.cells #[.int .i64 a, .int .i64 b] 23)).heap.size := by simp
  have hbw : Below w.heap.size w (w.alloc (.cells #[.int .i64 a, .int .i64 b] 23)) := below1 _ _
  generalize w.alloc (.cells #[.int .i64 a, .int .i64 b] 23) = W0 at *
  refine (cut34_s _ ts a b W0 (by omega) HT.out).mono ?_
  rintro e w1 ⟨pl, cl, nl, l, rfl, hnl, HL, hb1⟩
  have a1 := (bc hb1 _ 0 z0).trans a0
  have b1 := (bc hb1 _ 1 z0).trans b0
  have z1 := Nat.lt_of_lt_of_le z0 hb1.size
  have HT1 := hideP' (HT.out.below hb1 HT.out.lt)
  have hbw1 := hbw.trans (hb1.mono hbw.size)
  clear a0 b0 HT hb1 hbw z0
  obtain ⟨hnll, hcut, sl⟩ := HL.out
  have HC := hideP' (And.intro hnll hcut)
  have HSL := hideP' sl
  clear HL hnll hcut sl
  go_wp2_with fail
  refine (cut35 _ ts a b w1 (by omega) HT1.out).mono ?_
  rintro e w2 ⟨v2, m, rfl, hcm, hom, hb2⟩
  have hml : m = l := CutIs.same hcm HC.out.2
  rw [hml] at hom
  have a2 := (bc hb2 _ 0 z1).trans a1
  have b2 := (bc hb2 _ 1 z1).trans b1
  have z2 := Nat.lt_of_lt_of_le z1 hb2.size
  have HSL2 := hideP' (HSL.out.below hb2 HSL.out.lt)
  have HSM := hideP' hom.srow
  have hbw2 := hbw1.trans (hb2.mono hbw1.size)
  have hll : l.length ≤ 31 := by have := HC.out.1; omega
  clear a1 b1 z1 HT1 hbw1 hb2 HSL hcm hom hml
  go_wp2_with fail
  refine (same21 _ _ l w2 (by omega) HSL2.out HSM.out).mono ?_
  rintro e w3 ⟨rfl, q3, rfl⟩
  have FACT := cut_facts HC.out.2
  have HMT := hideP' FACT.2.1
  have HNO := hideP' FACT.2.2.1
  have HYES := hideP' FACT.2.2.2
  have HNL := hideP' HC.out.1
  clear FACT HC HSM
  go_wp2_with fail
  obtain ⟨pq, cq, hvq, hfq⟩ := HSL2.out.form
  simp only [Value.slice.injEq] at hvq
  obtain ⟨hpq, hx1, hx2⟩ := hvq
  clear hx1 hx2
  subst hpq
  have HFQ := hideP' hfq
  clear hfq
  go_loopw [6] (fun i wr => ∃ j : Nat, i = .int .i64 ((j : Int) + 1) ∧ j ≤ nl ∧ Below w2.heap.size w2 wr) (fun i _ => nl - (intOf i).toNat)
  case atStart => exact ⟨0, rfl, Nat.zero_le _, below_drewN (Below.refl _ _) q3⟩
  case round =>
    obtain ⟨j, rfl, hjn, hnx⟩ := hrel
    have hsz := hnx.size
    by_cases hlt : j + 1 < nl
    · have hjl : j + 1 < l.length := by have := HNL.out; omega
      obtain ⟨bb, off, hpe, hbl, d1, d2⟩ := HFQ.out j (by omega)
      obtain ⟨bb', off', hpe', _, d3, d4⟩ := HFQ.out (j + 1) hjl
      subst hpe
      cases hpe'
      have hmt := HMT.out j hjl
      obtain ⟨y1, hy1⟩ : ∃ y, l[j].1 = y := ⟨_, rfl⟩
      obtain ⟨y2, hy2⟩ : ∃ y, l[j].2 = y := ⟨_, rfl⟩
      obtain ⟨y3, hy3⟩ : ∃ y, l[j + 1].1 = y := ⟨_, rfl⟩
      obtain ⟨y4, hy4⟩ : ∃ y, l[j + 1].2 = y := ⟨_, rfl⟩
      rw [hy1] at d1 hmt
      rw [hy2] at d2 hmt
      rw [hy3] at d3 hmt
      rw [hy4] at d4 hmt
      have hk : S9 w2 bb (off + j * 2) (off + (j + 1) * 2) y1 y2 y3 y4 wr.drew := ⟨⟨(bc hnx _ _ hbl).trans d1, (bc hnx _ _ hbl).trans d2, (bc hnx _ _ hbl).trans d3, (bc hnx _ _ hbl).trans d4⟩, Nat.lt_of_lt_of_le hbl hsz, hsz, hnx.drew⟩
      have hlt' : (j : Int) + 1 < nl := by omega
      have hb1 : (j : Int) < nl := by omega
      have hb2 : j < nl := by omega
      have hb3 : (0 : Int) ≤ (j : Int) + 1 := by omega
      have hb4 : (0 : Int) ≤ (j : Int) := by omega
      have hb5 : ((j : Int) + 1).toNat = j + 1 := by omega
      have hwr : IntKind.i64.wrap (j : Int) = j := by simp [IntKind.wrap, IntKind.bits, IntKind.signed]; omega
      clear d1 d2 d3 d4 hy1 hy2 hy3 hy4 HMT HNO HYES
      go_wp2_with fail
      have Q18' := hideP' (fun W (h : S9 w2 bb (off + j * 2) (off + (j + 1) * 2) y1 y2 y3 y4 W) => k918 W h)
      go_region_held3 (fun w' => w'.cell? ⟨bb, off + j * 2, none⟩ = some (.int .i64 y1) ∧ w'.cell? ⟨bb, off + j * 2 + 1, none⟩ = some (.int .i64 y2) ∧ w'.cell? ⟨bb, off + (j + 1) * 2, none⟩ = some (.int .i64 y3) ∧ w'.cell? ⟨bb, off + (j + 1) * 2 + 1, none⟩ = some (.int .i64 y4)) (exact hk.1)
        (first
        | (go_at_call 18; refine (Q18'.out _ hk).mono ?_; rintro e wk ⟨rfl, hk⟩))
      go_wp2
      go_roundw
      case rel => exact ⟨j + 1, by go_num, by omega, hk.2.2.2⟩
      case measure => simp [intOf]; omega
    · have sl3 := HSL2.out.below hnx HSL2.out.lt
      have a3 := (bc hnx _ 0 z2).trans a2
      have b3 := (bc hnx _ 1 z2).trans b2
      have z3 := Nat.lt_of_lt_of_le z2 hsz
      have hbw3 := hbw2.trans (hnx.mono hbw2.size)
      have HJ := hideP' (join24_s' _ l wr (by omega) sl3)
      clear sl3 a2 b2 z2 hbw2 HSL2 HFQ HMT
      go_wp2_with fail
      refine HJ.out.mono ?_
      rintro e w4 ⟨pa, ca, na, ys, rfl, hna, HA, hb4⟩
      have a4 := (bc hb4 _ 0 z3).trans a3
      have b4 := (bc hb4 _ 1 z3).trans b3
      have z4 := Nat.lt_of_lt_of_le z3 hb4.size
      have hbw4 := hbw3.trans (hb4.mono hbw3.size)
      clear a3 b3 z3 hbw3 hb4 HJ hnx hsz
      cases hr : rightB a b
      · have el := HNO.out hr
        have nl0 : nl = 0 := by rw [HNL.out, el]; rfl
        have hk : S10 w w.heap.size 0 a b a b w4.drew := ⟨⟨a4, b4, a4, b4⟩, z4, z4, hbw4.drew⟩
        have s3 := fun p : GW (S10 w w.heap.size 0 a b a b) => p.h.1.2.2.1
        have s4 := fun p : GW (S10 w w.heap.size 0 a b a b) => p.h.1.2.2.2
        have inh : Nonempty (GW (S10 w w.heap.size 0 a b a b)) := ⟨⟨_, hk⟩⟩
        have Q11 := hideP' (fun p : GW (S10 w w.heap.size 0 a b a b) => calls_gw p (k1011 p.w p.h))
        have Q12 := hideP' (fun p : GW (S10 w w.heap.size 0 a b a b) => calls_gw p (k1012 hr p.w p.h))
        clear el HNO HYES HNL HA a4 b4
        subst nl0
        go_wp2_with fail
        refine wp_region_gw (S10 w w.heap.size 0 a b a b) (by kernel_rfl) hk ?_
        repeat (go_big_quiet_step (first | (go_at_call 11; exact Q11.out _) | (go_at_call 12; exact Q12.out _)))
        refine wpQuiet_nil ?_
        intro _ hw'
        obtain ⟨⟨wq, hq⟩, hw''⟩ := hw'
        subst hw''
        go_wp2
        go_ret
        exact ⟨rfl, hq.2.2.2⟩
      · have ey := HYES.out hr ys HA.out.2.1 HA.out.2.2.1
        have na1 : na = 1 := by rw [HA.out.1, ey]; rfl
        have sA := HA.out.2.2.2
        rw [ey] at sA
        obtain ⟨pa', ca', hva, hfa⟩ := sA.form
        simp only [Value.slice.injEq] at hva
        obtain ⟨hpa, hx1, hx2⟩ := hva
        clear hx1 hx2
        subst hpa
        obtain ⟨ba, oa, hpe, zba, xa, xb⟩ := hfa 0 (by simp)
        subst hpe
        simp at xa xb
        have hk : S10 w ba oa a b a b w4.drew := ⟨⟨xa, xb, a4, b4⟩, zba, z4, hbw4.drew⟩
        have s1 := fun p : GW (S10 w ba oa a b a b) => p.h.1.1
        have s2 := fun p : GW (S10 w ba oa a b a b) => p.h.1.2.1
        have s3 := fun p : GW (S10 w ba oa a b a b) => p.h.1.2.2.1
        have s4 := fun p : GW (S10 w ba oa a b a b) => p.h.1.2.2.2
        have inh : Nonempty (GW (S10 w ba oa a b a b)) := ⟨⟨_, hk⟩⟩
        have Q11 := hideP' (fun p : GW (S10 w ba oa a b a b) => calls_gw p (k1011 p.w p.h))
        have Q12 := hideP' (fun p : GW (S10 w ba oa a b a b) => calls_gw p (k1012 hr p.w p.h))
        clear ey HNO HYES HNL HA a4 b4 sA hfa xa xb
        subst na1
        go_wp2_with fail
        refine wp_region_gw (S10 w ba oa a b a b) (by kernel_rfl) hk ?_
        repeat (go_big_quiet_step (first | (go_at_call 11; exact Q11.out _) | (go_at_call 12; exact Q12.out _)))
        refine wpQuiet_nil ?_
        intro _ hw'
        obtain ⟨⟨wq, hq⟩, hw''⟩ := hw'
        subst hw''
        go_wp2
        go_ret
        exact ⟨rfl, hq.2.2.2⟩

theorem spanCuts5 (v : Value) (zs : List Int) (a b : Int) (w : World) (h : IRow w v zs) (hm : zs.length ≤ maxLen) :
    Calls Try.prog 5 #[.agg #[.int .i64 a, .int .i64 b], v] w fun e w' => e = .returned (.bool true) ∧ Below w.heap.size w w' := by
  unfold maxLen at hm
  have hW : IRow (w.alloc (.cells #[.int .i64 a, .int .i64 b] 23)) v zs := h.below (below1 w _) h.lt
  by_cases h30 : 30 < zs.length
  · rcases hW with ⟨_, h0⟩ | ⟨bb0, off0, cap, hv, h1, h2, h3, h4⟩
    · rw [h0] at h30; simp at h30
    · have hlt : (zs.take 30).length = 30 := by simp; omega
      rw [hv]
      refine spanCuts5_long bb0 off0 cap zs.length (zs.take 30) a b w (.inr ⟨bb0, off0, cap, by rw [hlt], by omega, h2, h3, fun i hi => ?_⟩) h30 (by omega) (by omega) (by omega)
      have := h4 i (by omega)
      rw [List.getElem_take]
      exact this
  · obtain ⟨pv, cv, hv, _⟩ := hW.form
    rw [hv] at hW ⊢
    exact spanCuts5_short pv cv zs.length zs a b w hW (by omega) (by omega)

end Go.Proofs.Ytgkkknjkgpdcjaa
