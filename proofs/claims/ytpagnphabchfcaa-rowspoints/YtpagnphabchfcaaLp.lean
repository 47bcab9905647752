/- The law RowsPoints. -/
import Derived.Test.YtpagnphabchfcaaLo
import Derived.Test.YtpagnphabchfcaaGw
namespace Go.Proofs.Ytpagnphabchfcaa
open Go.RowKit Go.Shelf
set_option maxRecDepth 100000
theorem canonG_len (S : List Rw) : ∀ f i, (canonG S (cutsF (S.map (·.1)) f i)).length ≤ S.length - i
  | 0, i => by simp [cutsF, canonG]
  | f + 1, i => by
    unfold cutsF
    split
    · rename_i hi
      rw [List.length_map] at hi
      have he := endF_le (S.map (·.1)) i (S.map (·.1)).length (i + 1) (by rw [List.length_map]; omega)
      rw [List.length_map] at he
      have ih := canonG_len S f (endF (S.map (·.1)) i S.length (i + 1))
      rw [List.length_map]
      rw [show ∀ x cs, canonG S (x :: cs) = canonX S x ++ canonG S cs from fun x cs => by simp [canonG], List.length_append]
      have hx : (canonX S (i, endF (S.map (·.1)) i S.length (i + 1))).length ≤ endF (S.map (·.1)) i S.length (i + 1) - i := by
        rw [canonX_eq, List.length_map]
        refine Nat.le_trans (joinS_len _) ?_
        rw [List.length_map, run, List.length_take]
        omega
      omega
    · simp [canonG]
theorem canon_few (l : List Rw) : (canonR l).length ≤ l.length := by
  have h := canonG_len (sortR l) ((sortR l).map (·.1)).length 0
  rw [(sortR_perm l).length_eq] at h
  exact h
set_option maxHeartbeats 4000000 in
theorem rowsPoints3 {w : World} {X : Nat → Prop} {va : Value} {ea : List El} {pt : Int} (ha : RL w X va ea) (hca : CapOk va) (hva : ∀ e ∈ ea, CapOk e.1) :
    Calls Try.prog 3 #[va, .int .i64 pt] w fun e w' => e = .returned (.bool true) ∧ Below w.heap.size w w' := by
  have k6 := few6 (RL.bound ha) (fun b h => .inr h) hca hva
  obtain ⟨a0, n0, rfl⟩ := ha.form
  obtain ⟨A, hA⟩ : ∃ A, A = fewR (rws ea) := ⟨_, rfl⟩
  have HA : Hid (A = fewR (rws ea)) := hA
  rw [← hA] at k6
  have HA24 : Hid (A.length ≤ 24) := by rw [hA]; exact fewR_len _
  clear hA ha hca hva
  go_enter Try.func3, Try.ntmps3
  go_wp2_with fail
  go_at_call 6
  (with_reducible refine k6.mono ?_)
  rintro e w1 ⟨v1, x1, rfl, hO1, hE1, hB1⟩
  obtain ⟨p1, c1, hv1⟩ := (OwnR.rl hO1).form
  subst hv1
  have f1 := few_of HA.out hE1 (Nat.le_refl _) (fun z h => h)
  have k7 := canon7 (OwnR.rl hO1) (by omega) f1.2
  rw [hE1] at k7
  go_wp2_with fail
  go_at_call 7
  (with_reducible refine k7.mono ?_)
  rintro e w2 ⟨v2, x2, rfl, hO2, hE2, hB2⟩
  obtain ⟨p2, c2, hv2⟩ := (OwnR.rl hO2).form
  subst hv2
  have hz2 : ∀ e ∈ x2, e.2.1.length ≤ 1000 := fun e he => by
    obtain ⟨q, hq, hqe⟩ := canon_mem A (r := e.2) (by rw [← hE2]; exact List.mem_map.2 ⟨e, he, rfl⟩)
    rw [← hqe]
    rw [← hE1] at hq
    obtain ⟨y, hy, rfl⟩ := List.mem_map.1 hq
    exact f1.2 y hy
  have hy2 : x2.length ≤ 24 := by
    have q := congrArg List.length hE2
    have q2 := canon_few A
    have q3 := HA24.out
    simp [rws] at q
    omega
  have HR1 : Hid (∀ W, Below w2.heap.size w2 W → RL W (fun _ => False) (.slice p1 x1.length c1) x1) := fun W k => ((OwnR.rl hO1).below hB2).below k
  have HR2 : Hid (∀ W, Below w2.heap.size w2 W → RL W (fun _ => False) (.slice p2 x2.length c2) x2) := fun W k => (OwnR.rl hO2).below k
  have B2 : Below w.heap.size w w2 := bmore hB1 hB2
  have H9a : Hid (∀ W (p : Int), Below w2.heap.size w2 W → Calls Try.prog 9 #[.slice p1 x1.length c1, .int .i64 p] W (A9Post W A p)) := fun W p k => by rw [← hE1]; exact at9' (HR1.out _ k) (by omega) f1.2
  have H9b : Hid (∀ W (p : Int), Below w2.heap.size w2 W → Calls Try.prog 9 #[.slice p2 x2.length c2, .int .i64 p] W (A9Post W A p)) := fun W p k => (at9' (HR2.out _ k) (by omega) hz2).mono (by
    rintro e w' ⟨v, vv, h1, h2, h3, h4⟩
    rw [hE2, canon_at] at h3
    exact ⟨v, vv, h1, h2, h3, h4⟩)
  have k9 := H9b.out _ pt (Below.refl _ _)
  go_wp2_with fail
  go_at_call 9
  (with_reducible refine k9.mono ?_)
  rintro e w3 ⟨v3, vv3, rfl, hV3, hm3, hx3, hl3, hB3⟩
  obtain ⟨p3, c3, hv3⟩ := hV3.form
  subst hv3
  have k9b := H9a.out _ pt hB3
  go_wp2_with fail
  go_at_call 9
  (with_reducible refine k9b.mono ?_)
  rintro e w4 ⟨v4, vv4, rfl, hV4, hm4, hx4, hl4, hB4⟩
  obtain ⟨p4, c4, hv4⟩ := hV4.form
  subst hv4
  have k8 := sameAt8 (hV3.below hB4) hV4 hx3 hx4 (by omega) (by omega)
  rw [hm3, hm4, decide_eq_true rfl] at k8
  go_wp2_with fail
  go_at_call 8
  (with_reducible refine k8.mono ?_)
  rintro e w5 ⟨rfl, hB5⟩
  have B5 : Below w2.heap.size w2 w5 := bmore (bmore hB3 hB4) hB5
  have k7b := canon7 (HR2.out _ B5) (by omega) hz2
  rw [hE2, canon_canon] at k7b
  go_wp2_with fail
  go_at_call 7
  (with_reducible refine k7b.mono ?_)
  rintro e w6 ⟨v6, x6, rfl, hO6, hE6, hB6⟩
  obtain ⟨p6, c6, hv6⟩ := (OwnR.rl hO6).form
  subst hv6
  have hz6 : ∀ e ∈ x6, e.2.1.length ≤ 1000 := fun e he => by
    have : e.2 ∈ rws x2 := by rw [hE2, ← hE6]; exact List.mem_map.2 ⟨e, he, rfl⟩
    obtain ⟨y, hy, hq⟩ := List.mem_map.1 this
    rw [← hq]
    exact hz2 y hy
  have hy6 : x6.length ≤ 24 := by
    have q := congrArg List.length (hE6.trans hE2.symm)
    simp [rws] at q
    omega
  have k10 := sameRows10 (OwnR.rl hO6) (HR2.out _ (bmore B5 hB6)) hz6 hz2 (by omega) (by omega)
  rw [hE6, hE2, decide_eq_true rfl] at k10
  go_wp2_with fail
  go_at_call 10
  (with_reducible refine k10.mono ?_)
  rintro e w7 ⟨rfl, hB7⟩
  have B7 : Below w2.heap.size w2 w7 := bmore (bmore B5 hB6) hB7
  have k11 := points11 (HR1.out _ B7) (by omega)
  rw [hE1] at k11
  go_wp2_with fail
  go_at_call 11
  (with_reducible refine k11.mono ?_)
  rintro e w8 ⟨v8, rfl, hO8, hB8⟩
  obtain ⟨zs, hzs⟩ : ∃ zs, zs = pointsR A := ⟨_, rfl⟩
  rw [← hzs] at hO8
  obtain ⟨M, hM⟩ : ∃ M, zs.length = M := ⟨_, rfl⟩
  have HM : Hid (zs.length = M) := hM
  have hM1 : M ≤ 1000 := by have := points_len A; have := HA24.out; rw [← hM, hzs]; omega
  obtain ⟨p8, c8, hv8⟩ : ∃ p c, v8 = .slice p M c := by
    rw [← hM]
    obtain ⟨_, ⟨h, h0⟩ | ⟨g, cap, cur, h, _⟩⟩ := hO8
    · exact ⟨none, 0, by rw [h, h0]⟩
    · exact ⟨_, cap, h⟩
  subst hv8
  have B8 : Below w2.heap.size w2 w8 := bmore B7 hB8
  have HO8 : Hid (∀ W, Below w8.heap.size w8 W → OwnI W w7.heap.size (.slice p8 M c8) zs) := fun W k => hO8.below k
  have HB8 : Hid _ := B8
  have HB2 : Hid _ := B2
  have HE2 : Hid (rws x2 = canonR A) := hE2
  have Hz2 : Hid (∀ e ∈ x2, e.2.1.length ≤ 1000) := hz2
  obtain ⟨L, hL⟩ : ∃ L, x2.length = L := ⟨_, rfl⟩
  have HL : Hid (x2.length = L) := hL
  rw [hL] at hy2
  clear k6 k7 k7b k8 k9 k9b k10 k11 hO1 hO2 hO6 hO8 hV3 hV4 hx3 hx4 hm3 hm4 hz2 hz6 hzs hM B8 B7 B5 B2 hB1 hB2 hB3 hB4 hB5 hB6 hB7 hB8 hE1 hE2 hE6 hy6 f1
  rw [hL]
  rw [hL] at HR2 H9b
  clear hL
  go_wp2_with fail
  go_loopw [7] (fun fi wr => ∃ (k : Nat), fi = .int .i64 (k : Int) ∧ Hid (k ≤ M) ∧ Hid (Below w8.heap.size w8 wr)) (fun fi _ => ((M : Int) - intOf fi).toNat)
  case atStart => exact ⟨0, rfl, Nat.zero_le _, Below.refl _ _⟩
  case round =>
    obtain ⟨k, rfl, hk, hB⟩ := hrel
    by_cases hkM : k < M
    · have hki : (k : Int) < (M : Int) := by omega
      have hk0 : (0 : Int) ≤ (k : Int) := by omega
      obtain ⟨z, hz⟩ : ∃ z, zs[k]? = some z := ⟨_, List.getElem?_eq_getElem (by rw [HM.out]; exact hkM)⟩
      obtain ⟨g, rfl, _⟩ := (HO8.out _ hB.out).at hz
      have HC : Hid (∀ W, Below wr.heap.size wr W → W.cell? ⟨g, k, none⟩ = some (.int .i64 z)) := fun W kk => by
        obtain ⟨g', hq, _, h2⟩ := (HO8.out _ (bmore hB.out kk)).at hz
        cases hq
        exact h2
      have K0 : Below wr.heap.size wr wr.drew := (Below.refl _ _).drew
      have hS0 := HC.out _ K0
      have HK : Hid (Below w2.heap.size w2 wr) := bmore HB8.out hB.out
      have k9a := H9b.out _ z (bmore HK.out K0)
      clear hz
      go_wp2_with fail
      go_region_held3 (fun W => W.cell? ⟨g, k, none⟩ = some (.int .i64 z)) (first | exact hS0 | exact HC.out _ K1 | exact HC.out _ K2 | exact HC.out _ K3) (first
        | (go_at_call 9; (with_reducible refine k9a.mono ?_); rintro e w6 ⟨v6, vv6, rfl, hV6, hm6, hx6, hy6, hB6⟩; have K1 := bmore K0 hB6; have k9b := H9a.out _ z (bmore HK.out K1); obtain ⟨p6, c6, hv6⟩ := hV6.form; subst hv6; clear k9a)
        | (go_at_call 9; (with_reducible refine k9b.mono ?_); rintro e w7 ⟨v7, vv7, rfl, hV7, hm7, hx7, hy7, hB7⟩; have K2 := bmore K1 hB7; obtain ⟨p7, c7, hv7⟩ := hV7.form; subst hv7; have k8 := sameAt8 (hV6.below hB7) hV7 hx6 hx7 (by omega) (by omega); rw [hm6, hm7, decide_eq_true rfl] at k8)
        | (go_at_call 8; (with_reducible refine k8.mono ?_); rintro e w8 ⟨rfl, hB8⟩; have K3 := bmore K2 hB8))
      clear hS0
      go_wp2_with fail
      go_roundw
      case rel => exact ⟨k + 1, by simp, by show _ ≤ _; omega, bmore hB.out K3⟩
      case measure => simp only [intOf]; omega
    · have hki : ¬ (k : Int) < (M : Int) := by omega
      obtain ⟨wa, hwa⟩ : ∃ wa, wa = wr := ⟨_, rfl⟩
      subst hwa
      have HKa : Hid (Below w2.heap.size w2 wa) := bmore HB8.out hB.out
      go_wp2_with fail
      go_loopw [8] (fun fi wr => ∃ (i : Nat), fi = .int .i64 (i : Int) ∧ Hid (i ≤ L) ∧ Hid (Below w2.heap.size w2 wr)) (fun fi _ => ((L : Int) - intOf fi).toNat)
      case atStart => exact ⟨0, rfl, Nat.zero_le _, HKa.out⟩
      case round =>
        obtain ⟨i, rfl, hi, hBi⟩ := hrel
        by_cases hiL : i < L
        · have hii : (i : Int) < (L : Int) := by omega
          have hi0 : (0 : Int) ≤ (i : Int) := by omega
          obtain ⟨wb, hwb⟩ : ∃ wb, wb = wr := ⟨_, rfl⟩
          subst hwb
          go_wp2_with fail
          go_loopw [9] (fun fj wr => ∃ (j : Nat), fj = .int .i64 (j : Int) ∧ Hid (j ≤ i) ∧ Hid (Below w2.heap.size w2 wr)) (fun fj _ => ((i : Int) - intOf fj).toNat)
          case atStart => exact ⟨0, rfl, Nat.zero_le _, hBi.out⟩
          case round =>
            obtain ⟨j, rfl, hj, hBj⟩ := hrel
            by_cases hji : j < i
            · have hjz : (j : Int) < (i : Int) := by omega
              have hj0 : (0 : Int) ≤ (j : Int) := by omega
              have hjL : (j : Int) < (L : Int) := by omega
              obtain ⟨xi, hxi⟩ : ∃ e, x2[i]? = some e := ⟨_, List.getElem?_eq_getElem (by rw [HL.out]; exact hiL)⟩
              obtain ⟨xj, hxj⟩ : ∃ e, x2[j]? = some e := ⟨_, List.getElem?_eq_getElem (by rw [HL.out]; omega)⟩
              obtain ⟨g, o, rfl, hgl, _⟩ := (HR2.out _ hBj.out).get hxi
              have HC : Hid (∀ W, Below wr.heap.size wr W → (W.cell? ⟨g, o + i * 3, none⟩ = some xi.1 ∧ W.cell? ⟨g, o + i * 3 + 1, none⟩ = some (.int .i64 xi.2.2.1) ∧ W.cell? ⟨g, o + i * 3 + 2, none⟩ = some (.int .i64 xi.2.2.2)) ∧ (W.cell? ⟨g, o + j * 3, none⟩ = some xj.1 ∧ W.cell? ⟨g, o + j * 3 + 1, none⟩ = some (.int .i64 xj.2.2.1) ∧ W.cell? ⟨g, o + j * 3 + 2, none⟩ = some (.int .i64 xj.2.2.2))) := fun W kk => ⟨(HR2.out _ (bmore hBj.out kk)).at3 hxi, (HR2.out _ (bmore hBj.out kk)).at3 hxj⟩
              have HNo : Hid (xi.2.1 = xj.2.1 → xj.2.2.2 < xi.2.2.1) := fun e => by
                have hp := (canon_form A).2
                rw [← HE2.out] at hp
                have hq := List.pairwise_iff_getElem.1 hp j i (by rw [rws, List.length_map, HL.out]; omega) (by rw [rws, List.length_map, HL.out]; omega) hji
                have e1 : (rws x2)[j]'(by rw [rws, List.length_map, HL.out]; omega) = xj.2 := by simp [rws, (List.getElem?_eq_some_iff.1 hxj).2]
                have e2 : (rws x2)[i]'(by rw [rws, List.length_map, HL.out]; omega) = xi.2 := by simp [rws, (List.getElem?_eq_some_iff.1 hxi).2]
                rw [e1, e2] at hq
                rcases hq with hq | hq
                · rw [e, cmpL_self] at hq; omega
                · exact hq.2
              have HSi : Hid (SV wr (fun _ => False) xi.1 xi.2.1) := (HR2.out _ hBj.out).vals xi (List.mem_of_getElem? hxi)
              have HSj : Hid (SV wr (fun _ => False) xj.1 xj.2.1) := (HR2.out _ hBj.out).vals xj (List.mem_of_getElem? hxj)
              have HLi : Hid (xi.2.1.length ≤ 1000) := Hz2.out xi (List.mem_of_getElem? hxi)
              have HLj : Hid (xj.2.1.length ≤ 1000) := Hz2.out xj (List.mem_of_getElem? hxj)
              clear hxi hxj
              obtain ⟨si, vi, fi, ti⟩ := xi
              obtain ⟨sj, vj, fj, tj⟩ := xj
              simp only at HC HNo HSi HSj HLi HLj
              obtain ⟨pi, ci, rfl⟩ := SV.form HSi.out
              obtain ⟨pj, cj, rfl⟩ := SV.form HSj.out
              have K0 : Below wr.heap.size wr wr.drew := (Below.refl _ _).drew
              obtain ⟨⟨_, q1, q2⟩, _, q3, q4⟩ := HC.out _ K0
              have hS0 : wr.drew.cell? ⟨g, o + i * 3 + 1, none⟩ = some (.int .i64 fi) ∧ wr.drew.cell? ⟨g, o + i * 3 + 2, none⟩ = some (.int .i64 ti) ∧ wr.drew.cell? ⟨g, o + j * 3 + 1, none⟩ = some (.int .i64 fj) ∧ wr.drew.cell? ⟨g, o + j * 3 + 2, none⟩ = some (.int .i64 tj) := ⟨q1, q2, q3, q4⟩
              have HQ4 : Hid (∀ W, Below wr.heap.size wr W → W.cell? ⟨g, o + i * 3 + 1, none⟩ = some (.int .i64 fi) ∧ W.cell? ⟨g, o + i * 3 + 2, none⟩ = some (.int .i64 ti) ∧ W.cell? ⟨g, o + j * 3 + 1, none⟩ = some (.int .i64 fj) ∧ W.cell? ⟨g, o + j * 3 + 2, none⟩ = some (.int .i64 tj)) := fun W k => ⟨(HC.out W k).1.2.1, (HC.out W k).1.2.2, (HC.out W k).2.2.1, (HC.out W k).2.2.2⟩
              go_wp2_with fail
              go_region_held3 (fun W => W.cell? ⟨g, o + i * 3 + 1, none⟩ = some (.int .i64 fi) ∧ W.cell? ⟨g, o + i * 3 + 2, none⟩ = some (.int .i64 ti) ∧ W.cell? ⟨g, o + j * 3 + 1, none⟩ = some (.int .i64 fj) ∧ W.cell? ⟨g, o + j * 3 + 2, none⟩ = some (.int .i64 tj)) (first | exact hS0 | exact HQ4.out _ (by repeat (first | exact Below.refl _ _ | refine Below.drew ?_ | refine bal ?_ _ | refine Below.setCell ?_ (by simp) _))) (fail)
              · obtain ⟨W0, hW0⟩ : ∃ W0, W0 = (wr.alloc (.cells #[.int .i64 fi, .int .i64 ti] 32)).alloc (.cells #[.int .i64 fj, .int .i64 tj] 32) := ⟨_, rfl⟩
                have HW : Hid (Below wr.heap.size wr W0) := by rw [hW0]; exact bal (al _ _) _
                have B10 : Hid (Blk W0 wr.heap.size [.int .i64 fi, .int .i64 ti] 32) := by rw [hW0]; exact (blk_new wr [.int .i64 fi, .int .i64 ti] 32).below (al _ _)
                have B11 : Hid (Blk W0 (wr.heap.size + 1) [.int .i64 fj, .int .i64 tj] 32) := by rw [hW0]; exact blk_at (wr.alloc (.cells #[.int .i64 fi, .int .i64 ti] 32)) [.int .i64 fj, .int .i64 tj] 32 (by simp)
                rw [← hW0]
                rw [← hW0] at *
                clear hW0
                have SS : Hid (∀ W, Below W0.heap.size W0 W → W.cell? ⟨g, o + i * 3, none⟩ = some (.slice pi vi.length ci) ∧ W.cell? ⟨g, o + j * 3, none⟩ = some (.slice pj vj.length cj) ∧ W.cell? ⟨wr.heap.size, 0, none⟩ = some (.int .i64 fi) ∧ W.cell? ⟨(wr.heap.size + 1), 1, none⟩ = some (.int .i64 tj)) := fun W k => ⟨(HC.out _ (bmore HW.out k)).1.1, (HC.out _ (bmore HW.out k)).2.1, (B10.out.below k).cell 0, (B11.out.below k).cell 1⟩
                by_cases hv : vi = vj
                · have hk : Below W0.heap.size W0 W0.drew.drew := (Below.refl _ _).drew.drew
                  have inh : Nonempty (GW (Below W0.heap.size W0)) := ⟨⟨_, hk⟩⟩
                  have s1 := fun p : GW (Below W0.heap.size W0) => (SS.out p.w p.h).1
                  have s2 := fun p : GW (Below W0.heap.size W0) => (SS.out p.w p.h).2.1
                  have s3 := fun p : GW (Below W0.heap.size W0) => (SS.out p.w p.h).2.2.1
                  have s4 := fun p : GW (Below W0.heap.size W0) => (SS.out p.w p.h).2.2.2
                  have hlt : ¬ fi ≤ tj := by have := HNo.out hv; omega
                  have hltb : decide (fi ≤ tj) = false := decide_eq_false hlt
                  have Q12 : Hid (∀ p : GW (Below W0.heap.size W0), Calls Try.prog 12 #[.slice pi vi.length ci, .slice pj vj.length cj] p.w fun e w' => e = .returned (.bool true) ∧ ∃ p' : GW (Below W0.heap.size W0), w' = p'.w) := fun p => calls_gw p ((same12 (SV.below HSi.out (bmore HW.out p.h)) (SV.below HSj.out (bmore HW.out p.h)) (by have := HLi.out; omega) (by have := HLj.out; omega)).mono (by rintro e w' ⟨h1, h2⟩; exact ⟨by rw [h1]; simp [hv], bmore p.h h2⟩))
                  clear HC HQ4 HSi HSj HLi HLj HNo SS B10 B11 hS0 q1 q2 q3 q4 hv K0
                  go_wp2_with fail
                  refine wp_region_gw (Below W0.heap.size W0) (by kernel_rfl) hk ?_
                  repeat (go_big_quiet_step (first | (go_at_call 12; exact Q12.out _)))
                  refine wpQuiet_nil ?_
                  intro _ hw'
                  obtain ⟨⟨wq, hq⟩, hw''⟩ := hw'
                  subst hw''
                  go_wp2_with fail
                  go_roundw
                  case rel => exact ⟨j + 1, by simp, by show _ ≤ _; omega, bmore hBj.out (bmore HW.out hq)⟩
                  case measure => simp only [intOf]; omega
                · have hk : Below W0.heap.size W0 W0.drew.drew := (Below.refl _ _).drew.drew
                  have inh : Nonempty (GW (Below W0.heap.size W0)) := ⟨⟨_, hk⟩⟩
                  have s1 := fun p : GW (Below W0.heap.size W0) => (SS.out p.w p.h).1
                  have s2 := fun p : GW (Below W0.heap.size W0) => (SS.out p.w p.h).2.1
                  have Q12 : Hid (∀ p : GW (Below W0.heap.size W0), Calls Try.prog 12 #[.slice pi vi.length ci, .slice pj vj.length cj] p.w fun e w' => e = .returned (.bool false) ∧ ∃ p' : GW (Below W0.heap.size W0), w' = p'.w) := fun p => calls_gw p ((same12 (SV.below HSi.out (bmore HW.out p.h)) (SV.below HSj.out (bmore HW.out p.h)) (by have := HLi.out; omega) (by have := HLj.out; omega)).mono (by rintro e w' ⟨h1, h2⟩; exact ⟨by rw [h1]; simp [hv], bmore p.h h2⟩))
                  clear HC HQ4 HSi HSj HLi HLj HNo SS B10 B11 hS0 q1 q2 q3 q4 hv K0
                  go_wp2_with fail
                  refine wp_region_gw (Below W0.heap.size W0) (by kernel_rfl) hk ?_
                  repeat (go_big_quiet_step (first | (go_at_call 12; exact Q12.out _)))
                  refine wpQuiet_nil ?_
                  intro _ hw'
                  obtain ⟨⟨wq, hq⟩, hw''⟩ := hw'
                  subst hw''
                  go_wp2_with fail
                  go_roundw
                  case rel => exact ⟨j + 1, by simp, by show _ ≤ _; omega, bmore hBj.out (bmore HW.out hq)⟩
                  case measure => simp only [intOf]; omega
              · obtain ⟨W0, hW0⟩ : ∃ W0, W0 = (wr.alloc (.cells #[.int .i64 fj, .int .i64 tj] 32)).alloc (.cells #[.int .i64 fi, .int .i64 ti] 32) := ⟨_, rfl⟩
                have HW : Hid (Below wr.heap.size wr W0) := by rw [hW0]; exact bal (al _ _) _
                have B10 : Hid (Blk W0 (wr.heap.size + 1) [.int .i64 fi, .int .i64 ti] 32) := by rw [hW0]; exact blk_at (wr.alloc (.cells #[.int .i64 fj, .int .i64 tj] 32)) [.int .i64 fi, .int .i64 ti] 32 (by simp)
                have B11 : Hid (Blk W0 wr.heap.size [.int .i64 fj, .int .i64 tj] 32) := by rw [hW0]; exact (blk_new wr [.int .i64 fj, .int .i64 tj] 32).below (al _ _)
                rw [← hW0]
                rw [← hW0] at *
                clear hW0
                have SS : Hid (∀ W, Below W0.heap.size W0 W → W.cell? ⟨g, o + i * 3, none⟩ = some (.slice pi vi.length ci) ∧ W.cell? ⟨g, o + j * 3, none⟩ = some (.slice pj vj.length cj) ∧ W.cell? ⟨(wr.heap.size + 1), 0, none⟩ = some (.int .i64 fi) ∧ W.cell? ⟨wr.heap.size, 1, none⟩ = some (.int .i64 tj)) := fun W k => ⟨(HC.out _ (bmore HW.out k)).1.1, (HC.out _ (bmore HW.out k)).2.1, (B10.out.below k).cell 0, (B11.out.below k).cell 1⟩
                by_cases hv : vi = vj
                · have hk : Below W0.heap.size W0 W0.drew.drew := (Below.refl _ _).drew.drew
                  have inh : Nonempty (GW (Below W0.heap.size W0)) := ⟨⟨_, hk⟩⟩
                  have s1 := fun p : GW (Below W0.heap.size W0) => (SS.out p.w p.h).1
                  have s2 := fun p : GW (Below W0.heap.size W0) => (SS.out p.w p.h).2.1
                  have s3 := fun p : GW (Below W0.heap.size W0) => (SS.out p.w p.h).2.2.1
                  have s4 := fun p : GW (Below W0.heap.size W0) => (SS.out p.w p.h).2.2.2
                  have hlt : ¬ fi ≤ tj := by have := HNo.out hv; omega
                  have hltb : decide (fi ≤ tj) = false := decide_eq_false hlt
                  have Q12 : Hid (∀ p : GW (Below W0.heap.size W0), Calls Try.prog 12 #[.slice pi vi.length ci, .slice pj vj.length cj] p.w fun e w' => e = .returned (.bool true) ∧ ∃ p' : GW (Below W0.heap.size W0), w' = p'.w) := fun p => calls_gw p ((same12 (SV.below HSi.out (bmore HW.out p.h)) (SV.below HSj.out (bmore HW.out p.h)) (by have := HLi.out; omega) (by have := HLj.out; omega)).mono (by rintro e w' ⟨h1, h2⟩; exact ⟨by rw [h1]; simp [hv], bmore p.h h2⟩))
                  clear HC HQ4 HSi HSj HLi HLj HNo SS B10 B11 hS0 q1 q2 q3 q4 hv K0
                  go_wp2_with fail
                  refine wp_region_gw (Below W0.heap.size W0) (by kernel_rfl) hk ?_
                  repeat (go_big_quiet_step (first | (go_at_call 12; exact Q12.out _)))
                  refine wpQuiet_nil ?_
                  intro _ hw'
                  obtain ⟨⟨wq, hq⟩, hw''⟩ := hw'
                  subst hw''
                  go_wp2_with fail
                  go_roundw
                  case rel => exact ⟨j + 1, by simp, by show _ ≤ _; omega, bmore hBj.out (bmore HW.out hq)⟩
                  case measure => simp only [intOf]; omega
                · have hk : Below W0.heap.size W0 W0.drew.drew := (Below.refl _ _).drew.drew
                  have inh : Nonempty (GW (Below W0.heap.size W0)) := ⟨⟨_, hk⟩⟩
                  have s1 := fun p : GW (Below W0.heap.size W0) => (SS.out p.w p.h).1
                  have s2 := fun p : GW (Below W0.heap.size W0) => (SS.out p.w p.h).2.1
                  have Q12 : Hid (∀ p : GW (Below W0.heap.size W0), Calls Try.prog 12 #[.slice pi vi.length ci, .slice pj vj.length cj] p.w fun e w' => e = .returned (.bool false) ∧ ∃ p' : GW (Below W0.heap.size W0), w' = p'.w) := fun p => calls_gw p ((same12 (SV.below HSi.out (bmore HW.out p.h)) (SV.below HSj.out (bmore HW.out p.h)) (by have := HLi.out; omega) (by have := HLj.out; omega)).mono (by rintro e w' ⟨h1, h2⟩; exact ⟨by rw [h1]; simp [hv], bmore p.h h2⟩))
                  clear HC HQ4 HSi HSj HLi HLj HNo SS B10 B11 hS0 q1 q2 q3 q4 hv K0
                  go_wp2_with fail
                  refine wp_region_gw (Below W0.heap.size W0) (by kernel_rfl) hk ?_
                  repeat (go_big_quiet_step (first | (go_at_call 12; exact Q12.out _)))
                  refine wpQuiet_nil ?_
                  intro _ hw'
                  obtain ⟨⟨wq, hq⟩, hw''⟩ := hw'
                  subst hw''
                  go_wp2_with fail
                  go_roundw
                  case rel => exact ⟨j + 1, by simp, by show _ ≤ _; omega, bmore hBj.out (bmore HW.out hq)⟩
                  case measure => simp only [intOf]; omega
            · have hjz : ¬ (j : Int) < (i : Int) := by omega
              go_wp2_with fail
              go_roundw
              case rel => exact ⟨i + 1, by simp, by show _ ≤ _; omega, hBj.out⟩
              case measure => simp only [intOf]; omega
        · have hii : ¬ (i : Int) < (L : Int) := by omega
          have k13 := live13 wr
          go_wp2_with (go_at_call 13; (with_reducible refine k13.mono ?_); rintro e w9 ⟨rfl, hB9⟩)
          go_ret
          exact ⟨rfl, bmore (bmore HB2.out hBi.out) hB9⟩
end Go.Proofs.Ytpagnphabchfcaa
