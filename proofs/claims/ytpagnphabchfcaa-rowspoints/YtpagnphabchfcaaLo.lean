/- The law RowsOne. -/
import Derived.Test.YtpagnphabchfcaaPp
import Derived.Test.YtpagnphabchfcaaRv
import Derived.Test.YtpagnphabchfcaaLl
namespace Go.Proofs.Ytpagnphabchfcaa
open Go.RowKit Go.Shelf
set_option maxRecDepth 100000
theorem ownI_apps {w : World} {B : Nat} {u lv : Value} {zs zs' : List Int} (h : OwnI w B u zs) (hV : OwnI w B lv zs') (hn : zs.length + zs'.length ≤ 100000) (hB : B ≤ w.heap.size) :
    ∃ u' w', (Builtin.append_ #[28, 28] 28 #[u, lv]).run Try.prog w = .ok u' w' ∧ OwnI w' B u' (zs ++ zs') ∧ Below B w w' := by
  obtain ⟨i0, hi, hz0, hz1, hz2⟩ := info_parts' info3
  have hc := fun g hg => World.ownsRow.cells hV (g := g) hg
  have hu : ∃ b n k, u = .slice b n k ∧ n ≤ k := by
    obtain ⟨_, ⟨rfl, _⟩ | ⟨g, cap, cur, rfl, _, _, hnc, _⟩⟩ := h
    · exact ⟨_, _, _, rfl, Nat.le_refl _⟩
    · exact ⟨_, _, _, rfl, hnc⟩
  have hlf : ∃ a c, lv = .slice a zs'.length c ∧ (0 < zs'.length → ∃ g, a = some ⟨g, 0, none⟩) := by
    obtain ⟨_, ⟨rfl, h0⟩ | ⟨g, cap, cur, rfl, _⟩⟩ := hV
    · exact ⟨none, 0, by rw [h0], fun h => by omega⟩
    · exact ⟨_, cap, rfl, fun _ => ⟨g, rfl⟩⟩
  obtain ⟨a, c, rfl, hat⟩ := hlf
  by_cases h0 : zs' = []
  · subst h0
    rw [List.append_nil]
    have hsrc : Src Try.prog i0.size 28 (.slice a 0 c) 0 [] w := by
      cases a with
      | none => exact Src.ofNil w Try.underlying28 c
      | some a => exact Src.ofSlice w Try.underlying28 a 0 c [] (by simp) (by simp) (by simp)
    obtain ⟨b, n, k, rfl, hnk⟩ := hu
    exact ⟨_, w, run_append_nothing w 28 28 28 3 i0 Try.underlying28 hi b n k hnk _ hsrc, h, Below.refl _ _⟩
  · have hpos : 0 < zs'.length := List.length_pos_iff.2 h0
    obtain ⟨g, rfl⟩ := hat hpos
    obtain ⟨v', w', hrun, r1, r2, r3, r4⟩ := run_append_own_at (P := Try.prog) w B 28 28 3 i0 (.int .i64 0) 1 8 Try.underlying28 hi hz0 hz1 hz2 rfl (by decide) u zs.length (zs.map (Value.int .i64)) h ⟨g, 0, none⟩ zs'.length c (zs'.map (Value.int .i64)) (by simp) (fun j x hx => hc g rfl j x hx) (by intro v hv; obtain ⟨z, _, rfl⟩ := List.mem_map.1 hv; rfl) (by unfold maxLen; omega) (by omega) hB
    refine ⟨v', w', hrun, ?_, ⟨r2.os, r2.tape, r2.output, r2.size, fun k hk => r2.block k (by omega) (fun e => by have := (World.ownsRow.lt h k e.symm).1; omega)⟩⟩
    unfold OwnI
    rw [List.length_append, List.map_append]
    exact r1
theorem at_len (l : List Rw) (p : Int) : (atR l p).length ≤ l.length := by
  unfold atR
  rw [List.length_map]
  refine Nat.le_trans (cutsF_len _ _ _) ?_
  rw [List.length_map, (sortR_perm _).length_eq]
  exact List.length_filter_le _ _
theorem points_len (l : List Rw) : (pointsR l).length ≤ l.length * 2 := by
  unfold pointsR
  refine Nat.le_trans (Lib.compact_length_le _) ?_
  unfold sortI
  rw [List.length_mergeSort]
  unfold ptsL
  induction l with
  | nil => simp
  | cons r l ih =>
    simp only [List.flatMap_cons, List.length_append, List.length_cons]
    split <;> simp only [List.length_cons, List.length_nil] <;> omega
def A9Post (w : World) (l : List Rw) (p : Int) (e : Ending) (w' : World) : Prop := ∃ v vv, e = .returned v ∧ VL w' v vv ∧ vv.map (·.2) = atR l p ∧ (∀ x ∈ vv, x.2.length ≤ 1000) ∧ vv.length ≤ 1000 ∧ Below w.heap.size w w'
theorem at9' {w : World} {X : Nat → Prop} {v : Value} {es : List El} {p : Int} (h0 : RL w X v es) (hl : es.length ≤ 100) (hv : ∀ e ∈ es, e.2.1.length ≤ 1000) : Calls Try.prog 9 #[v, .int .i64 p] w (A9Post w (rws es) p) := by
  refine (at9 h0 hl hv).mono ?_
  rintro e w' ⟨v, vv, rfl, h1, h2, h3, h4⟩
  refine ⟨v, vv, rfl, vl_of h1 h2, h3, fun x hx => ?_, ?_, h4⟩
  · have : x.2 ∈ atR (rws es) p := by rw [← h3]; exact List.mem_map.2 ⟨x, hx, rfl⟩
    obtain ⟨r, hr, hq, _⟩ := (at_mem _ _ _).1 this
    obtain ⟨e, he, rfl⟩ := List.mem_map.1 hr
    rw [← hq]
    exact hv e he
  · have q := congrArg List.length h3
    have := at_len (rws es) p
    simp [rws] at q this
    omega
theorem OwnI.at {w : World} {B : Nat} {a : Option Addr} {n c : Nat} {zs : List Int} (h : OwnI w B (.slice a n c) zs) {k : Nat} {z : Int} (hk : zs[k]? = some z) : ∃ g, a = some ⟨g, 0, none⟩ ∧ g < w.heap.size ∧ w.cell? ⟨g, k, none⟩ = some (.int .i64 z) := by
  have hc := fun g hg => World.ownsRow.cells h (g := g) hg
  have hlt := World.ownsRow.lt h
  obtain ⟨_, ⟨h, h0⟩ | ⟨g, cap, cur, h, _⟩⟩ := h
  · have := (List.getElem?_eq_some_iff.1 hk).1
    omega
  · cases h
    refine ⟨g, rfl, (hlt g rfl).2, ?_⟩
    have := hc g rfl k (.int .i64 z) (by rw [List.getElem?_map, hk]; rfl)
    rw [Addr.add_mid, Nat.zero_add] at this
    exact this
set_option maxHeartbeats 4000000 in
theorem rowsOne4 {w : World} {X : Nat → Prop} {va vb : Value} {ea eb : List El} (ha : RL w X va ea) (hb : RL w X vb eb) (hca : CapOk va) (hcb : CapOk vb) (hva : ∀ e ∈ ea, CapOk e.1) (hvb : ∀ e ∈ eb, CapOk e.1) :
    Calls Try.prog 4 #[va, vb] w fun e w' => e = .returned (.bool true) ∧ Below w.heap.size w w' := by
  have k6 := few6 (RL.bound ha) (fun b h => .inr h) hca hva
  have H6 : Hid (∀ W, Below w.heap.size w W → Calls Try.prog 6 #[vb] W (LPost W (fewR (rws eb)))) := fun W k => few6 (RL.bound (hb.below k)) (fun b h => .inr h) hcb hvb
  obtain ⟨a0, n0, rfl⟩ := ha.form
  obtain ⟨a1, n1, rfl⟩ := hb.form
  obtain ⟨A, hA⟩ : ∃ A, A = fewR (rws ea) := ⟨_, rfl⟩
  obtain ⟨B, hB⟩ : ∃ B, B = fewR (rws eb) := ⟨_, rfl⟩
  have HA : Hid (A = fewR (rws ea)) := hA
  have HB : Hid (B = fewR (rws eb)) := hB
  rw [← hA] at k6
  rw [← hB] at H6
  have HA24 : Hid (A.length ≤ 24 ∧ B.length ≤ 24) := ⟨by rw [hA]; exact fewR_len _, by rw [hB]; exact fewR_len _⟩
  clear hA hB ha hb hca hcb hva hvb
  go_enter Try.func4, Try.ntmps4
  go_wp2_with fail
  go_at_call 6
  (with_reducible refine k6.mono ?_)
  rintro e w1 ⟨v1, x1, rfl, hO1, hE1, hB1⟩
  have k6b := H6.out _ hB1
  obtain ⟨p1, c1, hv1⟩ := (OwnR.rl hO1).form
  subst hv1
  go_wp2_with fail
  go_at_call 6
  (with_reducible refine k6b.mono ?_)
  rintro e w2 ⟨v2, x2, rfl, hO2, hE2, hB2⟩
  obtain ⟨p2, c2, hv2⟩ := (OwnR.rl hO2).form
  subst hv2
  have f1 := few_of HA.out hE1 (Nat.le_refl _) (fun z h => h)
  have f2 := few_of HB.out hE2 (Nat.le_refl _) (fun z h => h)
  have HR1 : Hid (∀ W, Below w2.heap.size w2 W → RL W (fun _ => False) (.slice p1 x1.length c1) x1) := fun W k => ((OwnR.rl hO1).below hB2).below k
  have HR2 : Hid (∀ W, Below w2.heap.size w2 W → RL W (fun _ => False) (.slice p2 x2.length c2) x2) := fun W k => (OwnR.rl hO2).below k
  have B2 : Below w.heap.size w w2 := bmore hB1 hB2
  have k11 := points11 (HR1.out _ (Below.refl _ _)) (by omega)
  rw [hE1] at k11
  go_wp2_with fail
  go_at_call 11
  (with_reducible refine k11.mono ?_)
  rintro e w3 ⟨v3, rfl, hO3, hB3⟩
  have k11b := points11 (HR2.out _ hB3) (by omega)
  rw [hE2] at k11b
  obtain ⟨p3, n3, c3, hv3⟩ := rowForm hO3
  subst hv3
  go_wp2_with fail
  go_at_call 11
  (with_reducible refine k11b.mono ?_)
  rintro e w4 ⟨v4, rfl, hO4, hB4⟩
  obtain ⟨p4, n4, c4, hv4⟩ := rowForm hO4
  subst hv4
  have hl3 := points_len A
  have hl4 := points_len B
  have hO4' : OwnI w4 w2.heap.size (.slice p4 n4 c4) (pointsR B) := ⟨hO4.1, hO4.2.imp id fun ⟨g, cap, cur, q1, q2, q3⟩ => ⟨g, cap, cur, q1, Nat.le_trans hB3.size q2, q3⟩⟩
  obtain ⟨u5, w5, hr5, hO5, hB5⟩ := ownI_apps (hO3.below hB4) hO4' (by have := HA24.out; omega) (Nat.le_trans hB3.size hB4.size)
  have B25 : Below w2.heap.size w2 w5 := (bmore hB3 hB4).trans hB5
  obtain ⟨zs, hzs⟩ : ∃ zs, zs = pointsR A ++ pointsR B := ⟨_, rfl⟩
  have HZ : Hid (zs = pointsR A ++ pointsR B) := hzs
  rw [← hzs] at hO5
  obtain ⟨M, hM⟩ : ∃ M, zs.length = M := ⟨_, rfl⟩
  have HM : Hid (zs.length = M) := hM
  have hM1 : M ≤ 1000 := by rw [← hM, hzs, List.length_append]; have := HA24.out; omega
  obtain ⟨p5, c5, hv5⟩ : ∃ p c, u5 = .slice p M c := by
    rw [← hM]
    obtain ⟨_, ⟨h, h0⟩ | ⟨g, cap, cur, h, _⟩⟩ := hO5
    · exact ⟨none, 0, by rw [h, h0]⟩
    · exact ⟨_, cap, h⟩
  subst hv5
  have HO5 : Hid (∀ W, Below w5.heap.size w5 W → OwnI W w2.heap.size (.slice p5 M c5) zs) := fun W k => hO5.below k
  have H9a : Hid (∀ W (p : Int), Below w5.heap.size w5 W → Calls Try.prog 9 #[.slice p1 x1.length c1, .int .i64 p] W (A9Post W A p)) := fun W p k => by rw [← hE1]; exact at9' (HR1.out _ (bmore B25 k)) (by omega) f1.2
  have H9b : Hid (∀ W (p : Int), Below w5.heap.size w5 W → Calls Try.prog 9 #[.slice p2 x2.length c2, .int .i64 p] W (A9Post W B p)) := fun W p k => by rw [← hE2]; exact at9' (HR2.out _ (bmore B25 k)) (by omega) f2.2
  have HB25 : Hid _ := B25
  have HB2 : Hid _ := B2
  have Hf1 : Hid _ := f1
  have Hf2 : Hid _ := f2
  have HE1 : Hid (rws x1 = A) := hE1
  have HE2 : Hid (rws x2 = B) := hE2
  clear hO1 hO2 hO3 hO4 hO4' hO5 k6 k6b k11 k11b B25 B2 f1 f2 hzs hM hE1 hE2
  go_wp2_with (at_builtin; refine wpList_append_w (by rfl) (.tmp 13) (.tmp 15) 28 (by rfl) _ _ (by rfl) (by rfl) _ _ hr5 ?_)
  go_loopw [6, 7] (fun fs fi wr => ∃ (k : Nat) (sm : Bool), fs = .bool sm ∧ fi = .int .i64 (k : Int) ∧ Hid (k ≤ M) ∧ Hid (sm = true ↔ ∀ p ∈ zs.take k, atR A p = atR B p) ∧ Hid (Below w5.heap.size w5 wr)) (fun _ fi _ => ((M : Int) - intOf fi).toNat)
  case atStart => exact ⟨0, true, rfl, rfl, Nat.zero_le _, by show _ ↔ _; simp, Below.refl _ _⟩
  case round =>
    obtain ⟨k, sm, rfl, rfl, hk, hsm, hB⟩ := hrel
    by_cases hkM : k < M
    · have hki : (k : Int) < (M : Int) := by omega
      have hk0 : (0 : Int) ≤ (k : Int) := by omega
      obtain ⟨z, hz⟩ : ∃ z, zs[k]? = some z := ⟨_, List.getElem?_eq_getElem (by rw [HM.out]; exact hkM)⟩
      obtain ⟨g, rfl, _⟩ := (HO5.out _ hB.out).at hz
      have HC : Hid (∀ W, Below wr.heap.size wr W → W.cell? ⟨g, k, none⟩ = some (.int .i64 z)) := fun W kk => by
        obtain ⟨g', hq, _, h2⟩ := (HO5.out _ (bmore hB.out kk)).at hz
        cases hq
        exact h2
      have HTk : Hid (zs.take (k + 1) = zs.take k ++ [z]) := by show _ = _; rw [List.take_add_one, hz]; rfl
      cases sm
      · go_wp2_with fail
        go_big_quiet (fail)
        have Kz : Below wr.heap.size wr (wr.drewN nq) := ⟨rfl, rfl, rfl, Nat.le_refl _, fun _ _ => rfl⟩
        go_wp2_with fail
        go_roundw
        case rel => exact ⟨k + 1, false, rfl, by simp, by show _ ≤ _; omega, by
          show _ ↔ _
          rw [HTk.out]
          refine ⟨(fun h => nomatch h), fun h => ?_⟩
          have q := hsm.out.2 (fun p hp => h p (List.mem_append.2 (.inl hp)))
          first | exact q | exact q.elim, bmore hB.out Kz⟩
        case measure => simp only [intOf]; omega
      · have K0 : Below wr.heap.size wr wr.drew := (Below.refl _ _).drew
        have hS0 := HC.out _ K0
        have k9a := H9a.out _ z (bmore hB.out K0)
        clear hz
        go_wp2_with fail
        go_region_held3 (fun W => W.cell? ⟨g, k, none⟩ = some (.int .i64 z)) (first | exact hS0 | exact HC.out _ K1 | exact HC.out _ K2 | exact HC.out _ K3) (first
          | (go_at_call 9; (with_reducible refine k9a.mono ?_); rintro e w6 ⟨v6, vv6, rfl, hV6, hm6, hx6, hy6, hB6⟩; have K1 := bmore K0 hB6; have k9b := H9b.out _ z (bmore hB.out K1); obtain ⟨p6, c6, hv6⟩ := hV6.form; subst hv6; clear k9a)
          | (go_at_call 9; (with_reducible refine k9b.mono ?_); rintro e w7 ⟨v7, vv7, rfl, hV7, hm7, hx7, hy7, hB7⟩; have K2 := bmore K1 hB7; obtain ⟨p7, c7, hv7⟩ := hV7.form; subst hv7; have k8 := sameAt8 (hV6.below hB7) hV7 hx6 hx7 (by omega) (by omega))
          | (go_at_call 8; (with_reducible refine k8.mono ?_); rintro e w8 ⟨rfl, hB8⟩; have K3 := bmore K2 hB8))
        clear hS0
        go_wp2_with fail
        go_roundw
        case rel => exact ⟨k + 1, decide (atR A z = atR B z), rfl, by simp, by show _ ≤ _; omega, by
          show _ ↔ _
          rw [HTk.out, decide_eq_true_eq]
          refine ⟨fun h p hp => ?_, fun h => h z (by simp)⟩
          rcases List.mem_append.1 hp with hp | hp
          · exact hsm.out.1 trivial p hp
          · simp only [List.mem_singleton] at hp
            subst hp
            exact h, bmore hB.out K3⟩
        case measure => simp only [intOf]; omega
    · have hki : ¬ (k : Int) < (M : Int) := by omega
      have HF : Hid (sm = decide (canonR A = canonR B)) := by
        show _ = _
        rw [Bool.eq_iff_iff, decide_eq_true_eq, ← canon_one, ← HZ.out, hsm.out, List.take_of_length_le (by rw [HM.out]; omega)]
      have k13 := live13 wr
      have B2r : Below w2.heap.size w2 wr := bmore HB25.out hB.out
      clear hsm
      go_wp2_with fail
      go_at_call 13
      (with_reducible refine k13.mono ?_)
      rintro e w6 ⟨rfl, hB6⟩
      have k7 := canon7 (HR1.out _ (bmore B2r hB6)) (by have := Hf1.out.1; omega) Hf1.out.2
      rw [HE1.out] at k7
      go_wp2_with fail
      go_at_call 7
      (with_reducible refine k7.mono ?_)
      rintro e w7 ⟨v7, x7, rfl, hO7, hE7, hB7⟩
      have k7b := canon7 (HR2.out _ (bmore (bmore B2r hB6) hB7)) (by have := Hf2.out.1; omega) Hf2.out.2
      rw [HE2.out] at k7b
      obtain ⟨p7, c7, hv7⟩ := (OwnR.rl hO7).form
      subst hv7
      go_wp2_with fail
      go_at_call 7
      (with_reducible refine k7b.mono ?_)
      rintro e w8 ⟨v8, x8, rfl, hO8, hE8, hB8⟩
      obtain ⟨p8, c8, hv8⟩ := (OwnR.rl hO8).form
      subst hv8
      have hz7 : ∀ e ∈ x7, e.2.1.length ≤ 1000 := fun e he => by
        obtain ⟨q, hq, hqe⟩ := canon_mem A (r := e.2) (by rw [← hE7]; exact List.mem_map.2 ⟨e, he, rfl⟩)
        rw [← hqe]
        rw [← HE1.out] at hq
        obtain ⟨y, hy, rfl⟩ := List.mem_map.1 hq
        exact Hf1.out.2 y hy
      have hz8 : ∀ e ∈ x8, e.2.1.length ≤ 1000 := fun e he => by
        obtain ⟨q, hq, hqe⟩ := canon_mem B (r := e.2) (by rw [← hE8]; exact List.mem_map.2 ⟨e, he, rfl⟩)
        rw [← hqe]
        rw [← HE2.out] at hq
        obtain ⟨y, hy, rfl⟩ := List.mem_map.1 hq
        exact Hf2.out.2 y hy
      have hy7 : x7.length ≤ 100000 := by
        have q := congrArg List.length hE7
        have q2 := canon_len A
        have q3 : A.length * A.length ≤ 24 * 24 := Nat.mul_le_mul HA24.out.1 HA24.out.1
        simp [rws] at q
        omega
      have hy8 : x8.length ≤ 100000 := by
        have q := congrArg List.length hE8
        have q2 := canon_len B
        have q3 : B.length * B.length ≤ 24 * 24 := Nat.mul_le_mul HA24.out.2 HA24.out.2
        simp [rws] at q
        omega
      have k10 := sameRows10 ((OwnR.rl hO7).below hB8) (OwnR.rl hO8) hz7 hz8 hy7 hy8
      rw [hE7, hE8, ← HF.out] at k10
      have KE : Below w.heap.size w w8 := bmore (bmore (bmore (bmore HB2.out B2r) hB6) hB7) hB8
      clear hO7 hO8 hz7 hz8 k7 k7b k13 HF
      cases sm
      · go_wp2_with (go_at_call 10; (with_reducible refine k10.mono ?_); rintro e w9 ⟨rfl, hB9⟩)
        go_ret
        exact ⟨rfl, bmore KE hB9⟩
      · go_wp2_with (go_at_call 10; (with_reducible refine k10.mono ?_); rintro e w9 ⟨rfl, hB9⟩)
        go_ret
        exact ⟨rfl, bmore KE hB9⟩
end Go.Proofs.Ytpagnphabchfcaa
