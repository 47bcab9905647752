/- The document's Sorted once more: what it answers is new. -/
import Derived.Test.YtpagnphabchfcaaGreatTa
namespace Go.Proofs.YtpagnphabchfcaaGreat
open Go.RowKit Go.Shelf
set_option maxRecDepth 100000
def FPost (w : World) (l : List Rw) (e : Ending) (w' : World) : Prop := ∃ v1 x1, e = .returned v1 ∧ OwnR w' w.heap.size v1 x1 ∧ rws x1 = l ∧ Below w.heap.size w w' ∧ ∀ e ∈ x1, SV w' (fun b => b < w.heap.size) e.1 e.2.1
/-- What has been sorted so far. -/
structure SJ (w wr : World) (fo : Value) (es' : List El) (A : List Rw) (k : Nat) : Prop where
  own : OwnR wr w.heap.size fo es'
  rise : Rise (rws es')
  perm : (rws es').Perm (A.take k)
  b : Below w.heap.size w wr
  fresh : ∀ e ∈ es', SV wr (fun b => b < w.heap.size) e.1 e.2.1
theorem SJ.below {w wr wr' : World} {fo : Value} {es' : List El} {A : List Rw} {k : Nat} (h : SJ w wr fo es' A k) (hb : Below wr.heap.size wr wr') : SJ w wr' fo es' A k := ⟨h.own.below hb, h.rise, h.perm, bmore h.b hb, fun e he => (h.fresh e he).below hb⟩
theorem SJ.len {w wr : World} {fo : Value} {es' : List El} {A : List Rw} {k : Nat} (h : SJ w wr fo es' A k) (hk : k ≤ A.length) : es'.length = k := by
  have := h.perm.length_eq
  simp [rws] at this
  omega
theorem SJ.vals {w wr : World} {fo : Value} {es' : List El} {A : List Rw} {k n : Nat} (h : SJ w wr fo es' A k) (hv : ∀ r ∈ A, r.1.length ≤ n) : ∀ e ∈ es', e.2.1.length ≤ n := fun e he => hv e.2 (List.mem_of_mem_take (h.perm.mem_iff.1 (List.mem_map.2 ⟨e, he, rfl⟩)))
theorem SJ.next {w wr wr' : World} {fo fo' : Value} {es' : List El} {A : List Rw} {k n : Nat} {e : El} (h : SJ w wr fo es' A k) (he : A[k]? = some e.2) (hn : n ≤ es'.length) (h1 : ∀ y ∈ (rws es').drop n, cmpR e.2 y = -1) (h2 : ∀ y, (rws es')[n - 1]? = some y → 0 < n → cmpR e.2 y ≠ -1)
    (ho : OwnR wr' w.heap.size fo' (es'.take n ++ e :: es'.drop n)) (hb : Below w.heap.size w wr') {w9 : World} (hef : SV w9 (fun b => b < w.heap.size) e.1 e.2.1) : SJ w wr' fo' (es'.take n ++ e :: es'.drop n) A (k + 1) := by
  refine ⟨ho, ?_, ?_, hb, fun x hx => ?_⟩
  · rw [rws_ins]
    exact rise_insert h.rise h1 h2 (by simpa [rws] using hn)
  · rw [rws_ins, List.take_add_one, he]
    exact perm_insert h.perm
  · have hv := ho.vals x hx
    rcases List.mem_append.1 hx with hx | hx
    · exact (h.fresh x (List.mem_of_mem_take hx)).also hv
    · rcases List.mem_cons.1 hx with rfl | hx
      · exact hef.also hv
      · exact (h.fresh x (List.mem_of_mem_drop hx)).also hv
set_option maxHeartbeats 2000000 in
theorem rsortedF11 {w : World} {X : Nat → Prop} {v : Value} {es : List El} (h : RL w X v es) (hl : es.length ≤ 1000) (hv : ∀ e ∈ es, e.2.1.length ≤ 1000) :
    Calls Tryz.prog 11 #[v] w (FPost w (sortR (rws es))) := by
  obtain ⟨a, c, rfl⟩ := h.form
  obtain ⟨N, hN⟩ : ∃ N, es.length = N := ⟨_, rfl⟩
  have HN : Hid _ := hN
  have HR : Hid (RL w X (.slice a es.length c) es) := h
  have HV : Hid _ := hv
  have HVr : Hid (∀ r ∈ rws es, r.1.length ≤ 1000) := fun r hr => by obtain ⟨e, he, rfl⟩ := List.mem_map.1 hr; exact hv e he
  have HA : Hid ((rws es).length = N) := by show _ = _; simpa [rws] using hN
  rw [hN] at hl ⊢
  rw [hN] at HR
  clear h hN hv
  go_enter Tryz.func11, Tryz.ntmps11
  go_wp2_with fail
  go_loopw [3, 4] (fun fo fi wr => ∃ (k : Nat) (es' : List El), fi = .int .i64 (k : Int) ∧ Hid (k ≤ N) ∧ Hid (SJ w wr fo es' (rws es) k)) (fun _ fi _ => ((N : Int) - intOf fi).toNat)
  case atStart => exact ⟨0, [], rfl, Nat.zero_le _, ⟨OwnR.nil _ _, List.Pairwise.nil, by simp [rws], Below.refl _ _, fun e he => (by cases he)⟩⟩
  case round =>
    obtain ⟨k, es', rfl, hk, hI⟩ := hrel
    by_cases hkN : k < N
    · have hki : (k : Int) < (N : Int) := by omega
      have hk0 : (0 : Int) ≤ (k : Int) := by omega
      obtain ⟨e, he⟩ : ∃ e, es[k]? = some e := ⟨_, List.getElem?_eq_getElem (by rw [HN.out]; exact hkN)⟩
      obtain ⟨g, o, rfl, _, _, _⟩ := (RL.below HR.out hI.out.b).get he
      have HRk : Hid (∀ W, Below w.heap.size w W → W.cell? ⟨g, o + k * 3, none⟩ = some e.1 ∧ W.cell? ⟨g, o + k * 3 + 1, none⟩ = some (.int .i64 e.2.2.1) ∧ W.cell? ⟨g, o + k * 3 + 2, none⟩ = some (.int .i64 e.2.2.2)) := fun W kk => RL.at3 (RL.below HR.out kk) he
      have HSV : Hid (SV w X e.1 e.2.1) := HR.out.vals e (List.mem_of_getElem? he)
      have HLe : Hid (e.2.1.length ≤ 1000) := HV.out e (List.mem_of_getElem? he)
      have HAk : Hid ((rws es)[k]? = some e.2) := by show _ = _; rw [rws, List.getElem?_map, he]; rfl
      have HVs : Hid (∀ y ∈ es', y.2.1.length ≤ 1000) := hI.out.vals HVr.out
      have HM0 : Hid (es'.length = k) := hI.out.len (by rw [HA.out]; exact hk.out)
      obtain ⟨p3, c3, rfl⟩ := (OwnR.rl hI.out.own).form
      rw [HM0.out]
      rw [HM0.out] at hI
      obtain ⟨sv, vs, f, t⟩ := e
      simp only at HRk HSV HLe HAk
      obtain ⟨pa, ca, rfl⟩ := SV.form HSV.out
      obtain ⟨wa, hwa⟩ : ∃ wa, wa = wr := ⟨_, rfl⟩
      subst hwa
      clear he
      go_wp2_with fail
      go_loopw [5] (fun fn wr => ∃ (n : Nat), fn = .int .i64 (n : Int) ∧ Hid (n ≤ k) ∧ Hid (∀ y ∈ (rws es').drop n, cmpR (vs, f, t) y = -1) ∧ Hid (Below wa.heap.size wa wr)) (fun fn _ => (intOf fn).toNat)
      case atStart => exact ⟨k, by simp, Nat.le_refl _, fun y hy => by rw [List.drop_of_length_le (by simp [rws]; rw [HM0.out]; exact Nat.le_refl _)] at hy; simp at hy, Below.refl _ _⟩
      case round =>
        obtain ⟨n, rfl, hn, hD, hB⟩ := hrel
        by_cases hn0 : n = 0
        · subst hn0
          go_wp2_with fail
          go_big_quiet (fail)
          have Ky : Below wr.heap.size wr (wr.drewN nq) := ⟨rfl, rfl, rfl, Nat.le_refl _, fun _ _ => rfl⟩
          have HIy : Hid (SJ w (wr.drewN nq) (.slice p3 k c3) es' (rws es) k) := SJ.below hI.out (bmore hB.out Ky)
          have H2y : Hid (∀ y, (rws es')[0 - 1]? = some y → 0 < 0 → cmpR (vs, f, t) y ≠ -1) := fun y _ h0 => absurd h0 (by omega)
          generalize wr.drewN nq = wy at *
          have HApp := app_zero HIy.out.own (by rw [HM0.out]; omega) HIy.out.b
          rw [HM0.out] at HApp
          go_wp2_with (at_builtin; refine wpList_append_ex (by rfl) (.tmp 32) (.tmp 34) 22 (by rfl) _ _ (by rfl) (by rfl) HApp ?_; rintro v7 w7 ⟨g7, c7, hv7, ho7, hB7⟩; subst hv7)
          clear HApp
          go_loopw [6] (fun fk wr => ∃ (q : Nat) (y : El), fk = .int .i64 (q : Int) ∧ Hid (0 ≤ q ∧ q ≤ k) ∧ Hid (OwnR wr w.heap.size (.slice (some ⟨g7, 0, none⟩) (k + 1) c7) (es'.take q ++ y :: es'.drop q)) ∧ Hid (Below w.heap.size w wr)) (fun fk _ => (intOf fk).toNat)
          case atStart => exact ⟨k, (.slice none 0 0, [], 0, 0), by simp, ⟨hn.out, Nat.le_refl _⟩, by show OwnR _ _ _ _; rw [List.take_of_length_le (by rw [HM0.out]; exact Nat.le_refl _), List.drop_of_length_le (by rw [HM0.out]; exact Nat.le_refl _)]; exact ho7.out, hB7.out⟩
          case round =>
            obtain ⟨q, y8, rfl, hq, ho8, hB8⟩ := hrel
            by_cases hqn : 0 < q
            · obtain ⟨p, hqp⟩ : ∃ p, q = p + 1 := ⟨q - 1, by omega⟩
              have HQP : Hid (q = p + 1) := hqp
              have hqi : ((0 : Nat) : Int) < (q : Int) := by omega
              have hq1 : (0 : Int) ≤ (q : Int) := by omega
              have hq2 : (q : Int) < (k : Int) + 1 := by have := hq.out.2; omega
              have hp1 : (0 : Int) ≤ (p : Int) := by omega
              have hp2 : (p : Int) < (k : Int) + 1 := by have := hq.out.2; omega
              have hqs : IntKind.i64.wrap ((q : Int) - 1) = (p : Int) := by rw [wrap_small _ (by omega) (by have := hq.out; omega)]; omega
              obtain ⟨e8, he8⟩ : ∃ e8, es'[p]? = some e8 := ⟨_, List.getElem?_eq_getElem (by rw [HM0.out]; have := hq.out.2; omega)⟩
              have HO9 : Hid (OwnR (set3 wr g7 q e8) w.heap.size (.slice (some ⟨g7, 0, none⟩) (k + 1) c7) (es'.take p ++ e8 :: es'.drop p)) := by
                have h0 := ho8.out
                have hlen : (es'.take q ++ y8 :: es'.drop q).length = k + 1 := by simp [HM0.out]; have := hq.out.2; omega
                have h1 := ownR_set3 h0 (k := q) (by rw [hlen]; have := hq.out.2; omega) e8 ((h0.vals e8 (List.mem_of_getElem? (by rw [hqp]; exact ins_get es' p y8 e8 he8))).mono (fun b _ q => by subst q; rfl))
                subst hqp
                rw [ins_shift es' p y8 e8 he8] at h1
                exact h1
              have HB9 : Hid (Below w.heap.size w (set3 wr g7 q e8)) := hB8.out.trans ((set3_keep wr g7 q e8).below hB8.out.size (fun i hi h => by have := (ho8.out.row.lt g7 rfl).1; omega))
              obtain ⟨z0, z1, z2⟩ := ownR_at3 ho8.out (k := p) (e := e8) (by subst hqp; exact ins_get es' p y8 e8 he8)
              obtain ⟨y9, hy9⟩ : ∃ y9, (es'.take q ++ y8 :: es'.drop q)[q]? = some y9 := ⟨_, List.getElem?_eq_getElem (by simp [HM0.out]; have := hq.out.2; omega)⟩
              obtain ⟨x0, x1, x2⟩ := ownR_at3 ho8.out hy9
              have fz := fun j => ownR_frozen ho8.out j
              obtain ⟨s8, v8, f8, t8⟩ := e8
              have HSV8 : Hid (∃ a c, s8 = .slice a v8.length c) := SV.form (ho8.out.vals (s8, v8, f8, t8) (List.mem_of_getElem? (by rw [hqp]; exact ins_get es' p y8 _ he8)))
              obtain ⟨a8, c8, rfl⟩ := HSV8.out
              simp only [set3] at HO9 HB9
              simp only at z0 z1 z2
              clear hy9 he8 hqp HSV8
              go_wp2_with fail
              go_roundw
              case rel => exact ⟨p, _, by simp, ⟨by have := HQP.out; omega, by have := hq.out.2; have := HQP.out; omega⟩, HO9.out, HB9.out⟩
              case measure => have := HQP.out; simp only [intOf]; omega
            · obtain rfl : 0 = q := by have := hq.out.1; omega
              have hqi : ¬ (((0 : Nat)) : Int) < (((0 : Nat)) : Int) := by omega
              have hq1 : (0 : Int) ≤ ((0 : Nat) : Int) := by omega
              have hq2 : ((0 : Nat) : Int) < (k : Int) + 1 := by have := hq.out.2; omega
              obtain ⟨z0, z1, z2⟩ := HRk.out _ hB8.out
              have k49 := own49 (w := wr) (r := (vs, f, t)) (SV.below HSV.out hB8.out) HLe.out
              have hlen : (es'.take 0 ++ y8 :: es'.drop 0).length = k + 1 := by simp [HM0.out] <;> (have := hq.out.2; omega)
              have HFin : Hid (∀ v9 w9, SV w9 (fun b => b < wr.heap.size) v9 vs → Below wr.heap.size wr w9 → SJ w (set3 w9 g7 0 (v9, vs, f, t)) (.slice (some ⟨g7, 0, none⟩) (k + 1) c7) (es'.take 0 ++ (v9, vs, f, t) :: es'.drop 0) (rws es) (k + 1)) := fun v9 w9 h9 b9 => by
                have h0 := ho8.out.below b9
                have h1 := ownR_set3 h0 (k := 0) (by rw [hlen]; have := hq.out.2; omega) (v9, vs, f, t) (SV.mono h9 (fun b _ q => by rw [q]; exact (ho8.out.row.lt g7 rfl).2))
                rw [ins_set es' 0 y8 _ (by rw [HM0.out]; exact hq.out.2)] at h1
                exact SJ.next (w9 := w9) hI.out HAk.out (by rw [HM0.out]; exact hq.out.2) hD.out H2y.out h1 (bmore hB8.out b9 |>.trans ((set3_keep w9 g7 0 _).below (bmore hB8.out b9).size (fun i hi h => by have := (ho8.out.row.lt g7 rfl).1; omega))) (SV.mono h9 (fun b hb q => by have := hB8.out.size; omega))
              have HX9 : Hid (∀ w9, Below wr.heap.size wr w9 → (∃ u, w9.cell? ⟨g7, 0 * 3, none⟩ = some u) ∧ (∃ u, w9.cell? ⟨g7, 0 * 3 + 1, none⟩ = some u) ∧ (∃ u, w9.cell? ⟨g7, 0 * 3 + 2, none⟩ = some u) ∧ ∀ j, w9.frozen? ⟨g7, j, none⟩ = false) := fun w9 b9 => by
                have h0 := ho8.out.below b9
                obtain ⟨y9, hy9⟩ : ∃ y9, (es'.take 0 ++ y8 :: es'.drop 0)[0]? = some y9 := ⟨_, List.getElem?_eq_getElem (by rw [hlen]; have := hq.out.2; omega)⟩
                obtain ⟨x0, x1, x2⟩ := ownR_at3 h0 hy9
                exact ⟨⟨_, x0⟩, ⟨_, x1⟩, ⟨_, x2⟩, fun j => ownR_frozen h0 j⟩
              simp only [set3] at HFin
              clear hlen
              go_wp2_with (go_at_call 49; (with_reducible refine k49.mono ?_); rintro e w9 ⟨v9, rfl, hS9, hB9⟩; have HI9 : Hid _ := HFin.out v9 w9 hS9 hB9; obtain ⟨a9, c9, rfl⟩ := SV.form hS9; obtain ⟨⟨u0, x0⟩, ⟨u1, x1⟩, ⟨u2, x2⟩, fz⟩ := HX9.out _ hB9; clear hS9)
              go_roundw
              case rel => exact ⟨k + 1, _, by simp, by show _ ≤ _; omega, HI9.out⟩
              case measure => simp only [intOf]; omega
        · obtain ⟨m, hnm⟩ : ∃ m, n = m + 1 := ⟨n - 1, by omega⟩
          have HNM : Hid (n = m + 1) := hnm
          have hm0 : (0 : Int) < (n : Int) := by omega
          have hmk : (m : Int) < (k : Int) := by have := hn.out; omega
          have hmz : (0 : Int) ≤ (m : Int) := by omega
          have hsub : IntKind.i64.wrap ((n : Int) - 1) = (m : Int) := by rw [wrap_small _ (by have := hn.out; omega) (by have := hn.out; omega)]; omega
          have hnd : 0 < n := by omega
          have hnd1 : decide ((0 : Int) < (n : Int)) = true := decide_eq_true hm0
          have hnd2 : decide (0 < n) = true := decide_eq_true hnd
          clear hn0 hnm
          obtain ⟨y, hy⟩ : ∃ y, es'[m]? = some y := ⟨_, List.getElem?_eq_getElem (by rw [HM0.out]; omega)⟩
          have HIw : Hid (SJ w wr (.slice p3 k c3) es' (rws es) k) := SJ.below hI.out hB.out
          obtain ⟨g3, o3, rfl, _⟩ := RL.get (OwnR.rl HIw.out.own) hy
          have HRy : Hid (∀ W, Below wr.heap.size wr W → W.cell? ⟨g3, o3 + m * 3, none⟩ = some y.1 ∧ W.cell? ⟨g3, o3 + m * 3 + 1, none⟩ = some (.int .i64 y.2.2.1) ∧ W.cell? ⟨g3, o3 + m * 3 + 2, none⟩ = some (.int .i64 y.2.2.2)) := fun W kk => RL.at3 (RL.below (OwnR.rl HIw.out.own) kk) hy
          have HSVy : Hid (SV wr (fun _ => False) y.1 y.2.1) := (OwnR.rl HIw.out.own).vals y (List.mem_of_getElem? hy)
          have HLy : Hid (y.2.1.length ≤ 1000) := HVs.out y (List.mem_of_getElem? hy)
          have HYr : Hid ((rws es')[m]? = some y.2) := by show _ = _; rw [rws, List.getElem?_map, hy]; rfl
          have HDn : Hid (cmpR (vs, f, t) y.2 = -1 → ∀ z ∈ (rws es').drop m, cmpR (vs, f, t) z = -1) := fun q z hz => by
            have hq := List.getElem?_eq_some_iff.1 HYr.out
            rw [List.drop_eq_getElem_cons hq.1, hq.2] at hz
            rcases List.mem_cons.1 hz with rfl | hz
            · exact q
            · exact hD.out z (by rw [HNM.out]; exact hz)
          have H2y : Hid (¬ cmpR (vs, f, t) y.2 = -1 → ∀ z, (rws es')[n - 1]? = some z → 0 < n → cmpR (vs, f, t) z ≠ -1) := fun q z hz _ => by
            rw [show n - 1 = m by have := HNM.out; omega, HYr.out] at hz
            cases hz
            exact q
          clear hy
          obtain ⟨sy, vs', f', t'⟩ := y
          simp only at HRy HSVy HLy HYr HDn H2y
          obtain ⟨pb, cb, rfl⟩ := SV.form HSVy.out
          have HS : Hid (∀ W', Below wr.heap.size wr W' → W'.cell? ⟨g, o + k * 3, none⟩ = some (.slice pa vs.length ca) ∧ W'.cell? ⟨g, o + k * 3 + 1, none⟩ = some (.int .i64 f) ∧ W'.cell? ⟨g, o + k * 3 + 2, none⟩ = some (.int .i64 t) ∧ W'.cell? ⟨g3, o3 + m * 3, none⟩ = some (.slice pb vs'.length cb) ∧ W'.cell? ⟨g3, o3 + m * 3 + 1, none⟩ = some (.int .i64 f') ∧ W'.cell? ⟨g3, o3 + m * 3 + 2, none⟩ = some (.int .i64 t')) := fun W' kk => by
            obtain ⟨z0, z1, z2⟩ := HRk.out _ (bmore HIw.out.b kk)
            exact ⟨z0, z1, z2, HRy.out W' kk⟩
          have H48 : Hid (∀ W', Below wr.heap.size wr W' → Calls Tryz.prog 48 #[RV (.slice pa vs.length ca) (vs, f, t), RV (.slice pb vs'.length cb) (vs', f', t')] W' fun e w' => e = .returned (.int .i64 (cmpR (vs, f, t) (vs', f', t'))) ∧ Below W'.heap.size W' w') := fun W' kk => compare39 (X := fun _ => False) (r := (vs, f, t)) (r' := (vs', f', t')) ((SV.below HSV.out (bmore HIw.out.b kk)).mono (fun _ _ h => h.elim)) (SV.below HSVy.out kk) (Nat.le_trans HLe.out (by decide)) (Nat.le_trans HLy.out (by decide))
          have K0 : Below wr.heap.size wr wr.drew := (Below.refl _ _).drew
          have hS0 := HS.out _ K0
          have t3 := ordR.three (vs, f, t) (vs', f', t')
          have k48 := H48.out _ K0
          generalize cmpR (vs, f, t) (vs', f', t') = z at *
          clear H48 HYr HSVy HRy HLy
          by_cases hz : z = -1
          · subst hz
            go_wp2_with fail
            go_region_held3 (fun W' => W'.cell? ⟨g, o + k * 3, none⟩ = some (.slice pa vs.length ca) ∧ W'.cell? ⟨g, o + k * 3 + 1, none⟩ = some (.int .i64 f) ∧ W'.cell? ⟨g, o + k * 3 + 2, none⟩ = some (.int .i64 t) ∧ W'.cell? ⟨g3, o3 + m * 3, none⟩ = some (.slice pb vs'.length cb) ∧ W'.cell? ⟨g3, o3 + m * 3 + 1, none⟩ = some (.int .i64 f') ∧ W'.cell? ⟨g3, o3 + m * 3 + 2, none⟩ = some (.int .i64 t')) (first | exact hS0 | exact HS.out _ K1) (first
              | (go_at_call 48; (with_reducible refine k48.mono ?_); rintro e w3 ⟨rfl, B3⟩; have K1 := bmore K0 B3))
            clear hS0
            go_wp2_with fail
            go_roundw
            case rel => exact ⟨m, by simp, by have := hn.out; show _ ≤ _; omega, HDn.out trivial, bmore hB.out K1⟩
            case measure => have := HNM.out; simp only [intOf]; omega
          · have hz0 : ¬ z < 0 := by omega
            have HZ2 : Hid (∀ z, (rws es')[n - 1]? = some z → 0 < n → cmpR (vs, f, t) z ≠ -1) := H2y.out hz
            clear t3 HDn H2y hz
            go_wp2_with fail
            go_region_held3 (fun W' => W'.cell? ⟨g, o + k * 3, none⟩ = some (.slice pa vs.length ca) ∧ W'.cell? ⟨g, o + k * 3 + 1, none⟩ = some (.int .i64 f) ∧ W'.cell? ⟨g, o + k * 3 + 2, none⟩ = some (.int .i64 t) ∧ W'.cell? ⟨g3, o3 + m * 3, none⟩ = some (.slice pb vs'.length cb) ∧ W'.cell? ⟨g3, o3 + m * 3 + 1, none⟩ = some (.int .i64 f') ∧ W'.cell? ⟨g3, o3 + m * 3 + 2, none⟩ = some (.int .i64 t')) (first | exact hS0 | exact HS.out _ K1) (first
              | (go_at_call 48; (with_reducible refine k48.mono ?_); rintro e w3 ⟨rfl, B3⟩; have K1 := bmore K0 B3))
            clear hS0
            have HIy : Hid (SJ w w3 (.slice (some ⟨g3, o3, none⟩) k c3) es' (rws es) k) := SJ.below HIw.out K1
            have HApp := app_zero HIy.out.own (by rw [HM0.out]; omega) HIy.out.b
            rw [HM0.out] at HApp
            go_wp2_with (at_builtin; refine wpList_append_ex (by rfl) (.tmp 32) (.tmp 34) 22 (by rfl) _ _ (by rfl) (by rfl) HApp ?_; rintro v7 w7 ⟨g7, c7, hv7, ho7, hB7⟩; subst hv7)
            clear HApp
            go_loopw [6] (fun fk wr => ∃ (q : Nat) (y : El), fk = .int .i64 (q : Int) ∧ Hid (n ≤ q ∧ q ≤ k) ∧ Hid (OwnR wr w.heap.size (.slice (some ⟨g7, 0, none⟩) (k + 1) c7) (es'.take q ++ y :: es'.drop q)) ∧ Hid (Below w.heap.size w wr)) (fun fk _ => (intOf fk).toNat)
            case atStart => exact ⟨k, (.slice none 0 0, [], 0, 0), by simp, ⟨hn.out, Nat.le_refl _⟩, by show OwnR _ _ _ _; rw [List.take_of_length_le (by rw [HM0.out]; exact Nat.le_refl _), List.drop_of_length_le (by rw [HM0.out]; exact Nat.le_refl _)]; exact ho7.out, hB7.out⟩
            case round =>
              obtain ⟨q, y8, rfl, hq, ho8, hB8⟩ := hrel
              by_cases hqn : n < q
              · obtain ⟨p, hqp⟩ : ∃ p, q = p + 1 := ⟨q - 1, by omega⟩
                have HQP : Hid (q = p + 1) := hqp
                have hqi : ((n : Nat) : Int) < (q : Int) := by omega
                have hq1 : (0 : Int) ≤ (q : Int) := by omega
                have hq2 : (q : Int) < (k : Int) + 1 := by have := hq.out.2; omega
                have hp1 : (0 : Int) ≤ (p : Int) := by omega
                have hp2 : (p : Int) < (k : Int) + 1 := by have := hq.out.2; omega
                have hqs : IntKind.i64.wrap ((q : Int) - 1) = (p : Int) := by rw [wrap_small _ (by omega) (by have := hq.out; omega)]; omega
                obtain ⟨e8, he8⟩ : ∃ e8, es'[p]? = some e8 := ⟨_, List.getElem?_eq_getElem (by rw [HM0.out]; have := hq.out.2; omega)⟩
                have HO9 : Hid (OwnR (set3 wr g7 q e8) w.heap.size (.slice (some ⟨g7, 0, none⟩) (k + 1) c7) (es'.take p ++ e8 :: es'.drop p)) := by
                  have h0 := ho8.out
                  have hlen : (es'.take q ++ y8 :: es'.drop q).length = k + 1 := by simp [HM0.out]; have := hq.out.2; omega
                  have h1 := ownR_set3 h0 (k := q) (by rw [hlen]; have := hq.out.2; omega) e8 ((h0.vals e8 (List.mem_of_getElem? (by rw [hqp]; exact ins_get es' p y8 e8 he8))).mono (fun b _ q => by subst q; rfl))
                  subst hqp
                  rw [ins_shift es' p y8 e8 he8] at h1
                  exact h1
                have HB9 : Hid (Below w.heap.size w (set3 wr g7 q e8)) := hB8.out.trans ((set3_keep wr g7 q e8).below hB8.out.size (fun i hi h => by have := (ho8.out.row.lt g7 rfl).1; omega))
                obtain ⟨z0, z1, z2⟩ := ownR_at3 ho8.out (k := p) (e := e8) (by subst hqp; exact ins_get es' p y8 e8 he8)
                obtain ⟨y9, hy9⟩ : ∃ y9, (es'.take q ++ y8 :: es'.drop q)[q]? = some y9 := ⟨_, List.getElem?_eq_getElem (by simp [HM0.out]; have := hq.out.2; omega)⟩
                obtain ⟨x0, x1, x2⟩ := ownR_at3 ho8.out hy9
                have fz := fun j => ownR_frozen ho8.out j
                obtain ⟨s8, v8, f8, t8⟩ := e8
                have HSV8 : Hid (∃ a c, s8 = .slice a v8.length c) := SV.form (ho8.out.vals (s8, v8, f8, t8) (List.mem_of_getElem? (by rw [hqp]; exact ins_get es' p y8 _ he8)))
                obtain ⟨a8, c8, rfl⟩ := HSV8.out
                simp only [set3] at HO9 HB9
                simp only at z0 z1 z2
                clear hy9 he8 hqp HSV8
                go_wp2_with fail
                go_roundw
                case rel => exact ⟨p, _, by simp, ⟨by have := HQP.out; omega, by have := hq.out.2; have := HQP.out; omega⟩, HO9.out, HB9.out⟩
                case measure => have := HQP.out; simp only [intOf]; omega
              · obtain rfl : n = q := by have := hq.out.1; omega
                have hqi : ¬ (((n : Nat)) : Int) < (((n : Nat)) : Int) := by omega
                have hq1 : (0 : Int) ≤ ((n : Nat) : Int) := by omega
                have hq2 : ((n : Nat) : Int) < (k : Int) + 1 := by have := hq.out.2; omega
                obtain ⟨z0, z1, z2⟩ := HRk.out _ hB8.out
                have k49 := own49 (w := wr) (r := (vs, f, t)) (SV.below HSV.out hB8.out) HLe.out
                have hlen : (es'.take n ++ y8 :: es'.drop n).length = k + 1 := by simp [HM0.out] <;> (have := hq.out.2; omega)
                have HFin : Hid (∀ v9 w9, SV w9 (fun b => b < wr.heap.size) v9 vs → Below wr.heap.size wr w9 → SJ w (set3 w9 g7 n (v9, vs, f, t)) (.slice (some ⟨g7, 0, none⟩) (k + 1) c7) (es'.take n ++ (v9, vs, f, t) :: es'.drop n) (rws es) (k + 1)) := fun v9 w9 h9 b9 => by
                  have h0 := ho8.out.below b9
                  have h1 := ownR_set3 h0 (k := n) (by rw [hlen]; have := hq.out.2; omega) (v9, vs, f, t) (SV.mono h9 (fun b _ q => by rw [q]; exact (ho8.out.row.lt g7 rfl).2))
                  rw [ins_set es' n y8 _ (by rw [HM0.out]; exact hq.out.2)] at h1
                  exact SJ.next (w9 := w9) hI.out HAk.out (by rw [HM0.out]; exact hq.out.2) hD.out HZ2.out h1 (bmore hB8.out b9 |>.trans ((set3_keep w9 g7 n _).below (bmore hB8.out b9).size (fun i hi h => by have := (ho8.out.row.lt g7 rfl).1; omega))) (SV.mono h9 (fun b _ q => by have := hB8.out.size; omega))
                have HX9 : Hid (∀ w9, Below wr.heap.size wr w9 → (∃ u, w9.cell? ⟨g7, n * 3, none⟩ = some u) ∧ (∃ u, w9.cell? ⟨g7, n * 3 + 1, none⟩ = some u) ∧ (∃ u, w9.cell? ⟨g7, n * 3 + 2, none⟩ = some u) ∧ ∀ j, w9.frozen? ⟨g7, j, none⟩ = false) := fun w9 b9 => by
                  have h0 := ho8.out.below b9
                  obtain ⟨y9, hy9⟩ : ∃ y9, (es'.take n ++ y8 :: es'.drop n)[n]? = some y9 := ⟨_, List.getElem?_eq_getElem (by rw [hlen]; have := hq.out.2; omega)⟩
                  obtain ⟨x0, x1, x2⟩ := ownR_at3 h0 hy9
                  exact ⟨⟨_, x0⟩, ⟨_, x1⟩, ⟨_, x2⟩, fun j => ownR_frozen h0 j⟩
                simp only [set3] at HFin
                clear hlen
                go_wp2_with (go_at_call 49; (with_reducible refine k49.mono ?_); rintro e w9 ⟨v9, rfl, hS9, hB9⟩; have HI9 : Hid _ := HFin.out v9 w9 hS9 hB9; obtain ⟨a9, c9, rfl⟩ := SV.form hS9; obtain ⟨⟨u0, x0⟩, ⟨u1, x1⟩, ⟨u2, x2⟩, fz⟩ := HX9.out _ hB9; clear hS9)
                go_roundw
                case rel => exact ⟨k + 1, _, by simp, by show _ ≤ _; omega, HI9.out⟩
                case measure => simp only [intOf]; omega
    · have hki : ¬ (k : Int) < (N : Int) := by omega
      go_wp2
      go_ret
      exact ⟨_, es', rfl, hI.out.own, sortR_of hI.out.rise (by have := hI.out.perm; rwa [List.take_of_length_le (by rw [HA.out]; omega)] at this), hI.out.b, hI.out.fresh⟩
end Go.Proofs.YtpagnphabchfcaaGreat
