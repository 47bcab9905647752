/- The document's At, walked. -/
import Derived.Test.YtpagnphabchfcaaGreatQf
namespace Go.Proofs.YtpagnphabchfcaaGreat
open Go.RowKit Go.Shelf
set_option maxRecDepth 100000
def BPost (w : World) (L : List (List Vt)) (e : Ending) (w' : World) : Prop := ∃ v vv, e = .returned v ∧ VL w' v vv ∧ vv.map (·.2) = L ∧ Below w.heap.size w w'
theorem AV.vl {w wr : World} {fo : Value} {vv : List (Value × List Vt)} {L : List (List Vt)} (h : AV w wr fo vv L) : VL wr fo vv := vl_of h.own (fun x hx => (h.vals x hx).mono (fun b _ q => (World.ownsRow.lt h.own b q).1))
set_option maxHeartbeats 1000000 in
theorem rat30 {w : World} {X : Nat → Prop} {v : Value} {es : List El} {p : Int} (h : RL w X v es) (hl : es.length ≤ 1000) (hv : ∀ e ∈ es, e.2.1.length ≤ 1000) :
    Calls Tryz.prog 30 #[v, .int .i64 p] w (BPost w (atR (rws es) p)) := by
  have HR : Hid (RL w (fun x => w.heap.size ≤ x) v es) := RL.old (h.mono (Y := fun _ => False) (fun _ _ h => h.elim))
  obtain ⟨pa, c, rfl⟩ := h.form
  obtain ⟨N, hN⟩ : ∃ N, es.length = N := ⟨_, rfl⟩
  have HN : Hid _ := hN
  have HVr : Hid (∀ r ∈ rws es, r.1.length ≤ 1000) := fun r hr => by obtain ⟨e, he, rfl⟩ := List.mem_map.1 hr; exact hv e he
  have HA : Hid ((rws es).length = N) := by show _ = _; simpa [rws] using hN
  rw [hN] at hl ⊢
  rw [hN] at HR
  clear h hN hv
  go_enter Tryz.func30, Tryz.ntmps30
  go_wp2_with fail
  go_loopw [5, 6] (fun fo fi wr => ∃ (k : Nat) (os : List El), fi = .int .i64 (k : Int) ∧ Hid (k ≤ N) ∧ Hid (FI w wr fo os (atL p ((rws es).take k)))) (fun _ fi _ => ((N : Int) - intOf fi).toNat)
  case atStart => exact ⟨0, [], rfl, Nat.zero_le _, FI.nil _⟩
  case round =>
    obtain ⟨k, os, rfl, hk, hI⟩ := hrel
    by_cases hkN : k < N
    · have hki : (k : Int) < (N : Int) := by omega
      have hk0 : (0 : Int) ≤ (k : Int) := by omega
      obtain ⟨e, he⟩ : ∃ e, es[k]? = some e := ⟨_, List.getElem?_eq_getElem (by rw [HN.out]; exact hkN)⟩
      obtain ⟨g, o, rfl, _, _, d0, d1, d2⟩ := (RL.below HR.out hI.out.b).get he
      have HC : Hid (∀ W, Below w.heap.size w W → W.cell? ⟨g, o + k * 3, none⟩ = some e.1) := fun W kk => (RL.at3 (RL.below HR.out kk) he).1
      have HSV : Hid (SV w (fun x => w.heap.size ≤ x) e.1 e.2.1) := HR.out.vals e (List.mem_of_getElem? he)
      have HTk : Hid (atL p ((rws es).take (k + 1)) = atL p ((rws es).take k) ++ (if hasR p e.2 = true then [(e.2.1, 0, 0)] else [])) := atL_take p (by rw [rws, List.getElem?_map, he]; rfl)
      have HLn : Hid ((atL p ((rws es).take k)).length ≤ 100000) := by
        have h1 := atL_len p ((rws es).take k)
        rw [List.length_take] at h1
        show _ ≤ _
        omega
      obtain ⟨sv, vs, f, t⟩ := e
      simp only at d0 d1 d2 HC HSV HTk
      obtain ⟨pb, cb, rfl⟩ := SV.form HSV.out
      have k68 := Sp.has15 f t p wr
      have HBr : Hid (Below w.heap.size w wr) := hI.out.b
      clear he d0
      cases hbB : Sp.hasB f t p
      · rw [hbB] at k68
        have HTk' : Hid (atL p ((rws es).take (k + 1)) = atL p ((rws es).take k)) := by
          show _ = _
          rw [HTk.out]
          simp [hasR, hbB]
        clear HTk hbB
        go_wp2_with (go_at_call 68; (with_reducible refine k68.mono ?_); rintro e w6 ⟨rfl, B6⟩; have HB6 : Hid _ := B6; clear B6)
        go_roundw
        case rel => exact ⟨k + 1, os, by simp, by show _ ≤ _; omega, by show FI _ _ _ _ _; rw [HTk'.out]; exact FI.below hI.out HB6.out⟩
        case measure => simp only [intOf]; omega
      · rw [hbB] at k68
        have HTk' : Hid (atL p ((rws es).take (k + 1)) = atL p ((rws es).take k) ++ [(vs, 0, 0)]) := by
          show _ = _
          rw [HTk.out]
          simp [hasR, hbB]
        clear HTk hbB
        go_wp2_with (first
          | (go_at_call 68; (with_reducible refine k68.mono ?_); rintro e w6 ⟨rfl, B6⟩; have y0 := HC.out _ (bmore HBr.out B6); have HApp := FI.app (f := 0) (t := 0) (FI.below hI.out B6) HLn.out (SV.below HSV.out (bmore HBr.out B6)) w6.heap.size rfl; clear B6)
          | (at_builtin; refine wpList_append_ex (by rfl) (.tmp 22) (.tmp 29) 22 (by rfl) _ _ (by rfl) (by rfl) HApp ?_; rintro v7 w7 ⟨hI7, _⟩))
        go_roundw
        case rel =>
          obtain ⟨os', hI8⟩ := hI7.out
          exact ⟨k + 1, os', by simp, by show _ ≤ _; omega, by show FI _ _ _ _ _; rw [HTk'.out]; exact hI8⟩
        case measure => simp only [intOf]; omega
    · have hki : ¬ (k : Int) < (N : Int) := by omega
      have HE : Hid (rws os = atL p (rws es)) := by show _ = _; rw [hI.out.rows, List.take_of_length_le (by rw [HA.out]; omega)]
      have k11 := rsorted11 (OwnR.rl hI.out.own) (by have := hI.out.len; have h1 := atL_len p ((rws es).take k); rw [List.length_take, HA.out] at h1; omega) (rws_vals HE.out (atL_vals HVr.out))
      rw [HE.out] at k11
      have HS1 : Hid (∀ r ∈ sortR (atL p (rws es)), r.1.length ≤ 1000) := sortR_vals (atL_vals HVr.out)
      have HS2 : Hid ((sortR (atL p (rws es))).length ≤ 1000) := by show _ ≤ _; rw [sortR_len]; have := atL_len p (rws es); rw [HA.out] at this; omega
      have HS3 : Hid (ddF (sortR (atL p (rws es))) (sortR (atL p (rws es))).length = atR (rws es) p) := ddF_at _ _
      have HBr : Hid (Below w.heap.size w wr) := hI.out.b
      generalize sortR (atL p (rws es)) = S at *
      generalize atR (rws es) p = AA at *
      go_wp2_with (go_at_call 11; (with_reducible refine k11.mono ?_); rintro e w5 ⟨v5, x5, rfl, o5, e5, B5⟩; obtain ⟨p5, c5, hf5⟩ := (OwnR.rl o5).form; subst hf5; have HO5 : Hid (RL w5 (fun b => w5.heap.size ≤ b) (.slice p5 x5.length c5) x5) := RL.old (OwnR.rl o5); have HE5 : Hid (rws x5 = S) := e5; have HB5 : Hid (Below w.heap.size w w5) := bmore HBr.out B5; clear o5 e5 B5)
      obtain ⟨M, hM⟩ : ∃ M, x5.length = M := ⟨_, rfl⟩
      have HM : Hid (x5.length = M) := hM
      have HSM : Hid (S.length = M) := by show _ = _; rw [← HE5.out, ← hM]; simp [rws]
      have hM1 : M ≤ 1000 := by have := HS2.out; have := HSM.out; omega
      rw [hM]
      rw [hM] at HO5
      clear hM hI HE k11 HBr
      go_loopw [7, 8] (fun fo fi wr => ∃ (k : Nat) (vv : List (Value × List Vt)), fi = .int .i64 (k : Int) ∧ Hid (k ≤ M) ∧ Hid (AV w5 wr fo vv (ddF S k))) (fun _ fi _ => ((M : Int) - intOf fi).toNat)
      case atStart => exact ⟨0, [], rfl, Nat.zero_le _, AV.nil _⟩
      case round =>
        obtain ⟨k, vv, rfl, hk, hI⟩ := hrel
        by_cases hkN : k < M
        · have hki : (k : Int) < (M : Int) := by omega
          have hk0 : (0 : Int) ≤ (k : Int) := by omega
          obtain ⟨e, he⟩ : ∃ e, x5[k]? = some e := ⟨_, List.getElem?_eq_getElem (by rw [HM.out]; exact hkN)⟩
          obtain ⟨g, o, rfl, _, _, _⟩ := (RL.below HO5.out hI.out.b).get he
          have HC : Hid (∀ W, Below w5.heap.size w5 W → W.cell? ⟨g, o + k * 3, none⟩ = some e.1 ∧ W.cell? ⟨g, o + k * 3 + 1, none⟩ = some (.int .i64 e.2.2.1) ∧ W.cell? ⟨g, o + k * 3 + 2, none⟩ = some (.int .i64 e.2.2.2)) := fun W kk => RL.at3 (RL.below HO5.out kk) he
          have HSV : Hid (SV w5 (fun x => w5.heap.size ≤ x) e.1 e.2.1) := HO5.out.vals e (List.mem_of_getElem? he)
          have HSk : Hid (S[k]? = some e.2) := by show _ = _; rw [← HE5.out, rws, List.getElem?_map, he]; rfl
          have HLe : Hid (e.2.1.length ≤ 1000) := HS1.out e.2 (List.mem_of_getElem? HSk.out)
          have HLn : Hid ((ddF S k).length ≤ 100000) := by have := ddF_len S k; show _ ≤ _; omega
          have HBr : Hid (Below w5.heap.size w5 wr) := hI.out.b
          obtain ⟨sv, vs, f, t⟩ := e
          simp only at HC HSV HSk HLe
          obtain ⟨pb, cb, rfl⟩ := SV.form HSV.out
          clear he
          by_cases hz : k = 0
          · subst hz
            have HDD : Hid (ddF S (0 + 1) = ddF S 0 ++ [vs]) := by show _ = _; rw [ddF_zero S HSk.out]; rfl
            go_wp2_with fail
            go_big_quiet (fail)
            have Ky : Below wr.heap.size wr (wr.drewN nq) := ⟨rfl, rfl, rfl, Nat.le_refl _, fun _ _ => rfl⟩
            have y0 := (HC.out _ (bmore HBr.out Ky)).1
            simp only [Nat.zero_mul, Nat.add_zero] at y0
            have HApp := AV.app (AV.below hI.out Ky) HLn.out (SV.below HSV.out (bmore HBr.out Ky)) (wr.drewN nq).heap.size rfl
            generalize wr.drewN nq = wy at *
            go_wp2_with (at_builtin; refine wpList_append_ex (by rfl) (.tmp 54) (.tmp 60) 42 (by rfl) _ _ (by rfl) (by rfl) HApp ?_; rintro v7 w7 hI7)
            go_roundw
            case rel =>
              obtain ⟨vv', hI8⟩ := hI7.out
              exact ⟨0 + 1, vv', by simp, by show _ ≤ _; omega, by show AV _ _ _ _ _; rw [HDD.out]; exact hI8⟩
            case measure => simp only [intOf]; omega
          · obtain ⟨m, hkm⟩ : ∃ m, k = m + 1 := ⟨k - 1, by omega⟩
            have HKM : Hid (k = m + 1) := hkm
            have hkz1 : ¬ (k : Int) = 0 := by omega
            have hkz2 : decide ((k : Int) = 0) = false := decide_eq_false hkz1
            have hkz3 : ((k : Int) == 0) = false := by simpa using hkz1
            have hkz4 : (k == 0) = false := by simpa using hz
            have hkz5 : decide (k = 0) = false := decide_eq_false hz
            have hmz : (0 : Int) ≤ (m : Int) := by omega
            have hmk : (m : Int) < (M : Int) := by omega
            have hsub : IntKind.i64.wrap ((k : Int) - 1) = (m : Int) := by rw [wrap_small _ (by omega) (by omega)]; omega
            obtain ⟨e, he⟩ : ∃ e, x5[m]? = some e := ⟨_, List.getElem?_eq_getElem (by rw [HM.out]; omega)⟩
            have HC' : Hid (∀ W, Below w5.heap.size w5 W → W.cell? ⟨g, o + m * 3, none⟩ = some e.1 ∧ W.cell? ⟨g, o + m * 3 + 1, none⟩ = some (.int .i64 e.2.2.1) ∧ W.cell? ⟨g, o + m * 3 + 2, none⟩ = some (.int .i64 e.2.2.2)) := fun W kk => RL.at3 (RL.below HO5.out kk) he
            have HSV' : Hid (SV w5 (fun x => w5.heap.size ≤ x) e.1 e.2.1) := HO5.out.vals e (List.mem_of_getElem? he)
            have HSm : Hid (S[m]? = some e.2) := by show _ = _; rw [← HE5.out, rws, List.getElem?_map, he]; rfl
            have HLe' : Hid (e.2.1.length ≤ 1000) := HS1.out e.2 (List.mem_of_getElem? HSm.out)
            have HDn : Hid ((vs, f, t) ≠ e.2 → ddF S (k + 1) = ddF S k ++ [vs]) := fun q => by rw [hkm]; exact ddF_new (by rw [← hkm]; exact HSk.out) HSm.out (fun z => q z.symm)
            have HDo : Hid ((vs, f, t) = e.2 → ddF S (k + 1) = ddF S k) := fun q => by rw [hkm]; exact ddF_old (r := e.2) (by rw [← hkm, ← q]; exact HSk.out) HSm.out
            obtain ⟨sv', vs', f', t'⟩ := e
            simp only at HC' HSV' HLe' HDn HDo
            obtain ⟨pb', cb', rfl⟩ := SV.form HSV'.out
            have HS : Hid (∀ W', Below wr.heap.size wr W' → W'.cell? ⟨g, o + k * 3, none⟩ = some (.slice pb vs.length cb) ∧ W'.cell? ⟨g, o + k * 3 + 1, none⟩ = some (.int .i64 f) ∧ W'.cell? ⟨g, o + k * 3 + 2, none⟩ = some (.int .i64 t) ∧ W'.cell? ⟨g, o + m * 3, none⟩ = some (.slice pb' vs'.length cb') ∧ W'.cell? ⟨g, o + m * 3 + 1, none⟩ = some (.int .i64 f') ∧ W'.cell? ⟨g, o + m * 3 + 2, none⟩ = some (.int .i64 t')) := fun W' kk => by
              obtain ⟨z0, z1, z2⟩ := HC.out _ (bmore HBr.out kk)
              exact ⟨z0, z1, z2, HC'.out _ (bmore HBr.out kk)⟩
            have K0 : Below wr.heap.size wr wr.drew := (Below.refl _ _).drew
            have hS0 := HS.out _ K0
            have k43 := sameRow22 (w := wr.drew) (r := (vs, f, t)) (r' := (vs', f', t')) (SV.below HSV.out (bmore HBr.out K0)) (SV.below HSV'.out (bmore HBr.out K0)) (Nat.le_trans HLe.out (by decide)) (Nat.le_trans HLe'.out (by decide))
            clear he hkm HSm
            by_cases hq : (vs, f, t) = (vs', f', t')
            · rw [decide_eq_true hq] at k43
              have HDD : Hid (ddF S (k + 1) = ddF S k) := HDo.out hq
              clear HDn HDo hq
              go_wp2_with fail
              go_region_held3 (fun W' => W'.cell? ⟨g, o + k * 3, none⟩ = some (.slice pb vs.length cb) ∧ W'.cell? ⟨g, o + k * 3 + 1, none⟩ = some (.int .i64 f) ∧ W'.cell? ⟨g, o + k * 3 + 2, none⟩ = some (.int .i64 t) ∧ W'.cell? ⟨g, o + m * 3, none⟩ = some (.slice pb' vs'.length cb') ∧ W'.cell? ⟨g, o + m * 3 + 1, none⟩ = some (.int .i64 f') ∧ W'.cell? ⟨g, o + m * 3 + 2, none⟩ = some (.int .i64 t')) (first | exact hS0 | exact HS.out _ K1) (first
                | (go_at_call 43; (with_reducible refine k43.mono ?_); rintro e w3 ⟨rfl, B3⟩; have K1 := bmore K0 B3))
              clear hS0
              go_wp2_with fail
              go_roundw
              case rel => exact ⟨k + 1, vv, by simp, by show _ ≤ _; omega, by show AV _ _ _ _ _; rw [HDD.out]; exact AV.below hI.out K1⟩
              case measure => simp only [intOf]; omega
            · rw [decide_eq_false hq] at k43
              have HDD : Hid (ddF S (k + 1) = ddF S k ++ [vs]) := HDn.out hq
              clear HDn HDo hq
              go_wp2_with fail
              go_region_held3 (fun W' => W'.cell? ⟨g, o + k * 3, none⟩ = some (.slice pb vs.length cb) ∧ W'.cell? ⟨g, o + k * 3 + 1, none⟩ = some (.int .i64 f) ∧ W'.cell? ⟨g, o + k * 3 + 2, none⟩ = some (.int .i64 t) ∧ W'.cell? ⟨g, o + m * 3, none⟩ = some (.slice pb' vs'.length cb') ∧ W'.cell? ⟨g, o + m * 3 + 1, none⟩ = some (.int .i64 f') ∧ W'.cell? ⟨g, o + m * 3 + 2, none⟩ = some (.int .i64 t')) (first | exact hS0 | exact HS.out _ K1) (first
                | (go_at_call 43; (with_reducible refine k43.mono ?_); rintro e w3 ⟨rfl, B3⟩; have K1 := bmore K0 B3))
              clear hS0
              have y0 := (HC.out _ (bmore HBr.out K1)).1
              have HApp := AV.app (AV.below hI.out K1) HLn.out (SV.below HSV.out (bmore HBr.out K1)) w3.heap.size rfl
              clear K1 K0
              go_wp2_with (at_builtin; refine wpList_append_ex (by rfl) (.tmp 54) (.tmp 60) 42 (by rfl) _ _ (by rfl) (by rfl) HApp ?_; rintro v7 w7 hI7)
              go_roundw
              case rel =>
                obtain ⟨vv', hI8⟩ := hI7.out
                exact ⟨k + 1, vv', by simp, by show _ ≤ _; omega, by show AV _ _ _ _ _; rw [HDD.out]; exact hI8⟩
              case measure => simp only [intOf]; omega
        · have hki : ¬ (k : Int) < (M : Int) := by omega
          have HDD : Hid (ddF S k = AA) := by show _ = _; rw [← HS3.out, HSM.out, show k = M by have := hk.out; omega]
          go_wp2
          go_ret
          exact ⟨_, vv, rfl, hI.out.vl, by rw [hI.out.eq, HDD.out], bmore HB5.out hI.out.b⟩
end Go.Proofs.YtpagnphabchfcaaGreat
