/- The law RowsForks. -/
import Derived.Test.YtpagnphabchfcaaGreatTj
namespace Go.Proofs.YtpagnphabchfcaaGreat
open Go.RowKit Go.Shelf
set_option maxRecDepth 100000
theorem Two.fork {w w' : World} {s m r s' m' r' : Nat} {E : List (List UInt8 × Value)} {σ : List Tab} (h : Two w s m r E σ) (k : Below w.heap.size w w') (hs : SM w' s' m' E) (hr : RSt w' r' σ) : Two w' s' m' r' E σ :=
  ⟨hs, hr, h.sorted, h.rise, h.small, h.keys, fun x l hx => by
    obtain ⟨y, h1, h2⟩ := h.rows x l hx
    exact ⟨y, h1, h2.below k⟩⟩
set_option maxHeartbeats 4000000 in
theorem rowsForks6 {w : World} {v v' : Value} {xs0 xs : List IEl} (h0 : IN w v xs0) (h : IN w v' xs) : Calls Tryz.prog 6 #[v, v'] w fun e w' => e = .returned (.bool true) ∧ Below w.heap.size w w' := by
  have k31 := play31 h0
  obtain ⟨a0, c0, rfl⟩ := h0.form
  obtain ⟨a, c, rfl⟩ := h.form
  obtain ⟨N0, hN0⟩ : ∃ N, xs0.length = N := ⟨_, rfl⟩
  obtain ⟨N, hN⟩ : ∃ N, xs.length = N := ⟨_, rfl⟩
  have HN : Hid (xs.length = N) := hN
  have HV0 : Hid (IN w (.slice a xs.length c) xs) := h
  rw [hN0] at k31 ⊢
  rw [hN]
  clear hN h hN0 h0
  go_enter Tryz.func6, Tryz.ntmps6
  go_wp2_with (first
    | (go_at_call 31; (with_reducible refine k31.mono ?_); rintro e w1 ⟨sa, ma, ra, rfl, hF1, _, B1⟩; have k8 := live13 w1; have HB1 : Hid (Below w.heap.size w w1) := B1; clear B1 k31)
    | (go_at_call 8; (with_reducible refine k8.mono ?_); rintro e w2 ⟨rfl, B2⟩; have HB2 : Hid (Below w.heap.size w w2) := bmore HB1.out B2; have HF2 : Hid (Few 10 w2 sa ma ra) := hF1.out.below B2; clear B2 hF1; obtain ⟨E0, σ0, hT0, hE0, hσ0⟩ := HF2.out; have HT0 : Hid (Two w2 sa ma ra E0 σ0) := hT0; have HE0 : Hid (E0.length ≤ 10 ∧ σ0.length ≤ 10) := ⟨hE0, hσ0⟩; have k35 := fork35 hT0.sm; clear hT0 hE0 hσ0 k8)
    | (go_at_call 35; (with_reducible refine k35.mono ?_); rintro e w3 ⟨s, m, rfl, hSM, hs, hm, B3⟩; have HSM : Hid (SM w3 s m E0) := hSM; have HB3 : Hid (Below w2.heap.size w2 w3) := B3; have k38 := rfork38 (HT0.out.below B3).rs (by have := HE0.out.2; omega); clear hSM k35)
    | (go_at_call 38; (with_reducible refine k38.mono ?_); rintro e w4 ⟨r, rfl, hRS, hr, B4⟩))
  have HK0 : Hid (Below w2.heap.size w2 w4) := bmore HB3.out B4
  have HFk : Hid (Few 10 w4 s m r) := ⟨E0, σ0, HT0.out.fork HK0.out (HSM.out.below B4) hRS, HE0.out.1, HE0.out.2⟩
  have HSZ : Hid (w2.heap.size ≤ s ∧ w2.heap.size ≤ m ∧ w2.heap.size ≤ r) := ⟨hs, hm, Nat.le_trans B3.size hr⟩
  have HV : Hid (IN w2 (.slice a xs.length c) xs) := HV0.out.below HB2.out
  clear hRS HSM B3 B4 hs hm hr HT0 HE0 HV0 HB3 k38
  go_loopw [10] (fun fi wr => ∃ (k : Nat), fi = .int .i64 (k : Int) ∧ Hid (k ≤ 4) ∧ Hid (Few (10 + k) wr s m r) ∧ Hid (Below w2.heap.size w2 wr)) (fun fi _ => (4 - intOf fi).toNat)
  case atStart => exact ⟨0, rfl, Nat.zero_le _, HFk.out, HK0.out⟩
  case round =>
    obtain ⟨k, rfl, hk, hT, hB⟩ := hrel
    have HEND : Hid (∀ W, Below w2.heap.size w2 W → Calls Tryz.prog 32 #[.pointer (some ⟨sa, 0, none⟩), .pointer (some ⟨ra, 0, none⟩)] W fun e w' => e = .returned (.bool true) ∧ Below W.heap.size W w') := fun W q => sameSt32 (HF2.out.below q) (by omega)
    by_cases hkN : k < N
    · by_cases hk10 : k < 4
      · have hkNi : (k : Int) < (N : Int) := by omega
        have hki : (k : Int) < 4 := by omega
        have hk0 : (0 : Int) ≤ (k : Int) := by omega
        obtain ⟨y, hy⟩ : ∃ y, xs[k]? = some y := ⟨_, List.getElem?_eq_getElem (by rw [HN.out]; exact hkN)⟩
        obtain ⟨g, o, rfl, _, _⟩ := (HV.out.below hB.out).get hy
        have hym := List.mem_of_getElem? hy
        have HS : Hid (∀ W, Below w2.heap.size w2 W → W.cell? ⟨g, o + k * 2, none⟩ = some (.string y.1) ∧ W.cell? ⟨g, o + k * 2 + 1, none⟩ = some y.2.1) := fun W q => (HV.out.below q).at2 hy
        have H7 : Hid (∀ W, Below w2.heap.size w2 W → Calls Tryz.prog 7 #[y.2.1] W (RPost W (fewR (rws y.2.2)))) := fun W q => (HV.out.below q).few hym
        have HSm : Hid (y.1.size ≤ maxLen) := HV.out.small y hym
        obtain ⟨pv, cv, hf⟩ := (HV.out.rows y hym).1.form
        obtain ⟨n, vv, es⟩ := y
        simp only at HS H7 HSm hf
        subst hf
        have HA : Hid _ := fewA (rws es)
        obtain ⟨A, hA⟩ : ∃ A, fewR (rws es) = A := ⟨_, rfl⟩
        have HAR : Hid (∀ x : List El, rws x = A → x.length ≤ 1000 ∧ ∀ e ∈ x, e.2.1.length ≤ 1000) := fun x hx => fewR_rws (l := rws es) (by rw [hx, hA])
        rw [hA] at H7 HA
        obtain ⟨E, σ, hTw, hE, hσ⟩ := hT.out
        have HTw : Hid (Two wr s m r E σ) := hTw
        have HE : Hid (E.length ≤ 10 + k ∧ σ.length ≤ 10 + k) := ⟨hE, hσ⟩
        have K0 : Below wr.heap.size wr wr.drew := (Below.refl _ _).drew
        have KW : Below w2.heap.size w2 wr.drew := bmore hB.out K0
        have hS0 := HS.out _ KW
        have k7 := H7.out _ KW
        generalize es.length = L at *
        clear hy hym hTw hE hσ hA hT
        by_cases hn0 : (n.toList == []) = true
        · go_wp2_with fail
          go_region_held3 (fun W => W.cell? ⟨g, o + k * 2, none⟩ = some (.string n) ∧ W.cell? ⟨g, o + k * 2 + 1, none⟩ = some (.slice pv L cv)) (first | exact hS0 | exact HS.out _ KW) (first
            | (go_at_call 7; (with_reducible refine k7.mono ?_); rintro e y1 ⟨p1, c1, x1, rfl, r1, e1, C1⟩; replace KW := bmore KW C1; replace K0 := bmore K0 C1; have k39 := put39_no (w := y1) (s := s) (v := .slice p1 x1.length c1) hn0; clear C1 k7 hS0)
            | (go_at_call 39; (with_reducible refine k39.mono ?_); rintro e y2 ⟨rfl, rfl⟩; have k7b := H7.out _ KW; clear k39)
            | (go_at_call 7; (with_reducible refine k7b.mono ?_); rintro e y3 ⟨p3, c3, x3, rfl, r3, e3, C3⟩; replace KW := bmore KW C3; replace K0 := bmore K0 C3; have k40 := rput40_no (w := y3) (s := r) (v := .slice p3 x3.length c3) hn0; clear C3 k7b)
            | (go_at_call 40; (with_reducible refine k40.mono ?_); rintro e y4 ⟨rfl, rfl⟩; clear k40))
          go_wp2_with fail
          go_roundw
          case rel => exact ⟨k + 1, by simp, by show _ ≤ _; omega, ⟨E, σ, HTw.out.below K0, by have := HE.out.1; omega, by have := HE.out.2; omega⟩, KW⟩
          case measure => simp only [intOf]; omega
        · have hn1 : (n.toList == []) = false := by simpa using hn0
          clear hn0
          go_wp2_with fail
          go_region_held3 (fun W => W.cell? ⟨g, o + k * 2, none⟩ = some (.string n) ∧ W.cell? ⟨g, o + k * 2 + 1, none⟩ = some (.slice pv L cv)) (first | exact hS0 | exact HS.out _ KW) (first
            | (go_at_call 7; (with_reducible refine k7.mono ?_); rintro e y1 ⟨p1, c1, x1, rfl, r1, e1, C1⟩; replace KW := bmore KW C1; replace K0 := bmore K0 C1; have k39 := put28 (n := n) (HTw.out.below K0).sm (by have := HE.out.1; omega) HSm.out hn1 r1.out (HAR.out x1 e1.out).1 (HAR.out x1 e1.out).2; rw [e1.out] at k39; clear C1 k7 hS0)
            | (go_at_call 39; (with_reducible refine k39.mono ?_); rintro e y2 ⟨rfl, hP⟩; have HP : Hid (PuPost y1 s m E n (sortR A) (.returned (.int .i64 0)) y2) := ⟨rfl, hP⟩; replace KW := KW.trans (HP.out.keep.below KW.size (fun i hi q => by have := HSZ.out.2.1; omega)); have k7b := H7.out _ KW; clear k39 hP)
            | (go_at_call 7; (with_reducible refine k7b.mono ?_); rintro e y3 ⟨p3, c3, x3, rfl, r3, e3, C3⟩; replace KW := bmore KW C3; have HC3 : Hid (Below y2.heap.size y2 y3) := C3; have k40 := rput40 (n := n) (PuPost.rs (HTw.out.below K0) HP.out C3) (by have := HE.out.2; omega) HTw.out.sorted HSm.out hn1 r3.out (HAR.out x3 e3.out).1 (HAR.out x3 e3.out).2; rw [e3.out] at k40; clear C3 k7b)
            | (go_at_call 40; (with_reducible refine k40.mono ?_); rintro e y4 ⟨rfl, hR⟩; have HR : Hid (RPuPost y3 r (putS n (sortR A) σ) (.returned (.int .i64 0)) y4) := ⟨rfl, hR⟩; replace KW := KW.trans (hR.2.below KW.size (fun i hi q => by have := HSZ.out.2.2; omega)); clear hR k40))
          go_wp2_with fail
          go_roundw
          case rel =>
            obtain ⟨⟨v2, hT4⟩, _⟩ := Two.put HTw.out HSm.out HA.out.1 HA.out.2 K0 HP.out HC3.out HR.out
            exact ⟨k + 1, by simp, by show _ ≤ _; omega, ⟨_, _, hT4, by have := HE.out.1; simp; omega, by have := HE.out.2; have := putS_len (n := n) (l := sortR A) σ; omega⟩, KW⟩
          case measure => simp only [intOf]; omega
      · have hki : ¬ (k : Int) < 4 := by omega
        have hkNi : (k : Int) < (N : Int) := by omega
        have k32 := HEND.out _ hB.out
        have HFw : Hid (Few (10 + k) wr s m r) := hT.out
        have hk4 : 10 + k ≤ 100 := by have := hk.out; omega
        clear hT
        go_wp2_with (first
          | (go_at_call 32; (with_reducible refine k32.mono ?_); rintro e y1 ⟨rfl, C1⟩; have k32b := sameSt32 (HFw.out.below C1) hk4; have HC1 : Hid (Below wr.heap.size wr y1) := C1; clear k32 C1)
          | (go_at_call 32; (with_reducible refine k32b.mono ?_); rintro e y2 ⟨rfl, C2⟩; have HC2 : Hid (Below y1.heap.size y1 y2) := C2; clear k32b C2)
          | (go_at_call 39; (with_reducible refine (put39_nil _ _ _).mono ?_); rintro e y3 ⟨rfl, rfl⟩)
          | (go_at_call 36; (with_reducible refine (get36_nil _ _).mono ?_); rintro e y4 ⟨rfl, rfl⟩)
          | (go_at_call 41; (with_reducible refine (names41_nil _).mono ?_); rintro e y5 ⟨rfl, rfl⟩)
          | (go_at_call 33; (with_reducible refine (same33_nil _).mono ?_); rintro e y6 ⟨rfl, rfl⟩)
          | (go_at_call 35; (with_reducible refine (fork35_nil _).mono ?_); rintro e y7 ⟨rfl, rfl⟩))
        go_ret
        exact ⟨rfl, bmore (bmore (bmore HB2.out hB.out) HC1.out) HC2.out⟩
    · have hkNi : ¬ (k : Int) < (N : Int) := by omega
      have k32 := HEND.out _ hB.out
      have HFw : Hid (Few (10 + k) wr s m r) := hT.out
      have hk4 : 10 + k ≤ 100 := by have := hk.out; omega
      clear hT
      go_wp2_with (first
        | (go_at_call 32; (with_reducible refine k32.mono ?_); rintro e y1 ⟨rfl, C1⟩; have k32b := sameSt32 (HFw.out.below C1) hk4; have HC1 : Hid (Below wr.heap.size wr y1) := C1; clear k32 C1)
        | (go_at_call 32; (with_reducible refine k32b.mono ?_); rintro e y2 ⟨rfl, C2⟩; have HC2 : Hid (Below y1.heap.size y1 y2) := C2; clear k32b C2)
        | (go_at_call 39; (with_reducible refine (put39_nil _ _ _).mono ?_); rintro e y3 ⟨rfl, rfl⟩)
        | (go_at_call 36; (with_reducible refine (get36_nil _ _).mono ?_); rintro e y4 ⟨rfl, rfl⟩)
        | (go_at_call 41; (with_reducible refine (names41_nil _).mono ?_); rintro e y5 ⟨rfl, rfl⟩)
        | (go_at_call 33; (with_reducible refine (same33_nil _).mono ?_); rintro e y6 ⟨rfl, rfl⟩)
        | (go_at_call 35; (with_reducible refine (fork35_nil _).mono ?_); rintro e y7 ⟨rfl, rfl⟩))
      go_ret
      exact ⟨rfl, bmore (bmore (bmore HB2.out hB.out) HC1.out) HC2.out⟩
end Go.Proofs.YtpagnphabchfcaaGreat
