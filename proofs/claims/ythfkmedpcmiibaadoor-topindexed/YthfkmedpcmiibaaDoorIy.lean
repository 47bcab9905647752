/- The law TopIndexed: the walk. -/
import Derived.Test.YthfkmedpcmiibaaDoorIx
namespace Go.Proofs.YthfkmedpcmiibaaDoor
open Go.RowKit
set_option maxRecDepth 100000
theorem meas30 {m k : Nat} (h : m < k) : k - ((m : Int) + 1).toNat < k - ((m : Int)).toNat := by omega
set_option maxHeartbeats 8000000 in
theorem indexed3 (W0 : World) (v0 : Value) (n : Nat) (hl : InRs W0 v0 n) (hg : Good W0) :
    Calls Tryd.prog 3 #[v0] W0 fun e w' => e = .returned (.bool true) ∧ Below W0.heap.size W0 w' := by
  obtain ⟨a0, c0, rfl, hmx, hrows⟩ := hl
  have HROW : Hid (∀ i, i < n → ∃ b o, a0 = some ⟨b, o, none⟩ ∧ ∃ (u : Value) (vs : List Vt) (f t : Int), (∀ W', Below W0.heap.size W0 W' → W'.cell? ⟨b, o + i * 3, none⟩ = some u ∧ W'.cell? ⟨b, o + i * 3 + 1, none⟩ = some (.int .i64 f) ∧ W'.cell? ⟨b, o + i * 3 + 2, none⟩ = some (.int .i64 t)) ∧ SV W0 u vs ∧ vs.length ≤ 140737488355328 ∧ Few vs) := hrows
  have HG : Hid (∀ W, Below W0.heap.size W0 W → Good W) := fun W k => hg.below k
  have k4 := T.new21 W0
  clear hrows hg
  go_enter Tryd.func3, Tryd.ntmps3
  go_upto_block 0 with (go_at_call 4; (refine k4.mono ?_; rintro e w1 ⟨t, rfl, ht, htt, B1⟩; have HI1 : Hid (Iv W0 w1 t [] 0) := ⟨htt, ht, Nat.le_refl _, fun p hp => (by cases hp), B1⟩; clear ht htt B1 k4))
  go_cut [4, 5, 6, 7, 8, 9] from 16 to 109 (fun u4 u5 u6 u7 u8 u9 wx => ∃ (nk : Nat) (kv : List T.Pr), u4 = .int .i64 (nk : Int) ∧ Hid (kv.length = nk) ∧ Hid (Iv W0 wx t kv 30))
  case first =>
    go_wp2_with fail
    go_loopw [4, 5] (fun p4 p5 wr => ∃ (i nk : Nat) (kv : List T.Pr), p4 = .int .i64 (nk : Int) ∧ p5 = .int .i64 (i : Int) ∧ Hid (i ≤ 30) ∧ Hid (kv.length = nk) ∧ Hid (Iv W0 wr t kv i)) (fun _ p5 _ => 30 - (intOf p5).toNat)
    case atStart => exact ⟨0, 0, [], rfl, rfl, Nat.zero_le _, rfl, HI1.out⟩
    case round =>
      clear HI1
      obtain ⟨i, nk, kv, rfl, rfl, hi, HNK, HI⟩ := hrel
      have hnk : nk ≤ 30 := by have := HI.out.len; have := HNK.out; have := hi.out; omega
      by_cases hlt : i < n ∧ i < 30
      · obtain ⟨hln, hl30⟩ := hlt
        have b1 : (i : Int) < (n : Int) := by omega
        have b2 : (i : Int) < 30 := by omega
        have b3 : decide ((i : Int) < (n : Int)) = true := decide_eq_true b1
        have b4 : decide (i < n) = true := decide_eq_true hln
        have h0i : (0 : Int) ≤ (i : Int) := by omega
        obtain ⟨bl, ol, rfl, u, vs, f, tt, hcells, hsv, hvl, hfew⟩ := HROW.out i hln
        obtain ⟨z0, z1, z2⟩ := hcells _ HI.out.below
        have hsv' := hsv.below HI.out.below
        have hgd := HG.out wr HI.out.below
        have HI30 : Hid (i + 1 ≤ 30) := hl30
        obtain ⟨ua, uc, rfl, _⟩ := sv_form hsv
        clear hcells hsv
        have HM : Hid (∀ w', Below wr.heap.size wr w' → Iv W0 w' t kv (i + 1)) := fun w' k => HI.out.more k
        cases hr : rightRow vs f tt
        · have k5 := encode19_no _ vs f tt wr hsv' hvl hfew hr hgd
          clear HI hgd hsv' hvl hfew hr
          generalize vs.length = nv at *
          go_wp2_with (go_at_call 5; (refine k5.mono ?_; rintro e w2 ⟨rfl, B2⟩; have HI2 : Hid (Iv W0 w2 t kv (i + 1)) := HM.out w2 B2; clear B2))
          go_roundw
          case rel => exact ⟨i + 1, nk, kv, rfl, by simp, HI30.out, HNK.out, HI2.out⟩
          case measure => simp only [intOf]; exact meas30 hl30
        · have k5 := encode19_yes _ vs f tt wr hsv' hfew hr hgd
          have HX : Hid (okRw (vs, f, tt)) := ⟨hr, hfew⟩
          have hep := enc_pos vs f tt
          obtain ⟨m, hm⟩ : ∃ m, (encR vs f tt).length = m := ⟨_, rfl⟩
          obtain ⟨key, hkey⟩ : ∃ key, keyS (vs, f, tt) = key := ⟨_, rfl⟩
          have k5' : Calls Tryd.prog 5 #[RV (.slice ua vs.length uc) f tt] wr fun e w' => ∃ g c, e = .returned (.tuple #[.slice (some ⟨g, 0, none⟩) m c, .int .i64 0]) ∧ (∀ W, Below w'.heap.size w' W → (convert 25 9 (.slice (some ⟨g, 0, none⟩) m c)).run Tryd.prog W = .ok (.string key) W) ∧ Below wr.heap.size wr w' := k5.mono (by
            rintro e w' ⟨u1, rfl, hb, k⟩
            obtain ⟨g, c, rfl, hcv⟩ := row_conv hb hep
            rw [hm] at hcv ⊢
            rw [← hkey]
            exact ⟨g, c, rfl, hcv, k⟩)
          by_cases hlen : 64 < m
          · have hmi : (64 : Int) < (m : Int) := by omega
            clear k5 hsv' hvl hfew hr hgd HI hm hep HX hkey
            generalize vs.length = nv at *
            go_wp2_with (go_at_call 5; (refine k5'.mono ?_; rintro e w2 ⟨g2, c2, rfl, hcv, B2⟩; have HI2 : Hid (Iv W0 w2 t kv (i + 1)) := HM.out w2 B2; clear B2 hcv))
            go_roundw
            case rel => exact ⟨i + 1, nk, kv, rfl, by simp, HI30.out, HNK.out, HI2.out⟩
            case measure => simp only [intOf]; exact meas30 hl30
          · have hmi : ¬ (64 : Int) < (m : Int) := by omega
            have hks : key.size ≤ 64 := by rw [← hkey]; unfold keyS; rw [str_size]; show (encR vs f tt).length ≤ 64; omega
            have hkl : kv.length ≤ 799 := by have := HNK.out; omega
            have HGET : Hid (∀ W, Below wr.heap.size wr W → Calls Tryd.prog 6 #[.pointer (some ⟨t, 0, none⟩), .string key] W fun e w' => (∃ s, e = .returned (.tuple #[.string s, .bool (T.has kv key)])) ∧ Below W.heap.size W w') := fun W k => (T.get10 (HI.out.tt.below k) key).mono (by
              rintro e w' ⟨rfl, k'⟩
              rw [T.get_has HI.out.tt.srt]
              exact ⟨⟨_, rfl⟩, k'⟩)
            have HPUT : Hid (∀ W, Below wr.heap.size wr W → Calls Tryd.prog 7 #[.pointer (some ⟨t, 0, none⟩), .string key, .string ⟨#[]⟩] W fun e w' => e = .returned (.int .i64 0) ∧ Iv W0 w' t (T.put kv (key, ⟨#[]⟩)) (i + 1)) := fun W k => (T.put31 (HI.out.tt.below k) (key, ⟨#[]⟩) hks hkl).mono (by
              rintro e w' ⟨rfl, hd⟩
              have hb : Iv W0 W t kv i := ⟨HI.out.tt.below k, HI.out.low, HI.out.len, HI.out.key, bmore HI.out.below k⟩
              subst hkey
              exact ⟨rfl, hb.put HX.out hd⟩)
            have HPL : Hid ((T.put kv (key, ⟨#[]⟩)).length + (T.has kv key).toNat = kv.length + 1) := T.put_len HI.out.tt.srt (key, ⟨#[]⟩)
            clear k5 hsv' hvl hfew hr hgd HI hm hep hks hkl HX hkey hlen
            generalize vs.length = nv at *
            have hnki : (nk : Int) ≤ 30 := by omega
            cases hhas : T.has kv key
            · have HLEN : Hid ((T.put kv (key, ⟨#[]⟩)).length = nk + 1) := by have h1 := HPL.out; have h2 := HNK.out; rw [hhas] at h1; simp at h1; show _ = _; omega
              rw [hhas] at HGET
              clear HPL hhas
              go_wp2_with (first
                | (go_at_call 5; (refine k5'.mono ?_; rintro e w2 ⟨g2, c2, rfl, hcv, B2⟩; have cv2 := hcv w2 (Below.refl _ _); have k6 := HGET.out w2 B2))
                | (go_at_call 6; (refine k6.mono ?_; rintro e w3 ⟨⟨s3, rfl⟩, B3⟩; have cv3 := hcv w3 B3; have k7 := HPUT.out w3 (bmore B2 B3)))
                | (go_at_call 7; (refine k7.mono ?_; rintro e w4 ⟨rfl, h4⟩; have HI4 : Hid (Iv W0 w4 t (T.put kv (key, ⟨#[]⟩)) (i + 1)) := h4; clear h4)))
              go_roundw
              case rel => exact ⟨i + 1, nk + 1, T.put kv (key, ⟨#[]⟩), by simp, by simp, HI30.out, HLEN.out, HI4.out⟩
              case measure => simp only [intOf]; exact meas30 hl30
            · have HLEN : Hid ((T.put kv (key, ⟨#[]⟩)).length = nk) := by have h1 := HPL.out; have h2 := HNK.out; rw [hhas] at h1; simp at h1; show _ = _; omega
              rw [hhas] at HGET
              clear HPL hhas
              go_wp2_with (first
                | (go_at_call 5; (refine k5'.mono ?_; rintro e w2 ⟨g2, c2, rfl, hcv, B2⟩; have cv2 := hcv w2 (Below.refl _ _); have k6 := HGET.out w2 B2))
                | (go_at_call 6; (refine k6.mono ?_; rintro e w3 ⟨⟨s3, rfl⟩, B3⟩; have cv3 := hcv w3 B3; have k7 := HPUT.out w3 (bmore B2 B3)))
                | (go_at_call 7; (refine k7.mono ?_; rintro e w4 ⟨rfl, h4⟩; have HI4 : Hid (Iv W0 w4 t (T.put kv (key, ⟨#[]⟩)) (i + 1)) := h4; clear h4)))
              go_roundw
              case rel => exact ⟨i + 1, nk, T.put kv (key, ⟨#[]⟩), by simp, by simp, HI30.out, HLEN.out, HI4.out⟩
              case measure => simp only [intOf]; exact meas30 hl30
      · have HEND : Hid (Iv W0 wr t kv 30) := ⟨HI.out.tt, HI.out.low, Nat.le_trans HI.out.len hi.out, HI.out.key, HI.out.below⟩
        clear HI
        by_cases hln : i < n
        · have hl30 : ¬ i < 30 := fun h => hlt ⟨hln, h⟩
          have b1 : (i : Int) < (n : Int) := by omega
          have b2 : ¬ (i : Int) < 30 := by omega
          have b3 : decide ((i : Int) < (n : Int)) = true := decide_eq_true b1
          have b4 : decide (i < n) = true := decide_eq_true hln
          go_wp2_with fail
          go_meet
          case rel => exact ⟨nk, kv, rfl, HNK.out, HEND.out⟩
        · have b1 : ¬ (i : Int) < (n : Int) := by omega
          have b3 : decide ((i : Int) < (n : Int)) = false := decide_eq_false b1
          have b4 : decide (i < n) = false := decide_eq_false hln
          go_wp2_with fail
          go_meet
          case rel => exact ⟨nk, kv, rfl, HNK.out, HEND.out⟩
  case rest =>
    obtain ⟨m, kv, rfl, HM, HI⟩ := hcut
    rename_i K hK
    apply hK
    clear HROW HI1 hmx
    have hkl : kv.length ≤ 30 := HI.out.len
    have HTT : Hid (∀ W, Below wc.heap.size wc W → T.TT W t kv) := fun W k => HI.out.tt.below k
    have HB0 : Hid (Below W0.heap.size W0 wc) := HI.out.below
    have k8 : Calls Tryd.prog 8 #[.pointer (some ⟨t, 0, none⟩), .string ⟨#[]⟩, .string ⟨#[]⟩, .int .i64 100] wc fun e w' => ∃ v, e = .returned v ∧ (∃ f, Kys w' v m f) ∧ Below wc.heap.size wc w' := by
      obtain ⟨hh, hn, hx, htp⟩ := HI.out.tt.tp
      refine (T.range17 htp ⟨#[]⟩ ⟨#[]⟩ 100).mono ?_
      rintro e w' ⟨v, rfl, hv, k⟩
      rw [range_whole (by omega)] at hv
      rw [← HM.out]
      exact ⟨v, rfl, kys_of (HI.out.tt.below k) HI.out.key hv, k⟩
    have H11 : Hid (∀ W, Below wc.heap.size wc W → Calls Tryd.prog 11 #[.pointer (some ⟨t, 0, none⟩)] W fun e w' => e = .returned (.bool true) ∧ Below W.heap.size W w') := fun W k => T.sound24 (HTT.out W k)
    have H12 : Hid (∀ W, Below wc.heap.size wc W → Calls Tryd.prog 12 #[.pointer (some ⟨t, 0, none⟩)] W fun e w' => e = .returned (.int .i64 (m : Int)) ∧ Below W.heap.size W w') := fun W k => by rw [← HM.out]; exact T.len26 (HTT.out W k)
    have hm30 : m ≤ 30 := by have := HM.out; omega
    clear HI HTT hkl HM
    go_upto_block 2 with (go_at_call 8; (refine k8.mono ?_; rintro e w8 ⟨pv, rfl, ⟨f, hK8⟩, B8⟩; have HK8 : Hid (Kys w8 pv m f) := hK8; have HB8 : Hid (Below wc.heap.size wc w8) := B8; clear hK8 B8 k8))
    obtain ⟨pa, pc, rfl⟩ := HK8.out.form
    have HC : Hid (∀ j, j < m → ∃ g o, pa = some ⟨g, o, none⟩ ∧ ∀ W, Below w8.heap.size w8 W → W.cell? ⟨g, o + j * 2, none⟩ = some (.string (keyS (f j)))) := HK8.out.cell pa m pc rfl
    have HG8 : Hid (∀ W, Below w8.heap.size w8 W → Good W) := fun W k => HG.out W (HB0.out.trans ((bmore HB8.out k).mono HB0.out.size))
    go_wp2_with fail
    go_loopw [11] (fun p wr => ∃ j : Nat, p = .int .i64 (j : Int) ∧ Hid (j ≤ m) ∧ Hid (Below w8.heap.size w8 wr)) (fun p _ => m - (intOf p).toNat)
    case atStart => exact ⟨0, rfl, Nat.zero_le _, Below.refl _ _⟩
    case round =>
      obtain ⟨j, rfl, hj, HBr⟩ := hrel
      by_cases hlt : j < m
      · have b1 : (j : Int) < (m : Int) := by omega
        have h0j : (0 : Int) ≤ (j : Int) := by omega
        have HJ1 : Hid (j + 1 ≤ m) := hlt
        obtain ⟨kg, ko, rfl, hcell⟩ := HC.out j hlt
        have y0 := hcell wr HBr.out
        have hok := HK8.out.ok j hlt
        have hln := HK8.out.len j hlt
        have hless := HK8.out.less
        obtain ⟨x, hx⟩ : ∃ x, f j = x := ⟨_, rfl⟩
        rw [hx] at y0 hok hln
        obtain ⟨ln, cw, w3, hcv, B3, k9⟩ := conv_dec hok wr hln (fun w' k => HG8.out w' (bmore HBr.out k))
        have HB3 : Hid (Below w8.heap.size w8 w3) := bmore HBr.out B3
        clear hcell hln B3
        by_cases hj0 : j = 0
        · have hjb : ((j : Int) == 0) = true := by rw [beq_iff_eq]; omega
          clear hx hok hless hj0
          go_wp2_with (go_at_call 9; (refine k9.mono ?_; rintro e w4 ⟨ua, uc, rfl, hsv, B4⟩; have F4 : Hid (Below w8.heap.size w8 w4) := bmore HB3.out B4; clear hsv B4 k9))
          go_roundw
          case rel => exact ⟨j + 1, by simp, HJ1.out, bmore F4.out (al _ _)⟩
          case measure => simp only [intOf]; omega
        · obtain ⟨jp, hjp⟩ : ∃ jp, j = jp + 1 := ⟨j - 1, by omega⟩
          have hw : IntKind.i64.wrap ((j : Int) - 1) = (jp : Int) := by rw [show (j : Int) - 1 = (jp : Int) by omega]; exact wrap_small _ (by omega) (by omega)
          have hjb : ((j : Int) == 0) = false := by rw [beq_eq_false_iff_ne]; omega
          have hjm : jp < m := by omega
          have b1p : (jp : Int) < (m : Int) := by omega
          have h0p : (0 : Int) ≤ (jp : Int) := by omega
          obtain ⟨g', o', e', hcell'⟩ := HC.out jp hjm
          cases e'
          have hok' := HK8.out.ok jp hjm
          have hln' := HK8.out.len jp hjm
          have hc' := hless jp (by omega)
          rw [← hjp, hx] at hc'
          obtain ⟨x', hx'⟩ : ∃ x', f jp = x' := ⟨_, rfl⟩
          rw [hx'] at hcell' hok' hln' hc'
          have HCELL : Hid (∀ W, Below w8.heap.size w8 W → W.cell? ⟨kg, ko + jp * 2, none⟩ = some (.string (keyS x'))) := hcell'
          have HOK : Hid (okRw x ∧ okRw x' ∧ (encR x'.1 x'.2.1 x'.2.2).length ≤ 64 ∧ cmpR x'.1 x'.2.1 x'.2.2 x.1 x.2.1 x.2.2 = -1) := ⟨hok, hok', hln', hc'⟩
          have HJP : Hid (j = jp + 1) := hjp
          clear hcell' hok hok' hln' hc' hx hx' hless hjp hj0
          go_wp2_with (first
            | (go_at_call 10; (refine k10.mono ?_; rintro e w9 ⟨rfl, B9⟩; have F9 : Hid (Below w8.heap.size w8 w9) := bmore F8.out B9; clear B9 k10))
            | (go_at_call 9; (refine k9b.mono ?_; rintro e w7 ⟨ub, ubc, rfl, hsv7, B7⟩; have F7 : Hid (Below w8.heap.size w8 w7) := bmore F6.out B7; have kA : Below w7.heap.size w7 (w7.alloc (.cells #[.slice ub x'.1.length ubc, .int .i64 x'.2.1, .int .i64 x'.2.2] 33)) := al _ _; have F8 : Hid (Below w8.heap.size w8 (w7.alloc (.cells #[.slice ub x'.1.length ubc, .int .i64 x'.2.1, .int .i64 x'.2.2] 33))) := bmore F7.out kA; have hq7 := HQ.out.below B7; have k10 := comp_less HOK.out.2.1 HOK.out.1 HOK.out.2.2.2 (hsv7.below kA) ((HSV.out.below B7).below kA); have hq8 := hq7.below kA; have c0 := hq8.cell 0; have c1 := hq8.cell 1; have c2 := hq8.cell 2; simp only [List.getElem?_cons_zero, List.getElem?_cons_succ] at c0 c1 c2; clear hsv7 B7 k9b hq7 hq8 kA))
            | (go_at_call 9; (refine k9.mono ?_; rintro e w4 ⟨ua, uc, rfl, hsv, B4⟩; have kA : Below w4.heap.size w4 (w4.alloc (.cells #[.slice ua x.1.length uc, .int .i64 x.2.1, .int .i64 x.2.2] 33)) := al _ _; have F4 : Below w8.heap.size w8 (w4.alloc (.cells #[.slice ua x.1.length uc, .int .i64 x.2.1, .int .i64 x.2.2] 33)) := bmore (bmore HB3.out B4) kA; obtain ⟨lnb, cwb, w6, hcvb, B6, k9b⟩ := conv_dec HOK.out.2.1 (w4.alloc (.cells #[.slice ua x.1.length uc, .int .i64 x.2.1, .int .i64 x.2.2] 33)) HOK.out.2.2.1 (fun w' k => HG8.out w' (bmore F4 k)); have e41 : (w4.alloc (.cells #[.slice ua x.1.length uc, .int .i64 x.2.1, .int .i64 x.2.2] 33)).heap.size = w4.heap.size + 1 := (by simp); rw [e41] at hcvb k9b; clear e41; have y1 := HCELL.out _ F4; have F6 : Hid (Below w8.heap.size w8 w6) := bmore F4 B6; have HQ : Hid (T.Blk w6 w4.heap.size [.slice ua x.1.length uc, .int .i64 x.2.1, .int .i64 x.2.2] 33) := (T.blk_new w4 [.slice ua x.1.length uc, .int .i64 x.2.1, .int .i64 x.2.2] 33).below B6; have HSV : Hid (SV w6 (.slice ua x.1.length uc) x.1) := (hsv.below kA).below B6; clear hsv B4 kA F4 B6 k9)))
          go_roundw
          case rel => exact ⟨j + 1, by simp, HJ1.out, F9.out⟩
          case measure => simp only [intOf]; omega
      · have b1 : ¬ (j : Int) < (m : Int) := by omega
        have k11 := H11.out wr (bmore HB8.out HBr.out)
        go_wp2_with (first
          | (go_at_call 11; (refine k11.mono ?_; rintro e w9 ⟨rfl, B9⟩; have F9 := bmore HBr.out B9; have k12 := H12.out w9 (bmore HB8.out F9)))
          | (go_at_call 12; (refine k12.mono ?_; rintro e w10 ⟨rfl, B10⟩; have F10 : Hid (Below wc.heap.size wc w10) := bmore HB8.out (bmore F9 B10))))
        go_ret
        exact ⟨rfl, HB0.out.trans (F10.out.mono HB0.out.size)⟩
end Go.Proofs.YthfkmedpcmiibaaDoor
