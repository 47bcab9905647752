/- The law LexWide: one of its six cases. -/
import Derived.Test.YthebpkcnhghofaaDoorLv0
namespace Go.Proofs.YthebpkcnhghofaaDoor
open Go.RowKit Go.Lib Go.Joins
set_option maxRecDepth 100000

set_option maxHeartbeats 8000000 in
theorem wide6_other_cut (s0 s : ByteArray) (h150 : 150 < s0.size) (hx : s0.extract 0 150 = s) (w : World) (hg : Good w) (hc : ¬ (toks (32 :: (wideB 0 (bs s) ++ [10]))).2.2 = 4) :
    Calls Tryd.prog 6 #[.string s0] w fun e w' => e = .returned (.bool true) ∧ Below w.heap.size w w' := by
  have HL : Hid (∀ w1, Below w.heap.size w w1 → Calls Tryd.prog 11 #[] w1 fun e w' => e = .returned (.bool true) ∧ Below w1.heap.size w1 w') := fun w1 h => live11 w1 (hg.below h)
  have HG : Hid (∀ w1, Below w.heap.size w w1 → Good w1) := fun w1 h => hg.below h
  clear hg
  obtain ⟨B, hBw⟩ : ∃ B, w.heap.size = B := ⟨_, rfl⟩
  rw [hBw] at HL HG ⊢
  have hs150 : s.size ≤ 150 := by rw [← hx]; simp; omega
  have h150i : (150 : Int) < (s0.size : Int) := by omega
  have h150j : (150 : Int) ≤ (s0.size : Int) := by omega
  go_enter Tryd.func6, Tryd.ntmps6
  go_wp2
  go_loopw [3, 4] (fun p3 p4 wr => ∃ m : Nat, m ≤ s.size ∧ p4 = .int .i64 (m : Int) ∧ Hid (BRow B p3 (wideB 0 ((bs s).take m)) wr) ∧ Below B w wr ∧ Hid (∀ c ∈ (bs s).take m, c ≠ 39)) (fun _ p4 _ => s.size - (RowKit.intOf p4).toNat)
  case atStart => exact ⟨0, by omega, rfl, by rw [List.take_zero]; exact BRow.none _ _, Below.refl _ _, fun c hc => by simp at hc⟩
  case round =>
    obtain ⟨m, hm, rfl, HR, hB, H39⟩ := hrel
    have hBz : B ≤ wr.heap.size := by have := hB.size; omega
    obtain ⟨l, hl⟩ : ∃ l, wideB 0 ((bs s).take m) = l := ⟨_, rfl⟩
    have hll : l.length ≤ 450 := by
      rw [← hl]
      have := wideB_len ((bs s).take m) 0
      rw [List.length_take, bs_length] at this
      omega
    rw [hl] at HR
    obtain ⟨va, vc, rfl⟩ := brow_form HR.out
    by_cases hlt : m < s.size
    · have hlt1 : (m : Int) < (s.size : Int) := by omega
      have hlt0 : (0 : Int) ≤ (m : Int) := by omega
      obtain ⟨b, hbb⟩ : ∃ b, s[m]'hlt = b := ⟨_, rfl⟩
      have hst := take_step hlt
      rw [hbb] at hst
      have HST : Hid (wideB 0 ((bs s).take (m + 1)) = l ++ wb m b) := by
        show _ = _
        rw [hst, wideB_snoc, hl, Nat.zero_add, List.length_take, bs_length, Nat.min_eq_left hm]
      have H39n : Hid (b ≠ 39 → ∀ c ∈ (bs s).take (m + 1), c ≠ 39) := fun hb c hc => by
        rw [hst] at hc
        rcases List.mem_append.1 hc with h | h
        · exact H39.out c h
        · rw [List.mem_singleton.1 h]; exact hb
      have hb256 := b.toNat_lt
      clear hst hl
      by_cases h39 : b.toNat = 39
      · obtain rfl : b = 39 := UInt8.toNat_inj.1 (by show b.toNat = 39; exact h39)
        have c11 := HL.out wr hB
        clear h39 hb256
        go_wp2_with (go_at_call 11; refine c11.mono ?_; rintro e w3 ⟨rfl, hb3⟩)
        go_ret
        exact ⟨rfl, hB.trans (hb3.mono hBz)⟩
      · have h39i : ¬ (b.toNat : Int) = 39 := by omega
        have hb39 : b ≠ 39 := fun e => h39 (by rw [e]; rfl)
        have HN := H39n.out hb39
        have HN' : Hid (∀ c ∈ (bs s).take (m + 1), c ≠ 39) := HN
        clear HN H39n H39 hb39
        by_cases h32 : b.toNat = 32
        · obtain rfl : b = 32 := UInt8.toNat_inj.1 (by show b.toNat = 32; exact h32)
          clear h39 h39i h32 hb256
          have hat := at2 wr
          go_wp2_with (first
            | (at_builtin; refine push_all rfl (.tmp 32) (.tmp 33) rfl B _ l [9, 10] rfl (HR.out.alloc _) ⟨wr.heap.size, 0, none⟩ 2 rfl hat (by simp; omega) (by simp; omega) ?_; intro v1 w1 hown1 hgrow1; have R1 := push_below hB HR.out hgrow1 hBz; have hBz1 : B ≤ w1.heap.size := (by have := R1.size; omega); clear hgrow1)
            | (at_builtin; refine push_own rfl (.tmp 48) (.tmp 50) rfl B _ (l ++ [9, 10]) 32 rfl (hown1.alloc _) ⟨w1.heap.size, 0, none⟩ rfl (by simp) (by simp; omega) (by simp; omega) ?_; intro v2 w3 hown2 hgrow2; have R2 := push_below R1 hown1 hgrow2 hBz1; clear hgrow2))
          go_roundw
          case rel => exact ⟨m + 1, by omega, by simp, by rw [HST.out]; show BRow _ _ _ _; simpa [wb] using hown2, R2, HN'⟩
          case measure => simp [RowKit.intOf]; omega
        · have h32i : ¬ (b.toNat : Int) = 32 := by omega
          have hb32 : b ≠ 32 := fun e => h32 (by rw [e]; rfl)
          by_cases h97 : 97 ≤ b.toNat
          · have h97i : (97 : Int) ≤ (b.toNat : Int) := by omega
            by_cases h122 : b.toNat ≤ 122
            · have h122i : (b.toNat : Int) ≤ 122 := by omega
              by_cases hev : m % 2 = 0
              · have hevi : (m : Int) % 2 = 0 := by omega
                have hcap : ((capI m b).toNat : Int) = (b.toNat : Int) - 32 := by
                  rcases capI_cases m b with e | ⟨_, _, h⟩
                  · exfalso
                    have h2 : capI m b = b - 32 := if_pos ⟨h97, h122, hev⟩
                    rw [h2] at e
                    have := congrArg UInt8.toNat e
                    rw [UInt8.toNat_sub_of_le _ _ (by rw [UInt8.le_iff_toNat_le]; show 32 ≤ b.toNat; omega)] at this
                    have : (32 : UInt8).toNat = 32 := rfl
                    omega
                  · omega
                have HWB : Hid (wb m b = [capI m b]) := by show _ = _; rw [wb, if_neg hb32]
                rw [HWB.out] at HST
                go_wp2_with (at_builtin; refine push_own rfl (.tmp 48) (.tmp 50) rfl B _ l (capI m b) rfl (HR.out.alloc _) ⟨wr.heap.size, 0, none⟩ rfl (by rw [hcap]; simp) (by omega) (by simp; omega) ?_; intro v' w1 hown' hgrow)
                have R := push_below hB HR.out hgrow hBz
                clear hgrow
                go_wp2
                go_roundw
                case rel => exact ⟨m + 1, by omega, by simp, by rw [HST.out]; exact hown', R, HN'⟩
                case measure => simp [RowKit.intOf]; omega
              · have hevi : ¬ (m : Int) % 2 = 0 := by omega
                have hcap : capI m b = b := if_neg (fun h => hev h.2.2)
                have HWB : Hid (wb m b = [b]) := by show _ = _; rw [wb, if_neg hb32, hcap]
                rw [HWB.out] at HST
                go_wp2_with (at_builtin; refine push_own rfl (.tmp 48) (.tmp 50) rfl B _ l (b) rfl (HR.out.alloc _) ⟨wr.heap.size, 0, none⟩ rfl (by simp) (by omega) (by simp; omega) ?_; intro v' w1 hown' hgrow)
                have R := push_below hB HR.out hgrow hBz
                clear hgrow
                go_wp2
                go_roundw
                case rel => exact ⟨m + 1, by omega, by simp, by rw [HST.out]; exact hown', R, HN'⟩
                case measure => simp [RowKit.intOf]; omega
            · have h122i : ¬ (b.toNat : Int) ≤ 122 := by omega
              have HWB : Hid (wb m b = [b]) := by show _ = _; rw [wb, if_neg hb32, capI_other (by omega)]
              rw [HWB.out] at HST
              go_wp2_with (at_builtin; refine push_own rfl (.tmp 48) (.tmp 50) rfl B _ l (b) rfl (HR.out.alloc _) ⟨wr.heap.size, 0, none⟩ rfl (by simp) (by omega) (by simp; omega) ?_; intro v' w1 hown' hgrow)
              have R := push_below hB HR.out hgrow hBz
              clear hgrow
              go_wp2
              go_roundw
              case rel => exact ⟨m + 1, by omega, by simp, by rw [HST.out]; exact hown', R, HN'⟩
              case measure => simp [RowKit.intOf]; omega
          · have h97i : ¬ (97 : Int) ≤ (b.toNat : Int) := by omega
            have HWB : Hid (wb m b = [b]) := by show _ = _; rw [wb, if_neg hb32, capI_other (by omega)]
            rw [HWB.out] at HST
            go_wp2_with (at_builtin; refine push_own rfl (.tmp 48) (.tmp 50) rfl B _ l (b) rfl (HR.out.alloc _) ⟨wr.heap.size, 0, none⟩ rfl (by simp) (by omega) (by simp; omega) ?_; intro v' w1 hown' hgrow)
            have R := push_below hB HR.out hgrow hBz
            clear hgrow
            go_wp2
            go_roundw
            case rel => exact ⟨m + 1, by omega, by simp, by rw [HST.out]; exact hown', R, HN'⟩
            case measure => simp [RowKit.intOf]; omega
    · have hlt1 : ¬ (m : Int) < (s.size : Int) := by omega
      have hte : (bs s).take m = bs s := List.take_of_length_le (by rw [bs_length]; omega)
      rw [hte] at hl H39
      have hTW := fun h => toks_wide (bs s) (by rw [bs_length]; omega) H39.out h
      have hTL := fun h => toks_long (bs s) h
      rw [hl] at hTW hTL hc
      have hok := toks_ok (bs s)
      have c8a : Calls Tryd.prog 8 #[.string s] wr fun e w' => ∃ a c, e = .returned (.tuple #[.slice a (toks (bs s)).1.length c, .int .i64 ((toks (bs s)).2.1 : Nat), .int .i64 ((toks (bs s)).2.2 : Nat)]) ∧ (∀ (i : Nat) (x : Tk), (toks (bs s)).1[i]? = some x → ∃ g, a = some ⟨g, 0, none⟩ ∧ g < w'.heap.size ∧ TkAt w' g i x) ∧ Below wr.heap.size wr w' := by
        refine (tokens8 s wr (by omega) (HG.out wr hB)).mono ?_
        rintro e w' ⟨v, h1, h2, h3⟩
        obtain ⟨a', c', rfl, h4⟩ := trow_at h2
        exact ⟨a', c', h1, h4, h3⟩
      have hstr : (⟨#[32]⟩ : ByteArray) ++ str l ++ ⟨#[10]⟩ = str (32 :: (l ++ [10])) := by
        apply ByteArray.ext
        simp [str]
      have HC8 : Hid (∀ w1, Below B w w1 → Calls Tryd.prog 8 #[.string ((⟨#[32]⟩ : ByteArray) ++ str l ++ ⟨#[10]⟩)] w1 fun e w' => ∃ a c, e = .returned (.tuple #[.slice a (toks (32 :: (l ++ [10]))).1.length c, .int .i64 ((toks (32 :: (l ++ [10]))).2.1 : Nat), .int .i64 ((toks (32 :: (l ++ [10]))).2.2 : Nat)]) ∧ (∀ (i : Nat) (x : Tk), (toks (32 :: (l ++ [10]))).1[i]? = some x → ∃ g, a = some ⟨g, 0, none⟩ ∧ g < w'.heap.size ∧ TkAt w' g i x) ∧ Below w1.heap.size w1 w') := fun w1 hw1 => by
        rw [hstr]
        refine (tokens8 (str (32 :: (l ++ [10]))) w1 (by rw [str_size]; simp; omega) (HG.out w1 hw1)).mono ?_
        rintro e w' ⟨v, h1, h2, h3⟩
        rw [bs_str] at h1 h2
        obtain ⟨a', c', rfl, h4⟩ := trow_at h2
        exact ⟨a', c', h1, h4, h3⟩
      have hxz : (str l).size = l.length := str_size l
      obtain ⟨L, hL⟩ : ∃ L, l.length = L := ⟨_, rfl⟩
      have HCV : Hid (∀ w1, Below wr.heap.size wr w1 → (convert 35 9 (.slice va L vc)).run Tryd.prog w1 = .ok (.string (str l)) w1) := fun w1 h => by rw [← hL]; exact conv_own (own_below HR.out h)
      generalize toks (bs s) = R1 at *
      generalize toks (32 :: (l ++ [10])) = R2 at *
      obtain ⟨ts1, pl1, er1⟩ := R1
      obtain ⟨ts2, pl2, er2⟩ := R2
      simp only at c8a HC8 hTW hTL hc
      try rw [hL] at hc
      rw [hL] at hll hTW hTL hxz
      rw [hL]
      have l4 : ¬ 9223372036854775807 < 1 + (str l).size := by omega
      have l5 : ¬ 9223372036854775807 < 1 + (str l).size + 1 := by omega
      clear hstr H39 hl
      generalize str l = xs at *
      have hnl : ¬ 398 < L := fun h => by have := hTL h; omega
      obtain ⟨her, hbare⟩ := hTW (by omega)
      clear hTL hTW
      subst her
      have hN := bare_length hbare
      obtain ⟨N, hNN⟩ : ∃ N, ts1.length = N := ⟨_, rfl⟩
      have hN100 : N ≤ 100 := by
        rw [← hNN]
        rcases hok with ⟨_, h⟩ | ⟨h, _⟩
        · exact h.few
        · simp only at h; rw [h]; simp
      have HXY : Hid (∀ i, i < N → ∃ x y, ts1[i]? = some x ∧ ts2[i]? = some y ∧ x.k = y.k ∧ x.t = y.t ∧ x.n = y.n) := fun i hi => by
        obtain ⟨x, hx⟩ : ∃ x, ts1[i]? = some x := ⟨_, List.getElem?_eq_getElem (by omega)⟩
        obtain ⟨y, hy⟩ : ∃ y, ts2[i]? = some y := ⟨_, List.getElem?_eq_getElem (by omega)⟩
        have := congrArg (·[i]?) hbare
        simp only [bare, List.getElem?_map, hx, hy, Option.map_some, Option.some.injEq, Prod.mk.injEq] at this
        exact ⟨x, y, hx, hy, this.1, this.2.1, this.2.2⟩
      rw [hNN] at c8a
      rw [← hN, hNN] at HC8
      clear hbare hN hNN hok
      have her4i : ¬ (er1 : Int) = 4 := by omega
      go_wp2_with (first
        | (go_at_call 8; (with_reducible refine c8a.mono ?_); rintro e w3 ⟨a3, c3, rfl, hat3, hb3⟩; have HA3 : Hid (∀ (i : Nat) (x : Tk), ts1[i]? = some x → ∃ g, a3 = some ⟨g, 0, none⟩ ∧ g < w3.heap.size ∧ TkAt w3 g i x) := hat3; clear hat3; have hcv := HCV.out w3 hb3; have F3 := hB.trans (hb3.mono hBz))
        | (go_at_call 8; (with_reducible refine (HC8.out w3 F3).mono ?_); rintro e w4 ⟨a4, c4, rfl, hat4, hb4⟩; have HA4 : Hid (∀ (i : Nat) (x : Tk), ts2[i]? = some x → ∃ g, a4 = some ⟨g, 0, none⟩ ∧ g < w4.heap.size ∧ TkAt w4 g i x) := hat4; clear hat4; have F4 := F3.trans (hb4.mono (Nat.le_trans hBz hb3.size)))
        | (go_at_call 11; refine (HL.out w4 F4).mono ?_; rintro e w5 ⟨rfl, hb5⟩))
      go_loopw [12] (fun p w' => ∃ i : Nat, i ≤ N ∧ p = .int .i64 (i : Int) ∧ Below w4.heap.size w4 w') (fun p _ => N - (RowKit.intOf p).toNat)
      case atStart => exact ⟨0, by omega, rfl, Below.refl _ _⟩
      case round =>
        obtain ⟨i, hi, rfl, hB4⟩ := hrel
        by_cases hil : i < N
        · have hil1 : (i : Int) < (N : Int) := by omega
          have hil0 : (0 : Int) ≤ (i : Int) := by omega
          obtain ⟨x, y, hx, hy, hk, ht, hn⟩ := HXY.out i hil
          obtain ⟨g3, rfl, hg3, h3⟩ := HA3.out i x hx
          obtain ⟨g4, rfl, hg4, h4⟩ := HA4.out i y hy
          obtain ⟨d0, d1, d2, d3⟩ := (h3.below hb4 hg3).below hB4 (Nat.lt_of_lt_of_le hg3 hb4.size)
          obtain ⟨e0, e1, e2, e3⟩ := h4.below hB4 hg4
          rw [← hk] at e0
          rw [← ht] at e1
          rw [← hn] at e2
          clear hx hy hk ht hn h3 h4 d3 e3
          generalize str x.t = tt at *
          generalize x.n = nn at *
          generalize x.k = kk at *
          go_wp2_with fail
          go_big_quiet (fail)
          go_wp2_with fail
          exact ⟨⟨i + 1, by omega, by first | rfl | simp, hB4.trans ⟨rfl, rfl, rfl, Nat.le_refl _, fun _ _ => rfl⟩⟩, by simp [RowKit.intOf]; omega⟩
        · have hil1 : ¬ (i : Int) < (N : Int) := by omega
          have hz4 := Nat.le_trans hBz (Nat.le_trans hb3.size hb4.size)
          have c11 := HL.out _ (F4.trans (hB4.mono hz4))
          go_wp2_with (go_at_call 11; refine c11.mono ?_; rintro e w5 ⟨rfl, hb5⟩)
          go_ret
          exact ⟨rfl, (F4.trans (hB4.mono hz4)).trans (hb5.mono (Nat.le_trans hz4 hB4.size))⟩
end Go.Proofs.YthebpkcnhghofaaDoor
