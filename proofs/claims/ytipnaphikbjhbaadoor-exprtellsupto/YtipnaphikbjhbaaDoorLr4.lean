/- The reference's Tokens. -/
import Derived.Test.YtipnaphikbjhbaaDoorLr3
namespace Go.Proofs.YtipnaphikbjhbaaDoor
open Go.RowKit Go.Lib Go.Joins
set_option maxRecDepth 100000

set_option maxHeartbeats 8000000 in
theorem rtokens10 (s : ByteArray) (w : World) (hg : Good w) :
    Calls Tryd.prog 43 #[.string s] w fun e w' => ∃ v, e = .returned (.tuple #[v, .int .i64 ((toks (bs s)).2.1 : Nat), .int .i64 ((toks (bs s)).2.2 : Nat)]) ∧ TRow w.heap.size v (toks (bs s)).1 w' ∧ Below w.heap.size w w' := by
  by_cases h400 : 400 < s.size
  · rw [show toks (bs s) = ([], 0, 4) by unfold toks; rw [bs_length, if_pos h400]]
    have h1 : (400 : Int) < (s.size : Int) := by omega
    have HT : Hid (TRow w.heap.size (.slice none 0 0) [] w) := World.ownsRow_nil _ _ _ _
    go_enter Tryd.func43, Tryd.ntmps43
    go_wp2
    exact bodyPost_ret (results_tmp3 rfl _ _ _) rfl ⟨_, rfl, HT.out, Below.refl _ _⟩
  · have h1 : ¬ (400 : Int) < (s.size : Int) := by omega
    obtain ⟨R, hR⟩ : ∃ R, lexB 0 (bs s) [] = R := ⟨_, rfl⟩
    rw [show toks (bs s) = R by unfold toks; rw [bs_length, if_neg h400, hR]]
    have HN : Hid (∀ w', TRow w.heap.size (.slice none 0 0) [] w') := fun w' => World.ownsRow_nil _ _ _ _
    have HR0 : Hid (R = lexB 0 ((bs s).drop 0) []) := hR.symm
    obtain ⟨i0, hi0, hz3, hz4, hz5⟩ := info_parts info34
    clear hR
    go_enter Tryd.func43, Tryd.ntmps43
    go_wp2
    go_loopw [5, 6] (fun p5 p6 wr => ∃ (pos : Nat) (acc : List Tk), p6 = .int .i64 (pos : Int) ∧ (∃ a n c, p5 = .slice a n c) ∧ Hid (TRow w.heap.size p5 acc wr) ∧ Below w.heap.size w wr ∧ pos ≤ s.size ∧ acc.length ≤ 100 ∧ Hid (R = lexB pos ((bs s).drop pos) acc)) (fun _ p6 _ => s.size - (RowKit.intOf p6).toNat)
    case atStart => exact ⟨0, [], rfl, ⟨_, _, _, rfl⟩, HN.out _, Below.refl _ _, Nat.zero_le _, Nat.zero_le _, HR0⟩
    case round =>
      obtain ⟨pos, acc, rfl, ⟨va, vn, vc, hv⟩, HT, hB, hps, hacc, HR⟩ := hrel
      subst hv
      obtain ⟨N, hN⟩ : ∃ N, acc.length = N := ⟨_, rfl⟩
      have hvn : vn = N := by
        obtain ⟨h1, ⟨h2, h3⟩ | ⟨g, cap, cur, h2, _⟩⟩ := HT.out
        · cases h2; omega
        · cases h2; exact hN
      subst hvn
      have HNN : Hid (acc.length = vn) := hN
      rw [hN] at hacc
      clear hN
      by_cases hp : pos < s.size
      · have hpi : (pos : Int) < (s.size : Int) := by omega
        have hp0 : (0 : Int) ≤ (pos : Int) := by omega
        have hposi : (pos : Int) ≤ (s.size : Int) := by omega
        have hcons := rest_cons hp
        obtain ⟨b, hbb⟩ : ∃ b, s[pos]'hp = b := ⟨_, rfl⟩
        rw [hbb] at hcons
        have HRp : Hid (R = lexB pos (b :: (bs s).drop (pos + 1)) acc) := by
          show _ = _
          rw [HR.out, hcons]
        have hwr : wrap32 (b.toNat : Int) = (b.toNat : Int) := by have := b.toNat_lt; rw [IntWalk.wrap32_in _ ⟨by omega, by omega⟩]
        have c16 := fun w1 => rspaced16 (b.toNat : Int) w1
        have HG1 : Hid (Good wr) := hg.below hB
        clear HR
        cases hsb : spcI (b.toNat : Int)
        · rw [hsb] at c16
          have c18 := fun w1 h => rnext18 (s.extract pos s.size) b ((bs s).drop (pos + 1)) (by simp; omega) (by rw [bs_from, hcons]) w1 h
          rw [bs_from, hcons] at c18
          have hen := begB_ends (b :: (bs s).drop (pos + 1))
          have HX : Hid (∀ n, ¬ n = 0 → Ends (b :: (bs s).drop (pos + 1)) n → pos + n ≤ s.size) := fun n hn he => by
            have := he.1
            rw [← hcons, List.length_drop, bs_length] at this
            omega
          have HER : Hid ((begB (b :: (bs s).drop (pos + 1))).2.2.2 = 0 → R = ([], pos, 8)) := fun h => by rw [HRp.out, lexB_err hsb h]
          have HFU : Hid ((begB (b :: (bs s).drop (pos + 1))).2.2.2 ≠ 0 → vn = 100 → R = ([], pos, 4)) := fun h h2 => by rw [HRp.out, lexB_full hsb h (by rw [HNN.out]; exact h2)]
          have HTO : Hid ((begB (b :: (bs s).drop (pos + 1))).2.2.2 ≠ 0 → vn ≠ 100 → R = lexB (pos + (begB (b :: (bs s).drop (pos + 1))).2.2.2) ((bs s).drop (pos + (begB (b :: (bs s).drop (pos + 1))).2.2.2)) (acc ++ [⟨(begB (b :: (bs s).drop (pos + 1))).1, (begB (b :: (bs s).drop (pos + 1))).2.1, (begB (b :: (bs s).drop (pos + 1))).2.2.1, pos⟩])) := fun h h2 => by
            rw [HRp.out, lexB_tok hsb h (by rw [HNN.out]; exact h2)]
            congr 1
            rw [← hcons, List.drop_drop]
          clear hcons HRp hsb
          unfold BegPost at c18
          generalize begB (b :: (bs s).drop (pos + 1)) = x at *
          by_cases h0 : x.2.2.2 = 0
          · rw [clr_zero h0] at c18
            have HRR := HER.out h0
            subst HRR
            simp only at c18
            clear HER HFU HTO HX hen h0
            go_wp2_with (first
              | (go_at_call 56; refine (c16 _).mono ?_; rintro e w1 ⟨rfl, rfl⟩)
              | (go_at_call 57; refine (c18 _ HG1.out).mono ?_; rintro e w2 ⟨rfl, hb2⟩))
            have F2 := hB.trans (hb2.mono hB.size)
            exact bodyPost_ret (results_tmp3 rfl _ _ _) rfl ⟨_, rfl, HN.out _, F2.alloc F2.size _⟩
          · rw [clr_yes h0] at c18
            obtain ⟨x0, x1, x2, x3⟩ := x
            simp only at c18 HER HFU HTO hen h0
            obtain ⟨x1s, hx1⟩ : ∃ t, str x1 = t := ⟨_, rfl⟩
            have HX1 : Hid (str x1 = x1s) := hx1
            rw [hx1] at c18
            clear hx1
            have h0i : ¬ (x3 : Int) = 0 := by omega
            by_cases hfull : vn = 100
            · have HRR := HFU.out h0 hfull
              subst HRR hfull
              clear HER HFU HTO HX hen
              go_wp2_with (first
                | (go_at_call 56; refine (c16 _).mono ?_; rintro e w1 ⟨rfl, rfl⟩)
                | (go_at_call 57; refine (c18 _ HG1.out).mono ?_; rintro e w2 ⟨rfl, hb2⟩))
              have F2 := hB.trans (hb2.mono hB.size)
              exact bodyPost_ret (results_tmp3 rfl _ _ _) rfl ⟨_, rfl, HN.out _, F2.alloc F2.size _⟩
            · have hfi : ¬ (100 : Int) ≤ (vn : Int) := by omega
              have HRR : Hid (R = lexB (pos + x3) ((bs s).drop (pos + x3)) (acc ++ [⟨x0, x1, x2, pos⟩])) := HTO.out h0 hfull
              have hx2 := HX.out x3 h0 hen
              have hm1 : vn + 1 ≤ maxLen := by unfold maxLen; omega
              have hm2 : (vn + 1) * 40 ≤ 140737488355328 := by omega
              have HW1 : Hid (cellsT (acc ++ [⟨x0, x1, x2, pos⟩]) = cellsT acc ++ [.int .u8 (x0 : Int), .string x1s, .int .i64 x2, .int .i64 (pos : Int)]) := by
                show _ = _
                rw [cellsT_snoc]
                unfold cellT
                rw [HX1.out]
              clear HER HFU HTO HX hen
              go_wp2_with (first
                | (go_at_call 56; refine (c16 _).mono ?_; rintro e w1 ⟨rfl, rfl⟩)
                | (go_at_call 57; refine (c18 _ HG1.out).mono ?_; rintro e w2 ⟨rfl, hb2⟩; have F2 := hB.trans (hb2.mono hB.size); have hown5 : (((w2.alloc (.cells #[.int .u8 (x0 : Int), .string x1s, .int .i64 x2, .int .i64 (pos : Int)] 97)).alloc (.cells #[.int .u8 (x0 : Int), .string x1s, .int .i64 x2, .int .i64 (pos : Int)] 97))).ownsRow w.heap.size 97 4 (.slice va vn vc) vn (cellsT acc) := (by have := own_below (own_below HT.out hb2) (bmore (al w2 (.cells #[.int .u8 (x0 : Int), .string x1s, .int .i64 x2, .int .i64 (pos : Int)] 97)) (al _ (.cells #[.int .u8 (x0 : Int), .string x1s, .int .i64 x2, .int .i64 (pos : Int)] 97))); rw [HNN.out] at this; exact this); have hnews := news2 w2 (.cells #[.int .u8 (x0 : Int), .string x1s, .int .i64 x2, .int .i64 (pos : Int)] 97) (.int .u8 (x0 : Int)) (.string x1s) (.int .i64 x2) (.int .i64 (pos : Int)) 97; have F4 : Below w.heap.size w ((w2.alloc (.cells #[.int .u8 (x0 : Int), .string x1s, .int .i64 x2, .int .i64 (pos : Int)] 97)).alloc (.cells #[.int .u8 (x0 : Int), .string x1s, .int .i64 x2, .int .i64 (pos : Int)] 97)) := F2.trans ((bmore (al w2 (.cells #[.int .u8 (x0 : Int), .string x1s, .int .i64 x2, .int .i64 (pos : Int)] 97)) (al _ (.cells #[.int .u8 (x0 : Int), .string x1s, .int .i64 x2, .int .i64 (pos : Int)] 97))).mono F2.size); have hbase : w.heap.size ≤ (((w2.alloc (.cells #[.int .u8 (x0 : Int), .string x1s, .int .i64 x2, .int .i64 (pos : Int)] 97)).alloc (.cells #[.int .u8 (x0 : Int), .string x1s, .int .i64 x2, .int .i64 (pos : Int)] 97))).heap.size := F4.size)
                | (skip; (refine wpList_append_own ((w2.alloc (.cells #[.int .u8 (x0 : Int), .string x1s, .int .i64 x2, .int .i64 (pos : Int)] 97)).alloc (.cells #[.int .u8 (x0 : Int), .string x1s, .int .i64 x2, .int .i64 (pos : Int)] 97)) (by rfl) (.tmp 39) (.tmp 41) 81 (by rfl) w.heap.size 97 i0 (.agg #[.int .u8 0, .string ⟨#[]⟩, .int .i64 0, .int .i64 0]) 4 40 Tryd.underlying81 hi0 hz3 hz4 hz5 (by rfl) (by decide) _ vn (cellsT acc) (by rfl) hown5 ⟨w2.heap.size + 1, 0, none⟩ 1 1 [.int .u8 (x0 : Int), .string x1s, .int .i64 x2, .int .i64 (pos : Int)] (by rfl) (by rfl) hnews (by simp [Value.oneCell']) hm1 hm2 hbase ?_; intro v6 w6 hown6 hgr6 _; have F6 : Below w.heap.size w w6 := F4.grown hgr6 hbase (fun k e => (World.ownsRow.lt hown5 k e).1); clear hown5 hnews hgr6)))
              have HT6 : Hid (TRow w.heap.size v6 (acc ++ [⟨x0, x1, x2, pos⟩]) w6) := by unfold TRow; rw [HW1.out, List.length_append, HNN.out]; exact hown6
              have hv6 : ∃ a n c, v6 = .slice a n c := by
                rcases hown6.2 with ⟨_, h⟩ | ⟨g, cap, cur, h, _⟩
                · omega
                · exact ⟨_, _, _, h⟩
              go_roundw
              case rel => exact ⟨pos + x3, acc ++ [⟨x0, x1, x2, pos⟩], by simp, hv6, HT6, F6, hx2, by rw [List.length_append, HNN.out]; simp; omega, HRR⟩
              case measure => simp only [RowKit.intOf]; omega
        · rw [hsb] at c16
          have HRn : Hid (R = lexB (pos + 1) ((bs s).drop (pos + 1)) acc) := by
            show _ = _
            rw [HRp.out, lexB_space hsb]
          clear hcons HRp hsb
          go_wp2_with (go_at_call 56; refine (c16 _).mono ?_; rintro e w1 ⟨rfl, rfl⟩)
          go_roundw
          case rel => exact ⟨pos + 1, acc, by simp, ⟨_, _, _, rfl⟩, HT, hB, by omega, by rw [HNN.out]; exact hacc, HRn⟩
          case measure => simp only [RowKit.intOf]; omega
      · have hpi : ¬ (pos : Int) < (s.size : Int) := by omega
        have HRR : R = (acc, 0, 0) := by rw [HR.out, List.drop_eq_nil_of_le (by rw [bs_length]; omega), lexB_nil]
        subst HRR
        clear HR HR0
        go_wp2
        exact bodyPost_ret (results_tmp3 rfl _ _ _) rfl ⟨_, rfl, HT.out, hB⟩
end Go.Proofs.YtipnaphikbjhbaaDoor
