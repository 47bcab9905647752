/- lex.Tokens. -/
import Derived.Test.YthebpkcnhghofaaDoorLb
namespace Go.Proofs.YthebpkcnhghofaaDoor
open Go.RowKit Go.Lib Go.Joins
set_option maxRecDepth 100000

def cellT (x : Tk) : List Value := [.int .u8 (x.k : Int), .string (str x.t), .int .i64 x.n, .int .i64 (x.a : Int)]
def cellsT (l : List Tk) : List Value := l.flatMap cellT
theorem cellsT_snoc (l : List Tk) (x : Tk) : cellsT (l ++ [x]) = cellsT l ++ cellT x := by simp [cellsT]
/-- Tokens in a row of the call's own. -/
def TRow (B : Nat) (v : Value) (l : List Tk) (w : World) : Prop := w.ownsRow B 34 4 v l.length (cellsT l)
theorem own_block {W W' : World} {base e size n : Nat} {v : Value} {xs : List Value} (h : W.ownsRow base e size v n xs) (hb : ∀ k, v.ownBlock = some k → W'.heap[k]? = W.heap[k]?) : W'.ownsRow base e size v n xs := by
  obtain ⟨h1, h2 | ⟨g, cap, cur, rfl, hBg, hw, hn, hcap, hz, htk⟩⟩ := h
  · exact ⟨h1, .inl h2⟩
  · exact ⟨h1, .inr ⟨g, cap, cur, rfl, hBg, by rw [hb g rfl]; exact hw, hn, hcap, hz, htk⟩⟩
theorem own_base {W : World} {base base' e size n : Nat} {v : Value} {xs : List Value} (h : W.ownsRow base e size v n xs) (hb : base' ≤ base) : W.ownsRow base' e size v n xs := by
  obtain ⟨h1, h2 | ⟨g, cap, cur, rfl, hBg, hw, hn, hcap, hz, htk⟩⟩ := h
  · exact ⟨h1, .inl h2⟩
  · exact ⟨h1, .inr ⟨g, cap, cur, rfl, Nat.le_trans hb hBg, hw, hn, hcap, hz, htk⟩⟩
theorem own_below {W W' : World} {base e size n : Nat} {v : Value} {xs : List Value} (h : W.ownsRow base e size v n xs) (hb : Below W.heap.size W W') : W'.ownsRow base e size v n xs :=
  own_block h fun k e => hb.block k (World.ownsRow.lt h k e).2
structure TS (w0 : World) (s : ByteArray) (pos : Nat) (v : Value) (acc : List Tk) (w : World) : Prop where
  row : TRow (w0.heap.size + 1) v acc w
  iter : w.heap[w0.heap.size]? = some (.stringIter s pos)
  bel : Below w0.heap.size w0 w
theorem TS.next {w0 w : World} {s : ByteArray} {pos : Nat} {v : Value} {acc : List Tk} (h : TS w0 s pos v acc w) (p : Nat) : TS w0 s p v acc (w.iterAt w0.heap.size s p) :=
  ⟨own_block h.row fun k e => iterAt_other _ _ _ _ _ (by have := (World.ownsRow.lt h.row k e).1; omega), iterAt_heap _ _ _ _ _ h.iter, below_iterAt h.bel (Nat.le_refl _) _ _⟩
theorem TS.lt {w0 w : World} {s : ByteArray} {pos : Nat} {v : Value} {acc : List Tk} (h : TS w0 s pos v acc w) : w0.heap.size < w.heap.size := (Array.getElem?_eq_some_iff.1 h.iter).1
theorem TS.below {w0 w w' : World} {s : ByteArray} {pos : Nat} {v : Value} {acc : List Tk} (h : TS w0 s pos v acc w) (hb : Below w.heap.size w w') : TS w0 s pos v acc w' :=
  ⟨own_below h.row hb, (hb.block _ h.lt).trans h.iter, h.bel.trans (hb.mono h.bel.size)⟩
theorem TS.push {w0 w w' : World} {s : ByteArray} {pos : Nat} {v v' : Value} {acc : List Tk} {x : Tk} (h : TS w0 s pos v acc w) (hr : TRow (w0.heap.size + 1) v' (acc ++ [x]) w') (hg : w.grownBy w' v.ownBlock) : TS w0 s pos v' (acc ++ [x]) w' :=
  ⟨hr, (hg.block _ h.lt (fun e => by have := (World.ownsRow.lt h.row _ e.symm).1; omega)).trans h.iter, h.bel.grown hg h.bel.size fun k e => by have := (World.ownsRow.lt h.row k e).1; omega⟩
/-- A rune does not go over a byte below 128. -/
theorem jump {s : ByteArray} {pos q : Nat} (hp : pos < s.size) (h1 : pos < q) (hq : q ≤ s.size) (hb : ((bs s).getD (q - 1) 0).toNat < 128) : pos + (Utf8.decode s pos).2 ≤ q := by
  have hdec := rest_decode s pos
  have hcons := rest_cons hp
  by_cases hlow : (s[pos]'hp).toNat < 128
  · have hd : decodeL ((bs s).drop pos) = ((s[pos]'hp).toNat, 1) := by rw [hcons]; exact ascii_head hlow
    have : (Utf8.decode s pos).2 = 1 := by rw [← hdec, hd]
    omega
  · have hh := (high_bytes _ (rest_ne hp) (by rw [hcons]; simpa using hlow)).2
    rw [hdec] at hh
    by_cases hlt : q < pos + (Utf8.decode s pos).2
    · exfalso
      have hl : q - 1 < (bs s).length := by rw [bs_length]; omega
      have e : (bs s).getD (q - 1) 0 = (bs s)[q - 1] := by rw [List.getD_eq_getElem?_getD, List.getElem?_eq_getElem hl]; rfl
      have := hh ((bs s)[q - 1]) (by
        rw [List.mem_take_iff_getElem]
        refine ⟨q - 1 - pos, by rw [List.length_drop]; omega, ?_⟩
        rw [List.getElem_drop]
        congr 1
        omega)
      rw [e] at hb
      omega
    · omega
/-- The first rune, by the first byte. -/
theorem first_rune {s : ByteArray} {pos : Nat} (hp : pos < s.size) : ((s[pos]'hp).toNat < 128 ∧ (Utf8.decode s pos).1 = (s[pos]'hp).toNat ∧ (Utf8.decode s pos).2 = 1) ∨ (128 ≤ (s[pos]'hp).toNat ∧ 128 ≤ (Utf8.decode s pos).1) := by
  have hdec := rest_decode s pos
  have hcons := rest_cons hp
  by_cases hlow : (s[pos]'hp).toNat < 128
  · have hd : decodeL ((bs s).drop pos) = ((s[pos]'hp).toNat, 1) := by rw [hcons]; exact ascii_head hlow
    exact .inl ⟨hlow, by rw [← hdec, hd], by rw [← hdec, hd]⟩
  · have hh := (high_bytes _ (rest_ne hp) (by rw [hcons]; simpa using hlow)).1
    rw [hdec] at hh
    exact .inr ⟨by omega, hh⟩
theorem bs_from (s : ByteArray) (pos : Nat) : bs (s.extract pos s.size) = (bs s).drop pos := by
  rw [ext_take, List.take_of_length_le (by rw [bs_length]; omega)]
theorem info34 : (Tryd.prog.info? 34).map (fun i => (i.zero, i.size, i.bytes)) = some (some (.agg #[.int .u8 0, .string ⟨#[]⟩, .int .i64 0, .int .i64 0]), 4, 40) := by kernel_rfl

theorem news2 (w2 : World) (o : Obj) (a b c d : Value) (t : TypeId) : ∀ j u, [a, b, c, d][j]? = some u → ((w2.alloc o).alloc (.cells #[a, b, c, d] t)).cell? ((⟨w2.heap.size + 1, 0, none⟩ : Addr).add j) = some u := by
  intro j u hj
  rw [show (⟨w2.heap.size + 1, 0, none⟩ : Addr).add j = ⟨w2.heap.size + 1, j, none⟩ by unfold Addr.add; split <;> simp_all]
  rw [World.cell?_alloc_at _ _ _ _ (by simp)]
  simpa using hj
set_option maxHeartbeats 8000000 in
theorem tokens8 (s : ByteArray) (w : World) (hs : s.size < 4611686018427387904) (hg : Good w) :
    Calls Tryd.prog 8 #[.string s] w fun e w' => ∃ v, e = .returned (.tuple #[v, .int .i64 ((toks (bs s)).2.1 : Nat), .int .i64 ((toks (bs s)).2.2 : Nat)]) ∧ TRow w.heap.size v (toks (bs s)).1 w' ∧ Below w.heap.size w w' := by
  by_cases h400 : 400 < s.size
  · rw [show toks (bs s) = ([], 0, 4) by unfold toks; rw [bs_length, if_pos h400]]
    have h1 : (400 : Int) < (s.size : Int) := by omega
    have HT : Hid (TRow w.heap.size (.slice none 0 0) [] w) := World.ownsRow_nil _ _ _ _
    go_enter Tryd.func8, Tryd.ntmps8
    go_wp2
    exact bodyPost_ret (results_tmp3 rfl _ _ _) rfl ⟨_, rfl, HT.out, Below.refl _ _⟩
  · have h1 : ¬ (400 : Int) < (s.size : Int) := by omega
    obtain ⟨R, hR⟩ : ∃ R, lexB 0 (bs s) [] = R := ⟨_, rfl⟩
    rw [show toks (bs s) = R by unfold toks; rw [bs_length, if_neg h400, hR]]
    have HE : Hid (∀ v acc w', TRow (w.heap.size + 1) v acc w' → TRow w.heap.size v acc w') := fun v acc w' h => own_base h (by omega)
    have HN : Hid (∀ w', TRow w.heap.size (.slice none 0 0) [] w') := fun w' => World.ownsRow_nil _ _ _ _
    have H0 : Hid (TS w s 0 (.slice none 0 0) [] (w.iter s 0)) := ⟨World.ownsRow_nil _ _ _ _, World.iter_heap _ _ _, iter_below w s 0⟩
    have HR0 : Hid (R = lexB (max 0 0) ((bs s).drop (max 0 0)) []) := hR.symm
    obtain ⟨i0, hi0, hz3, hz4, hz5⟩ := info_parts info34
    clear hR
    go_enter Tryd.func8, Tryd.ntmps8
    go_wp2
    go_loopw [5, 6] (fun p5 p6 wr => ∃ (pos bh : Nat) (acc : List Tk), p6 = .int .i64 (bh : Int) ∧ (∃ a n c, p5 = .slice a n c) ∧ Hid (TS w s pos p5 acc wr) ∧ pos ≤ s.size ∧ bh ≤ s.size ∧ acc.length ≤ 100 ∧ Hid (pos < bh → ((bs s).getD (bh - 1) 0).toNat < 128) ∧ Hid (R = lexB (max pos bh) ((bs s).drop (max pos bh)) acc)) (fun _ _ wr => s.size - wr.iterPos w.heap.size)
    case atStart => exact ⟨0, 0, [], rfl, ⟨_, _, _, rfl⟩, H0, Nat.zero_le _, Nat.zero_le _, Nat.zero_le _, fun h => by omega, HR0⟩
    case round =>
      obtain ⟨pos, bh, acc, rfl, ⟨va, vn, vc, hv⟩, HT, hps, hbs, hacc, HB, HR⟩ := hrel
      subst hv
      obtain ⟨N, hN⟩ : ∃ N, acc.length = N := ⟨_, rfl⟩
      have hvn : vn = N := by
        obtain ⟨h1, ⟨h2, h3⟩ | ⟨g, cap, cur, h2, _⟩⟩ := HT.out.row
        · cases h2; omega
        · cases h2; exact hN
      subst hvn
      have HNN : Hid (acc.length = vn) := hN
      rw [hN] at hacc
      clear hN
      by_cases hp : pos < s.size
      · have hnx : ∀ ty, (Instr.next (.pointer (some ⟨w.heap.size, 0, none⟩)) true ty).run Tryd.prog wr = _ := fun ty => run_next_any_at wr w.heap.size s pos ty HT.out.iter hp
        have hwd := width_pos s pos
        have hwl := rest_width hp
        have hcons := rest_cons hp
        have hfr := first_rune hp
        have hju := fun q => jump (s := s) (pos := pos) (q := q) hp
        have hstop : wr.iterPos w.heap.size = pos := by simp [World.iterPos, HT.out.iter]
        generalize s[pos]'hp = b at hcons hfr
        obtain ⟨r, hr⟩ : ∃ r, (Utf8.decode s pos).1 = r := ⟨_, rfl⟩
        obtain ⟨wd, hw⟩ : ∃ k, (Utf8.decode s pos).2 = k := ⟨_, rfl⟩
        rw [hr, hw] at hnx hfr
        rw [hw] at hwd hwl
        simp only [hw] at hju
        have HJU : Hid (∀ q, pos < q → q ≤ s.size → ((bs s).getD (q - 1) 0).toNat < 128 → pos + wd ≤ q) := hju
        have HT1 : Hid (TS w s (pos + wd) (.slice va vn vc) acc (wr.iterAt w.heap.size s (pos + wd))) := HT.out.next (pos + wd)
        have hstop2 : (wr.iterAt w.heap.size s (pos + wd)).iterPos w.heap.size = pos + wd := by simp [World.iterPos, HT1.out.iter]
        have hposi : (pos : Int) ≤ (s.size : Int) := by omega
        clear hr hw hju
        by_cases hbh : pos < bh
        · have hbi : (pos : Int) < (bh : Int) := by omega
          have HM : Hid (max (pos + wd) bh = max pos bh) := by
            show _ = _
            have := HJU.out bh hbh hbs (HB.out hbh)
            omega
          go_wp2
          go_roundw
          case rel => exact ⟨pos + wd, bh, acc, rfl, ⟨_, _, _, rfl⟩, HT1, by omega, hbs, by rw [HNN.out]; exact hacc, fun _ => HB.out hbh, by rw [HM.out]; exact HR⟩
          case measure => omega
        · have hbi : ¬ (pos : Int) < (bh : Int) := by omega
          have HRp : Hid (R = lexB pos (b :: (bs s).drop (pos + 1)) acc) := by
            show _ = _
            rw [HR.out, Nat.max_eq_left (by omega), hcons]
          have hsp : spcI (r : Int) = spcI (b.toNat : Int) := by
            rcases hfr with ⟨_, h2, _⟩ | ⟨h2, h3⟩
            · rw [h2]
            · rw [spcI_high (by omega), spcI_high (by omega)]
          have c15 := fun w1 => spaced15 (r : Int) w1
          rw [hsp] at c15
          clear hsp HR
          cases hsb : spcI (b.toNat : Int)
          · rw [hsb] at c15
            have c17 := fun w1 h => begun17 (s.extract pos s.size) b ((bs s).drop (pos + 1)) (by simp; omega) (by rw [bs_from, hcons]) r (by rcases hfr with ⟨h1, h2, _⟩ | h; exact .inl ⟨h1, h2⟩; exact .inr h) w1 h
            rw [bs_from, hcons] at c17
            have hen := begB_ends (b :: (bs s).drop (pos + 1))
            have HG1 : Hid (Good (wr.iterAt w.heap.size s (pos + wd))) := hg.below HT1.out.bel
            have HX : Hid (∀ n, ¬ n = 0 → Ends (b :: (bs s).drop (pos + 1)) n → pos + wd ≤ pos + n ∧ pos + n ≤ s.size ∧ ((bs s).getD (pos + n - 1) 0).toNat < 128) := fun n hn he => by
              have h1 : pos + n ≤ s.size := by
                have := he.1
                rw [← hcons, List.length_drop, bs_length] at this
                omega
              have h2 : ((bs s).getD (pos + n - 1) 0).toNat < 128 := by
                have := he.2 (by omega)
                rw [← hcons] at this
                rw [show pos + n - 1 = pos + (n - 1) by omega]
                simpa [List.getD_eq_getElem?_getD] using this
              exact ⟨HJU.out _ (by omega) h1 h2, h1, h2⟩
            have HER : Hid ((begB (b :: (bs s).drop (pos + 1))).2.2.2 = 0 → R = ([], pos, 8)) := fun h => by rw [HRp.out, lexB_err hsb h]
            have HFU : Hid ((begB (b :: (bs s).drop (pos + 1))).2.2.2 ≠ 0 → vn = 100 → R = ([], pos, 4)) := fun h h2 => by rw [HRp.out, lexB_full hsb h (by rw [HNN.out]; exact h2)]
            have HTO : Hid ((begB (b :: (bs s).drop (pos + 1))).2.2.2 ≠ 0 → vn ≠ 100 → R = lexB (pos + (begB (b :: (bs s).drop (pos + 1))).2.2.2) ((bs s).drop (pos + (begB (b :: (bs s).drop (pos + 1))).2.2.2)) (acc ++ [⟨(begB (b :: (bs s).drop (pos + 1))).1, (begB (b :: (bs s).drop (pos + 1))).2.1, (begB (b :: (bs s).drop (pos + 1))).2.2.1, pos⟩])) := fun h h2 => by
              rw [HRp.out, lexB_tok hsb h (by rw [HNN.out]; exact h2)]
              congr 1
              rw [← hcons, List.drop_drop]
            clear hcons hfr HRp hsb
            unfold BegPost at c17
            generalize begB (b :: (bs s).drop (pos + 1)) = x at *
            obtain ⟨x0, x1, x2, x3⟩ := x
            simp only at c17 HER HFU HTO hen
            obtain ⟨x1s, hx1⟩ : ∃ t, str x1 = t := ⟨_, rfl⟩
            have HX1 : Hid (str x1 = x1s) := hx1
            rw [hx1] at c17
            clear hx1
            by_cases h0 : x3 = 0
            · subst h0
              have HRR := HER.out rfl
              subst HRR
              go_wp2_with (first
                | (go_at_call 15; refine (c15 _).mono ?_; rintro e w1 ⟨rfl, rfl⟩)
                | (go_at_call 17; refine (c17 _ HG1.out).mono ?_; rintro e w2 ⟨rfl, hb2⟩))
              have hT2 := HT1.out.below hb2
              exact bodyPost_ret (results_tmp3 rfl _ _ _) rfl ⟨_, rfl, HN.out _, hT2.bel.alloc (Nat.le_of_lt hT2.lt) _⟩
            · have h0i : ¬ (x3 : Int) = 0 := by omega
              by_cases hfull : vn = 100
              · have HRR := HFU.out h0 hfull
                subst HRR hfull
                go_wp2_with (first
                  | (go_at_call 15; refine (c15 _).mono ?_; rintro e w1 ⟨rfl, rfl⟩)
                  | (go_at_call 17; refine (c17 _ HG1.out).mono ?_; rintro e w2 ⟨rfl, hb2⟩))
                have hT2 := HT1.out.below hb2
                exact bodyPost_ret (results_tmp3 rfl _ _ _) rfl ⟨_, rfl, HN.out _, hT2.bel.alloc (Nat.le_of_lt hT2.lt) _⟩
              · have hfi : ¬ (vn : Int) = 100 := by omega
                have HRR : Hid (R = lexB (pos + x3) ((bs s).drop (pos + x3)) (acc ++ [⟨x0, x1, x2, pos⟩])) := HTO.out h0 hfull
                obtain ⟨hx1, hx2, hx3⟩ := HX.out x3 h0 hen
                have HB3 : Hid (((bs s).getD (pos + x3 - 1) 0).toNat < 128) := hx3
                have hm1 : vn + 1 ≤ maxLen := by unfold maxLen; omega
                have hm2 : (vn + 1) * 40 ≤ 140737488355328 := by omega
                have HW1 : Hid (cellsT (acc ++ [⟨x0, x1, x2, pos⟩]) = cellsT acc ++ [.int .u8 (x0 : Int), .string x1s, .int .i64 x2, .int .i64 (pos : Int)]) := by
                  show _ = _
                  rw [cellsT_snoc]
                  unfold cellT
                  rw [HX1.out]
                clear HER HFU HTO HX hx3 hen
                go_wp2_with (first
                  | (go_at_call 15; refine (c15 _).mono ?_; rintro e w1 ⟨rfl, rfl⟩)
                  | (go_at_call 17; refine (c17 _ HG1.out).mono ?_; rintro e w2 ⟨rfl, hb2⟩; have hT3 := (HT1.out.below hb2).below (bmore (al w2 (.cells #[.int .u8 (x0 : Int), .string x1s, .int .i64 x2, .int .i64 (pos : Int)] 34)) (al _ (.cells #[.int .u8 (x0 : Int), .string x1s, .int .i64 x2, .int .i64 (pos : Int)] 34))); have HT3 : Hid (TS w s (pos + wd) (.slice va vn vc) acc ((w2.alloc (.cells #[.int .u8 (x0 : Int), .string x1s, .int .i64 x2, .int .i64 (pos : Int)] 34)).alloc (.cells #[.int .u8 (x0 : Int), .string x1s, .int .i64 x2, .int .i64 (pos : Int)] 34))) := hT3; have hown5 : (((w2.alloc (.cells #[.int .u8 (x0 : Int), .string x1s, .int .i64 x2, .int .i64 (pos : Int)] 34)).alloc (.cells #[.int .u8 (x0 : Int), .string x1s, .int .i64 x2, .int .i64 (pos : Int)] 34))).ownsRow (w.heap.size + 1) 34 4 (.slice va vn vc) vn (cellsT acc) := (by have := hT3.row; unfold TRow at this; rw [HNN.out] at this; exact this); have hnews := news2 w2 (.cells #[.int .u8 (x0 : Int), .string x1s, .int .i64 x2, .int .i64 (pos : Int)] 34) (.int .u8 (x0 : Int)) (.string x1s) (.int .i64 x2) (.int .i64 (pos : Int)) 34; have hbase : w.heap.size + 1 ≤ (((w2.alloc (.cells #[.int .u8 (x0 : Int), .string x1s, .int .i64 x2, .int .i64 (pos : Int)] 34)).alloc (.cells #[.int .u8 (x0 : Int), .string x1s, .int .i64 x2, .int .i64 (pos : Int)] 34))).heap.size := hT3.lt; clear hT3)
                  | (skip; (refine wpList_append_own ((w2.alloc (.cells #[.int .u8 (x0 : Int), .string x1s, .int .i64 x2, .int .i64 (pos : Int)] 34)).alloc (.cells #[.int .u8 (x0 : Int), .string x1s, .int .i64 x2, .int .i64 (pos : Int)] 34)) (by rfl) (.tmp 44) (.tmp 46) 22 (by rfl) (w.heap.size + 1) 34 i0 (.agg #[.int .u8 0, .string ⟨#[]⟩, .int .i64 0, .int .i64 0]) 4 40 Tryd.underlying22 hi0 hz3 hz4 hz5 (by rfl) (by decide) _ vn (cellsT acc) (by rfl) hown5 ⟨w2.heap.size + 1, 0, none⟩ 1 1 [.int .u8 (x0 : Int), .string x1s, .int .i64 x2, .int .i64 (pos : Int)] (by rfl) (by rfl) hnews (by simp [Value.oneCell']) hm1 hm2 hbase ?_; intro v6 w6 hown6 hgr6 _; clear hown5 hnews)))
                have HT6 : Hid (TS w s (pos + wd) v6 (acc ++ [⟨x0, x1, x2, pos⟩]) w6) := HT3.out.push (by unfold TRow; rw [HW1.out, List.length_append, HNN.out]; exact hown6) hgr6
                have hv6 : ∃ a n c, v6 = .slice a n c := by
                  rcases hown6.2 with ⟨_, h⟩ | ⟨g, cap, cur, h, _⟩
                  · omega
                  · exact ⟨_, _, _, h⟩
                have hstop6 : w6.iterPos w.heap.size = pos + wd := by simp [World.iterPos, HT6.out.iter]
                go_roundw
                case rel => exact ⟨pos + wd, pos + x3, acc ++ [⟨x0, x1, x2, pos⟩], by simp, hv6, HT6, by omega, hx2, by rw [List.length_append, HNN.out]; simp; omega, fun _ => HB3.out, by rw [Nat.max_eq_right hx1]; exact HRR⟩
                case measure => omega
          · rw [hsb] at c15
            obtain rfl : wd = 1 := by
              rcases hfr with ⟨_, _, h⟩ | ⟨h, _⟩
              · exact h
              · rw [spcI_high (by omega)] at hsb
                cases hsb
            have HRn : Hid (R = lexB (max (pos + 1) bh) ((bs s).drop (max (pos + 1) bh)) acc) := by
              show _ = _
              rw [HRp.out, lexB_space hsb, Nat.max_eq_left (by omega)]
            clear hcons hfr HRp hsb
            go_wp2_with (go_at_call 15; refine (c15 _).mono ?_; rintro e w1 ⟨rfl, rfl⟩)
            go_roundw
            case rel => exact ⟨pos + 1, bh, acc, rfl, ⟨_, _, _, rfl⟩, HT1, by omega, hbs, by rw [HNN.out]; exact hacc, fun h => by omega, HRn⟩
            case measure => omega
      · have hnx : ∀ ty, (Instr.next (.pointer (some ⟨w.heap.size, 0, none⟩)) true ty).run Tryd.prog wr = _ := fun ty => run_next_end_at wr w.heap.size s pos ty HT.out.iter hp
        have HRR : R = (acc, 0, 0) := by rw [HR.out, List.drop_eq_nil_of_le (by rw [bs_length]; omega), lexB_nil]
        subst HRR
        clear HR HR0 HB
        go_wp2
        exact bodyPost_ret (results_tmp3 rfl _ _ _) rfl ⟨_, rfl, HE.out _ _ _ HT.out.row, HT.out.bel⟩
end Go.Proofs.YthebpkcnhghofaaDoor
