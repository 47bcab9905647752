/- A row with other values. -/
import Derived.Test.YthalgnfffcimhaaPf
import Derived.Deep.Cut
namespace Go.Proofs.Ythalgnfffcimhaa
open Go.RowKit Go.Shelf
set_option maxRecDepth 100000
abbrev Se := ByteArray × Vt
structure SO (w : World) (g : Nat) (ss : List Se) : Prop where
  cells : ∀ (i : Nat) (x : Se), ss[i]? = some x → w.cell? ⟨g, i * 4, none⟩ = some (.string x.1) ∧ w.cell? ⟨g, i * 4 + 1, none⟩ = some (.int .u8 x.2.1) ∧ w.cell? ⟨g, i * 4 + 2, none⟩ = some (.int .i64 x.2.2.1) ∧ w.cell? ⟨g, i * 4 + 3, none⟩ = some (.string x.2.2.2)
theorem SO.keep {w w' : World} {g : Nat} {ss : List Se} {F : Nat → Prop} (h : SO w g ss) (k : Keep F w w') (hF : ¬ F g) : SO w' g ss :=
  ⟨fun i x hx => by
    obtain ⟨h0, h1, h2, h3⟩ := h.cells i x hx
    have hg := World.block_lt_of_cell? w _ h0
    exact ⟨(k.cell hg hF).trans h0, (k.cell hg hF).trans h1, (k.cell hg hF).trans h2, (k.cell hg hF).trans h3⟩⟩
theorem CO.keep {w w' : World} {g : Nat} {cs : List Cl} {F : Nat → Prop} (h : CO w g cs) (k : Keep F w w') (hF : ¬ F g) : CO w' g cs :=
  ⟨fun i x hx => by
    obtain ⟨h0, h1⟩ := h.cells i x hx
    have hg := World.block_lt_of_cell? w _ h0
    exact ⟨(k.cell hg hF).trans h0, (k.cell hg hF).trans h1⟩⟩
def setOne (cs : List Cl) (vl : List Vt) (s : Se) : List Vt := if 0 ≤ colI cs s.1 ∧ colI cs s.1 < (vl.length : Int) then vl.set (colI cs s.1).toNat s.2 else vl
def setsV (cs : List Cl) (ss : List Se) (vl : List Vt) : List Vt := ss.foldl (setOne cs) vl
theorem setOne_len (cs : List Cl) (vl : List Vt) (s : Se) : (setOne cs vl s).length = vl.length := by unfold setOne; split <;> simp
theorem setsV_len (cs : List Cl) (ss : List Se) : ∀ vl, (setsV cs ss vl).length = vl.length := by
  induction ss with
  | nil => intro vl; rfl
  | cons s ss ih => intro vl; show (setsV cs ss (setOne cs vl s)).length = _; rw [ih, setOne_len]
theorem setsV_take {cs : List Cl} {ss : List Se} {k : Nat} {s : Se} (h : ss[k]? = some s) (vl : List Vt) : setsV cs (ss.take (k + 1)) vl = setOne cs (setsV cs (ss.take k) vl) s := by
  unfold setsV
  rw [List.take_add_one, h, List.foldl_append]
  rfl
theorem cellsV_set : ∀ (l : List Vt) (k : Nat) (x : Vt), k < l.length → cellsV (l.set k x) = (((cellsV l).set (k * 3) (.int .u8 x.1)).set (k * 3 + 1) (.int .i64 x.2.1)).set (k * 3 + 2) (.string x.2.2)
  | [], k, e, h => by simp at h
  | y :: l, 0, e, _ => by simp [cellsV]
  | y :: l, k + 1, e, h => by
    have ih := cellsV_set l k e (by simpa using h)
    rw [List.set_cons_succ, show cellsV (y :: l.set k e) = .int .u8 y.1 :: .int .i64 y.2.1 :: .string y.2.2 :: cellsV (l.set k e) by simp [cellsV], show cellsV (y :: l) = .int .u8 y.1 :: .int .i64 y.2.1 :: .string y.2.2 :: cellsV l by simp [cellsV], show (k + 1) * 3 = k * 3 + 1 + 1 + 1 by omega, ih]
    rfl
theorem info30s : (Try.prog.info? 30).map (·.size) = some 3 := by kernel_rfl
def WPost (w : World) (l : List Vt) (f t : Int) (e : Ending) (w' : World) : Prop := ∃ g, e = .returned (.agg #[.slice (some ⟨g, 0, none⟩) l.length l.length, .int .i64 f, .int .i64 t]) ∧ w.heap.size ≤ g ∧ Blk w' g (cellsV l) 24 ∧ Below w.heap.size w w'
theorem two_at (w : World) (l m : List Value) : Blk ((w.alloc (.cells l.toArray 30)).alloc (.cells m.toArray 30)) w.heap.size l 30 ∧ Blk ((w.alloc (.cells l.toArray 30)).alloc (.cells m.toArray 30)) (w.heap.size + 1) m 30 ∧ Below w.heap.size w ((w.alloc (.cells l.toArray 30)).alloc (.cells m.toArray 30)) := by
  refine ⟨(blk_new w l 30).below (al _ _), ?_, bal (al _ _) _⟩
  have := blk_new (w.alloc (.cells l.toArray 30)) m 30
  simpa using this
theorem colI_cases (cs : List Cl) (nm : ByteArray) : colI cs nm = -1 ∨ ∃ p : Nat, colI cs nm = (p : Int) := by
  unfold colI
  split
  · exact .inr ⟨_, rfl⟩
  · exact .inl rfl
set_option maxHeartbeats 1000000 in
theorem withSets16 {w : World} {X : Nat → Prop} {sv : Value} {vl : List Vt} {f t : Int} {gc cc gs sc : Nat} {cs : List Cl} {ss : List Se} (hsv : SV w X sv vl) (hvl : vl.length ≤ 1000) (hc : CO w gc cs) (hcl : cs.length ≤ 1000) (hcg : gc < w.heap.size) (hs : SO w gs ss) (hsl : ss.length ≤ 1000) (hsg : gs < w.heap.size) :
    Calls Try.prog 16 #[.agg #[sv, .int .i64 f, .int .i64 t], .slice (some ⟨gc, 0, none⟩) cs.length cc, .slice (some ⟨gs, 0, none⟩) ss.length sc] w (WPost w (setsV cs ss vl) f t) := by
  obtain ⟨pa, ca, rfl⟩ := hsv.form
  obtain ⟨h3, h6, hb⟩ := two_at w [.slice pa vl.length ca, .int .i64 f, .int .i64 t] [.slice none 0 0, .int .i64 0, .int .i64 0]
  obtain ⟨N, hN⟩ : ∃ N, vl.length = N := ⟨_, rfl⟩
  have HNN : Hid (vl.length = N) := hN
  obtain ⟨M, hM⟩ : ∃ M, ss.length = M := ⟨_, rfl⟩
  have HM : Hid (ss.length = M) := hM
  have hmk := run_make_vals N (by omega)
  have HSV : Hid (SV w X (.slice pa N ca) vl) := by show SV _ _ _ _; rw [← hN]; exact hsv
  have HC : Hid (CO w gc cs ∧ cs.length ≤ 1000 ∧ gc < w.heap.size) := ⟨hc, hcl, hcg⟩
  have HS : Hid (SO w gs ss ∧ gs < w.heap.size) := ⟨hs, hsg⟩
  have HLn : Hid (∀ k, (setsV cs (ss.take k) vl).length = N) := fun k => by rw [setsV_len, hN]
  have HLx : Hid ((setsV cs ss vl).length = N) := by show _ = _; rw [setsV_len, hN]
  rw [hN] at hvl h3 hb h6 ⊢
  rw [hM] at hsl ⊢
  clear hN hM hsv hc hcl hcg hs hsg
  go_enter Try.func16, Try.ntmps16
  go_upto_region 1 with fail
  generalize World.alloc (World.alloc w _) _ = W2 at *
  have r0 := h3.cell 0
  simp only [List.getElem?_cons_zero] at r0
  have H3 : Hid _ := h3
  have H6 : Hid _ := h6
  have HB : Hid _ := hb
  have r0' := ((h3.below (al W2 (.cells (madeCells #[.int .u8 0, .int .i64 0, .string ByteArray.empty] (N * 3)) 24))).cell 0)
  simp only [List.getElem?_cons_zero] at r0'
  clear h3 h6 hb
  go_wp2_with (refine wpList_copy_vals rfl (.tmp 15) (.tmp 17) rfl W2.heap.size N _ vl (madeCells #[.int .u8 0, .int .i64 0, .string ByteArray.empty] (N * 3)).toList rfl rfl ((SV.below HSV.out HB.out).below (al _ _)) HNN ?_ ?_ ?_)
  · exact blk_new _ _ _
  · simp [size_madeCells]
  · intro w5 hblk hkeep
    have HK5 : Hid (Keep (fun b => b = W2.heap.size) W2 w5) := (Keep.of (al _ _)).trans hkeep (fun _ _ h => h)
    have HB5 : Hid (Blk w5 W2.heap.size (cellsV (setsV cs (ss.take 0) vl)) 24) := hblk
    clear hblk hkeep r0 r0' hmk
    go_wp2_with fail
    go_loopw [21] (fun fi wr => ∃ (k : Nat), fi = .int .i64 (k : Int) ∧ Hid (k ≤ M) ∧ Hid (Blk wr W2.heap.size (cellsV (setsV cs (ss.take k) vl)) 24) ∧ Hid (Keep (fun b => b = W2.heap.size) W2 wr)) (fun fi _ => ((M : Int) - intOf fi).toNat)
    case atStart => exact ⟨0, rfl, Nat.zero_le _, HB5.out, HK5.out⟩
    case round =>
      obtain ⟨k, rfl, hk, hBk, hKk⟩ := hrel
      have hgz := HB.out.size
      by_cases hkM : k < M
      · have hki : (k : Int) < (M : Int) := by omega
        have hk0 : (0 : Int) ≤ (k : Int) := by omega
        obtain ⟨⟨nm, vk, vn, vs⟩, hx⟩ : ∃ x, ss[k]? = some x := ⟨_, List.getElem?_eq_getElem (by rw [HM.out]; exact hkM)⟩
        have hKw : Keep (fun b => b = W2.heap.size) w wr := (Keep.of HB.out).trans hKk.out (fun _ _ h => h)
        obtain ⟨d0, d1, d2, d3⟩ := (HS.out.1.keep hKw (by have := HS.out.2; omega)).cells k _ hx
        simp only at d0 d1 d2 d3
        have HKa : Hid (Keep (fun b => b = W2.heap.size) W2 (wr.alloc (.cells #[.string nm, .int .u8 vk, .int .i64 vn, .string vs] 38))) := hKk.out.alloc _
        have hco : CO (wr.alloc (.cells #[.string nm, .int .u8 vk, .int .i64 vn, .string vs] 38)) gc cs := HC.out.1.keep (hKw.alloc _) (by have := HC.out.2.2; omega)
        have k31 := column31 (c := cc) hco HC.out.2.1 nm
        have hbs := blk_new wr [.string nm, .int .u8 vk, .int .i64 vn, .string vs] 38
        change Blk (wr.alloc (.cells #[.string nm, .int .u8 vk, .int .i64 vn, .string vs] 38)) _ _ _ at hbs
        have HBs : Hid (∀ w7, Below (wr.alloc (.cells #[.string nm, .int .u8 vk, .int .i64 vn, .string vs] 38)).heap.size (wr.alloc (.cells #[.string nm, .int .u8 vk, .int .i64 vn, .string vs] 38)) w7 → (w7.cell? ⟨wr.heap.size, 1, none⟩ = some (.int .u8 vk) ∧ w7.cell? ⟨wr.heap.size, 2, none⟩ = some (.int .i64 vn) ∧ w7.cell? ⟨wr.heap.size, 3, none⟩ = some (.string vs)) ∧ Blk w7 W2.heap.size (cellsV (setsV cs (ss.take k) vl)) 24 ∧ Keep (fun b => b = W2.heap.size) W2 w7) := fun w7 k7 => ⟨⟨(hbs.below k7).cell 1, (hbs.below k7).cell 2, (hbs.below k7).cell 3⟩, (hBk.out.below (al _ _)).below k7, HKa.out.trans (Keep.of k7) (fun _ _ h => h)⟩
        have HT : Hid (setsV cs (ss.take (k + 1)) vl = setOne cs (setsV cs (ss.take k) vl) (nm, vk, vn, vs)) := setsV_take hx vl
        clear hx hco hbs hKw
        by_cases hin : 0 ≤ colI cs nm ∧ colI cs nm < (N : Int)
        · obtain ⟨p, hp⟩ : ∃ p : Nat, colI cs nm = (p : Int) := ⟨(colI cs nm).toNat, by omega⟩
          have hp0 : (0 : Int) ≤ (p : Int) := by omega
          have hpN : (p : Int) < (N : Int) := by omega
          have HT2 : Hid (setsV cs (ss.take (k + 1)) vl = (setsV cs (ss.take k) vl).set p (vk, vn, vs)) := by
            show _ = _
            rw [HT.out, setOne, if_pos (by rw [HLn.out]; exact hin), hp]
            rfl
          rw [hp] at k31
          clear hin HT hp
          have HCell : Hid (∀ w7, Blk w7 W2.heap.size (cellsV (setsV cs (ss.take k) vl)) 24 → (∃ x0, w7.cell? ⟨W2.heap.size, p * 3, none⟩ = some x0) ∧ (∃ x1, w7.cell? ⟨W2.heap.size, p * 3 + 1, none⟩ = some x1) ∧ (∃ x2, w7.cell? ⟨W2.heap.size, p * 3 + 2, none⟩ = some x2) ∧ w7.frozen? ⟨W2.heap.size, p * 3, none⟩ = false ∧ w7.frozen? ⟨W2.heap.size, p * 3 + 1, none⟩ = false ∧ w7.frozen? ⟨W2.heap.size, p * 3 + 2, none⟩ = false) := fun w7 h => by
            have hlen := cellsV_length (setsV cs (ss.take k) vl)
            rw [HLn.out] at hlen
            refine ⟨⟨_, (h.cell _).trans (List.getElem?_eq_getElem (by omega))⟩, ⟨_, (h.cell _).trans (List.getElem?_eq_getElem (by omega))⟩, ⟨_, (h.cell _).trans (List.getElem?_eq_getElem (by omega))⟩, h.frozen _, h.frozen _, h.frozen _⟩
          go_wp2_with (go_at_call 31; (with_reducible refine k31.mono ?_); rintro e w7 ⟨rfl, B7⟩; obtain ⟨⟨y1, y2, y3⟩, HB7, HK7⟩ := HBs.out _ B7; obtain ⟨⟨x0, z0⟩, ⟨x1, z1⟩, ⟨x2, z2⟩, f0, f1, f2⟩ := HCell.out _ HB7; have hB7 : Hid _ := HB7; have hK7 : Hid _ := HK7; clear HB7 HK7 B7)
          go_roundw
          case rel => exact ⟨k + 1, by simp, by show _ ≤ _; omega, by show Blk _ _ _ _; rw [HT2.out, cellsV_set _ _ _ (by rw [HLn.out]; omega)]; exact ((Blk.set hB7.out _).set _).set _, Keep.set (Keep.set (Keep.set hK7.out (.inr (by rfl)) _) (.inr (by rfl)) _) (.inr (by rfl)) _⟩
          case measure => simp only [intOf]; omega
        · have HT2 : Hid (setsV cs (ss.take (k + 1)) vl = setsV cs (ss.take k) vl) := by
            show _ = _
            rw [HT.out, setOne, if_neg (by rw [HLn.out]; exact hin)]
          rcases colI_cases cs nm with hp | ⟨p, hp⟩
          · rw [hp] at k31
            clear hin hp HT
            go_wp2_with (go_at_call 31; (with_reducible refine k31.mono ?_); rintro e w7 ⟨rfl, B7⟩; obtain ⟨_, HB7, HK7⟩ := HBs.out _ B7; have hB7 : Hid _ := HB7; have hK7 : Hid _ := HK7; clear HB7 HK7 B7)
            go_roundw
            case rel => exact ⟨k + 1, by simp, by show _ ≤ _; omega, by show Blk _ _ _ _; rw [HT2.out]; exact hB7.out, hK7.out⟩
            case measure => simp only [intOf]; omega
          · have hpN : ¬ (p : Int) < (N : Int) := by omega
            have hp0 : (0 : Int) ≤ (p : Int) := by omega
            rw [hp] at k31
            clear hin hp HT
            go_wp2_with (go_at_call 31; (with_reducible refine k31.mono ?_); rintro e w7 ⟨rfl, B7⟩; obtain ⟨_, HB7, HK7⟩ := HBs.out _ B7; have hB7 : Hid _ := HB7; have hK7 : Hid _ := HK7; clear HB7 HK7 B7)
            go_roundw
            case rel => exact ⟨k + 1, by simp, by show _ ≤ _; omega, by show Blk _ _ _ _; rw [HT2.out]; exact hB7.out, hK7.out⟩
            case measure => simp only [intOf]; omega
      · have hki : ¬ (k : Int) < (M : Int) := by omega
        have HAll : Hid (setsV cs (ss.take k) vl = setsV cs ss vl) := by show _ = _; rw [List.take_of_length_le (by rw [HM.out]; omega)]
        have hz3 := Blk.lt H3.out
        have hz6 := Blk.lt H6.out
        have b3 := Blk.keep H3.out hKk.out (by omega)
        have b6 := Blk.keep H6.out hKk.out (by omega)
        have r1 := b3.cell 1
        have r2 := b3.cell 2
        have x0 := b6.cell 0
        have x1 := b6.cell 1
        have x2 := b6.cell 2
        have y0 := b6.frozen 0
        have y1 := b6.frozen 1
        have y2 := b6.frozen 2
        simp only [List.getElem?_cons_zero, List.getElem?_cons_succ] at r1 r2 x0 x1 x2
        have HF : Hid (Blk (((wr.setCell ⟨w.heap.size + 1, 0, none⟩ (.slice (some ⟨W2.heap.size, 0, none⟩) N N)).setCell ⟨w.heap.size + 1, 1, none⟩ (.int .i64 f)).setCell ⟨w.heap.size + 1, 2, none⟩ (.int .i64 t)) (w.heap.size + 1) [.slice (some ⟨W2.heap.size, 0, none⟩) N N, .int .i64 f, .int .i64 t] 30) := ((b6.set (o := 0) _).set (o := 1) _).set (o := 2) _
        have HK9 : Hid (Keep (fun b => b = w.heap.size + 1) wr (((wr.setCell ⟨w.heap.size + 1, 0, none⟩ (.slice (some ⟨W2.heap.size, 0, none⟩) N N)).setCell ⟨w.heap.size + 1, 1, none⟩ (.int .i64 f)).setCell ⟨w.heap.size + 1, 2, none⟩ (.int .i64 t))) := Keep.set (Keep.set (Keep.set (Keep.refl (fun b => b = w.heap.size + 1) wr) (.inr (by rfl)) _) (.inr (by rfl)) _) (.inr (by rfl)) _
        have HZ : Hid (w.heap.size + 1 < W2.heap.size) := hz6
        clear b3 b6
        go_wp2
        refine bodyPost_ret (results_cell_row rfl _ _ (w.heap.size + 1) 30 _ (0, 0) _ rfl HF.out Try.underlying30 rfl info30s) rfl ⟨W2.heap.size, ?_, HB.out.size, ?_, ?_⟩
        · rw [HLx.out]
        · rw [← HAll.out]
          exact Blk.keep hBk.out HK9.out (by have := HZ.out; omega)
        · have kk : Keep (fun b => w.heap.size ≤ b) w wr := ((Keep.of HB.out).trans hKk.out (F := fun b => w.heap.size ≤ b) (fun i _ h => by omega))
          exact (kk.trans HK9.out (fun i _ h => by omega)).below (Nat.le_refl _) (fun i hi h => by omega)
end Go.Proofs.Ythalgnfffcimhaa
