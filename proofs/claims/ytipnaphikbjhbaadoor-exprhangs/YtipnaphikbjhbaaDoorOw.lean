/- The law ExprHangs. -/
import Derived.Test.YtipnaphikbjhbaaDoorOv
namespace Go.Proofs.YtipnaphikbjhbaaDoor
open Go.RowKit
set_option maxRecDepth 100000
variable {w w' W W0 : World} {cs : List Cd} {cols : List Co} {vals : List Va}
theorem h5_start {a1 a2 a3 : Option Addr} {c1 c2 c3 : Nat} {y : Va} {w6 : World} (h1 : LC w (.slice a1 cs.length c1) cs) (h2 : T.LV EK w (.slice a2 cols.length c2) cols) (h3 : T.LV EV w (.slice a3 vals.length c3) vals) (hk : ∀ x ∈ cs, x.kids.length ≤ 17592186044416) (hs : ∀ x ∈ cs, (str x.col).size ≤ maxLen) (hg : Good w)
    (k : Below ((w.alloc (.cells #[.slice a1 cs.length c1, .slice a2 cols.length c2, .slice a3 vals.length c3] 26)).alloc (.cells #[.int .u8 (y.1 : Int), .int .i64 y.2.1, .string (str y.2.2)] 30)).heap.size ((w.alloc (.cells #[.slice a1 cs.length c1, .slice a2 cols.length c2, .slice a3 vals.length c3] 26)).alloc (.cells #[.int .u8 (y.1 : Int), .int .i64 y.2.1, .string (str y.2.2)] 30)) w6) :
    (w6.cell? ⟨w.heap.size, 0, none⟩ = some (.slice a1 cs.length c1) ∧ w6.frozen? ⟨w.heap.size, 0, none⟩ = false ∧ (w6.setCell ⟨w.heap.size, 0, none⟩ (.slice a1 (min cs.length 40) c1)).cell? ⟨w.heap.size, 1, none⟩ = some (.slice a2 cols.length c2) ∧ (w6.setCell ⟨w.heap.size, 0, none⟩ (.slice a1 (min cs.length 40) c1)).frozen? ⟨w.heap.size, 1, none⟩ = false ∧ ((w6.setCell ⟨w.heap.size, 0, none⟩ (.slice a1 (min cs.length 40) c1)).setCell ⟨w.heap.size, 1, none⟩ (.slice a2 (min cols.length 8) c2)).cell? ⟨w.heap.size, 2, none⟩ = some (.slice a3 vals.length c3) ∧ ((w6.setCell ⟨w.heap.size, 0, none⟩ (.slice a1 (min cs.length 40) c1)).setCell ⟨w.heap.size, 1, none⟩ (.slice a2 (min cols.length 8) c2)).frozen? ⟨w.heap.size, 2, none⟩ = false) ∧
    H5 w (((w6.setCell ⟨w.heap.size, 0, none⟩ (.slice a1 (min cs.length 40) c1)).setCell ⟨w.heap.size, 1, none⟩ (.slice a2 (min cols.length 8) c2)).setCell ⟨w.heap.size, 2, none⟩ (.slice a3 (min vals.length 8) c3)) (.slice a1 (min cs.length 40) c1) (.slice a2 (min cols.length 8) c2) (.slice a3 (min vals.length 8) c3) (cs.take 40) (cols.take 8) (vals.take 8) y := by
  have e1 := T.blk_new w [.slice a1 cs.length c1, .slice a2 cols.length c2, .slice a3 vals.length c3] 26
  have x1 := T.al w (.cells #[.slice a1 cs.length c1, .slice a2 cols.length c2, .slice a3 vals.length c3] 26)
  have x2 := T.al (w.alloc (.cells #[.slice a1 cs.length c1, .slice a2 cols.length c2, .slice a3 vals.length c3] 26)) (.cells #[.int .u8 (y.1 : Int), .int .i64 y.2.1, .string (str y.2.2)] 30)
  have e2 : T.Blk ((w.alloc (.cells #[.slice a1 cs.length c1, .slice a2 cols.length c2, .slice a3 vals.length c3] 26)).alloc (.cells #[.int .u8 (y.1 : Int), .int .i64 y.2.1, .string (str y.2.2)] 30)) (w.heap.size + 1) [.int .u8 (y.1 : Int), .int .i64 y.2.1, .string (str y.2.2)] 30 := T.blk_at (w.alloc (.cells #[.slice a1 cs.length c1, .slice a2 cols.length c2, .slice a3 vals.length c3] 26)) _ 30 (by simp)
  obtain ⟨f, h⟩ := a3_start (W := ((w.alloc (.cells #[.slice a1 cs.length c1, .slice a2 cols.length c2, .slice a3 vals.length c3] 26)).alloc (.cells #[.int .u8 (y.1 : Int), .int .i64 y.2.1, .string (str y.2.2)] 30))) (w6 := w6) h1 h2 h3 hk hs hg (bmore x1 x2) (Nat.le_refl _) (e1.below x2) k
  have e3 : ∀ {W : World} {v : Value} {j : Nat}, T.Blk W (w.heap.size + 1) [.int .u8 (y.1 : Int), .int .i64 y.2.1, .string (str y.2.2)] 30 → T.Blk (W.setCell ⟨w.heap.size, j, none⟩ v) (w.heap.size + 1) [.int .u8 (y.1 : Int), .int .i64 y.2.1, .string (str y.2.2)] 30 := fun hq => hq.other (p := ⟨w.heap.size, _, none⟩) (show w.heap.size + 1 ≠ w.heap.size by omega) _
  exact ⟨f, h1.take 40, lv_take h2 8, lv_take h3 8, hg, h.n1, h.n2, h.n3, h.kids, h.size, h.bel, h.bx, e3 (e3 (e3 (e2.below k)))⟩
set_option maxHeartbeats 16000000 in
/-- The law ExprHangs. -/
theorem hangs6 {v : Value} (h : ICase w v cs cols vals) (y : Va) (hg : Good w) : Calls Tryd.prog 6 #[v, vlV y] w fun e w' => e = .returned (.bool true) ∧ Below w.heap.size w w' := by
  obtain ⟨a1, c1, a2, c2, a3, c3, rfl, h1, h2, h3, m1, m2, m3⟩ := h.ex
  have k7 := few7 (W := ((w.alloc (.cells #[.slice a1 cs.length c1, .slice a2 cols.length c2, .slice a3 vals.length c3] 26)).alloc (.cells #[.int .u8 (y.1 : Int), .int .i64 y.2.1, .string (str y.2.2)] 30))) a1 cs.length c1 a2 cols.length c2 a3 vals.length c3 h1.cap h2.cap.2 h3.cap.2 (fun e => h1.addr (by omega)) (fun e => lv_addr h2 (by omega)) (fun e => lv_addr h3 (by omega)) m1 m2 m3
  have HST : Hid (∀ w6, Below ((w.alloc (.cells #[.slice a1 cs.length c1, .slice a2 cols.length c2, .slice a3 vals.length c3] 26)).alloc (.cells #[.int .u8 (y.1 : Int), .int .i64 y.2.1, .string (str y.2.2)] 30)).heap.size ((w.alloc (.cells #[.slice a1 cs.length c1, .slice a2 cols.length c2, .slice a3 vals.length c3] 26)).alloc (.cells #[.int .u8 (y.1 : Int), .int .i64 y.2.1, .string (str y.2.2)] 30)) w6 → _) := fun w6 k6 => h5_start (y := y) h1 h2 h3 h.kids h.size hg k6
  have q2 : min cols.length 8 = (cols.take 8).length := by rw [List.length_take]; exact Nat.min_comm _ _
  have q3 : min vals.length 8 = (vals.take 8).length := by rw [List.length_take]; exact Nat.min_comm _ _
  rw [q2, q3] at k7 HST
  have hN2 : (cols.take 8).length ≤ 8 := by rw [List.length_take]; exact Nat.min_le_left _ _
  have hN3 : (vals.take 8).length ≤ 8 := by rw [List.length_take]; exact Nat.min_le_left _ _
  have hN1 : (colsP (cs.take 40)).length ≤ 40 := Nat.le_trans (colsP_len _) (by rw [List.length_take]; exact Nat.min_le_left _ _)
  generalize cs.length = l1 at *
  generalize cols.length = l2 at *
  generalize vals.length = l3 at *
  clear h h1 h2 h3 m1 m2 m3 hg q2 q3
  generalize min l1 40 = e1 at *
  generalize cs.take 40 = cs at *
  generalize cols.take 8 = cols at *
  generalize vals.take 8 = vals at *
  obtain ⟨n2, hn2⟩ : ∃ n, cols.length = n := ⟨_, rfl⟩
  obtain ⟨n3, hn3⟩ : ∃ n, vals.length = n := ⟨_, rfl⟩
  obtain ⟨n1, hn1⟩ : ∃ n, (colsP cs).length = n := ⟨_, rfl⟩
  have HE2 : Hid (cols.length = n2) := hn2
  have HE3 : Hid (vals.length = n3) := hn3
  have HE1 : Hid ((colsP cs).length = n1) := hn1
  rw [hn2, hn3] at k7 HST
  rw [hn2] at hN2
  rw [hn3] at hN3
  rw [hn1] at hN1
  have HC15 : Hid (∀ W, H5 w W (.slice a1 e1 c1) (.slice a2 n2 c2) (.slice a3 n3 c3) cs cols vals y → Calls Tryd.prog 15 #[.slice a1 e1 c1] W fun e w' => ∃ a c, e = .returned (.slice a n1 c) ∧ T.RW EX (w.heap.size + 2) w' (.slice a n1 c) (colsP cs) ∧ H5 w w' (.slice a1 e1 c1) (.slice a2 n2 c2) (.slice a3 n3 c3) cs cols vals y) := fun W h => by
    have := h.c15
    rw [HE1.out] at this
    exact this
  have HAP : Hid (∀ W nv, H5 w W (.slice a1 e1 c1) (.slice a2 n2 c2) (.slice a3 n3 c3) cs cols vals y → T.RW EX (w.heap.size + 2) W nv (colsP cs) → ∃ u' w4, (Builtin.append_ #[24, 24] 24 #[.slice (some ⟨W.heap.size, 0, none⟩) 0 0, .slice a3 n3 c3]).run Tryd.prog (W.alloc (.cells #[] 30)) = .ok u' w4 ∧ (∃ a c, u' = .slice a n3 c ∧ H6 w w4 (.slice a1 e1 c1) (.slice a2 n2 c2) (.slice a3 n3 c3) cs cols vals y nv u' vals)) := fun W nv h hn => by
    have := h.app hn
    rw [HE3.out] at this
    exact this
  clear hn1 hn2 hn3
  obtain ⟨yk, yn, yt⟩ := y
  simp only at k7 HST HAP HC15 ⊢
  go_enter Tryd.func6, Tryd.ntmps6
  go_wp2_with (first
    | (at_builtin; refine T.wpList_append_ex rfl (.tmp 15) (.tmp 17) 24 rfl _ _ rfl rfl (HAP.out _ _ H8.out HR8.out) ?_; rintro u9 w9 ⟨a9, c9, rfl, h9⟩)
    | (go_at_call 15; have hq := HC15.out _ H7.out; (with_reducible refine Calls.mono hq ?_); clear hq; rintro e w8 ⟨a8, c8, rfl, r8, h8⟩; obtain ⟨z0, z1, z2, z3, z4, z5⟩ := (h8.below (T.al w8 (.cells #[] 30))).cells; have H8 : Hid _ := h8; have HR8 : Hid _ := r8; clear h8 r8)
    | (go_at_call 7; refine Calls.mono k7 ?_; rintro e w6 ⟨rfl, k6⟩; obtain ⟨⟨f1, f2, f3, f4, f5, f6⟩, g6⟩ := HST.out w6 k6; obtain ⟨x0, x1, x2, x3, x4, x5⟩ := g6.cells; have H7 : Hid _ := g6; clear g6 k6))
  have H9 : Hid _ := h9
  clear h9 z0 z1 z2 z3 z4 z5 H8 HR8 H7 HC15 HAP HST f1 f2 f3 f4 f5 f6 x0 x1 x2 x3 x4 x5
  go_loopw [7] (fun q wr => ∃ (i : Nat) (vl : List Va), q = .int .i64 (i : Int) ∧ Hid (i ≤ n3) ∧ Hid (H6 w wr (.slice a1 e1 c1) (.slice a2 n2 c2) (.slice a3 n3 c3) cs cols vals (yk, yn, yt) (.slice a8 n1 c8) (.slice a9 n3 c9) vl)) (fun q _ => n3 - (RowKit.intOf q).toNat)
  case atStart => exact ⟨0, _, rfl, Nat.zero_le _, H9.out⟩
  case round =>
    obtain ⟨i, vl, rfl, hi3, h6⟩ := hrel
    have hii := hi3.out
    obtain ⟨z0, z1, z2, z3, z4, z5⟩ := h6.out.h5.cells
    by_cases hlt : i < n3
    · have hj1 : (i : Int) < (n3 : Int) := by omega
      have hj0 : (0 : Int) ≤ (i : Int) := by omega
      have hw1 : IntKind.i64.wrap ((i : Int) + 1) = (i : Int) + 1 := wrap_small _ (by omega) (by omega)
      clear z0 z2 z3 z4 z5
      by_cases hlc : i < n2
      · have hk1 : ¬ (n2 : Int) ≤ (i : Int) := by omega
        have hk2 : (i : Int) < (n2 : Int) := by omega
        obtain ⟨c, hc⟩ : ∃ c, cols[i]? = some c := ⟨_, List.getElem?_eq_getElem (by rw [HE2.out]; exact hlc)⟩
        have HC : Hid (cols[i]? = some c) := hc
        clear hc
        go_wp2
        go_loopw [8, 9] (fun p q wr => ∃ (k : Nat) (bb : Bool), p = .bool bb ∧ q = .int .i64 (k : Int) ∧ Hid (k ≤ n1) ∧ Hid (bb = decide (c.1 ∈ (colsP cs).take k)) ∧ Hid (H6 w wr (.slice a1 e1 c1) (.slice a2 n2 c2) (.slice a3 n3 c3) cs cols vals (yk, yn, yt) (.slice a8 n1 c8) (.slice a9 n3 c9) vl)) (fun _ q _ => n1 - (RowKit.intOf q).toNat)
        case atStart => exact ⟨0, false, rfl, rfl, Nat.zero_le _, by show _ = _; simp, h6⟩
        case round =>
          obtain ⟨k, bb, rfl, rfl, hk3, hbb, h62⟩ := hrel
          have hkk := hk3.out
          by_cases hlk : k < n1
          · have hj3 : (k : Int) < (n1 : Int) := by omega
            have hj4 : (0 : Int) ≤ (k : Int) := by omega
            have hw2 : IntKind.i64.wrap ((k : Int) + 1) = (k : Int) + 1 := wrap_small _ (by omega) (by omega)
            obtain ⟨nk, hnk⟩ : ∃ x, (colsP cs)[k]? = some x := ⟨_, List.getElem?_eq_getElem (by rw [HE1.out]; exact hlk)⟩
            have HT : Hid ((colsP cs).take (k + 1) = (colsP cs).take k ++ [nk]) := by
              obtain ⟨hk', e⟩ := List.getElem?_eq_some_iff.1 hnk
              show _ = _
              rw [List.take_succ_eq_append_getElem hk', e]
            obtain ⟨g8, o8, rfl, hc8⟩ := h62.out.nm.read.at hnk
            obtain ⟨g2, o2, rfl, hc2⟩ := (h62.out.h5.cv.below h62.out.h5.bel).at HC.out
            have HD : Hid _ := h62.out.drew
            have d8 : wr.drew.cell? ⟨g8, o8 + k, none⟩ = some (.string (str nk)) := by
              obtain ⟨g', o', e, hc'⟩ := HD.out.nm.read.at hnk
              cases e
              have := hc' 0 (by decide)
              simpa [EX] using this
            have d2 : wr.drew.cell? ⟨g2, o2 + i * 2, none⟩ = some (.string (str c.1)) := by
              obtain ⟨g', o', e, hc'⟩ := (HD.out.h5.cv.below HD.out.h5.bel).at HC.out
              cases e
              have := hc' 0 (by decide)
              simpa [EK] using this
            have d1 : wr.drew.cell? ⟨w.heap.size, 1, none⟩ = some (.slice (some ⟨g2, o2, none⟩) n2 c2) := HD.out.h5.cells.2.1
            clear hc8 hc2 hnk
            cases bb
            · by_cases hcn : nk = c.1
              · have e1 : (nk == c.1) = true := by simp [hcn]
                have HB' : Hid (true = decide (c.1 ∈ (colsP cs).take (k + 1))) := by
                  show _ = _
                  rw [HT.out, hcn]
                  simp
                clear hcn HT
                go_wp2
                go_region_held3 (fun W => W.cell? ⟨g8, o8 + k, none⟩ = some (.string (str nk)) ∧ W.cell? ⟨g2, o2 + i * 2, none⟩ = some (.string (str c.1)) ∧ W.cell? ⟨w.heap.size, 1, none⟩ = some (.slice (some ⟨g2, o2, none⟩) n2 c2)) (exact ⟨d8, d2, d1⟩) (fail)
                go_wp2_with fail
                go_roundw
                case rel => exact ⟨k + 1, true, rfl, by simp, by show _ ≤ _; omega, HB', HD⟩
                case measure => simp [RowKit.intOf]; omega
              · have e1 : (nk == c.1) = false := beq_eq_false_iff_ne.2 hcn
                have HB' : Hid (false = decide (c.1 ∈ (colsP cs).take (k + 1))) := by
                  show _ = _
                  rw [HT.out]
                  have h0 := (decide_eq_false_iff_not.1 hbb.out.symm)
                  exact (decide_eq_false (fun hm => by
                    rcases List.mem_append.1 hm with hm | hm
                    · exact h0 hm
                    · exact hcn (List.mem_singleton.1 hm).symm)).symm
                clear hcn HT
                go_wp2
                go_region_held3 (fun W => W.cell? ⟨g8, o8 + k, none⟩ = some (.string (str nk)) ∧ W.cell? ⟨g2, o2 + i * 2, none⟩ = some (.string (str c.1)) ∧ W.cell? ⟨w.heap.size, 1, none⟩ = some (.slice (some ⟨g2, o2, none⟩) n2 c2)) (exact ⟨d8, d2, d1⟩) (fail)
                go_wp2_with fail
                go_roundw
                case rel => exact ⟨k + 1, false, rfl, by simp, by show _ ≤ _; omega, HB', HD⟩
                case measure => simp [RowKit.intOf]; omega
            · have HB' : Hid (true = decide (c.1 ∈ (colsP cs).take (k + 1))) := by
                show _ = _
                rw [HT.out]
                have h0 := of_decide_eq_true hbb.out.symm
                exact (decide_eq_true (List.mem_append_left _ h0)).symm
              clear HT d8 d2 d1 HD
              go_wp2
              go_quiet (fail)
              go_wp2_with fail
              go_roundw
              case rel => exact ⟨k + 1, true, rfl, by simp, by show _ ≤ _; omega, HB', h62.out.below (belN (Below.refl _ _) _)⟩
              case measure => simp [RowKit.intOf]; omega
          · obtain rfl : k = n1 := by omega
            have hk' : ¬ (k : Int) < (k : Int) := by omega
            have hT : (colsP cs).take k = colsP cs := List.take_of_length_le (by rw [HE1.out]; exact Nat.le_refl _)
            cases bb
            · have hno : c.1 ∉ colsP cs := fun hm => by
                have h0 := (decide_eq_false_iff_not.1 hbb.out.symm)
                rw [hT] at h0
                exact h0 hm
              have hvl : i < vl.length := by rw [h62.out.ln, HE3.out]; exact hlt
              obtain ⟨-, g9, rfl⟩ := rw_some h62.out.rv (by omega)
              obtain ⟨⟨⟨u0, s0⟩, s1, ⟨u2, s2⟩, s3, ⟨u4, s4⟩, s5⟩, hput⟩ := h62.out.put hvl HC.out hno
              have HP : Hid (H6 w (((wr.setCell ⟨g9, i * 3, none⟩ (.int .u8 (yk : Int))).setCell ⟨g9, i * 3 + 1, none⟩ (.int .i64 yn)).setCell ⟨g9, i * 3 + 2, none⟩ (.string (str yt))) (.slice a1 e1 c1) (.slice a2 n2 c2) (.slice a3 n3 c3) cs cols vals (yk, yn, yt) (.slice a8 k c8) (.slice (some ⟨g9, 0, none⟩) n3 c9) (vl.set i (yk, yn, yt))) := hput
              obtain ⟨-, -, -, v3, v4, v5⟩ := h62.out.h5.cells
              clear hput hT hno hvl
              go_wp2
              go_roundw
              case rel => exact ⟨i + 1, _, by simp, by show _ ≤ _; omega, HP⟩
              case measure => simp [RowKit.intOf]; omega
            · clear hT
              go_wp2
              go_roundw
              case rel => exact ⟨i + 1, _, by simp, by show _ ≤ _; omega, h62⟩
              case measure => simp [RowKit.intOf]; omega
      · have hk1 : (n2 : Int) ≤ (i : Int) := by omega
        have hk2 : ¬ (i : Int) < (n2 : Int) := by omega
        go_wp2
        go_loopw [8, 9] (fun p q wr => ∃ (k : Nat), p = .bool true ∧ q = .int .i64 (k : Int) ∧ Hid (k ≤ n1) ∧ Hid (H6 w wr (.slice a1 e1 c1) (.slice a2 n2 c2) (.slice a3 n3 c3) cs cols vals (yk, yn, yt) (.slice a8 n1 c8) (.slice a9 n3 c9) vl)) (fun _ q _ => n1 - (RowKit.intOf q).toNat)
        case atStart => exact ⟨0, rfl, rfl, Nat.zero_le _, h6⟩
        case round =>
          obtain ⟨k, rfl, rfl, hk3, h62⟩ := hrel
          have hkk := hk3.out
          by_cases hlk : k < n1
          · have hj3 : (k : Int) < (n1 : Int) := by omega
            have hj4 : (0 : Int) ≤ (k : Int) := by omega
            have hw2 : IntKind.i64.wrap ((k : Int) + 1) = (k : Int) + 1 := wrap_small _ (by omega) (by omega)
            have HD : Hid _ := h62.out.drew
            go_wp2
            go_quiet (fail)
            go_wp2_with fail
            go_roundw
            case rel => exact ⟨k + 1, rfl, by simp, by show _ ≤ _; omega, h62.out.below (belN (Below.refl _ _) _)⟩
            case measure => simp [RowKit.intOf]; omega
          · obtain rfl : k = n1 := by omega
            have hk' : ¬ (k : Int) < (k : Int) := by omega
            go_wp2
            go_roundw
            case rel => exact ⟨i + 1, _, by simp, by show _ ≤ _; omega, h62⟩
            case measure => simp [RowKit.intOf]; omega
    · obtain rfl : i = n3 := by omega
      have hi : ¬ (i : Int) < (i : Int) := by omega
      have HS : Hid (∀ W, H6 w W (.slice a1 e1 c1) (.slice a2 n2 c2) (.slice a3 i c3) cs cols vals (yk, yn, yt) (.slice a8 n1 c8) (.slice a9 i c9) vl → W.cell? ⟨w.heap.size, 0, none⟩ = some (.slice a1 e1 c1) ∧ W.cell? ⟨w.heap.size, 1, none⟩ = some (.slice a2 n2 c2) ∧ W.cell? ⟨w.heap.size, 2, none⟩ = some (.slice a3 i c3)) := fun W h => ⟨h.h5.cells.1, h.h5.cells.2.1, h.h5.cells.2.2.1⟩
      have HG0 : Hid _ := h6.out.drew
      generalize hr : holdsV cols vals cs = r
      clear z0 z1 z2 z3 z4 z5
      go_wp2
      go_region_held3 (fun W => W.cell? ⟨w.heap.size, 0, none⟩ = some (.slice a1 e1 c1) ∧ W.cell? ⟨w.heap.size, 1, none⟩ = some (.slice a2 n2 c2) ∧ W.cell? ⟨w.heap.size, 2, none⟩ = some (.slice a3 i c3)) (first | exact HS.out _ HB.out | exact HS.out _ HA.out | exact HS.out _ H8.out | exact HS.out _ HG0.out) (first
        | (go_at_call 13; have hq := HA.out.c13; rw [hr] at hq; (with_reducible refine Calls.mono hq ?_); clear hq; rintro e wB ⟨rfl, hB⟩; have HB : Hid _ := hB; clear hB)
        | (go_at_call 13; have hq := H8.out.c13o; rw [hr] at hq; (with_reducible refine Calls.mono hq ?_); clear hq; rintro e wA ⟨rfl, hA⟩; have HA : Hid _ := hA; clear hA)
        | (go_at_call 10; have hq := HG0.out.c10; (with_reducible refine Calls.mono hq ?_); clear hq; rintro e w8 ⟨rfl, h8⟩; have H8 : Hid _ := h8; clear h8))
      go_wp2_with fail
      go_ret
      exact ⟨rfl, HB.out.h5.bel⟩
end Go.Proofs.YtipnaphikbjhbaaDoor
