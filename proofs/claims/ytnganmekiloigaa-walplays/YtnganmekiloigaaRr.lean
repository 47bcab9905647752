/- The document's Read. -/
import Derived.Test.YtnganmekiloigaaRa
namespace Go.Proofs.Ytnganmekiloigaa
open Go.RowKit
set_option maxRecDepth 100000
variable {W : World} {r : Nat} {lv xv : Value} {D : Dk}

theorem latest_snoc (secs : List Bs) (x : Nat × Bs) (i : Nat) : ∀ l : List (Nat × Bs), latest secs (l ++ [x]) i = if x.1 = i then x.2 else latest secs l i
  | [] => by simp [latest]
  | y :: l => by
    rw [List.cons_append]
    by_cases hx : x.1 = i
    · rw [if_pos hx]
      exact latest_at (l := y :: l) (r := []) hx (by simp)
    · rw [if_neg hx]
      unfold latest
      rw [List.any_append, show [x].any (fun y => y.1 == i) = false by simp [hx], Bool.or_false, latest_snoc secs x i l, if_neg hx]

set_option maxHeartbeats 2000000 in
theorem rread32_yes (h : RD W r lv xv D) (i : Nat) (hi : i < D.secs.length) (hw : D.wait.length ≤ 1000) (ho : D.off = false) :
    Calls Try.prog 32 #[.pointer (some ⟨r, 0, none⟩), .int .i64 (i : Int)] W fun e w' => ∃ v, e = .returned (.tuple #[v, .int .i64 0]) ∧ w'.ownsRow (W.heap.size + 1) 5 1 v 64 (cellsB (latest D.secs D.wait i)) ∧ Below W.heap.size W w' := by
  obtain ⟨L, hx, hL⟩ := h.dx
  obtain ⟨lg, lc, rfl, hlS, hlg, hlr⟩ := h.secs
  have x0 := hx.c0
  have x1 := hx.c1
  have x4 := hx.c4
  rw [ho] at x4
  obtain ⟨x, hxs⟩ : ∃ x, D.secs[i]? = some x := ⟨_, List.getElem?_eq_getElem hi⟩
  have hx64 : (cellsB x).length = 64 := by rw [cellsB_length]; exact h.ok.secs x (List.mem_of_getElem? hxs)
  have hrg := hlS.at' i x hxs
  have hi1 : ¬ ((i : Int) < 0) := by omega
  have hi2 : ¬ ((D.secs.length : Int) ≤ (i : Int)) := by omega
  have hi3 : (0 : Int) ≤ (i : Int) ∧ (i : Int) < (D.secs.length : Int) := by omega
  have hrl := h.rlt
  obtain ⟨N, hN⟩ : ∃ N, D.wait.length = N := ⟨_, rfl⟩
  obtain ⟨xa, xc, hxe⟩ : ∃ a c, xv = .slice a N c := by
    rcases h.wait with ⟨rfl, e⟩ | ⟨g, c, rfl, _⟩
    · exact ⟨none, 0, by rw [← hN, e]; rfl⟩
    · exact ⟨_, c, by rw [hN]⟩
  subst hxe
  have HL0 : Hid (latest D.secs [] i = x) := by show D.secs.getD i [] = x; rw [List.getD_eq_getElem?_getD, hxs]; rfl
  have H : Hid (RD W r (.slice (some ⟨lg, 0, none⟩) D.secs.length lc) (.slice xa N xc) D) := h
  have HN : Hid (D.wait.length = N) := hN
  have hxi : (Try.prog.info? 90).map (·.size) = some (cellsB x).length := by rw [hx64]; exact info90s
  have hxo := cellsB_one x
  have hz64 : (cellsB Z64).length = 64 := by rw [cellsB_length, Z64_length]
  have HL64 : Hid (∀ m, (latest D.secs (D.wait.take m) i).length = 64) := fun m => by
    have hok : ({ D with wait := D.wait.take m } : Dk).Ok := ⟨h.ok.secs, fun y hy => h.ok.wait y (List.mem_of_mem_take hy), h.ok.left⟩
    exact latest_length hok i hi
  rw [hN] at hw
  clear h hx hL hlS hN
  generalize D.secs.length = S at *
  go_enter Try.func32, Try.ntmps32
  go_wp2_with (first
    | (refine wpList_load_mid rfl 90 (.tmp 35) rfl lg (i * 64) rfl (cellsB x) _ hrg Try.underlying90 rfl hxi ?_)
    | (refine wpList_alloc_row rfl 90 rfl (cellsB Z64) info90z ?_; intro w3 hb3 hB3 hs3)
    | (refine wpList_store_whole rfl 90 (.tmp 6) (.tmp 36) rfl W.heap.size (cellsB x) rfl rfl (cellsB Z64) 90 hb3 (by omega) hxi hxo ?_; intro w4 hb4 hk4 hs4; have hB4 : Below W.heap.size W w4 := hB3.trans (hk4.below (by omega) (fun i e => by omega))))
  go_loopw [7] (fun p wr => ∃ m : Nat, m ≤ N ∧ p = .int .i64 (m : Int) ∧ Blk wr W.heap.size (cellsB (latest D.secs (D.wait.take m) i)) 90 ∧ Below W.heap.size W wr) (fun p _ => N - (intOf p).toNat)
  case atStart => exact ⟨0, by omega, rfl, by rw [List.take_zero, HL0.out]; exact hb4, hB4⟩
  case round =>
    obtain ⟨m, hm, rfl, hbm, hBm⟩ := hrel
    have c1 := (hBm.cell (p := ⟨r, 1, none⟩) hrl).trans x1
    by_cases hlt : m < N
    · have hlt1 : (m : Int) < (N : Int) := by omega
      obtain ⟨⟨q, b⟩, hxq⟩ : ∃ x, D.wait[m]? = some x := ⟨_, List.getElem?_eq_getElem (by rw [HN.out]; exact hlt)⟩
      have hb64 : b.length = 64 := (H.out.ok.wait (q, b) (List.mem_of_getElem? hxq)).1
      have HTK : Hid (latest D.secs (D.wait.take (m + 1)) i = if q = i then b else latest D.secs (D.wait.take m) i) := by
        have hm' := List.getElem?_eq_some_iff.1 hxq
        show _ = _
        rw [List.take_succ_eq_append_getElem hm'.1, hm'.2]
        exact latest_snoc _ _ _ _
      obtain ⟨xg, xc', he, hrgx⟩ := H.out.wait.at' (fun x hx => (H.out.ok.wait x hx).1) hxq
      have hxa : xa = some ⟨xg, 0, none⟩ := by
        simp only [Value.slice.injEq] at he
        exact he.1
      subst hxa
      have hxl : xg < W.heap.size := H.out.foot_lt xg (.inr (.inr rfl))
      have d0 : wr.cell? ⟨xg, m * 65, none⟩ = some (.int .i64 (q : Int)) := by
        have := (hBm.cell (p := ⟨xg, m * 65 + 0, none⟩) hxl).trans (hrgx 0 _ rfl)
        simpa using this
      have hrb : wr.rangeAt xg (m * 65 + 1) (cellsB b) := fun j v hv => by
        have := (hBm.cell (p := ⟨xg, m * 65 + (j + 1), none⟩) hxl).trans (hrgx (j + 1) v (by simpa [cellW] using hv))
        rw [show m * 65 + 1 + j = m * 65 + (j + 1) by omega]
        exact this
      have hbl : (cellsB b).length = 64 := by rw [cellsB_length, hb64]
      have hbi : (Try.prog.info? 90).map (·.size) = some (cellsB b).length := by rw [hbl]; exact info90s
      have hbo := cellsB_one b
      have hll : (cellsB (latest D.secs (D.wait.take m) i)).length = 64 := by rw [cellsB_length]; exact HL64.out m
      clear he hxq hrgx
      by_cases hq : q = i
      · subst hq
        rw [if_pos rfl] at HTK
        generalize cellsB (latest D.secs (D.wait.take m) q) = cl at *
        go_wp2_with (first
          | (refine wpList_load_mid rfl 90 (.tmp 62) rfl xg (m * 65 + 1) rfl (cellsB b) _ hrb Try.underlying90 rfl hbi ?_)
          | (refine wpList_store_whole rfl 90 (.tmp 6) (.tmp 63) rfl W.heap.size (cellsB b) rfl rfl cl 90 hbm (by omega) hbi hbo ?_; intro w5 hb5 hk5 hs5))
        go_roundw
        case rel => exact ⟨m + 1, by omega, by simp, by rw [HTK.out]; exact hb5, hBm.trans (hk5.below hBm.size (fun i e => by omega))⟩
        case measure => simp only [intOf]; omega
      · have hq1 : ¬ (q : Int) = (i : Int) := by omega
        rw [if_neg hq] at HTK
        go_wp2
        go_roundw
        case rel => exact ⟨m + 1, by omega, by simp, by rw [HTK.out]; exact hbm, hBm⟩
        case measure => simp only [intOf]; omega
    · have hlt1 : ¬ (m : Int) < (N : Int) := by omega
      have htk : D.wait.take m = D.wait := List.take_of_length_le (by rw [HN.out]; omega)
      have hb64 := HL64.out m
      rw [htk] at hbm hb64
      obtain ⟨b, hbe⟩ : ∃ b, latest D.secs D.wait i = b := ⟨_, rfl⟩
      rw [hbe] at hbm hb64
      have HBE : Hid (latest D.secs D.wait i = b) := hbe
      clear hbe
      obtain ⟨i0, hi0, hz3, hz4, hz5⟩ := info_parts info5z
      have hz1 : W.heap.size + 1 ≤ wr.heap.size := hbm.lt
      clear H HL0 HL64 HN htk hrg hxi hxo hx64 hz64 hb4 hB4 hb3 hB3 hk4 hs4 hs3
      go_wp2
      go_loopw [8, 9] (fun p8 p9 wr2 => ∃ k : Nat, k ≤ 64 ∧ p9 = .int .i64 (k : Int) ∧ wr2.ownsRow (W.heap.size + 1) 5 1 p8 k (cellsB (b.take k)) ∧ Blk wr2 W.heap.size (cellsB b) 90 ∧ Below W.heap.size W wr2) (fun _ p9 _ => 64 - (intOf p9).toNat)
      case atStart => exact ⟨0, by omega, rfl, World.ownsRow_nil _ _ _ _, hbm, hBm⟩
      case round =>
        obtain ⟨k, hk, rfl, hown, hbk, hBk⟩ := hrel
        by_cases hlt2 : k < 64
        · have hlt3 : (k : Int) < 64 := by omega
          have hlt4 : (0 : Int) ≤ (k : Int) := by omega
          have hc := (hbk.cell k).trans (cellsB_get b k (by omega))
          have HW1 : Hid (cellsB (b.take (k + 1)) = cellsB (b.take k) ++ [.int .u8 ((b.getD k 0).toNat : Int)]) := by
            show _ = _
            have hkb : k < b.length := by omega
            have e : b.getD k 0 = b[k] := by rw [List.getD_eq_getElem?_getD, List.getElem?_eq_getElem hkb]; rfl
            rw [List.take_succ_eq_append_getElem hkb, e]
            simp only [cellsB, List.map_append, List.map_cons, List.map_nil]
          have hm1 : k + 1 ≤ maxLen := by unfold maxLen; omega
          have hm2 : (k + 1) * 1 ≤ 140737488355328 := by omega
          generalize (b.getD k 0).toNat = ub at *
          have hown5 := own_below hown (al _ (.cells #[.int .u8 (ub : Int)] 5))
          have hbk5 := hbk.below (al _ (.cells #[.int .u8 (ub : Int)] 5))
          have hnews := World.news_of_block (blk_new wr [.int .u8 (ub : Int)] 5)
          have hbase : W.heap.size + 1 ≤ (wr.alloc (.cells #[.int .u8 (ub : Int)] 5)).heap.size := Nat.le_trans (Nat.succ_le_of_lt hbk.lt) (al wr _).size
          have hBk5 : Below W.heap.size W (wr.alloc (.cells #[.int .u8 (ub : Int)] 5)) := hBk.alloc hBk.size _
          go_wp2_with (skip; (refine wpList_append_own (wr.alloc (.cells #[.int .u8 (ub : Int)] 5)) (by rfl) (.tmp 68) (.tmp 72) 33 (by rfl) (W.heap.size + 1) 5 i0 (.int .u8 0) 1 1 Try.underlying33 hi0 hz3 hz4 hz5 (by rfl) (by decide) _ k (cellsB (b.take k)) (by rfl) hown5 ⟨wr.heap.size, 0, none⟩ 1 1 [.int .u8 (ub : Int)] (by rfl) (by rfl) hnews (by simp [Value.oneCell']) hm1 hm2 hbase ?_; intro v6 w6 hown6 hgr6 _; have B6 : Below W.heap.size W w6 := hBk5.grown hgr6 hBk5.size (fun k e => by have := (World.ownsRow.lt hown5 k e).1; omega); have Q6 : Blk w6 W.heap.size (cellsB b) 90 := hbk5.block (hgr6.block _ hbk5.lt (fun e => by have := (World.ownsRow.lt hown5 _ e.symm).1; omega)); clear hgr6 hnews hown5 hbk5))
          go_roundw
          case rel => exact ⟨k + 1, by omega, by simp, by rw [HW1.out]; exact hown6, Q6, B6⟩
          case measure => simp only [intOf]; omega
        · have hlt3 : ¬ (k : Int) < 64 := by omega
          obtain rfl : k = 64 := by omega
          rw [List.take_of_length_le (by omega)] at hown
          go_wp2
          go_ret2
          exact ⟨u8, rfl, by rw [HBE.out]; exact hown, hBk⟩

/-! ### Size, Off, Waiting -/
theorem rsize50 (h : RD W r lv xv D) : Calls Try.prog 50 #[.pointer (some ⟨r, 0, none⟩)] W fun e w' => e = .returned (.int .i64 (D.secs.length : Int)) ∧ w' = W := by
  obtain ⟨L, hx, _⟩ := h.dx
  have x0 := hx.c0
  obtain ⟨lg, lc, rfl, _⟩ := h.secs
  clear hx h
  go_enter Try.func50, Try.ntmps50
  go_wp2
  go_ret
  exact ⟨rfl, rfl⟩
theorem roff51 (h : RD W r lv xv D) : Calls Try.prog 51 #[.pointer (some ⟨r, 0, none⟩)] W fun e w' => e = .returned (.bool D.off) ∧ w' = W := by
  obtain ⟨L, hx, _⟩ := h.dx
  have x4 := hx.c4
  clear hx h
  go_enter Try.func51, Try.ntmps51
  go_wp2
  go_ret
  exact ⟨rfl, rfl⟩
theorem rwaiting52 (h : RD W r lv xv D) : Calls Try.prog 52 #[.pointer (some ⟨r, 0, none⟩)] W fun e w' => e = .returned (.int .i64 (D.wait.length : Int)) ∧ w' = W := by
  obtain ⟨L, hx, _⟩ := h.dx
  have x1 := hx.c1
  obtain ⟨xa, xc, rfl⟩ : ∃ a c, xv = .slice a D.wait.length c := by
    rcases h.wait with ⟨rfl, e⟩ | ⟨g, c, rfl, _⟩
    · exact ⟨none, 0, by rw [e]; rfl⟩
    · exact ⟨_, c, rfl⟩
  clear hx h
  go_enter Try.func52, Try.ntmps52
  go_wp2
  go_ret
  exact ⟨rfl, rfl⟩
end Go.Proofs.Ytnganmekiloigaa
