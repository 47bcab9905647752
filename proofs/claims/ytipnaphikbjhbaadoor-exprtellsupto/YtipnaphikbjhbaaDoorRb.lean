/- What a part comes to: how deep a condition is. · What a part comes to: a value that a column must have. · What a part comes to: a value that a column must have (the closure of ofWhole). · What the last part comes to: a value that a column must have. -/
import Derived.Test.YtipnaphikbjhbaaDoorRa
/-! ### What a part comes to: how deep a condition is. -/
namespace Go.Proofs.YtipnaphikbjhbaaDoor
open Go.RowKit
set_option maxRecDepth 100000
attribute [local go_sem ↓] Go.wp_at_zero Go.wp_at_succ
section
variable {W0 W W' : World} {b q n : Nat} {u mf : Value} {kn : List Bool} {ks : List Int} {cs : List Cd} {res : Nat → Int}
abbrev lf52 (b q : Nat) : Value := .func (.func 52) #[] #[.pointer (some ⟨q + 1, 0, none⟩), .pointer (some ⟨q + 3, 0, none⟩), .pointer (some ⟨b, 0, none⟩), .pointer (some ⟨q + 4, 0, none⟩), .pointer (some ⟨b + 1, 0, none⟩)]
abbrev mf34 : Value := .func (.func 34) #[] #[]
abbrev WN (res : Nat → Int) (W0 : World) (b q n : Nat) (u mf : Value) (kn : List Bool) (ks : List Int) (W : World) : Prop := WS EI 105 85 res W0 b q n u mf (lf52 b q) kn ks W
/-- What a closure for a part answers. -/
abbrev MadeN (W0 : World) (made : Cd → List Int → Int) : Prop := ∀ (W : World) (x : Cd) (y : Sl3) (v : Value) (l : List Int), Below W0.heap.size W0 W → T.LV EI W v l → l.length ≤ 170000000000000 → Calls Tryd.prog 34 #[cdV x y, v] W fun e w' => e = .returned (.int .i64 (made x l)) ∧ Below W.heap.size W w'
set_option maxHeartbeats 8000000 in
theorem look52 {made : Cd → List Int → Int} (hm : MadeN W0 made) (hcs : LC W0 u cs) (hn : cs.length = n) (hk : ∀ x ∈ cs, x.kids.length + 1 ≤ 17000000000000) (hres : ∀ i x, cs[i]? = some x → res i = made x ((kidsU x.kids i).map res)) :
    ∀ i, i < n → ∀ W kn ks, WN res W0 b q n u mf34 kn ks W → Calls Tryd.prog 52 #[.int .i64 (i : Int), .pointer (some ⟨q + 1, 0, none⟩), .pointer (some ⟨q + 3, 0, none⟩), .pointer (some ⟨b, 0, none⟩), .pointer (some ⟨q + 4, 0, none⟩), .pointer (some ⟨b + 1, 0, none⟩)] W fun e w' => e = .returned (.int .i64 (res i)) ∧ (∃ kn' ks', WN res W0 b q n u mf34 kn' ks' w') ∧ T.Keep (FW q) W w' := by
  intro i
  induction i using Nat.strongRecOn with
  | _ i ih =>
  intro hi W kn ks h
  obtain ⟨ua, uc, hu⟩ := hcs.form
  rw [hn] at hu
  subst hu
  obtain ⟨x, hx⟩ : ∃ x, cs[i]? = some x := ⟨_, List.getElem?_eq_getElem (by omega)⟩
  have hxk := hk x (List.mem_of_getElem? hx)
  have hxr := hres i x hx
  obtain ⟨g, o, y, rfl, hyl, p0, p1, p2, p3, p4, p5, p6⟩ := hcs.at hx
  have hgl : g < W0.heap.size := World.block_lt_of_cell? _ _ p0
  have hi1 : (0 : Int) ≤ (i : Int) := by omega
  have hi2 : (i : Int) < (n : Int) := by omega
  have kb := h.bkb.cell i
  have kv := h.bkv.cell 0
  have eb := h.beb.cell i
  have ev := h.bev.cell 0
  rw [List.getElem?_map] at kb
  rw [EI_cells, List.getElem?_map] at eb
  obtain ⟨kni, hkn⟩ : ∃ x, kn[i]? = some x := ⟨_, List.getElem?_eq_getElem (by rw [h.ln]; exact hi)⟩
  obtain ⟨ksi, hks⟩ : ∃ x, ks[i]? = some x := ⟨_, List.getElem?_eq_getElem (by rw [h.le]; exact hi)⟩
  rw [hkn] at kb
  rw [hks] at eb
  simp only [Option.map_some, List.getElem?_cons_zero] at kb kv eb ev
  cases kni
  · obtain ⟨ya, yc, hy⟩ := hyl.form
    obtain ⟨y1, y2, y3⟩ := y
    simp only [slW, Value.slice.injEq] at hy
    obtain ⟨rfl, rfl, rfl⟩ := hy
    have hlow := h.low
    have hbq := h.bq
    have hsz := h.bel.size
    have HW : Hid (WN res W0 b q n (.slice (some ⟨g, o, none⟩) n uc) mf34 kn ks W) := h
    have HYL : Hid (∀ W', Below W0.heap.size W0 W' → T.LV EI W' (.slice y1 x.kids.length y3) x.kids) := fun W' k => hyl.below k
    have HS : Hid (∀ W', T.Keep (FW q) W W' → W'.cell? ⟨q + 1, 0, none⟩ = some (.slice (some ⟨q, 0, none⟩) n n) ∧ W'.cell? ⟨q + 3, 0, none⟩ = some (.slice (some ⟨q + 2, 0, none⟩) n n) ∧ W'.cell? ⟨b + 1, 0, none⟩ = some mf34 ∧ W'.cell? ⟨b, 0, none⟩ = some (.slice (some ⟨g, o, none⟩) n uc) ∧
        W'.cell? ⟨g, o + i * 7, none⟩ = some (.int .u8 (x.k : Int)) ∧ W'.cell? ⟨g, o + i * 7 + 1, none⟩ = some (.string (str x.col)) ∧ W'.cell? ⟨g, o + i * 7 + 2, none⟩ = some (.int .u8 (x.op : Int)) ∧ W'.cell? ⟨g, o + i * 7 + 3, none⟩ = some (.int .u8 (x.vk : Int)) ∧ W'.cell? ⟨g, o + i * 7 + 4, none⟩ = some (.int .i64 x.vn) ∧ W'.cell? ⟨g, o + i * 7 + 5, none⟩ = some (.string (str x.vt)) ∧ W'.cell? ⟨g, o + i * 7 + 6, none⟩ = some (.slice y1 x.kids.length y3)) := fun W' k => by
      have hB : Below W0.heap.size W0 W' := HW.out.bel.trans (k.below (B := W0.heap.size) hsz (fun z hz hf => by unfold FW at hf; omega))
      have c : ∀ j, W'.cell? ⟨g, j, none⟩ = W0.cell? ⟨g, j, none⟩ := fun j => hB.cell (p := ⟨g, j, none⟩) hgl
      exact ⟨(HW.out.bkv.keep k (by unfold FW; omega)).cell 0, (HW.out.bev.keep k (by unfold FW; omega)).cell 0, (HW.out.bm.keep k (by unfold FW; omega)).cell 0, (HW.out.bl.keep k (by unfold FW; omega)).cell 0, (c _).trans p0, (c _).trans p1, (c _).trans p2, (c _).trans p3, (c _).trans p4, (c _).trans p5, (c _).trans p6⟩
    obtain ⟨s1, s2, s3, s4, s5, s6, s7, s8, s9, s10, s11⟩ := HS.out W (T.Keep.refl _ _)
    have HLF : Hid (∀ W', T.Keep (FW q) W W' → W'.cell? ⟨q + 4, 0, none⟩ = some (lf52 b q)) := fun W' k => (HW.out.blk.keep k (by unfold FW; omega)).cell 0
    have HIH : Hid (∀ (k : Int), 0 ≤ k → k < (i : Int) → ∀ W kn ks, WN res W0 b q n (.slice (some ⟨g, o, none⟩) n uc) mf34 kn ks W → Calls Tryd.prog 52 #[.int .i64 k, .pointer (some ⟨q + 1, 0, none⟩), .pointer (some ⟨q + 3, 0, none⟩), .pointer (some ⟨b, 0, none⟩), .pointer (some ⟨q + 4, 0, none⟩), .pointer (some ⟨b + 1, 0, none⟩)] W fun e w' => e = .returned (.int .i64 (res k.toNat)) ∧ (∃ kn' ks', WN res W0 b q n (.slice (some ⟨g, o, none⟩) n uc) mf34 kn' ks' w') ∧ T.Keep (FW q) W w') := fun k h0 h1 W kn ks hW => by
      have := ih k.toNat (by omega) (by omega) W kn ks hW
      rw [Int.toNat_of_nonneg h0] at this
      exact this
    have HM : Hid (∀ (W : World) (v : Value) (l : List Int), Below W0.heap.size W0 W → T.LV EI W v l → l.length ≤ 170000000000000 → Calls Tryd.prog 34 #[.agg #[.int .u8 (x.k : Int), .string (str x.col), .int .u8 (x.op : Int), .int .u8 (x.vk : Int), .int .i64 x.vn, .string (str x.vt), .slice y1 x.kids.length y3], v] W fun e w' => e = .returned (.int .i64 (made x l)) ∧ Below W.heap.size W w') := fun W v l => hm W x (y1, x.kids.length, y3) v l
    have HR : Hid (res i = made x ((kidsU x.kids i).map res)) := hxr
    have HWZ : Hid (q + 4 < W.heap.size) := h.blk.lt
    have HKS : Hid (x.kids.length + 1 ≤ 17000000000000) := hxk
    clear ih hm hcs hk hres hyl hxr hx hkn hks h p0 p1 p2 p3 p4 p5 p6 hxk kv ev eb s2 s3 s5 s6 s7 s8 s9 s10 hn hi hsz
    have HK : Hid (x.kids = x.kids) := rfl
    obtain ⟨N, hN⟩ : ∃ N, x.kids.length = N := ⟨_, rfl⟩
    rw [hN] at s11 HYL HS HM HKS
    have HN : Hid (x.kids.length = N) := hN
    clear hN HK
    go_enter Tryd.func52, Tryd.ntmps52
    go_wp2
    go_loopw [8, 25] (fun p8 p25 wr => ∃ (m : Nat) (va : Option Addr) (vn vc : Nat) (kn' : List Bool) (ks' : List Int), p25 = .int .i64 (m : Int) ∧ p8 = .slice va vn vc ∧ Hid (m ≤ N) ∧ Hid (WN res W0 b q n (.slice (some ⟨g, o, none⟩) n uc) mf34 kn' ks' wr) ∧ Hid (T.Keep (FW q) W wr) ∧ Hid (T.RW EI W.heap.size wr (.slice va vn vc) ((kidsU (x.kids.take m) i).map res))) (fun _ p _ => N - (RowKit.intOf p).toNat)
    case atStart => exact ⟨0, none, 0, 0, kn, ks, rfl, rfl, Nat.zero_le _, HW.out, T.Keep.refl _ _, T.RW.nil _ _ _⟩
    case round =>
      obtain ⟨m, va, vn, vc, kn', ks', rfl, rfl, hmN, hws, hkp, hrw⟩ := hrel
      have hvn : vn = ((kidsU (x.kids.take m) i).map res).length := by
        obtain ⟨a', c', e, _⟩ := hrw.out.form
        cases e; rfl
      have hl9 : vn ≤ m := by
        rw [hvn, List.length_map]
        exact Nat.le_trans (kidsU_len _ _) (by rw [List.length_take]; exact Nat.min_le_left _ _)
      have HVN : Hid (vn = ((kidsU (x.kids.take m) i).map res).length) := hvn
      clear hvn
      by_cases hlt : m < N
      · have hmi : (m : Int) < (N : Int) := by omega
        have hmN' := hmN.out
        have hks9 := HKS.out
        obtain ⟨k, hk⟩ : ∃ k, x.kids[m]? = some k := ⟨_, List.getElem?_eq_getElem (by rw [HN.out]; exact hlt)⟩
        obtain ⟨g2, o2, rfl, hc⟩ := (HYL.out wr hws.out.bel).at hk
        have hc0 : wr.cell? ⟨g2, o2 + m, none⟩ = some (.int .i64 k) := by
          have := hc 0 (by decide)
          simpa [EI] using this
        have hw1 : IntKind.i64.wrap ((m : Int) + 1) = (m : Int) + 1 := wrap_small _ (by omega) (by omega)
        by_cases h0 : 0 ≤ k
        · by_cases h1 : k < (i : Int)
          · have HTK := kidsU_yes hk h0 h1
            have k52 := HIH.out k h0 h1 wr kn' ks' hws.out
            have hlf := HLF.out wr hkp.out
            have HAPP : Hid (∀ w5, T.Keep (FW q) wr w5 → ∃ u' w', (Builtin.append_ #[52, 52] 52 #[.slice va vn vc, .slice (some ⟨w5.heap.size, 0, none⟩) 1 1]).run Tryd.prog (w5.alloc (.cells #[.int .i64 (res k.toNat)] 3)) = .ok u' w' ∧ (∃ g cap, u' = .slice (some ⟨g, 0, none⟩) (vn + 1) cap ∧ T.RW EI W.heap.size w' u' ((kidsU (x.kids.take (m + 1)) i).map res) ∧ Below W.heap.size (w5.alloc (.cells #[.int .i64 (res k.toNat)] 3)) w')) := fun w5 hk5 => by
              have hsz := hkp.out.size
              have hq4 := HWZ.out
              have hr5 := (hrw.out.keep (w' := w5) fun z hz => hk5.block z (hrw.out.at hz).2 (by have := (hrw.out.at hz).1; unfold FW; omega)).below (T.al w5 (.cells #[.int .i64 (res k.toNat)] 3))
              have hlv : T.LV EI (w5.alloc (.cells #[.int .i64 (res k.toNat)] 3)) (.slice (some ⟨w5.heap.size, 0, none⟩) 1 1) [res k.toNat] := T.lv_blk EI (L := [res k.toNat]) (T.blk_new w5 [.int .i64 (res k.toNat)] 3) 1 (Nat.le_refl _)
              obtain ⟨u', w', q1, ⟨g', cap, q2⟩, q3, q4⟩ := rw_app3 hr5 hlv (by simp) (by rw [← HVN.out]; simp; omega) (by rw [← HVN.out]; simp [EI]; omega) (by have := hk5.size; simp; omega)
              rw [← HVN.out] at q2
              refine ⟨u', w', q1, g', cap, q2, ?_, q4⟩
              rw [HTK, List.map_append]
              exact q3
            clear hk hc HTK
            go_wp2_with (first
              | (at_builtin; refine T.wpList_append_ex rfl (.tmp 36) (.tmp 40) 52 rfl _ _ rfl rfl (HAPP.out w5 hk5.out) ?_; rintro u6 w6 ⟨g6, cap6, rfl, hr6, hb6⟩)
              | (go_at_call 52; (refine k52.mono ?_; rintro e w5 ⟨rfl, ⟨kn5, ks5, hs5⟩, hk5'⟩; have hk5 : Hid (T.Keep (FW q) wr w5) := hk5'; have HS5 : Hid (WN res W0 b q n (.slice (some ⟨g, o, none⟩) n uc) mf34 kn5 ks5 w5) := hs5; clear hk5' hs5)))
            have hb56 : Below W.heap.size w5 w6 := ((T.al w5 (.cells #[.int .i64 (res k.toNat)] 3)).mono (by have := hk5.out.size; have := hkp.out.size; omega)).trans hb6
            have HS6 : Hid (WN res W0 b q n (.slice (some ⟨g, o, none⟩) n uc) mf34 kn5 ks5 w6) := HS5.out.under HWZ.out hb56
            have HK6 : Hid (T.Keep (FW q) W w6) := ⟨hb56.os.trans (hk5.out.os.trans hkp.out.os), hb56.tape.trans (hk5.out.tape.trans hkp.out.tape), hb56.output.trans (hk5.out.output.trans hkp.out.output), Nat.le_trans hkp.out.size (Nat.le_trans hk5.out.size hb56.size), fun z hz hf => (hb56.block z hz).trans (((hkp.out.trans hk5.out (fun _ _ e => e)).block z hz hf))⟩
            go_roundw
            case rel => exact ⟨m + 1, some ⟨g6, 0, none⟩, vn + 1, cap6, kn5, ks5, by simp, rfl, by show _ ≤ _; omega, HS6, HK6, hr6⟩
            case measure => simp [RowKit.intOf]; omega
          · have HTK := kidsU_no (i := i) hk (fun e => h1 e.2)
            have HN2 : Hid (T.RW EI W.heap.size wr (.slice va vn vc) ((kidsU (x.kids.take (m + 1)) i).map res)) := by rw [HTK]; exact hrw
            clear hk hc HTK
            go_wp2
            go_roundw
            case rel => exact ⟨m + 1, va, vn, vc, kn', ks', by simp, rfl, by show _ ≤ _; omega, hws, hkp, HN2⟩
            case measure => simp [RowKit.intOf]; omega
        · have HTK := kidsU_no (i := i) hk (fun e => h0 e.1)
          have HN2 : Hid (T.RW EI W.heap.size wr (.slice va vn vc) ((kidsU (x.kids.take (m + 1)) i).map res)) := by rw [HTK]; exact hrw
          clear hk hc HTK
          go_wp2
          go_roundw
          case rel => exact ⟨m + 1, va, vn, vc, kn', ks', by simp, rfl, by show _ ≤ _; omega, hws, hkp, HN2⟩
          case measure => simp [RowKit.intOf]; omega
      · obtain rfl : m = N := by have := hmN.out; omega
        have hnl : ¬ (m : Int) < (m : Int) := by omega
        obtain ⟨s1, s2, s3, s4, s5, s6, s7, s8, s9, s10, s11⟩ := HS.out wr hkp.out
        have k34 := HM.out wr.drew (.slice va vn vc) ((kidsU x.kids i).map res) hws.out.bel.drew (by have := hrw.out.read.below (Below.refl wr.heap.size wr).drew; rw [← HN.out, List.take_length] at this; exact this) (by rw [List.length_map]; exact Nat.le_trans (kidsU_len _ _) (by rw [HN.out]; have := HKS.out; omega))
        have hkd : Hid (T.Keep (FW q) W wr.drew) := hkp.out.drew
        have HST : Hid (∀ (w5 : World) (r : Int), Below wr.heap.size wr.drew w5 → ∃ (o1 : Bool) (o2 : Int), w5.cell? ⟨q, i, none⟩ = some (.bool o1) ∧ w5.frozen? ⟨q, i, none⟩ = false ∧ (w5.setCell ⟨q, i, none⟩ (.bool true)).cell? ⟨q + 2, i, none⟩ = some (.int .i64 o2) ∧ (w5.setCell ⟨q, i, none⟩ (.bool true)).frozen? ⟨q + 2, i, none⟩ = false ∧ ((w5.setCell ⟨q, i, none⟩ (.bool true)).setCell ⟨q + 2, i, none⟩ (.int .i64 r)).cell? ⟨q + 2, i, none⟩ = some (.int .i64 r) ∧ T.Blk ((w5.setCell ⟨q, i, none⟩ (.bool true)).setCell ⟨q + 2, i, none⟩ (.int .i64 r)) q ((kn'.set i true).map .bool) 4 ∧ T.Blk ((w5.setCell ⟨q, i, none⟩ (.bool true)).setCell ⟨q + 2, i, none⟩ (.int .i64 r)) (q + 2) (EI.cells (ks'.set i r)) 3) := fun w5 r B5 => by
          have hwd := hws.out.below (Below.refl wr.heap.size wr).drew
          have hb1 := hwd.bkb.below B5
          have hb2 := hwd.beb.below B5
          have hln := hws.out.ln
          have hle := hws.out.le
          rw [EI_cells] at hb2
          have hb1' := hb1.set (o := i) (.bool true)
          have hb2' := hb2.other (p := ⟨q, i, none⟩) (by show q + 2 ≠ q; omega) (.bool true)
          have hb1'' := hb1'.other (p := ⟨q + 2, i, none⟩) (by show q ≠ q + 2; omega) (.int .i64 r)
          have hb2'' := hb2'.set (o := i) (.int .i64 r)
          have e1 := hb1.cell i
          have e2 := hb2'.cell i
          have e3 := hb2''.cell i
          rw [List.getElem?_map, List.getElem?_eq_getElem (by omega)] at e1 e2
          rw [List.getElem?_set_self (by rw [List.length_map]; omega)] at e3
          rw [List.map_set, EI_cells, List.map_set]
          exact ⟨_, _, e1, hb1.frozen i, e2, hb2'.frozen i, e3, hb1'', hb2''⟩
        go_wp2_with fail
        go_region_held3 (fun W' => W'.cell? ⟨q + 1, 0, none⟩ = some (.slice (some ⟨q, 0, none⟩) n n) ∧ W'.cell? ⟨q + 3, 0, none⟩ = some (.slice (some ⟨q + 2, 0, none⟩) n n) ∧ W'.cell? ⟨b + 1, 0, none⟩ = some mf34 ∧ W'.cell? ⟨b, 0, none⟩ = some (.slice (some ⟨g, o, none⟩) n uc) ∧ W'.cell? ⟨g, o + i * 7, none⟩ = some (.int .u8 (x.k : Int)) ∧ W'.cell? ⟨g, o + i * 7 + 1, none⟩ = some (.string (str x.col)) ∧ W'.cell? ⟨g, o + i * 7 + 2, none⟩ = some (.int .u8 (x.op : Int)) ∧ W'.cell? ⟨g, o + i * 7 + 3, none⟩ = some (.int .u8 (x.vk : Int)) ∧ W'.cell? ⟨g, o + i * 7 + 4, none⟩ = some (.int .i64 x.vn) ∧ W'.cell? ⟨g, o + i * 7 + 5, none⟩ = some (.string (str x.vt)) ∧ W'.cell? ⟨g, o + i * 7 + 6, none⟩ = some (.slice y1 m y3))
          ((refine HS.out _ ?_; first | (with_reducible exact hkd.out) | (with_reducible exact hk5.out) | (with_reducible exact hkA.out) | (with_reducible exact hkB.out)))
          ((go_at_call 34; (with_reducible refine k34.mono ?_); rintro e w5 ⟨rfl, B5⟩; have hk5 : Hid (T.Keep (FW q) W w5) := hkd.out.trans (T.Keep.of B5) (fun _ _ e => e); have hkA : Hid (T.Keep (FW q) W (w5.setCell ⟨q, i, none⟩ (.bool true))) := T.Keep.set hk5.out (p := ⟨q, i, none⟩) (.inr (.inl rfl)) _; have hkB : Hid (T.Keep (FW q) W ((w5.setCell ⟨q, i, none⟩ (.bool true)).setCell ⟨q + 2, i, none⟩ (.int .i64 (made x ((kidsU x.kids i).map res))))) := T.Keep.set hkA.out (p := ⟨q + 2, i, none⟩) (.inr (.inr rfl)) _; obtain ⟨o1, o2, z1, z2, z3, z4, z5, z6', z7'⟩ := HST.out w5 (made x ((kidsU x.kids i).map res)) B5; have z6 : Hid _ := z6'; have z7 : Hid _ := z7'; clear z6' z7'))
        go_wp2_with fail
        go_ret
        rw [HR.out]
        have hput : WN res W0 b q n (.slice (some ⟨g, o, none⟩) n uc) mf34 (kn'.set i true) (ks'.set i (res i)) ((w5.setCell ⟨q, i, none⟩ (.bool true)).setCell ⟨q + 2, i, none⟩ (.int .i64 (made x ((kidsU x.kids i).map res)))) := by
          refine (hws.out.below (W' := w5) ((Below.refl _ _).drew.trans B5)).put (k := ((T.Keep.refl _ _).set (p := ⟨q, i, none⟩) (.inr (.inl rfl)) _).set (p := ⟨q + 2, i, none⟩) (.inr (.inr rfl)) _) z6.out ?_
          rw [HR.out]
          exact z7.out
        exact ⟨rfl, ⟨_, _, hput⟩, hkB.out⟩
  · have hr : ksi = res i := by
      have := h.ok i hkn
      rw [hks] at this
      exact Option.some.inj this
    subst hr
    have HS : Hid (WN res W0 b q n (.slice (some ⟨g, o, none⟩) n uc) mf34 kn ks W) := h
    clear ih hm hcs hk hres hyl hxr hx hkn hks h p0 p1 p2 p3 p4 p5 p6 hxk
    go_enter Tryd.func52, Tryd.ntmps52
    go_wp2
    go_ret
    exact ⟨rfl, ⟨_, _, HS.out⟩, T.Keep.refl _ _⟩
end
set_option maxHeartbeats 4000000 in
theorem whole33 {w : World} {u : Value} {cs : List Cd} {made : Cd → List Int → Int} (hm : MadeN w made) (hcs : LC w u cs) (h0 : 0 < cs.length) (hn : cs.length ≤ 1000) (hk : ∀ x ∈ cs, x.kids.length + 1 ≤ 17000000000000) :
    Calls Tryd.prog 33 #[u, mf34] w fun e w' => e = .returned (.int .i64 (resN made 0 cs (cs.length - 1))) ∧ Below w.heap.size w w' := by
  obtain ⟨ua, uc, rfl⟩ := hcs.form
  have L52 := fun (b q : Nat) => look52 (b := b) (q := q) (res := resN made 0 cs) hm hcs rfl hk (fun i x hx => resN_of made 0 cs hx)
  generalize cs.length = n at *
  have a1 := T.al w (.cells #[.slice ua n uc] 22)
  have a2 := T.al (w.alloc (.cells #[.slice ua n uc] 22)) (.cells #[mf34] 85)
  obtain ⟨g3, g4, g5⟩ := w7_ok (E := EI) (z0 := 0) (tl := 105) (tm := 85) (res := resN made 0 cs) (W0 := w) (w := (w.alloc (.cells #[.slice ua n uc] 22)).alloc (.cells #[mf34] 85)) (b := w.heap.size) (q := w.heap.size + 1 + 1) (n := n) (u := .slice ua n uc) (mf := mf34) (lf52 w.heap.size (w.heap.size + 1 + 1)) (bmore a1 a2) (Nat.le_refl _) (Nat.le_refl _) (by simp) ((T.blk_new w [.slice ua n uc] 22).below a2) (T.blk_at (w.alloc (.cells #[.slice ua n uc] 22)) [mf34] 85 (by simp))
  have k52 := L52 w.heap.size (w.heap.size + 1 + 1) (n - 1) (by omega) _ _ _ g3
  have HB : Hid (Below w.heap.size w _) := g3.bel
  have hn1 : ((n - 1 : Nat) : Int) = (n : Int) - 1 := by omega
  rw [hn1] at k52
  have hw1 : IntKind.i64.wrap ((n : Int) - 1) = (n : Int) - 1 := wrap_small _ (by omega) (by omega)
  have c4 : (((((((w.alloc (.cells #[.slice ua n uc] 22)).alloc (.cells #[mf34] 85)).alloc (.cells (EO.cells (List.replicate n false)).toArray EO.tE)).alloc (.cells #[.slice (some ⟨w.heap.size + 1 + 1, 0, none⟩) n n] 65)).alloc (.cells (EI.cells (List.replicate n 0)).toArray EI.tE)).alloc (.cells #[.slice (some ⟨w.heap.size + 1 + 1 + 1 + 1, 0, none⟩) n n] 52)).alloc (.cells #[.func (.func 52) #[] #[.pointer (some ⟨w.heap.size + 1 + 1 + 1, 0, none⟩), .pointer (some ⟨w.heap.size + 1 + 1 + 1 + 1 + 1, 0, none⟩), .pointer (some ⟨w.heap.size, 0, none⟩), .pointer (some ⟨w.heap.size + 1 + 1 + 1 + 1 + 1 + 1, 0, none⟩), .pointer (some ⟨w.heap.size + 1, 0, none⟩)]] 105)).cell? ⟨w.heap.size + 1 + 1 + 1 + 1 + 1 + 1, 0, none⟩ = some (.func (.func 52) #[] #[.pointer (some ⟨w.heap.size + 1 + 1 + 1, 0, none⟩), .pointer (some ⟨w.heap.size + 1 + 1 + 1 + 1 + 1, 0, none⟩), .pointer (some ⟨w.heap.size, 0, none⟩), .pointer (some ⟨w.heap.size + 1 + 1 + 1 + 1 + 1 + 1, 0, none⟩), .pointer (some ⟨w.heap.size + 1, 0, none⟩)]) := g4
  have c5 : (((((((w.alloc (.cells #[.slice ua n uc] 22)).alloc (.cells #[mf34] 85)).alloc (.cells (EO.cells (List.replicate n false)).toArray EO.tE)).alloc (.cells #[.slice (some ⟨w.heap.size + 1 + 1, 0, none⟩) n n] 65)).alloc (.cells (EI.cells (List.replicate n 0)).toArray EI.tE)).alloc (.cells #[.slice (some ⟨w.heap.size + 1 + 1 + 1 + 1, 0, none⟩) n n] 52)).alloc (.cells #[.func (.func 52) #[] #[.pointer (some ⟨w.heap.size + 1 + 1 + 1, 0, none⟩), .pointer (some ⟨w.heap.size + 1 + 1 + 1 + 1 + 1, 0, none⟩), .pointer (some ⟨w.heap.size, 0, none⟩), .pointer (some ⟨w.heap.size + 1 + 1 + 1 + 1 + 1 + 1, 0, none⟩), .pointer (some ⟨w.heap.size + 1, 0, none⟩)]] 105)).cell? ⟨w.heap.size, 0, none⟩ = some (.slice ua n uc) := g5
  have k52' : Calls Tryd.prog 52 #[.int .i64 ((n : Int) - 1), .pointer (some ⟨w.heap.size + 1 + 1 + 1, 0, none⟩), .pointer (some ⟨w.heap.size + 1 + 1 + 1 + 1 + 1, 0, none⟩), .pointer (some ⟨w.heap.size, 0, none⟩), .pointer (some ⟨w.heap.size + 1 + 1 + 1 + 1 + 1 + 1, 0, none⟩), .pointer (some ⟨w.heap.size + 1, 0, none⟩)] (((((((w.alloc (.cells #[.slice ua n uc] 22)).alloc (.cells #[mf34] 85)).alloc (.cells (EO.cells (List.replicate n false)).toArray EO.tE)).alloc (.cells #[.slice (some ⟨w.heap.size + 1 + 1, 0, none⟩) n n] 65)).alloc (.cells (EI.cells (List.replicate n 0)).toArray EI.tE)).alloc (.cells #[.slice (some ⟨w.heap.size + 1 + 1 + 1 + 1, 0, none⟩) n n] 52)).alloc (.cells #[.func (.func 52) #[] #[.pointer (some ⟨w.heap.size + 1 + 1 + 1, 0, none⟩), .pointer (some ⟨w.heap.size + 1 + 1 + 1 + 1 + 1, 0, none⟩), .pointer (some ⟨w.heap.size, 0, none⟩), .pointer (some ⟨w.heap.size + 1 + 1 + 1 + 1 + 1 + 1, 0, none⟩), .pointer (some ⟨w.heap.size + 1, 0, none⟩)]] 105)) _ := k52
  clear g3 g4 g5 a1 a2 hm hcs hk L52 k52
  go_enter Tryd.func33, Tryd.ntmps33
  go_wp2_with (first
    | (at_make; refine wpList_mk EO false rfl rfl (.tmp 9) (.tmp 9) 65 rfl rfl n rfl rfl (by omega) ?_)
    | (at_make; refine wpList_mk EI 0 rfl rfl (.tmp 12) (.tmp 12) 52 rfl rfl n rfl rfl (by omega) ?_)
    | (go_at_call 52; (refine Calls.mono k52' ?_; rintro e w9 ⟨rfl, ⟨kn9, ks9, h9⟩, _⟩; have H9 : Hid (Below w.heap.size w w9) := h9.bel; clear h9)))
  go_ret
  exact ⟨rfl, H9.out⟩
end Go.Proofs.YtipnaphikbjhbaaDoor
/-! ### What a part comes to: a value that a column must have. -/
namespace Go.Proofs.YtipnaphikbjhbaaDoor
open Go.RowKit
set_option maxRecDepth 100000
attribute [local go_sem ↓] Go.wp_at_zero Go.wp_at_succ
/-- A demand as a value. -/
abbrev dmV (d : Dm) : Value := .agg #[.int .u8 (d.1.1 : Int), .int .i64 d.1.2.1, .string (str d.1.2.2), .bool d.2]
theorem ED_one (d : Dm) : ED.cells [d] = [.int .u8 (d.1.1 : Int), .int .i64 d.1.2.1, .string (str d.1.2.2), .bool d.2] := by simp [T.Ety.cells, ED]
theorem ED_cons (d : Dm) (l : List Dm) : ED.cells (d :: l) = .int .u8 (d.1.1 : Int) :: .int .i64 d.1.2.1 :: .string (str d.1.2.2) :: .bool d.2 :: ED.cells l := by simp [T.Ety.cells, ED]
theorem ED_set (d : Dm) : ∀ (l : List Dm) (i : Nat), ((((ED.cells l).set (i * 4) (.int .u8 (d.1.1 : Int))).set (i * 4 + 1) (.int .i64 d.1.2.1)).set (i * 4 + 2) (.string (str d.1.2.2))).set (i * 4 + 3) (.bool d.2) = ED.cells (l.set i d)
  | [], i => by simp [T.Ety.cells]
  | x :: l, 0 => by
    show _ = ED.cells (d :: l)
    rw [ED_cons, ED_cons]
    rfl
  | x :: l, i + 1 => by
    have := ED_set d l i
    rw [ED_cons, List.set_cons_succ, ED_cons, ← this, show (i + 1) * 4 = i * 4 + 1 + 1 + 1 + 1 by omega]
    rfl
/-- Four cells of a block are turned: where they may be, and what lies there. -/
theorem bx4 {W : World} {b o : Nat} {l : List Value} {t : TypeId} (h : T.Blk W b l t) (ho : o + 4 ≤ l.length) (v0 v1 v2 v3 : Value) :
    (∃ u0, W.cell? ⟨b, o, none⟩ = some u0) ∧ W.frozen? ⟨b, o, none⟩ = false ∧
    (∃ u1, (W.setCell ⟨b, o, none⟩ v0).cell? ⟨b, o + 1, none⟩ = some u1) ∧ (W.setCell ⟨b, o, none⟩ v0).frozen? ⟨b, o + 1, none⟩ = false ∧
    (∃ u2, ((W.setCell ⟨b, o, none⟩ v0).setCell ⟨b, o + 1, none⟩ v1).cell? ⟨b, o + 2, none⟩ = some u2) ∧ ((W.setCell ⟨b, o, none⟩ v0).setCell ⟨b, o + 1, none⟩ v1).frozen? ⟨b, o + 2, none⟩ = false ∧
    (∃ u3, (((W.setCell ⟨b, o, none⟩ v0).setCell ⟨b, o + 1, none⟩ v1).setCell ⟨b, o + 2, none⟩ v2).cell? ⟨b, o + 3, none⟩ = some u3) ∧ (((W.setCell ⟨b, o, none⟩ v0).setCell ⟨b, o + 1, none⟩ v1).setCell ⟨b, o + 2, none⟩ v2).frozen? ⟨b, o + 3, none⟩ = false ∧
    T.Blk ((((W.setCell ⟨b, o, none⟩ v0).setCell ⟨b, o + 1, none⟩ v1).setCell ⟨b, o + 2, none⟩ v2).setCell ⟨b, o + 3, none⟩ v3) b ((((l.set o v0).set (o + 1) v1).set (o + 2) v2).set (o + 3) v3) t ∧
    (((((W.setCell ⟨b, o, none⟩ v0).setCell ⟨b, o + 1, none⟩ v1).setCell ⟨b, o + 2, none⟩ v2).setCell ⟨b, o + 3, none⟩ v3).cell? ⟨b, o, none⟩ = some v0 ∧ ((((W.setCell ⟨b, o, none⟩ v0).setCell ⟨b, o + 1, none⟩ v1).setCell ⟨b, o + 2, none⟩ v2).setCell ⟨b, o + 3, none⟩ v3).cell? ⟨b, o + 1, none⟩ = some v1 ∧ ((((W.setCell ⟨b, o, none⟩ v0).setCell ⟨b, o + 1, none⟩ v1).setCell ⟨b, o + 2, none⟩ v2).setCell ⟨b, o + 3, none⟩ v3).cell? ⟨b, o + 2, none⟩ = some v2 ∧ ((((W.setCell ⟨b, o, none⟩ v0).setCell ⟨b, o + 1, none⟩ v1).setCell ⟨b, o + 2, none⟩ v2).setCell ⟨b, o + 3, none⟩ v3).cell? ⟨b, o + 3, none⟩ = some v3) := by
  have h1 := h.set (o := o) v0
  have h2 := h1.set (o := o + 1) v1
  have h3 := h2.set (o := o + 2) v2
  have h4 := h3.set (o := o + 3) v3
  have g0 : ∃ u, l[o]? = some u := ⟨_, List.getElem?_eq_getElem (by omega)⟩
  have g1 : ∃ u, (l.set o v0)[o + 1]? = some u := ⟨_, List.getElem?_eq_getElem (by simp; omega)⟩
  have g2 : ∃ u, ((l.set o v0).set (o + 1) v1)[o + 2]? = some u := ⟨_, List.getElem?_eq_getElem (by simp; omega)⟩
  have g3 : ∃ u, (((l.set o v0).set (o + 1) v1).set (o + 2) v2)[o + 3]? = some u := ⟨_, List.getElem?_eq_getElem (by simp; omega)⟩
  obtain ⟨u0, g0⟩ := g0
  obtain ⟨u1, g1⟩ := g1
  obtain ⟨u2, g2⟩ := g2
  obtain ⟨u3, g3⟩ := g3
  refine ⟨⟨u0, (h.cell o).trans g0⟩, h.frozen o, ⟨u1, (h1.cell (o + 1)).trans g1⟩, h1.frozen _, ⟨u2, (h2.cell (o + 2)).trans g2⟩, h2.frozen _, ⟨u3, (h3.cell (o + 3)).trans g3⟩, h3.frozen _, h4, (h4.cell o).trans ?_, (h4.cell (o + 1)).trans ?_, (h4.cell (o + 2)).trans ?_, (h4.cell (o + 3)).trans ?_⟩
  · rw [List.getElem?_set_ne (by omega), List.getElem?_set_ne (by omega), List.getElem?_set_ne (by omega), List.getElem?_set_self (by omega)]
  · rw [List.getElem?_set_ne (by omega), List.getElem?_set_ne (by omega), List.getElem?_set_self (by simp; omega)]
  · rw [List.getElem?_set_ne (by omega), List.getElem?_set_self (by simp; omega)]
  · rw [List.getElem?_set_self (by simp; omega)]
section
variable {W0 W W' : World} {b q n : Nat} {u mf : Value} {kn : List Bool} {ks : List Dm} {cs : List Cd} {res : Nat → Dm}
abbrev lf29 (b q : Nat) : Value := .func (.func 29) #[] #[.pointer (some ⟨q + 1, 0, none⟩), .pointer (some ⟨q + 3, 0, none⟩), .pointer (some ⟨b, 0, none⟩), .pointer (some ⟨q + 4, 0, none⟩), .pointer (some ⟨b + 1, 0, none⟩)]
abbrev mf17 (x : Nat) : Value := .func (.func 17) #[] #[.pointer (some ⟨x, 0, none⟩)]
abbrev WD (res : Nat → Dm) (W0 : World) (b q n : Nat) (u mf : Value) (kn : List Bool) (ks : List Dm) (W : World) : Prop := WS ED 73 57 res W0 b q n u mf (lf29 b q) kn ks W
/-- What a closure for a part answers. -/
abbrev MadeD (W0 : World) (x' : Nat) (made : Cd → List Dm → Dm) : Prop := ∀ (W : World) (x : Cd) (y : Sl3) (v : Value) (l : List Dm), Below W0.heap.size W0 W → T.LV ED W v l → l.length ≤ 30000000000000 → Calls Tryd.prog 17 #[cdV x y, v, .pointer (some ⟨x', 0, none⟩)] W fun e w' => e = .returned (dmV (made x l)) ∧ Below W.heap.size W w'
end
end Go.Proofs.YtipnaphikbjhbaaDoor
/-! ### What a part comes to: a value that a column must have (the closure of ofWhole). -/
namespace Go.Proofs.YtipnaphikbjhbaaDoor
open Go.RowKit
set_option maxRecDepth 100000
attribute [local go_sem ↓] Go.wp_at_zero Go.wp_at_succ
section
variable {W0 W W' : World} {b q n : Nat} {u mf : Value} {kn : List Bool} {ks : List Dm} {cs : List Cd} {res : Nat → Dm}
theorem T.Keep.of2 {F : Nat → Prop} {w w' : World} {B : Nat} (h : Below B w w') (hB : ∀ i, i < w.heap.size → B ≤ i → F i) : T.Keep F w w' := ⟨h.os, h.tape, h.output, h.size, fun k hk hf => h.block k (Nat.lt_of_not_le fun e => hf (hB k hk e))⟩
set_option maxHeartbeats 8000000 in
theorem look29 {made : Cd → List Dm → Dm} {x' : Nat} (hm : MadeD W0 x' made) (hcs : LC W0 u cs) (hn : cs.length = n) (hk : ∀ x ∈ cs, x.kids.length + 1 ≤ 3000000000000) (hres : ∀ i x, cs[i]? = some x → res i = made x ((kidsU x.kids i).map res)) :
    ∀ i, i < n → ∀ W kn ks, WD res W0 b q n u (mf17 x') kn ks W → Calls Tryd.prog 29 #[.int .i64 (i : Int), .pointer (some ⟨q + 1, 0, none⟩), .pointer (some ⟨q + 3, 0, none⟩), .pointer (some ⟨b, 0, none⟩), .pointer (some ⟨q + 4, 0, none⟩), .pointer (some ⟨b + 1, 0, none⟩)] W fun e w' => e = .returned (dmV (res i)) ∧ (∃ kn' ks', WD res W0 b q n u (mf17 x') kn' ks' w') ∧ T.Keep (FW q) W w' := by
  intro i
  induction i using Nat.strongRecOn with
  | _ i ih =>
  intro hi W kn ks h
  obtain ⟨ua, uc, hu⟩ := hcs.form
  rw [hn] at hu
  subst hu
  obtain ⟨x, hx⟩ : ∃ x, cs[i]? = some x := ⟨_, List.getElem?_eq_getElem (by omega)⟩
  have hxk := hk x (List.mem_of_getElem? hx)
  have hxr := hres i x hx
  obtain ⟨g, o, y, rfl, hyl, p0, p1, p2, p3, p4, p5, p6⟩ := hcs.at hx
  have hgl : g < W0.heap.size := World.block_lt_of_cell? _ _ p0
  have hi1 : (0 : Int) ≤ (i : Int) := by omega
  have hi2 : (i : Int) < (n : Int) := by omega
  have kb := h.bkb.cell i
  have kv := h.bkv.cell 0
  have ev := h.bev.cell 0
  rw [List.getElem?_map] at kb
  obtain ⟨kni, hkn⟩ : ∃ x, kn[i]? = some x := ⟨_, List.getElem?_eq_getElem (by rw [h.ln]; exact hi)⟩
  obtain ⟨ksi, hks⟩ : ∃ x, ks[i]? = some x := ⟨_, List.getElem?_eq_getElem (by rw [h.le]; exact hi)⟩
  rw [hkn] at kb
  simp only [Option.map_some, List.getElem?_cons_zero] at kb kv ev
  have hsz0 := h.bel.size
  have hR := T.blk_new W [.int .u8 0, .int .i64 0, .string ⟨#[]⟩, .bool false] 49
  have hal := T.al W (.cells #[.int .u8 0, .int .i64 0, .string ⟨#[]⟩, .bool false] 49)
  cases kni
  · obtain ⟨ya, yc, hy⟩ := hyl.form
    obtain ⟨y1, y2, y3⟩ := y
    simp only [slW, Value.slice.injEq] at hy
    obtain ⟨rfl, rfl, rfl⟩ := hy
    have hlow := h.low
    have hbq := h.bq
    have hsz := (h.below hal).bel.size
    have HW : Hid (WD res W0 b q n (.slice (some ⟨g, o, none⟩) n uc) (mf17 x') kn ks (W.alloc (.cells #[.int .u8 0, .int .i64 0, .string ⟨#[]⟩, .bool false] 49))) := h.below hal
    have HYL : Hid (∀ W', Below W0.heap.size W0 W' → T.LV EI W' (.slice y1 x.kids.length y3) x.kids) := fun W' k => hyl.below k
    have HS : Hid (∀ W', T.Keep (FW q) (W.alloc (.cells #[.int .u8 0, .int .i64 0, .string ⟨#[]⟩, .bool false] 49)) W' → W'.cell? ⟨q + 1, 0, none⟩ = some (.slice (some ⟨q, 0, none⟩) n n) ∧ W'.cell? ⟨q + 3, 0, none⟩ = some (.slice (some ⟨q + 2, 0, none⟩) n n) ∧ W'.cell? ⟨b + 1, 0, none⟩ = some (mf17 x') ∧ W'.cell? ⟨b, 0, none⟩ = some (.slice (some ⟨g, o, none⟩) n uc) ∧
        W'.cell? ⟨g, o + i * 7, none⟩ = some (.int .u8 (x.k : Int)) ∧ W'.cell? ⟨g, o + i * 7 + 1, none⟩ = some (.string (str x.col)) ∧ W'.cell? ⟨g, o + i * 7 + 2, none⟩ = some (.int .u8 (x.op : Int)) ∧ W'.cell? ⟨g, o + i * 7 + 3, none⟩ = some (.int .u8 (x.vk : Int)) ∧ W'.cell? ⟨g, o + i * 7 + 4, none⟩ = some (.int .i64 x.vn) ∧ W'.cell? ⟨g, o + i * 7 + 5, none⟩ = some (.string (str x.vt)) ∧ W'.cell? ⟨g, o + i * 7 + 6, none⟩ = some (.slice y1 x.kids.length y3)) := fun W' k => by
      have hB : Below W0.heap.size W0 W' := HW.out.bel.trans (k.below (B := W0.heap.size) hsz (fun z hz hf => by unfold FW at hf; omega))
      have c : ∀ j, W'.cell? ⟨g, j, none⟩ = W0.cell? ⟨g, j, none⟩ := fun j => hB.cell (p := ⟨g, j, none⟩) hgl
      exact ⟨(HW.out.bkv.keep k (by unfold FW; omega)).cell 0, (HW.out.bev.keep k (by unfold FW; omega)).cell 0, (HW.out.bm.keep k (by unfold FW; omega)).cell 0, (HW.out.bl.keep k (by unfold FW; omega)).cell 0, (c _).trans p0, (c _).trans p1, (c _).trans p2, (c _).trans p3, (c _).trans p4, (c _).trans p5, (c _).trans p6⟩
    obtain ⟨s1, s2, s3, s4, s5, s6, s7, s8, s9, s10, s11⟩ := HS.out (W.alloc (.cells #[.int .u8 0, .int .i64 0, .string ⟨#[]⟩, .bool false] 49)) (T.Keep.refl _ _)
    have HLF : Hid (∀ W', T.Keep (FW q) (W.alloc (.cells #[.int .u8 0, .int .i64 0, .string ⟨#[]⟩, .bool false] 49)) W' → W'.cell? ⟨q + 4, 0, none⟩ = some (lf29 b q)) := fun W' k => (HW.out.blk.keep k (by unfold FW; omega)).cell 0
    have HIH : Hid (∀ (k : Int), 0 ≤ k → k < (i : Int) → ∀ W kn ks, WD res W0 b q n (.slice (some ⟨g, o, none⟩) n uc) (mf17 x') kn ks W → Calls Tryd.prog 29 #[.int .i64 k, .pointer (some ⟨q + 1, 0, none⟩), .pointer (some ⟨q + 3, 0, none⟩), .pointer (some ⟨b, 0, none⟩), .pointer (some ⟨q + 4, 0, none⟩), .pointer (some ⟨b + 1, 0, none⟩)] W fun e w' => e = .returned (dmV (res k.toNat)) ∧ (∃ kn' ks', WD res W0 b q n (.slice (some ⟨g, o, none⟩) n uc) (mf17 x') kn' ks' w') ∧ T.Keep (FW q) W w') := fun k h0 h1 W kn ks hW => by
      have := ih k.toNat (by omega) (by omega) W kn ks hW
      rw [Int.toNat_of_nonneg h0] at this
      exact this
    have HM : Hid (∀ (W : World) (v : Value) (l : List Dm), Below W0.heap.size W0 W → T.LV ED W v l → l.length ≤ 30000000000000 → Calls Tryd.prog 17 #[.agg #[.int .u8 (x.k : Int), .string (str x.col), .int .u8 (x.op : Int), .int .u8 (x.vk : Int), .int .i64 x.vn, .string (str x.vt), .slice y1 x.kids.length y3], v, .pointer (some ⟨x', 0, none⟩)] W fun e w' => e = .returned (dmV (made x l)) ∧ Below W.heap.size W w') := fun W v l => hm W x (y1, x.kids.length, y3) v l
    have HR : Hid (res i = made x ((kidsU x.kids i).map res)) := hxr
    have HWZ : Hid (q + 4 < (W.alloc (.cells #[.int .u8 0, .int .i64 0, .string ⟨#[]⟩, .bool false] 49)).heap.size) := (h.below hal).blk.lt
    have HKS : Hid (x.kids.length + 1 ≤ 3000000000000) := hxk
    have HRB : Hid (∀ W', T.Keep (FW q) (W.alloc (.cells #[.int .u8 0, .int .i64 0, .string ⟨#[]⟩, .bool false] 49)) W' → T.Blk W' W.heap.size [.int .u8 0, .int .i64 0, .string ⟨#[]⟩, .bool false] 49) := fun W' k => hR.keep k (by have := h.blk.lt; unfold FW; omega)
    have HB1 : Hid (Below W.heap.size W (W.alloc (.cells #[.int .u8 0, .int .i64 0, .string ⟨#[]⟩, .bool false] 49))) := hal
    have HLT : Hid (q + 4 < W.heap.size) := h.blk.lt
    have kb1 : (W.alloc (.cells #[.int .u8 0, .int .i64 0, .string ⟨#[]⟩, .bool false] 49)).cell? ⟨q, i, none⟩ = some (.bool false) := (hal.cell (p := ⟨q, i, none⟩) (by have := h.blk.lt; show q < _; omega)).trans kb
    clear hR hal kb hsz0 ih hm hcs hk hres hyl hxr hx hkn hks h p0 p1 p2 p3 p4 p5 p6 hxk kv ev s2 s3 s5 s6 s7 s8 s9 s10 hn hi hsz
    have HK : Hid (x.kids = x.kids) := rfl
    obtain ⟨N, hN⟩ : ∃ N, x.kids.length = N := ⟨_, rfl⟩
    rw [hN] at s11 HYL HS HM HKS
    have HN : Hid (x.kids.length = N) := hN
    clear hN HK
    go_enter Tryd.func29, Tryd.ntmps29
    go_wp2
    go_loopw [8, 25] (fun p8 p25 wr => ∃ (m : Nat) (va : Option Addr) (vn vc : Nat) (kn' : List Bool) (ks' : List Dm), p25 = .int .i64 (m : Int) ∧ p8 = .slice va vn vc ∧ Hid (m ≤ N) ∧ Hid (WD res W0 b q n (.slice (some ⟨g, o, none⟩) n uc) (mf17 x') kn' ks' wr) ∧ Hid (T.Keep (FW q) (W.alloc (.cells #[.int .u8 0, .int .i64 0, .string ⟨#[]⟩, .bool false] 49)) wr) ∧ Hid (T.RW ED (W.alloc (.cells #[.int .u8 0, .int .i64 0, .string ⟨#[]⟩, .bool false] 49)).heap.size wr (.slice va vn vc) ((kidsU (x.kids.take m) i).map res))) (fun _ p _ => N - (RowKit.intOf p).toNat)
    case atStart => exact ⟨0, none, 0, 0, kn, ks, rfl, rfl, Nat.zero_le _, HW.out, T.Keep.refl _ _, T.RW.nil _ _ _⟩
    case round =>
      obtain ⟨m, va, vn, vc, kn', ks', rfl, rfl, hmN, hws, hkp, hrw⟩ := hrel
      have hvn : vn = ((kidsU (x.kids.take m) i).map res).length := by
        obtain ⟨a', c', e, _⟩ := hrw.out.form
        cases e; rfl
      have hl9 : vn ≤ m := by
        rw [hvn, List.length_map]
        exact Nat.le_trans (kidsU_len _ _) (by rw [List.length_take]; exact Nat.min_le_left _ _)
      have HVN : Hid (vn = ((kidsU (x.kids.take m) i).map res).length) := hvn
      clear hvn
      by_cases hlt : m < N
      · have hmi : (m : Int) < (N : Int) := by omega
        have hmN' := hmN.out
        have hks9 := HKS.out
        obtain ⟨k, hk⟩ : ∃ k, x.kids[m]? = some k := ⟨_, List.getElem?_eq_getElem (by rw [HN.out]; exact hlt)⟩
        obtain ⟨g2, o2, rfl, hc⟩ := (HYL.out wr hws.out.bel).at hk
        have hc0 : wr.cell? ⟨g2, o2 + m, none⟩ = some (.int .i64 k) := by
          have := hc 0 (by decide)
          simpa [EI] using this
        have hw1 : IntKind.i64.wrap ((m : Int) + 1) = (m : Int) + 1 := wrap_small _ (by omega) (by omega)
        by_cases h0 : 0 ≤ k
        · by_cases h1 : k < (i : Int)
          · have HTK := kidsU_yes hk h0 h1
            have k29 := HIH.out k h0 h1 wr kn' ks' hws.out
            have hlf := HLF.out wr hkp.out
            have HAPP : Hid (∀ w5, T.Keep (FW q) wr w5 → ∃ u' w', (Builtin.append_ #[55, 55] 55 #[.slice va vn vc, .slice (some ⟨w5.heap.size, 0, none⟩) 1 1]).run Tryd.prog (w5.alloc (.cells #[.int .u8 ((res k.toNat).1.1 : Int), .int .i64 (res k.toNat).1.2.1, .string (str (res k.toNat).1.2.2), .bool (res k.toNat).2] 49)) = .ok u' w' ∧ (∃ g cap, u' = .slice (some ⟨g, 0, none⟩) (vn + 1) cap ∧ T.RW ED (W.alloc (.cells #[.int .u8 0, .int .i64 0, .string ⟨#[]⟩, .bool false] 49)).heap.size w' u' ((kidsU (x.kids.take (m + 1)) i).map res) ∧ Below (W.alloc (.cells #[.int .u8 0, .int .i64 0, .string ⟨#[]⟩, .bool false] 49)).heap.size (w5.alloc (.cells #[.int .u8 ((res k.toNat).1.1 : Int), .int .i64 (res k.toNat).1.2.1, .string (str (res k.toNat).1.2.2), .bool (res k.toNat).2] 49)) w')) := fun w5 hk5 => by
              have hsz := hkp.out.size
              have hq4 := HWZ.out
              have hr5 := (hrw.out.keep (w' := w5) fun z hz => hk5.block z (hrw.out.at hz).2 (by have := (hrw.out.at hz).1; unfold FW; omega)).below (T.al w5 (.cells #[.int .u8 ((res k.toNat).1.1 : Int), .int .i64 (res k.toNat).1.2.1, .string (str (res k.toNat).1.2.2), .bool (res k.toNat).2] 49))
              have hlv : T.LV ED (w5.alloc (.cells #[.int .u8 ((res k.toNat).1.1 : Int), .int .i64 (res k.toNat).1.2.1, .string (str (res k.toNat).1.2.2), .bool (res k.toNat).2] 49)) (.slice (some ⟨w5.heap.size, 0, none⟩) 1 1) [res k.toNat] := T.lv_blk ED (L := [res k.toNat]) (by rw [ED_one]; exact T.blk_new w5 [.int .u8 ((res k.toNat).1.1 : Int), .int .i64 (res k.toNat).1.2.1, .string (str (res k.toNat).1.2.2), .bool (res k.toNat).2] 49) 1 (Nat.le_refl _)
              obtain ⟨u', w', q1, ⟨g', cap, q2⟩, q3, q4⟩ := rw_app3 hr5 hlv (by simp) (by rw [← HVN.out]; simp; omega) (by rw [← HVN.out]; simp [ED]; omega) (Nat.le_trans hsz (Nat.le_trans hk5.size (T.al w5 _).size))
              rw [← HVN.out] at q2
              refine ⟨u', w', q1, g', cap, q2, ?_, q4⟩
              rw [HTK, List.map_append]
              exact q3
            clear hk hc HTK
            go_wp2_with (first
              | (at_builtin; refine T.wpList_append_ex rfl (.tmp 36) (.tmp 40) 55 rfl _ _ rfl rfl (HAPP.out w5 hk5.out) ?_; rintro u6 w6 ⟨g6, cap6, rfl, hr6, hb6⟩)
              | (go_at_call 29; (refine k29.mono ?_; rintro e w5 ⟨rfl, ⟨kn5, ks5, hs5⟩, hk5'⟩; have hk5 : Hid (T.Keep (FW q) wr w5) := hk5'; have HS5 : Hid (WD res W0 b q n (.slice (some ⟨g, o, none⟩) n uc) (mf17 x') kn5 ks5 w5) := hs5; clear hk5' hs5)))
            have hb56 : Below (W.alloc (.cells #[.int .u8 0, .int .i64 0, .string ⟨#[]⟩, .bool false] 49)).heap.size w5 w6 := ((T.al w5 (.cells #[.int .u8 ((res k.toNat).1.1 : Int), .int .i64 (res k.toNat).1.2.1, .string (str (res k.toNat).1.2.2), .bool (res k.toNat).2] 49)).mono (by have := hk5.out.size; have := hkp.out.size; omega)).trans hb6
            have HS6 : Hid (WD res W0 b q n (.slice (some ⟨g, o, none⟩) n uc) (mf17 x') kn5 ks5 w6) := HS5.out.under HWZ.out hb56
            have HK6 : Hid (T.Keep (FW q) (W.alloc (.cells #[.int .u8 0, .int .i64 0, .string ⟨#[]⟩, .bool false] 49)) w6) := ⟨hb56.os.trans (hk5.out.os.trans hkp.out.os), hb56.tape.trans (hk5.out.tape.trans hkp.out.tape), hb56.output.trans (hk5.out.output.trans hkp.out.output), Nat.le_trans hkp.out.size (Nat.le_trans hk5.out.size hb56.size), fun z hz hf => (hb56.block z hz).trans (((hkp.out.trans hk5.out (fun _ _ e => e)).block z hz hf))⟩
            go_roundw
            case rel => exact ⟨m + 1, some ⟨g6, 0, none⟩, vn + 1, cap6, kn5, ks5, by simp, rfl, by show _ ≤ _; omega, HS6, HK6, hr6⟩
            case measure => simp [RowKit.intOf]; omega
          · have HTK := kidsU_no (i := i) hk (fun e => h1 e.2)
            have HN2 : Hid (T.RW ED (W.alloc (.cells #[.int .u8 0, .int .i64 0, .string ⟨#[]⟩, .bool false] 49)).heap.size wr (.slice va vn vc) ((kidsU (x.kids.take (m + 1)) i).map res)) := by rw [HTK]; exact hrw
            clear hk hc HTK
            go_wp2
            go_roundw
            case rel => exact ⟨m + 1, va, vn, vc, kn', ks', by simp, rfl, by show _ ≤ _; omega, hws, hkp, HN2⟩
            case measure => simp [RowKit.intOf]; omega
        · have HTK := kidsU_no (i := i) hk (fun e => h0 e.1)
          have HN2 : Hid (T.RW ED (W.alloc (.cells #[.int .u8 0, .int .i64 0, .string ⟨#[]⟩, .bool false] 49)).heap.size wr (.slice va vn vc) ((kidsU (x.kids.take (m + 1)) i).map res)) := by rw [HTK]; exact hrw
          clear hk hc HTK
          go_wp2
          go_roundw
          case rel => exact ⟨m + 1, va, vn, vc, kn', ks', by simp, rfl, by show _ ≤ _; omega, hws, hkp, HN2⟩
          case measure => simp [RowKit.intOf]; omega
      · obtain rfl : m = N := by have := hmN.out; omega
        have hnl : ¬ (m : Int) < (m : Int) := by omega
        obtain ⟨s1, s2, s3, s4, s5, s6, s7, s8, s9, s10, s11⟩ := HS.out wr hkp.out
        have k17 := HM.out wr.drew (.slice va vn vc) ((kidsU x.kids i).map res) hws.out.bel.drew (by have := hrw.out.read.below (Below.refl wr.heap.size wr).drew; rw [← HN.out, List.take_length] at this; exact this) (by rw [List.length_map]; exact Nat.le_trans (kidsU_len _ _) (by rw [HN.out]; have := HKS.out; omega))
        have hkd : Hid (T.Keep (FW q) (W.alloc (.cells #[.int .u8 0, .int .i64 0, .string ⟨#[]⟩, .bool false] 49)) wr.drew) := hkp.out.drew
        have HST : Hid (∀ (w5 : World) (r : Dm), Below wr.heap.size wr.drew w5 → (∃ o1 : Bool, w5.cell? ⟨q, i, none⟩ = some (.bool o1)) ∧ w5.frozen? ⟨q, i, none⟩ = false ∧ (∃ u, (w5.setCell ⟨q, i, none⟩ (.bool true)).cell? ⟨q + 2, i * 4, none⟩ = some u) ∧ (w5.setCell ⟨q, i, none⟩ (.bool true)).frozen? ⟨q + 2, i * 4, none⟩ = false ∧ (∃ u, ((w5.setCell ⟨q, i, none⟩ (.bool true)).setCell ⟨q + 2, i * 4, none⟩ (.int .u8 ((r).1.1 : Int))).cell? ⟨q + 2, i * 4 + 1, none⟩ = some u) ∧ ((w5.setCell ⟨q, i, none⟩ (.bool true)).setCell ⟨q + 2, i * 4, none⟩ (.int .u8 ((r).1.1 : Int))).frozen? ⟨q + 2, i * 4 + 1, none⟩ = false ∧ (∃ u, (((w5.setCell ⟨q, i, none⟩ (.bool true)).setCell ⟨q + 2, i * 4, none⟩ (.int .u8 ((r).1.1 : Int))).setCell ⟨q + 2, i * 4 + 1, none⟩ (.int .i64 (r).1.2.1)).cell? ⟨q + 2, i * 4 + 2, none⟩ = some u) ∧ (((w5.setCell ⟨q, i, none⟩ (.bool true)).setCell ⟨q + 2, i * 4, none⟩ (.int .u8 ((r).1.1 : Int))).setCell ⟨q + 2, i * 4 + 1, none⟩ (.int .i64 (r).1.2.1)).frozen? ⟨q + 2, i * 4 + 2, none⟩ = false ∧ (∃ u, ((((w5.setCell ⟨q, i, none⟩ (.bool true)).setCell ⟨q + 2, i * 4, none⟩ (.int .u8 ((r).1.1 : Int))).setCell ⟨q + 2, i * 4 + 1, none⟩ (.int .i64 (r).1.2.1)).setCell ⟨q + 2, i * 4 + 2, none⟩ (.string (str (r).1.2.2))).cell? ⟨q + 2, i * 4 + 3, none⟩ = some u) ∧ ((((w5.setCell ⟨q, i, none⟩ (.bool true)).setCell ⟨q + 2, i * 4, none⟩ (.int .u8 ((r).1.1 : Int))).setCell ⟨q + 2, i * 4 + 1, none⟩ (.int .i64 (r).1.2.1)).setCell ⟨q + 2, i * 4 + 2, none⟩ (.string (str (r).1.2.2))).frozen? ⟨q + 2, i * 4 + 3, none⟩ = false ∧ (((((w5.setCell ⟨q, i, none⟩ (.bool true)).setCell ⟨q + 2, i * 4, none⟩ (.int .u8 ((r).1.1 : Int))).setCell ⟨q + 2, i * 4 + 1, none⟩ (.int .i64 (r).1.2.1)).setCell ⟨q + 2, i * 4 + 2, none⟩ (.string (str (r).1.2.2))).setCell ⟨q + 2, i * 4 + 3, none⟩ (.bool (r).2)).cell? ⟨q + 2, i * 4, none⟩ = some (.int .u8 ((r).1.1 : Int)) ∧ (((((w5.setCell ⟨q, i, none⟩ (.bool true)).setCell ⟨q + 2, i * 4, none⟩ (.int .u8 ((r).1.1 : Int))).setCell ⟨q + 2, i * 4 + 1, none⟩ (.int .i64 (r).1.2.1)).setCell ⟨q + 2, i * 4 + 2, none⟩ (.string (str (r).1.2.2))).setCell ⟨q + 2, i * 4 + 3, none⟩ (.bool (r).2)).cell? ⟨q + 2, i * 4 + 1, none⟩ = some (.int .i64 (r).1.2.1) ∧ (((((w5.setCell ⟨q, i, none⟩ (.bool true)).setCell ⟨q + 2, i * 4, none⟩ (.int .u8 ((r).1.1 : Int))).setCell ⟨q + 2, i * 4 + 1, none⟩ (.int .i64 (r).1.2.1)).setCell ⟨q + 2, i * 4 + 2, none⟩ (.string (str (r).1.2.2))).setCell ⟨q + 2, i * 4 + 3, none⟩ (.bool (r).2)).cell? ⟨q + 2, i * 4 + 2, none⟩ = some (.string (str (r).1.2.2)) ∧ (((((w5.setCell ⟨q, i, none⟩ (.bool true)).setCell ⟨q + 2, i * 4, none⟩ (.int .u8 ((r).1.1 : Int))).setCell ⟨q + 2, i * 4 + 1, none⟩ (.int .i64 (r).1.2.1)).setCell ⟨q + 2, i * 4 + 2, none⟩ (.string (str (r).1.2.2))).setCell ⟨q + 2, i * 4 + 3, none⟩ (.bool (r).2)).cell? ⟨q + 2, i * 4 + 3, none⟩ = some (.bool (r).2) ∧ (∃ u, (((((w5.setCell ⟨q, i, none⟩ (.bool true)).setCell ⟨q + 2, i * 4, none⟩ (.int .u8 ((r).1.1 : Int))).setCell ⟨q + 2, i * 4 + 1, none⟩ (.int .i64 (r).1.2.1)).setCell ⟨q + 2, i * 4 + 2, none⟩ (.string (str (r).1.2.2))).setCell ⟨q + 2, i * 4 + 3, none⟩ (.bool (r).2)).cell? ⟨W.heap.size, 0, none⟩ = some u) ∧ (((((w5.setCell ⟨q, i, none⟩ (.bool true)).setCell ⟨q + 2, i * 4, none⟩ (.int .u8 ((r).1.1 : Int))).setCell ⟨q + 2, i * 4 + 1, none⟩ (.int .i64 (r).1.2.1)).setCell ⟨q + 2, i * 4 + 2, none⟩ (.string (str (r).1.2.2))).setCell ⟨q + 2, i * 4 + 3, none⟩ (.bool (r).2)).frozen? ⟨W.heap.size, 0, none⟩ = false ∧ (∃ u, ((((((w5.setCell ⟨q, i, none⟩ (.bool true)).setCell ⟨q + 2, i * 4, none⟩ (.int .u8 ((r).1.1 : Int))).setCell ⟨q + 2, i * 4 + 1, none⟩ (.int .i64 (r).1.2.1)).setCell ⟨q + 2, i * 4 + 2, none⟩ (.string (str (r).1.2.2))).setCell ⟨q + 2, i * 4 + 3, none⟩ (.bool (r).2)).setCell ⟨W.heap.size, 0, none⟩ (.int .u8 ((r).1.1 : Int))).cell? ⟨W.heap.size, 1, none⟩ = some u) ∧ ((((((w5.setCell ⟨q, i, none⟩ (.bool true)).setCell ⟨q + 2, i * 4, none⟩ (.int .u8 ((r).1.1 : Int))).setCell ⟨q + 2, i * 4 + 1, none⟩ (.int .i64 (r).1.2.1)).setCell ⟨q + 2, i * 4 + 2, none⟩ (.string (str (r).1.2.2))).setCell ⟨q + 2, i * 4 + 3, none⟩ (.bool (r).2)).setCell ⟨W.heap.size, 0, none⟩ (.int .u8 ((r).1.1 : Int))).frozen? ⟨W.heap.size, 1, none⟩ = false ∧ (∃ u, (((((((w5.setCell ⟨q, i, none⟩ (.bool true)).setCell ⟨q + 2, i * 4, none⟩ (.int .u8 ((r).1.1 : Int))).setCell ⟨q + 2, i * 4 + 1, none⟩ (.int .i64 (r).1.2.1)).setCell ⟨q + 2, i * 4 + 2, none⟩ (.string (str (r).1.2.2))).setCell ⟨q + 2, i * 4 + 3, none⟩ (.bool (r).2)).setCell ⟨W.heap.size, 0, none⟩ (.int .u8 ((r).1.1 : Int))).setCell ⟨W.heap.size, 1, none⟩ (.int .i64 (r).1.2.1)).cell? ⟨W.heap.size, 2, none⟩ = some u) ∧ (((((((w5.setCell ⟨q, i, none⟩ (.bool true)).setCell ⟨q + 2, i * 4, none⟩ (.int .u8 ((r).1.1 : Int))).setCell ⟨q + 2, i * 4 + 1, none⟩ (.int .i64 (r).1.2.1)).setCell ⟨q + 2, i * 4 + 2, none⟩ (.string (str (r).1.2.2))).setCell ⟨q + 2, i * 4 + 3, none⟩ (.bool (r).2)).setCell ⟨W.heap.size, 0, none⟩ (.int .u8 ((r).1.1 : Int))).setCell ⟨W.heap.size, 1, none⟩ (.int .i64 (r).1.2.1)).frozen? ⟨W.heap.size, 2, none⟩ = false ∧ (∃ u, ((((((((w5.setCell ⟨q, i, none⟩ (.bool true)).setCell ⟨q + 2, i * 4, none⟩ (.int .u8 ((r).1.1 : Int))).setCell ⟨q + 2, i * 4 + 1, none⟩ (.int .i64 (r).1.2.1)).setCell ⟨q + 2, i * 4 + 2, none⟩ (.string (str (r).1.2.2))).setCell ⟨q + 2, i * 4 + 3, none⟩ (.bool (r).2)).setCell ⟨W.heap.size, 0, none⟩ (.int .u8 ((r).1.1 : Int))).setCell ⟨W.heap.size, 1, none⟩ (.int .i64 (r).1.2.1)).setCell ⟨W.heap.size, 2, none⟩ (.string (str (r).1.2.2))).cell? ⟨W.heap.size, 3, none⟩ = some u) ∧ ((((((((w5.setCell ⟨q, i, none⟩ (.bool true)).setCell ⟨q + 2, i * 4, none⟩ (.int .u8 ((r).1.1 : Int))).setCell ⟨q + 2, i * 4 + 1, none⟩ (.int .i64 (r).1.2.1)).setCell ⟨q + 2, i * 4 + 2, none⟩ (.string (str (r).1.2.2))).setCell ⟨q + 2, i * 4 + 3, none⟩ (.bool (r).2)).setCell ⟨W.heap.size, 0, none⟩ (.int .u8 ((r).1.1 : Int))).setCell ⟨W.heap.size, 1, none⟩ (.int .i64 (r).1.2.1)).setCell ⟨W.heap.size, 2, none⟩ (.string (str (r).1.2.2))).frozen? ⟨W.heap.size, 3, none⟩ = false ∧ (((((((((w5.setCell ⟨q, i, none⟩ (.bool true)).setCell ⟨q + 2, i * 4, none⟩ (.int .u8 ((r).1.1 : Int))).setCell ⟨q + 2, i * 4 + 1, none⟩ (.int .i64 (r).1.2.1)).setCell ⟨q + 2, i * 4 + 2, none⟩ (.string (str (r).1.2.2))).setCell ⟨q + 2, i * 4 + 3, none⟩ (.bool (r).2)).setCell ⟨W.heap.size, 0, none⟩ (.int .u8 ((r).1.1 : Int))).setCell ⟨W.heap.size, 1, none⟩ (.int .i64 (r).1.2.1)).setCell ⟨W.heap.size, 2, none⟩ (.string (str (r).1.2.2))).setCell ⟨W.heap.size, 3, none⟩ (.bool (r).2)).cell? ⟨W.heap.size, 0, none⟩ = some (.int .u8 ((r).1.1 : Int)) ∧ (((((((((w5.setCell ⟨q, i, none⟩ (.bool true)).setCell ⟨q + 2, i * 4, none⟩ (.int .u8 ((r).1.1 : Int))).setCell ⟨q + 2, i * 4 + 1, none⟩ (.int .i64 (r).1.2.1)).setCell ⟨q + 2, i * 4 + 2, none⟩ (.string (str (r).1.2.2))).setCell ⟨q + 2, i * 4 + 3, none⟩ (.bool (r).2)).setCell ⟨W.heap.size, 0, none⟩ (.int .u8 ((r).1.1 : Int))).setCell ⟨W.heap.size, 1, none⟩ (.int .i64 (r).1.2.1)).setCell ⟨W.heap.size, 2, none⟩ (.string (str (r).1.2.2))).setCell ⟨W.heap.size, 3, none⟩ (.bool (r).2)).cell? ⟨W.heap.size, 1, none⟩ = some (.int .i64 (r).1.2.1) ∧ (((((((((w5.setCell ⟨q, i, none⟩ (.bool true)).setCell ⟨q + 2, i * 4, none⟩ (.int .u8 ((r).1.1 : Int))).setCell ⟨q + 2, i * 4 + 1, none⟩ (.int .i64 (r).1.2.1)).setCell ⟨q + 2, i * 4 + 2, none⟩ (.string (str (r).1.2.2))).setCell ⟨q + 2, i * 4 + 3, none⟩ (.bool (r).2)).setCell ⟨W.heap.size, 0, none⟩ (.int .u8 ((r).1.1 : Int))).setCell ⟨W.heap.size, 1, none⟩ (.int .i64 (r).1.2.1)).setCell ⟨W.heap.size, 2, none⟩ (.string (str (r).1.2.2))).setCell ⟨W.heap.size, 3, none⟩ (.bool (r).2)).cell? ⟨W.heap.size, 2, none⟩ = some (.string (str (r).1.2.2)) ∧ (((((((((w5.setCell ⟨q, i, none⟩ (.bool true)).setCell ⟨q + 2, i * 4, none⟩ (.int .u8 ((r).1.1 : Int))).setCell ⟨q + 2, i * 4 + 1, none⟩ (.int .i64 (r).1.2.1)).setCell ⟨q + 2, i * 4 + 2, none⟩ (.string (str (r).1.2.2))).setCell ⟨q + 2, i * 4 + 3, none⟩ (.bool (r).2)).setCell ⟨W.heap.size, 0, none⟩ (.int .u8 ((r).1.1 : Int))).setCell ⟨W.heap.size, 1, none⟩ (.int .i64 (r).1.2.1)).setCell ⟨W.heap.size, 2, none⟩ (.string (str (r).1.2.2))).setCell ⟨W.heap.size, 3, none⟩ (.bool (r).2)).cell? ⟨W.heap.size, 3, none⟩ = some (.bool (r).2) ∧ Hid (T.Blk (((((w5.setCell ⟨q, i, none⟩ (.bool true)).setCell ⟨q + 2, i * 4, none⟩ (.int .u8 ((r).1.1 : Int))).setCell ⟨q + 2, i * 4 + 1, none⟩ (.int .i64 (r).1.2.1)).setCell ⟨q + 2, i * 4 + 2, none⟩ (.string (str (r).1.2.2))).setCell ⟨q + 2, i * 4 + 3, none⟩ (.bool (r).2)) q ((kn'.set i true).map .bool) 4) ∧ Hid (T.Blk (((((w5.setCell ⟨q, i, none⟩ (.bool true)).setCell ⟨q + 2, i * 4, none⟩ (.int .u8 ((r).1.1 : Int))).setCell ⟨q + 2, i * 4 + 1, none⟩ (.int .i64 (r).1.2.1)).setCell ⟨q + 2, i * 4 + 2, none⟩ (.string (str (r).1.2.2))).setCell ⟨q + 2, i * 4 + 3, none⟩ (.bool (r).2)) (q + 2) (ED.cells (ks'.set i r)) 49) ∧ Hid (T.Keep (FW q) (W.alloc (.cells #[.int .u8 0, .int .i64 0, .string ⟨#[]⟩, .bool false] 49)) (w5.setCell ⟨q, i, none⟩ (.bool true))) ∧ Hid (T.Keep (FW q) (W.alloc (.cells #[.int .u8 0, .int .i64 0, .string ⟨#[]⟩, .bool false] 49)) (((((w5.setCell ⟨q, i, none⟩ (.bool true)).setCell ⟨q + 2, i * 4, none⟩ (.int .u8 ((r).1.1 : Int))).setCell ⟨q + 2, i * 4 + 1, none⟩ (.int .i64 (r).1.2.1)).setCell ⟨q + 2, i * 4 + 2, none⟩ (.string (str (r).1.2.2))).setCell ⟨q + 2, i * 4 + 3, none⟩ (.bool (r).2))) ∧ Hid (Below W.heap.size (((((w5.setCell ⟨q, i, none⟩ (.bool true)).setCell ⟨q + 2, i * 4, none⟩ (.int .u8 ((r).1.1 : Int))).setCell ⟨q + 2, i * 4 + 1, none⟩ (.int .i64 (r).1.2.1)).setCell ⟨q + 2, i * 4 + 2, none⟩ (.string (str (r).1.2.2))).setCell ⟨q + 2, i * 4 + 3, none⟩ (.bool (r).2)) (((((((((w5.setCell ⟨q, i, none⟩ (.bool true)).setCell ⟨q + 2, i * 4, none⟩ (.int .u8 ((r).1.1 : Int))).setCell ⟨q + 2, i * 4 + 1, none⟩ (.int .i64 (r).1.2.1)).setCell ⟨q + 2, i * 4 + 2, none⟩ (.string (str (r).1.2.2))).setCell ⟨q + 2, i * 4 + 3, none⟩ (.bool (r).2)).setCell ⟨W.heap.size, 0, none⟩ (.int .u8 ((r).1.1 : Int))).setCell ⟨W.heap.size, 1, none⟩ (.int .i64 (r).1.2.1)).setCell ⟨W.heap.size, 2, none⟩ (.string (str (r).1.2.2))).setCell ⟨W.heap.size, 3, none⟩ (.bool (r).2))) ∧ (((((w5.setCell ⟨q, i, none⟩ (.bool true)).setCell ⟨q + 2, i * 4, none⟩ (.int .u8 ((r).1.1 : Int))).setCell ⟨q + 2, i * 4 + 1, none⟩ (.int .i64 (r).1.2.1)).setCell ⟨q + 2, i * 4 + 2, none⟩ (.string (str (r).1.2.2))).setCell ⟨q + 2, i * 4 + 3, none⟩ (.bool (r).2)).cell? ⟨q + 3, 0, none⟩ = some (.slice (some ⟨q + 2, 0, none⟩) n n)) := fun w5 r B5 => by
          have hwd := hws.out.below (Below.refl wr.heap.size wr).drew
          have hk5 : T.Keep (FW q) (W.alloc (.cells #[.int .u8 0, .int .i64 0, .string ⟨#[]⟩, .bool false] 49)) w5 := hkd.out.trans (T.Keep.of B5) (fun _ _ e => e)
          have hlt := HLT.out
          have hb1 := hwd.bkb.below B5
          have hb2 := hwd.beb.below B5
          have hln := hws.out.ln
          have hle := hws.out.le
          have hb1' := hb1.set (o := i) (.bool true)
          have hb2' := hb2.other (p := ⟨q, i, none⟩) (by show q + 2 ≠ q; omega) (.bool true)
          obtain ⟨a0, a1, a2, a3, a4, a5, a6, a7, a8, a9, a10, a11, a12⟩ := bx4 hb2' (o := i * 4) (by rw [T.cells_len]; show _ ≤ _ * 4; omega) (.int .u8 ((r).1.1 : Int)) (.int .i64 (r).1.2.1) (.string (str (r).1.2.2)) (.bool (r).2)
          have kA : T.Keep (FW q) (W.alloc (.cells #[.int .u8 0, .int .i64 0, .string ⟨#[]⟩, .bool false] 49)) (w5.setCell ⟨q, i, none⟩ (.bool true)) := T.Keep.set hk5 (p := ⟨q, i, none⟩) (.inr (.inl rfl)) _
          have kB := T.Keep.set (T.Keep.set (T.Keep.set (T.Keep.set kA (p := ⟨q + 2, i * 4, none⟩) (.inr (.inr rfl)) (.int .u8 ((r).1.1 : Int))) (p := ⟨q + 2, i * 4 + 1, none⟩) (.inr (.inr rfl)) (.int .i64 (r).1.2.1)) (p := ⟨q + 2, i * 4 + 2, none⟩) (.inr (.inr rfl)) (.string (str (r).1.2.2))) (p := ⟨q + 2, i * 4 + 3, none⟩) (.inr (.inr rfl)) (.bool (r).2)
          have hRR := HRB.out _ kB
          obtain ⟨d0, d1, d2, d3, d4, d5, d6, d7, d8, d9, d10, d11, d12⟩ := bx4 hRR (o := 0) (by simp) (.int .u8 ((r).1.1 : Int)) (.int .i64 (r).1.2.1) (.string (str (r).1.2.2)) (.bool (r).2)
          simp only [Nat.zero_add] at d0 d1 d2 d3 d4 d5 d6 d7 d8 d9 d10 d11 d12
          have hb1q := (((hb1'.other (p := ⟨q + 2, i * 4, none⟩) (by show q ≠ q + 2; omega) (.int .u8 ((r).1.1 : Int))).other (p := ⟨q + 2, i * 4 + 1, none⟩) (by show q ≠ q + 2; omega) (.int .i64 (r).1.2.1)).other (p := ⟨q + 2, i * 4 + 2, none⟩) (by show q ≠ q + 2; omega) (.string (str (r).1.2.2))).other (p := ⟨q + 2, i * 4 + 3, none⟩) (by show q ≠ q + 2; omega) (.bool (r).2)
          rw [ED_set] at a8
          have e1 := hb1.cell i
          rw [List.getElem?_map, List.getElem?_eq_getElem (by omega)] at e1
          rw [← List.map_set] at hb1q
          have BR : Below W.heap.size (((((w5.setCell ⟨q, i, none⟩ (.bool true)).setCell ⟨q + 2, i * 4, none⟩ (.int .u8 ((r).1.1 : Int))).setCell ⟨q + 2, i * 4 + 1, none⟩ (.int .i64 (r).1.2.1)).setCell ⟨q + 2, i * 4 + 2, none⟩ (.string (str (r).1.2.2))).setCell ⟨q + 2, i * 4 + 3, none⟩ (.bool (r).2)) (((((((((w5.setCell ⟨q, i, none⟩ (.bool true)).setCell ⟨q + 2, i * 4, none⟩ (.int .u8 ((r).1.1 : Int))).setCell ⟨q + 2, i * 4 + 1, none⟩ (.int .i64 (r).1.2.1)).setCell ⟨q + 2, i * 4 + 2, none⟩ (.string (str (r).1.2.2))).setCell ⟨q + 2, i * 4 + 3, none⟩ (.bool (r).2)).setCell ⟨W.heap.size, 0, none⟩ (.int .u8 ((r).1.1 : Int))).setCell ⟨W.heap.size, 1, none⟩ (.int .i64 (r).1.2.1)).setCell ⟨W.heap.size, 2, none⟩ (.string (str (r).1.2.2))).setCell ⟨W.heap.size, 3, none⟩ (.bool (r).2)) := T.bset (T.bset (T.bset (T.bset (Below.refl W.heap.size _) (p := ⟨W.heap.size, 0, none⟩) (Nat.le_refl _) (.int .u8 ((r).1.1 : Int))) (p := ⟨W.heap.size, 1, none⟩) (Nat.le_refl _) (.int .i64 (r).1.2.1)) (p := ⟨W.heap.size, 2, none⟩) (Nat.le_refl _) (.string (str (r).1.2.2))) (p := ⟨W.heap.size, 3, none⟩) (Nat.le_refl _) (.bool (r).2)
          exact ⟨⟨_, e1⟩, hb1.frozen i, a0, a1, a2, a3, a4, a5, a6, a7, a9, a10, a11, a12, d0, d1, d2, d3, d4, d5, d6, d7, d9, d10, d11, d12, hb1q, a8, kA, kB, BR, (HS.out _ kB).2.1⟩
        obtain ⟨DD, hDD⟩ : ∃ DD, made x ((kidsU x.kids i).map res) = DD := ⟨_, rfl⟩
        rw [hDD] at k17
        have HRD : Hid (res i = DD) := HR.out.trans hDD
        clear hDD
        go_wp2_with fail
        go_region_held3 (fun W' => W'.cell? ⟨q + 1, 0, none⟩ = some (.slice (some ⟨q, 0, none⟩) n n) ∧ W'.cell? ⟨q + 3, 0, none⟩ = some (.slice (some ⟨q + 2, 0, none⟩) n n) ∧ W'.cell? ⟨b + 1, 0, none⟩ = some (mf17 x') ∧ W'.cell? ⟨b, 0, none⟩ = some (.slice (some ⟨g, o, none⟩) n uc) ∧ W'.cell? ⟨g, o + i * 7, none⟩ = some (.int .u8 (x.k : Int)) ∧ W'.cell? ⟨g, o + i * 7 + 1, none⟩ = some (.string (str x.col)) ∧ W'.cell? ⟨g, o + i * 7 + 2, none⟩ = some (.int .u8 (x.op : Int)) ∧ W'.cell? ⟨g, o + i * 7 + 3, none⟩ = some (.int .u8 (x.vk : Int)) ∧ W'.cell? ⟨g, o + i * 7 + 4, none⟩ = some (.int .i64 x.vn) ∧ W'.cell? ⟨g, o + i * 7 + 5, none⟩ = some (.string (str x.vt)) ∧ W'.cell? ⟨g, o + i * 7 + 6, none⟩ = some (.slice y1 m y3))
          ((refine HS.out _ ?_; first | (with_reducible exact hkd.out) | (with_reducible exact hk5.out) | (with_reducible exact z28.out) | (with_reducible exact z29.out)))
          ((go_at_call 17; (with_reducible refine k17.mono ?_); rintro e w5 ⟨rfl, B5⟩; have hk5 : Hid (T.Keep (FW q) (W.alloc (.cells #[.int .u8 0, .int .i64 0, .string ⟨#[]⟩, .bool false] 49)) w5) := hkd.out.trans (T.Keep.of B5) (fun _ _ e => e); have HB5 : Hid (Below wr.heap.size wr.drew w5) := B5; obtain ⟨⟨o1, z0⟩, z1, ⟨u2, z2⟩, z3, ⟨u4, z4⟩, z5, ⟨u6, z6⟩, z7, ⟨u8, z8⟩, z9, z10, z11, z12, z13, ⟨u14, z14⟩, z15, ⟨u16, z16⟩, z17, ⟨u18, z18⟩, z19, ⟨u20, z20⟩, z21, z22, z23, z24, z25, z26, z27, z28, z29, z30, z31⟩ := HST.out w5 DD B5; clear B5))
        go_wp2_with fail
        have hput : WD res W0 b q n (.slice (some ⟨g, o, none⟩) n uc) (mf17 x') (kn'.set i true) (ks'.set i (res i)) (((((w5.setCell ⟨q, i, none⟩ (.bool true)).setCell ⟨q + 2, i * 4, none⟩ (.int .u8 ((DD).1.1 : Int))).setCell ⟨q + 2, i * 4 + 1, none⟩ (.int .i64 (DD).1.2.1)).setCell ⟨q + 2, i * 4 + 2, none⟩ (.string (str (DD).1.2.2))).setCell ⟨q + 2, i * 4 + 3, none⟩ (.bool (DD).2)) := by
          refine (hws.out.below (W' := w5) ((Below.refl _ _).drew.trans HB5.out)).put (k := ?_) z26.out ?_
          · exact T.Keep.set (T.Keep.set (T.Keep.set (T.Keep.set (T.Keep.set (T.Keep.refl _ _) (p := ⟨q, i, none⟩) (.inr (.inl rfl)) _) (p := ⟨q + 2, i * 4, none⟩) (.inr (.inr rfl)) _) (p := ⟨q + 2, i * 4 + 1, none⟩) (.inr (.inr rfl)) _) (p := ⟨q + 2, i * 4 + 2, none⟩) (.inr (.inr rfl)) _) (p := ⟨q + 2, i * 4 + 3, none⟩) (.inr (.inr rfl)) _
          · rw [HRD.out]
            exact z27.out
        rw [HRD.out]
        refine bodyPost_ret (v := dmV DD) (by simp [results, Tryd.results29, go_sem, z22, z23, z24, z25]) rfl ⟨rfl, ⟨_, _, hput.under HLT.out z30.out⟩, ?_⟩
        exact ((T.Keep.of HB1.out).trans z29.out (fun _ _ e => e)).trans (T.Keep.of2 (F := fun i => W.heap.size ≤ i) z30.out (fun _ _ e => e)) (fun i hi e => absurd hi (by omega))
  · have hr : ksi = res i := by
      have := h.ok i hkn
      rw [hks] at this
      exact Option.some.inj this
    subst hr
    obtain ⟨DD, hDD⟩ : ∃ DD, res i = DD := ⟨_, rfl⟩
    have hlt := h.blk.lt
    have hke := h.beb.below hal
    have hget := fun j (hj : j < 4) => (hke.cell (i * 4 + j)).trans (T.cells_get ED hks (j := j) hj)
    have q0 : (W.alloc (.cells #[.int .u8 0, .int .i64 0, .string ⟨#[]⟩, .bool false] 49)).cell? ⟨q + 2, i * 4, none⟩ = some (.int .u8 ((DD).1.1 : Int)) := by rw [← hDD]; exact hget 0 (by decide)
    have q1 : (W.alloc (.cells #[.int .u8 0, .int .i64 0, .string ⟨#[]⟩, .bool false] 49)).cell? ⟨q + 2, i * 4 + 1, none⟩ = some (.int .i64 (DD).1.2.1) := by rw [← hDD]; exact hget 1 (by decide)
    have q2 : (W.alloc (.cells #[.int .u8 0, .int .i64 0, .string ⟨#[]⟩, .bool false] 49)).cell? ⟨q + 2, i * 4 + 2, none⟩ = some (.string (str (DD).1.2.2)) := by rw [← hDD]; exact hget 2 (by decide)
    have q3 : (W.alloc (.cells #[.int .u8 0, .int .i64 0, .string ⟨#[]⟩, .bool false] 49)).cell? ⟨q + 2, i * 4 + 3, none⟩ = some (.bool (DD).2) := by rw [← hDD]; exact hget 3 (by decide)
    rw [hDD]
    obtain ⟨⟨u0, d0⟩, d1, ⟨u2, d2⟩, d3, ⟨u4, d4⟩, d5, ⟨u6, d6⟩, d7, d8, d9, d10, d11, d12⟩ := bx4 hR (o := 0) (by simp) (.int .u8 ((DD).1.1 : Int)) (.int .i64 (DD).1.2.1) (.string (str (DD).1.2.2)) (.bool (DD).2)
    simp only [Nat.zero_add] at d0 d1 d2 d3 d4 d5 d6 d7 d8 d9 d10 d11 d12
    have kb1 := (h.below hal).bkb.cell i
    have kv1 := (h.below hal).bkv.cell 0
    have ev1 := (h.below hal).bev.cell 0
    rw [List.getElem?_map, hkn] at kb1
    simp only [Option.map_some, List.getElem?_cons_zero] at kb1 kv1 ev1
    have HS : Hid (WD res W0 b q n (.slice (some ⟨g, o, none⟩) n uc) (mf17 x') kn ks W) := h
    have HBB : Hid (Below W.heap.size W (W.alloc (.cells #[.int .u8 ((DD).1.1 : Int), .int .i64 (DD).1.2.1, .string (str (DD).1.2.2), .bool (DD).2] 49))) := T.al W _
    clear ih hm hcs hk hres hyl hxr hx hkn hks h p0 p1 p2 p3 p4 p5 p6 hxk hDD hget hke hal hR d8 d9 d10 d11 d12 kb kv ev hlt
    go_enter Tryd.func29, Tryd.ntmps29
    go_wp2
    refine bodyPost_ret (v := dmV DD) (by simp [results, Tryd.results29, go_sem]) rfl ⟨rfl, ⟨_, _, HS.out.below HBB.out⟩, T.Keep.of HBB.out⟩
end
end Go.Proofs.YtipnaphikbjhbaaDoor
/-! ### What the last part comes to: a value that a column must have. -/
namespace Go.Proofs.YtipnaphikbjhbaaDoor
open Go.RowKit
set_option maxRecDepth 100000
theorem w7_below {α : Type} {E : T.Ety α} {z0 : α} {tl : TypeId} {w : World} {q n : Nat} {lf : Value} : Below w.heap.size w (w7 E z0 tl w q n lf) := bmore (bmore (bmore (bmore (T.al _ _) (T.al _ _)) (T.al _ _)) (T.al _ _)) (T.al _ _)
def dm0 : Dm := ((0, 0, []), false)
set_option maxHeartbeats 4000000 in
theorem whole16 {w : World} {u : Value} {cs : List Cd} {made : Cd → List Dm → Dm} {x' : Nat} (hm : MadeD w x' made) (hcs : LC w u cs) (h0 : 0 < cs.length) (hn : cs.length ≤ 1000) (hk : ∀ x ∈ cs, x.kids.length + 1 ≤ 3000000000000) :
    Calls Tryd.prog 16 #[u, mf17 x'] w fun e w' => e = .returned (dmV (resN made dm0 cs (cs.length - 1))) ∧ Below w.heap.size w w' := by
  obtain ⟨ua, uc, rfl⟩ := hcs.form
  have L29 := fun (b q : Nat) => look29 (b := b) (q := q) (res := resN made dm0 cs) hm hcs rfl hk (fun i x hx => resN_of made dm0 cs hx)
  generalize cs.length = n at *
  have a1 := T.al w (.cells #[.slice ua n uc] 22)
  have a2 := T.al (w.alloc (.cells #[.slice ua n uc] 22)) (.cells #[mf17 x'] 57)
  have a3 := T.al ((w.alloc (.cells #[.slice ua n uc] 22)).alloc (.cells #[mf17 x'] 57)) (.cells #[.int .u8 0, .int .i64 0, .string ⟨#[]⟩, .bool false] 49)
  have hR := T.blk_at ((w.alloc (.cells #[.slice ua n uc] 22)).alloc (.cells #[mf17 x'] 57)) [.int .u8 0, .int .i64 0, .string ⟨#[]⟩, .bool false] 49 (g := w.heap.size + 1 + 1) (by simp)
  obtain ⟨g3, g4, g5⟩ := w7_ok (E := ED) (z0 := dm0) (tl := 73) (tm := 57) (res := resN made dm0 cs) (W0 := w) (w := (((w.alloc (.cells #[.slice ua n uc] 22)).alloc (.cells #[mf17 x'] 57)).alloc (.cells #[.int .u8 0, .int .i64 0, .string ⟨#[]⟩, .bool false] 49))) (b := w.heap.size) (q := w.heap.size + 1 + 1 + 1) (n := n) (u := .slice ua n uc) (mf := mf17 x') (lf29 w.heap.size (w.heap.size + 1 + 1 + 1)) (bmore (bmore a1 a2) a3) (Nat.le_refl _) (by omega) (by simp) (((T.blk_new w [.slice ua n uc] 22).below a2).below a3) ((T.blk_at (w.alloc (.cells #[.slice ua n uc] 22)) [mf17 x'] 57 (by simp)).below a3)
  have k29 := L29 w.heap.size (w.heap.size + 1 + 1 + 1) (n - 1) (by omega) _ _ _ g3
  have hn1 : ((n - 1 : Nat) : Int) = (n : Int) - 1 := by omega
  rw [hn1] at k29
  have hw1 : IntKind.i64.wrap ((n : Int) - 1) = (n : Int) - 1 := wrap_small _ (by omega) (by omega)
  have c4 : ((((((((w.alloc (.cells #[.slice ua n uc] 22)).alloc (.cells #[mf17 x'] 57)).alloc (.cells #[.int .u8 0, .int .i64 0, .string ⟨#[]⟩, .bool false] 49)).alloc (.cells (EO.cells (List.replicate n false)).toArray EO.tE)).alloc (.cells #[.slice (some ⟨w.heap.size + 1 + 1 + 1, 0, none⟩) n n] 65)).alloc (.cells (ED.cells (List.replicate n dm0)).toArray ED.tE)).alloc (.cells #[.slice (some ⟨w.heap.size + 1 + 1 + 1 + 1 + 1, 0, none⟩) n n] 55)).alloc (.cells #[.func (.func 29) #[] #[.pointer (some ⟨w.heap.size + 1 + 1 + 1 + 1, 0, none⟩), .pointer (some ⟨w.heap.size + 1 + 1 + 1 + 1 + 1 + 1, 0, none⟩), .pointer (some ⟨w.heap.size, 0, none⟩), .pointer (some ⟨w.heap.size + 1 + 1 + 1 + 1 + 1 + 1 + 1, 0, none⟩), .pointer (some ⟨w.heap.size + 1, 0, none⟩)]] 73)).cell? ⟨w.heap.size + 1 + 1 + 1 + 1 + 1 + 1 + 1, 0, none⟩ = some (.func (.func 29) #[] #[.pointer (some ⟨w.heap.size + 1 + 1 + 1 + 1, 0, none⟩), .pointer (some ⟨w.heap.size + 1 + 1 + 1 + 1 + 1 + 1, 0, none⟩), .pointer (some ⟨w.heap.size, 0, none⟩), .pointer (some ⟨w.heap.size + 1 + 1 + 1 + 1 + 1 + 1 + 1, 0, none⟩), .pointer (some ⟨w.heap.size + 1, 0, none⟩)]) := g4
  have c5 : ((((((((w.alloc (.cells #[.slice ua n uc] 22)).alloc (.cells #[mf17 x'] 57)).alloc (.cells #[.int .u8 0, .int .i64 0, .string ⟨#[]⟩, .bool false] 49)).alloc (.cells (EO.cells (List.replicate n false)).toArray EO.tE)).alloc (.cells #[.slice (some ⟨w.heap.size + 1 + 1 + 1, 0, none⟩) n n] 65)).alloc (.cells (ED.cells (List.replicate n dm0)).toArray ED.tE)).alloc (.cells #[.slice (some ⟨w.heap.size + 1 + 1 + 1 + 1 + 1, 0, none⟩) n n] 55)).alloc (.cells #[.func (.func 29) #[] #[.pointer (some ⟨w.heap.size + 1 + 1 + 1 + 1, 0, none⟩), .pointer (some ⟨w.heap.size + 1 + 1 + 1 + 1 + 1 + 1, 0, none⟩), .pointer (some ⟨w.heap.size, 0, none⟩), .pointer (some ⟨w.heap.size + 1 + 1 + 1 + 1 + 1 + 1 + 1, 0, none⟩), .pointer (some ⟨w.heap.size + 1, 0, none⟩)]] 73)).cell? ⟨w.heap.size, 0, none⟩ = some (.slice ua n uc) := g5
  have k29' : Calls Tryd.prog 29 #[.int .i64 ((n : Int) - 1), .pointer (some ⟨w.heap.size + 1 + 1 + 1 + 1, 0, none⟩), .pointer (some ⟨w.heap.size + 1 + 1 + 1 + 1 + 1 + 1, 0, none⟩), .pointer (some ⟨w.heap.size, 0, none⟩), .pointer (some ⟨w.heap.size + 1 + 1 + 1 + 1 + 1 + 1 + 1, 0, none⟩), .pointer (some ⟨w.heap.size + 1, 0, none⟩)] ((((((((w.alloc (.cells #[.slice ua n uc] 22)).alloc (.cells #[mf17 x'] 57)).alloc (.cells #[.int .u8 0, .int .i64 0, .string ⟨#[]⟩, .bool false] 49)).alloc (.cells (EO.cells (List.replicate n false)).toArray EO.tE)).alloc (.cells #[.slice (some ⟨w.heap.size + 1 + 1 + 1, 0, none⟩) n n] 65)).alloc (.cells (ED.cells (List.replicate n dm0)).toArray ED.tE)).alloc (.cells #[.slice (some ⟨w.heap.size + 1 + 1 + 1 + 1 + 1, 0, none⟩) n n] 55)).alloc (.cells #[.func (.func 29) #[] #[.pointer (some ⟨w.heap.size + 1 + 1 + 1 + 1, 0, none⟩), .pointer (some ⟨w.heap.size + 1 + 1 + 1 + 1 + 1 + 1, 0, none⟩), .pointer (some ⟨w.heap.size, 0, none⟩), .pointer (some ⟨w.heap.size + 1 + 1 + 1 + 1 + 1 + 1 + 1, 0, none⟩), .pointer (some ⟨w.heap.size + 1, 0, none⟩)]] 73)) _ := k29
  have hRW : T.Blk ((((((((w.alloc (.cells #[.slice ua n uc] 22)).alloc (.cells #[mf17 x'] 57)).alloc (.cells #[.int .u8 0, .int .i64 0, .string ⟨#[]⟩, .bool false] 49)).alloc (.cells (EO.cells (List.replicate n false)).toArray EO.tE)).alloc (.cells #[.slice (some ⟨w.heap.size + 1 + 1 + 1, 0, none⟩) n n] 65)).alloc (.cells (ED.cells (List.replicate n dm0)).toArray ED.tE)).alloc (.cells #[.slice (some ⟨w.heap.size + 1 + 1 + 1 + 1 + 1, 0, none⟩) n n] 55)).alloc (.cells #[.func (.func 29) #[] #[.pointer (some ⟨w.heap.size + 1 + 1 + 1 + 1, 0, none⟩), .pointer (some ⟨w.heap.size + 1 + 1 + 1 + 1 + 1 + 1, 0, none⟩), .pointer (some ⟨w.heap.size, 0, none⟩), .pointer (some ⟨w.heap.size + 1 + 1 + 1 + 1 + 1 + 1 + 1, 0, none⟩), .pointer (some ⟨w.heap.size + 1, 0, none⟩)]] 73)) (w.heap.size + 1 + 1) [.int .u8 0, .int .i64 0, .string ⟨#[]⟩, .bool false] 49 := hR.below (w7_below (E := ED) (z0 := dm0) (tl := 73) (w := (((w.alloc (.cells #[.slice ua n uc] 22)).alloc (.cells #[mf17 x'] 57)).alloc (.cells #[.int .u8 0, .int .i64 0, .string ⟨#[]⟩, .bool false] 49))) (q := w.heap.size + 1 + 1 + 1) (n := n) (lf := lf29 w.heap.size (w.heap.size + 1 + 1 + 1)))
  obtain ⟨DD, hDD⟩ : ∃ DD, resN made dm0 cs (n - 1) = DD := ⟨_, rfl⟩
  rw [hDD] at k29' ⊢
  have HF : Hid (∀ w9, T.Keep (FW (w.heap.size + 1 + 1 + 1)) ((((((((w.alloc (.cells #[.slice ua n uc] 22)).alloc (.cells #[mf17 x'] 57)).alloc (.cells #[.int .u8 0, .int .i64 0, .string ⟨#[]⟩, .bool false] 49)).alloc (.cells (EO.cells (List.replicate n false)).toArray EO.tE)).alloc (.cells #[.slice (some ⟨w.heap.size + 1 + 1 + 1, 0, none⟩) n n] 65)).alloc (.cells (ED.cells (List.replicate n dm0)).toArray ED.tE)).alloc (.cells #[.slice (some ⟨w.heap.size + 1 + 1 + 1 + 1 + 1, 0, none⟩) n n] 55)).alloc (.cells #[.func (.func 29) #[] #[.pointer (some ⟨w.heap.size + 1 + 1 + 1 + 1, 0, none⟩), .pointer (some ⟨w.heap.size + 1 + 1 + 1 + 1 + 1 + 1, 0, none⟩), .pointer (some ⟨w.heap.size, 0, none⟩), .pointer (some ⟨w.heap.size + 1 + 1 + 1 + 1 + 1 + 1 + 1, 0, none⟩), .pointer (some ⟨w.heap.size + 1, 0, none⟩)]] 73)) w9 → Below w.heap.size w w9 → ((∃ u, w9.cell? ⟨w.heap.size + 1 + 1, 0, none⟩ = some u) ∧ w9.frozen? ⟨w.heap.size + 1 + 1, 0, none⟩ = false ∧ (∃ u, (w9.setCell ⟨w.heap.size + 1 + 1, 0, none⟩ (.int .u8 ((DD).1.1 : Int))).cell? ⟨w.heap.size + 1 + 1, 1, none⟩ = some u) ∧ (w9.setCell ⟨w.heap.size + 1 + 1, 0, none⟩ (.int .u8 ((DD).1.1 : Int))).frozen? ⟨w.heap.size + 1 + 1, 1, none⟩ = false ∧ (∃ u, ((w9.setCell ⟨w.heap.size + 1 + 1, 0, none⟩ (.int .u8 ((DD).1.1 : Int))).setCell ⟨w.heap.size + 1 + 1, 1, none⟩ (.int .i64 (DD).1.2.1)).cell? ⟨w.heap.size + 1 + 1, 2, none⟩ = some u) ∧ ((w9.setCell ⟨w.heap.size + 1 + 1, 0, none⟩ (.int .u8 ((DD).1.1 : Int))).setCell ⟨w.heap.size + 1 + 1, 1, none⟩ (.int .i64 (DD).1.2.1)).frozen? ⟨w.heap.size + 1 + 1, 2, none⟩ = false ∧ (∃ u, (((w9.setCell ⟨w.heap.size + 1 + 1, 0, none⟩ (.int .u8 ((DD).1.1 : Int))).setCell ⟨w.heap.size + 1 + 1, 1, none⟩ (.int .i64 (DD).1.2.1)).setCell ⟨w.heap.size + 1 + 1, 2, none⟩ (.string (str (DD).1.2.2))).cell? ⟨w.heap.size + 1 + 1, 3, none⟩ = some u) ∧ (((w9.setCell ⟨w.heap.size + 1 + 1, 0, none⟩ (.int .u8 ((DD).1.1 : Int))).setCell ⟨w.heap.size + 1 + 1, 1, none⟩ (.int .i64 (DD).1.2.1)).setCell ⟨w.heap.size + 1 + 1, 2, none⟩ (.string (str (DD).1.2.2))).frozen? ⟨w.heap.size + 1 + 1, 3, none⟩ = false ∧ ((((w9.setCell ⟨w.heap.size + 1 + 1, 0, none⟩ (.int .u8 ((DD).1.1 : Int))).setCell ⟨w.heap.size + 1 + 1, 1, none⟩ (.int .i64 (DD).1.2.1)).setCell ⟨w.heap.size + 1 + 1, 2, none⟩ (.string (str (DD).1.2.2))).setCell ⟨w.heap.size + 1 + 1, 3, none⟩ (.bool (DD).2)).cell? ⟨w.heap.size + 1 + 1, 0, none⟩ = some (.int .u8 ((DD).1.1 : Int)) ∧ ((((w9.setCell ⟨w.heap.size + 1 + 1, 0, none⟩ (.int .u8 ((DD).1.1 : Int))).setCell ⟨w.heap.size + 1 + 1, 1, none⟩ (.int .i64 (DD).1.2.1)).setCell ⟨w.heap.size + 1 + 1, 2, none⟩ (.string (str (DD).1.2.2))).setCell ⟨w.heap.size + 1 + 1, 3, none⟩ (.bool (DD).2)).cell? ⟨w.heap.size + 1 + 1, 1, none⟩ = some (.int .i64 (DD).1.2.1) ∧ ((((w9.setCell ⟨w.heap.size + 1 + 1, 0, none⟩ (.int .u8 ((DD).1.1 : Int))).setCell ⟨w.heap.size + 1 + 1, 1, none⟩ (.int .i64 (DD).1.2.1)).setCell ⟨w.heap.size + 1 + 1, 2, none⟩ (.string (str (DD).1.2.2))).setCell ⟨w.heap.size + 1 + 1, 3, none⟩ (.bool (DD).2)).cell? ⟨w.heap.size + 1 + 1, 2, none⟩ = some (.string (str (DD).1.2.2)) ∧ ((((w9.setCell ⟨w.heap.size + 1 + 1, 0, none⟩ (.int .u8 ((DD).1.1 : Int))).setCell ⟨w.heap.size + 1 + 1, 1, none⟩ (.int .i64 (DD).1.2.1)).setCell ⟨w.heap.size + 1 + 1, 2, none⟩ (.string (str (DD).1.2.2))).setCell ⟨w.heap.size + 1 + 1, 3, none⟩ (.bool (DD).2)).cell? ⟨w.heap.size + 1 + 1, 3, none⟩ = some (.bool (DD).2)) ∧ Hid (Below w.heap.size w ((((w9.setCell ⟨w.heap.size + 1 + 1, 0, none⟩ (.int .u8 ((DD).1.1 : Int))).setCell ⟨w.heap.size + 1 + 1, 1, none⟩ (.int .i64 (DD).1.2.1)).setCell ⟨w.heap.size + 1 + 1, 2, none⟩ (.string (str (DD).1.2.2))).setCell ⟨w.heap.size + 1 + 1, 3, none⟩ (.bool (DD).2)))) := fun w9 k9 b9 => by
    have hb := hRW.keep k9 (by unfold FW; omega)
    obtain ⟨⟨u0, d0⟩, d1, ⟨u2, d2⟩, d3, ⟨u4, d4⟩, d5, ⟨u6, d6⟩, d7, d8, d9, d10, d11, d12⟩ := bx4 hb (o := 0) (by simp) (.int .u8 ((DD).1.1 : Int)) (.int .i64 (DD).1.2.1) (.string (str (DD).1.2.2)) (.bool (DD).2)
    simp only [Nat.zero_add] at d0 d1 d2 d3 d4 d5 d6 d7 d8 d9 d10 d11 d12
    exact ⟨⟨⟨u0, d0⟩, d1, ⟨u2, d2⟩, d3, ⟨u4, d4⟩, d5, ⟨u6, d6⟩, d7, d9, d10, d11, d12⟩, T.bset (T.bset (T.bset (T.bset b9 (p := ⟨w.heap.size + 1 + 1, 0, none⟩) (show w.heap.size ≤ w.heap.size + 1 + 1 by omega) _) (p := ⟨w.heap.size + 1 + 1, 1, none⟩) (show w.heap.size ≤ w.heap.size + 1 + 1 by omega) _) (p := ⟨w.heap.size + 1 + 1, 2, none⟩) (show w.heap.size ≤ w.heap.size + 1 + 1 by omega) _) (p := ⟨w.heap.size + 1 + 1, 3, none⟩) (show w.heap.size ≤ w.heap.size + 1 + 1 by omega) _⟩
  clear g3 g4 g5 a1 a2 a3 hm hcs hk L29 k29 hR hRW hDD
  go_enter Tryd.func16, Tryd.ntmps16
  go_wp2_with (first
    | (at_make; refine wpList_mk EO false rfl rfl (.tmp 9) (.tmp 9) 65 rfl rfl n rfl rfl (by omega) ?_)
    | (at_make; refine wpList_mk ED dm0 rfl rfl (.tmp 12) (.tmp 12) 55 rfl rfl n rfl rfl (by omega) ?_)
    | (go_at_call 29; (refine Calls.mono k29' ?_; rintro e w9 ⟨rfl, ⟨kn9, ks9, h9⟩, hk9⟩; obtain ⟨⟨⟨u0, d0⟩, d1, ⟨u2, d2⟩, d3, ⟨u4, d4⟩, d5, ⟨u6, d6⟩, d7, d9, d10, d11, d12⟩, d13⟩ := HF.out w9 hk9 h9.bel; clear h9 hk9)))
  exact bodyPost_ret (v := dmV DD) (by simp [results, Tryd.results16, go_sem, d9, d10, d11, d12]) rfl ⟨rfl, d13.out⟩
end Go.Proofs.YtipnaphikbjhbaaDoor
