/- The document's Write. -/
import Derived.Test.YtnganmekiloigaaRw
namespace Go.Proofs.Ytnganmekiloigaa
open Go.RowKit
set_option maxRecDepth 100000
variable {W : World} {r : Nat} {lv xv : Value} {D : Dk}

/-- What a deed on the document's disk leaves. -/
def RLeft (W : World) (r : Nat) (lv xv : Value) (D' : Dk) (w' : World) : Prop := ∃ lv' xv', RD w' r lv' xv' D' ∧ Keep (fun k => k = r) W w' ∧ (∀ k, rfoot r lv' xv' k → rfoot r lv xv k ∨ W.heap.size ≤ k)
theorem RLeft.same {w' : World} {D' : Dk} (h : RD w' r lv xv D') (hk : Keep (fun k => k = r) W w') : RLeft W r lv xv D' w' := ⟨lv, xv, h, hk, fun _ h => .inl h⟩

theorem splice_next {cs cb : List Value} {m : Nat} (hcs : cs.length = 65) (hcb : cb.length ≤ 64) {u : Value} (hu : cb[m]? = some u) : (splice cs 1 (cb.take m)).set (1 + m) u = splice cs 1 (cb.take (m + 1)) := by
  have hm := List.getElem?_eq_some_iff.1 hu
  have hm1 := hm.1
  have e : cb.take (m + 1) = cb.take m ++ [u] := by rw [List.take_succ_eq_append_getElem hm.1, hm.2]
  have hl : (cb.take m).length = m := by rw [List.length_take]; omega
  rw [e, ← splice_snoc cs 1 (cb.take m) u (by omega), hl]

set_option maxHeartbeats 4000000 in
theorem rwrite60_yes (h : RD W r lv xv D) (i : Nat) (v : Value) (l : Bs) (hi : i < D.secs.length) (hv : SB W v l) (hvf : ∀ a n c, v = .slice (some a) n c → 0 < l.length → a.block ≠ r) (hn : l.length ≤ 64) (hw : D.wait.length ≤ 1000)
    (ho : D.off = false) (hsp : D.spend.1 = true) :
    Calls Try.prog 60 #[.pointer (some ⟨r, 0, none⟩), .int .i64 (i : Int), v] W fun e w' => e = .returned (.int .i64 0) ∧ RLeft W r lv xv { D.spend.2 with wait := D.spend.2.wait ++ [(i, pad l)] } w' := by
  have c87 := rspend87 h
  rw [hsp] at c87
  obtain ⟨L, hx, hL⟩ := h.dx
  have x4 := hx.c4
  rw [ho] at x4
  have x0 := hx.c0
  obtain ⟨lg, lc, rfl, hlS, hlg, hlr⟩ := h.secs
  have hi1 : ¬ ((i : Int) < 0) := by omega
  have hi2 : ¬ ((D.secs.length : Int) ≤ (i : Int)) := by omega
  obtain ⟨va, vc, rfl, hf⟩ := hv.form
  have hn' : ¬ ((64 : Int) < (l.length : Int)) := by omega
  have HF : Hid (0 < l.length → ∃ b o, va = some ⟨b, o, none⟩ ∧ At W b o l ∧ b ≠ r) := fun h0 => by
    obtain ⟨b, o, e, h2⟩ := hf h0
    exact ⟨b, o, e, h2, hvf ⟨b, o, none⟩ l.length vc (by rw [e]) h0⟩
  have hw1 : D.spend.2.wait.length ≤ 1000 := by rw [(spend_secs D).2.1]; exact hw
  have hs1 : i < D.spend.2.secs.length := by rw [(spend_secs D).1]; exact hi
  generalize D.spend.2 = D1 at *
  obtain ⟨cs, hcs⟩ : ∃ cs, cellW i Z64 = cs := ⟨_, rfl⟩
  obtain ⟨cb, hcb⟩ : ∃ cb, cellsB l = cb := ⟨_, rfl⟩
  have hcs1 : cs.length = 65 := by rw [← hcs, cellW_length Z64_length]
  have hcs2 : ∀ v ∈ cs, v.oneCell' = true := by rw [← hcs]; exact cellW_one _ _
  have hcb1 : cb.length = l.length := by rw [← hcb, cellsB_length]
  have hz := z105_set i
  rw [hcs] at hz
  have HZ : Hid (Try.zeroCells105.setIfInBounds 0 (.int .i64 (i : Int)) = cs.toArray) := hz
  have HS : Hid (splice cs 1 cb = cellW i (pad l)) := by show _ = _; rw [← hcs, ← hcb]; exact splice_pad i l
  have HC : Hid (cellsB l = cb) := hcb
  have hzl : (cellW 0 Z64).length = 65 := cellW_length Z64_length
  have hzi : (Try.prog.info? 105).map (fun i => (i.zero, i.size, i.bytes)) = some (some (.agg (cellW 0 Z64).toArray), 65, 72) := by rw [← z105]; exact info105z
  have hci : (Try.prog.info? 105).map (·.size) = some cs.length := by rw [hcs1]; exact info105s
  generalize cellW 0 Z64 = z0 at *
  have HR : Hid (r < W.heap.size) := h.rlt
  clear hz hcs hcb hf hvf hv h hx hL ho hsp hlS hi
  go_enter Try.func60, Try.ntmps60
  go_wp2_with (first
    | (go_at_call 87; (refine c87.mono ?_; rintro e w2 ⟨rfl, hp2, hk2⟩))
    | (refine wpList_alloc_row rfl 105 rfl z0 hzi ?_; intro w3 hb3 hB3 hs3)
    | (refine wpList_store_whole rfl 105 (.tmp 7) (.tmp 38) rfl w2.heap.size cs rfl (congrArg Value.agg HZ.out) z0 105 hb3 (by omega) hci hcs2 ?_; intro w4 hb4 hk4 hs4))
  have hB4 : Below w2.heap.size w2 w4 := hB3.trans (hk4.below (by omega) (fun i e => by omega))
  clear hb3 hB3 hs3 hk4 hs4
  go_loopw [8] (fun p wr => ∃ m : Nat, m ≤ l.length ∧ p = .int .i64 (m : Int) ∧ Blk wr w2.heap.size (splice cs 1 (cb.take m)) 105 ∧ Below w2.heap.size w2 wr) (fun p _ => l.length - (intOf p).toNat)
  case atStart => exact ⟨0, by omega, rfl, by rw [List.take_zero, show splice cs 1 [] = cs by simp only [splice, List.nil_append, List.length_nil, Nat.add_zero, List.take_append_drop]]; exact hb4, hB4⟩
  case round =>
    obtain ⟨m, hm, rfl, hbm, hBm⟩ := hrel
    by_cases hlt : m < l.length
    · have hlt1 : (m : Int) < (l.length : Int) := by omega
      obtain ⟨b, o, rfl, hat, hbr⟩ := HF.out (by omega)
      have hc := hat m hlt
      have hbl := World.block_lt_of_cell? _ _ hc
      have hc2 : wr.cell? ⟨b, o + m, none⟩ = some (.int .u8 ((l.getD m 0).toNat : Int)) := (hBm.cell (p := ⟨b, o + m, none⟩) (Nat.lt_of_lt_of_le hbl hk2.size)).trans ((World.cell?_of_block (a := ⟨b, o + m, none⟩) (hk2.block b hbl hbr)).trans hc)
      have hu : cb[m]? = some (.int .u8 ((l.getD m 0).toNat : Int)) := by rw [← HC.out]; exact cellsB_get l m hlt
      have hsl : (splice cs 1 (cb.take m)).length = 65 := by simp [splice]; omega
      have hbn := hbm.set (o := 1 + m) (.int .u8 ((l.getD m 0).toNat : Int))
      rw [splice_next hcs1 (by omega) hu] at hbn
      have hc3 : wr.cell? ⟨w2.heap.size, 1 + m, none⟩ = some ((splice cs 1 (cb.take m))[1 + m]'(by omega)) := (hbm.cell (1 + m)).trans (List.getElem?_eq_getElem (by omega))
      have hz3 := hbm.frozen (1 + m)
      have h64 : (m : Int) < 64 := by omega
      have HBN : Hid (Blk (wr.setCell ⟨w2.heap.size, 1 + m, none⟩ (.int .u8 ((l.getD m 0).toNat : Int))) w2.heap.size (splice cs 1 (cb.take (m + 1))) 105) := hbn
      generalize (l.getD m 0).toNat = ub at *
      generalize ((splice cs 1 (cb.take m))[1 + m]'(by omega)) = old at *
      clear hbn hu hc hat
      go_wp2
      go_roundw
      case rel => exact ⟨m + 1, by omega, by simp, HBN.out, hBm.setCell (p := ⟨w2.heap.size, 1 + m, none⟩) (by simp) _⟩
      case measure => simp only [intOf]; omega
    · have hlt1 : ¬ (m : Int) < (l.length : Int) := by omega
      have hbw : Blk wr w2.heap.size (cellW i (pad l)) 105 := by rw [← HS.out]; rw [List.take_of_length_le (by omega)] at hbm; exact hbm
      clear hbm
      have hpd : RD wr.drew r (.slice (some ⟨lg, 0, none⟩) D.secs.length lc) xv D1 := (hp2.below hBm).below (Below.refl _ _).drew
      have hbd : Blk wr.drew w2.heap.size (cellW i (pad l)) 105 := hbw.below (Below.refl _ _).drew
      have hBd : Below w2.heap.size w2 wr.drew := hBm.drew
      obtain ⟨N, hN⟩ : ∃ N, D1.wait.length = N := ⟨_, rfl⟩
      obtain ⟨cN, hcN⟩ : ∃ cN, cellsW D1.wait = cN := ⟨_, rfl⟩
      obtain ⟨cw, hcw⟩ : ∃ cw, cellW i (pad l) = cw := ⟨_, rfl⟩
      have hwl : cw.length = 65 := by rw [← hcw]; exact cellW_length (pad_length hn)
      have hw1c : ∀ u ∈ cw, u.oneCell' = true := by rw [← hcw]; exact cellW_one _ _
      have hwi : (Try.prog.info? 105).map (·.size) = some cw.length := by rw [hwl]; exact info105s
      have hz65 : (Try.prog.info? 105).map (fun i => (i.zero, i.size)) = some (some (.agg Try.zeroCells105), 65) := by kernel_rfl
      have hz1 : (Try.prog.info? 105).map (fun i => (i.zero, i.size)) = some (some (.agg Try.zeroCells105), cw.length) := by rw [hwl]; kernel_rfl
      have hz2 : (Value.agg Try.zeroCells105).cells.size = cw.length := by rw [hwl]; kernel_rfl
      obtain ⟨i0, hi0, hz3, hz4, hz5⟩ := info_parts info105z
      rw [hcw] at hbd
      rw [hN] at hw1
      have hm1 : 0 + N ≤ maxLen := by unfold maxLen; omega
      have hm2 : (0 + N) * 72 ≤ 140737488355328 := by omega
      have hm3 : N + 1 ≤ maxLen := by unfold maxLen; omega
      have hm4 : (N + 1) * 72 ≤ 140737488355328 := by omega
      have hrw := hpd.rlt
      obtain ⟨Lx, hdx, _⟩ := hpd.dx
      have gC : Hid (∀ w, Below wr.drew.heap.size wr.drew w → w.cell? ⟨r, 1, none⟩ = some xv) := fun w hB => (hB.cell (p := ⟨r, 1, none⟩) hrw).trans hdx.c1
      have gF : Hid (∀ w, Below wr.drew.heap.size wr.drew w → w.frozen? ⟨r, 1, none⟩ = false) := fun w hB => (World.frozen?_of_block (a := ⟨r, 1, none⟩) (hB.block r hrw)).trans hdx.z1
      have gR : Hid (∀ w, Below wr.drew.heap.size wr.drew w → w.rangeAt w2.heap.size 0 cw) := fun w hB => (hbd.below hB).whole
      have gX : Hid (∀ w, Below wr.drew.heap.size wr.drew w → SrcOf 65 w xv N cN) := fun w hB => by rw [← hN, ← hcN]; exact src_x hpd.wait (fun x hx => (hpd.ok.wait x hx).1) hB
      have gE : Hid (∀ w g cap, Below wr.drew.heap.size wr.drew w → w.ownsRow wr.drew.heap.size 105 65 (.slice (some ⟨g, 0, none⟩) (N + 1) cap) (N + 1) (cN ++ cw) → RLeft W r (.slice (some ⟨lg, 0, none⟩) D.secs.length lc) xv { D1 with wait := D1.wait ++ [(i, pad l)] } (w.setCell ⟨r, 1, none⟩ (.slice (some ⟨g, 0, none⟩) (N + 1) cap))) := fun w g cap hB ho => by
        subst hN
        subst hcN
        subst hcw
        have hgl := (World.ownsRow.lt ho g rfl).1
        refine ⟨_, _, hpd.push hB i (pad l) hs1 (pad_length hn) ho, (hk2.trans (Keep.of (F := fun k => k = r) (hBd.trans (hB.mono hBd.size))) (fun _ _ h => h)).kr 1 _, fun k hk => ?_⟩
        rcases hk with hk | hk | hk
        · exact .inl (.inl hk)
        · exact .inl (.inr (.inl hk))
        · cases hk
          exact .inr (Nat.le_trans (Nat.le_trans hk2.size hBd.size) hgl)
      clear hbw hbd hpd hBd hdx hp2 hcw hcN hN HS HC HZ HF hcs1 hcs2 hcb1 hci hzi hzl hb4 hB4 c87
      go_wp2
      refine wp_region_held_drew (S := fun _ => True) (by kernel_rfl) trivial (fun _ => ?_)
      have hB0 : Below wr.drew.heap.size wr.drew wr.drew := Below.refl _ _
      generalize wr.drew = wd at *
      generalize w2.heap.size = Bw at *
      refine wpAnyH_take' 0 (some 52) (.pointer (some ⟨r, 0, none⟩)) rfl rfl (by kernel_rfl) (by kernel_rfl) (by kernel_rfl) (fun _ _ _ h => h) (Or.inl ⟨by rfl, fun w' _ => by go_simp⟩) trivial ?_
      simp only [Act.put, List.setIfInBounds_toArray, List.set_cons_zero, List.set_cons_succ]
      refine wpAnyH_take' 2 (some 54) (.pointer (some ⟨r, 0, none⟩)) rfl rfl (by kernel_rfl) (by kernel_rfl) (by kernel_rfl) (fun _ _ _ h => h) (Or.inl ⟨by rfl, fun w' _ => by go_simp⟩) trivial ?_
      simp only [Act.put, List.setIfInBounds_toArray, List.set_cons_zero, List.set_cons_succ]
      refine wpAnyH_take' 3 (some 55) (.pointer (some ⟨r, 0, none⟩)) rfl rfl (by kernel_rfl) (by kernel_rfl) (by kernel_rfl) (fun _ _ _ h => h) (Or.inl ⟨by rfl, fun w' _ => by go_simp⟩) trivial ?_
      simp only [Act.put, List.setIfInBounds_toArray, List.set_cons_zero, List.set_cons_succ]
      refine wpAnyH_take' 4 (some 56) (.pointer (some ⟨r, 1, none⟩)) rfl rfl (by kernel_rfl) (by kernel_rfl) (by kernel_rfl) (fun _ _ _ h => h) (Or.inl ⟨by rfl, fun w' _ => by go_simp⟩) trivial ?_
      simp only [Act.put, List.setIfInBounds_toArray, List.set_cons_zero, List.set_cons_succ]
      -- TREE
      refine wpAnyH_ready (rs := [1, 5, 7]) (by kernel_rfl) (by simp) (AllReadyH.cons rfl (fun K hK => ?_) (AllReadyH.cons rfl (fun K hK => ?_) (AllReadyH.cons rfl (fun K hK => ?_) AllReadyH.nil)))
      · refine step_build0' (by rfl) (some 53) (by rfl) 99 105 (by rfl) (.agg Try.zeroCells105) 65 Try.underlying99 hz65 hB0 ?_
        intro g53 v1 hg1 hb1 _ ho1
        refine hK.out _ _ trivial (fun _ => ?_)
        clear hK K
        simp only [Act.put, List.setIfInBounds_toArray, List.set_cons_zero, List.set_cons_succ]
        have hB1 : Below wd.heap.size wd v1 := hB0.trans (hb1.mono hB0.size)
        have hq1 : wd.heap.size ≤ g53 := by rw [hg1]; exact hB0.size
        have HG1 : Hid (g53 = wd.heap.size) := hg1
        clear hg1
        refine wpAnyH_ready (rs := [5, 7]) (by kernel_rfl) (by simp) (AllReadyH.cons rfl (fun K hK => ?_) (AllReadyH.cons rfl (fun K hK => ?_) AllReadyH.nil))
        · have hcl2 := gC.out _ hB1
          go_simp
          refine hK.out _ _ trivial (fun _ => ?_)
          clear hK K
          clear hcl2
          refine wpAnyH_ready (rs := [6, 7]) (by kernel_rfl) (by simp) (AllReadyH.cons rfl (fun K hK => ?_) (AllReadyH.cons rfl (fun K hK => ?_) AllReadyH.nil))
          · refine step_append_src (by rfl) (some 58) (by rfl) (.tmp 53) (.tmp 57) 99 (by rfl) wd.heap.size 105 i0 (.agg Try.zeroCells105) 65 72 Try.underlying99 hi0 hz3 hz4 hz5 (by rfl) (by decide) (.slice (some ⟨g53, 0, none⟩) 0 0) 0 [] (by rfl) ho1 (by simp [Value.ownBlock]) xv N cN (by rfl) (gX.out _ hB1) hm1 hm2 hB1.size ?_
            intro g58 cap58 v3 ho3 hgr3 _ _
            refine hK.out _ _ trivial (fun _ => ?_)
            clear hK K
            simp only [Act.put, List.setIfInBounds_toArray, List.set_cons_zero, List.set_cons_succ]
            simp only [Nat.zero_add, List.nil_append] at ho3 ⊢
            have hB3 := below_grown hB1 hgr3 hq1
            refine wpAnyH_ready (rs := [7]) (by kernel_rfl) (by simp) (AllReadyH.cons rfl (fun K hK => ?_) AllReadyH.nil)
            · refine step_load_mid' (by rfl) (some 59) (by rfl) 105 (.tmp 7) (by rfl) Bw 0 (by rfl) cw _ (gR.out _ hB3) Try.underlying105 rfl hwi ?_
              refine hK.out _ _ trivial (fun _ => ?_)
              clear hK K
              simp only [Act.put, List.setIfInBounds_toArray, List.set_cons_zero, List.set_cons_succ]
              refine wpAnyH_ready (rs := [8]) (by kernel_rfl) (by simp) (AllReadyH.cons rfl (fun K hK => ?_) AllReadyH.nil)
              · refine step_build1' (by rfl) (some 60) (by rfl) 99 105 (.tmp 59) (by rfl) cw (by rfl) (.agg Try.zeroCells105) Try.underlying99 hz1 hz2 (by omega) (by omega) ?_
                intro g60 v5 hg5 hb5 _ hk5
                refine hK.out _ _ trivial (fun _ => ?_)
                clear hK K
                simp only [Act.put, List.setIfInBounds_toArray, List.set_cons_zero, List.set_cons_succ]
                have HG5 : Hid (g60 = v3.heap.size) := hg5
                clear hg5
                have hB5 : Below wd.heap.size wd v5 := hB3.trans (hb5.mono hB3.size)
                have ho5 := own_below ho3 hb5
                refine wpAnyH_ready (rs := [9]) (by kernel_rfl) (by simp) (AllReadyH.cons rfl (fun K hK => ?_) AllReadyH.nil)
                · refine step_append_src (by rfl) (some 61) (by rfl) (.tmp 58) (.tmp 60) 99 (by rfl) wd.heap.size 105 i0 (.agg Try.zeroCells105) 65 72 Try.underlying99 hi0 hz3 hz4 hz5 (by rfl) (by decide) (.slice (some ⟨g58, 0, none⟩) N cap58) N cN (by rfl) ho5 (by simp [Value.ownBlock]) (.slice (some ⟨g60, 0, none⟩) 1 1) 1 cw (by rfl) (src_blk hk5 hwl hw1c) hm3 hm4 hB5.size ?_
                  intro g61 cap61 v6 ho6 hgr6 _ _
                  refine hK.out _ _ trivial (fun _ => ?_)
                  clear hK K
                  simp only [Act.put, List.setIfInBounds_toArray, List.set_cons_zero, List.set_cons_succ]
                  have hB6 := below_grown hB5 hgr6 (World.ownsRow.lt ho5 g58 rfl).1
                  have hcz := gC.out _ hB6
                  have hfz := gF.out _ hB6
                  refine wpAnyH_take' 10 (some 62) (.pointer (some ⟨r, 0, none⟩)) rfl rfl (by kernel_rfl) (by kernel_rfl) (by kernel_rfl) (fun _ _ _ h => h) (Or.inl ⟨by rfl, fun w' _ => by go_simp⟩) trivial ?_
                  simp only [Act.put, List.setIfInBounds_toArray, List.set_cons_zero, List.set_cons_succ]
                  refine wpAnyH_take' 11 (some 63) (.pointer (some ⟨r, 1, none⟩)) rfl rfl (by kernel_rfl) (by kernel_rfl) (by kernel_rfl) (fun _ _ _ h => h) (Or.inl ⟨by rfl, fun w' _ => by go_simp⟩) trivial ?_
                  simp only [Act.put, List.setIfInBounds_toArray, List.set_cons_zero, List.set_cons_succ]
                  refine wpAnyH_ready (rs := [12]) (by kernel_rfl) (by simp) (AllReadyH.cons rfl (fun K hK => ?_) AllReadyH.nil)
                  have hfin := gE.out _ _ _ hB6 ho6
                  go_simp
                  refine hK.out _ _ trivial (fun _ => ?_)
                  clear hK K
                  refine wpAnyH_done (by kernel_rfl) ?_ _
                  go_wp2
                  go_ret
                  exact ⟨rfl, hfin⟩
          · refine step_load_mid' (by rfl) (some 59) (by rfl) 105 (.tmp 7) (by rfl) Bw 0 (by rfl) cw _ (gR.out _ hB1) Try.underlying105 rfl hwi ?_
            refine hK.out _ _ trivial (fun _ => ?_)
            clear hK K
            simp only [Act.put, List.setIfInBounds_toArray, List.set_cons_zero, List.set_cons_succ]
            refine wpAnyH_ready (rs := [6, 8]) (by kernel_rfl) (by simp) (AllReadyH.cons rfl (fun K hK => ?_) (AllReadyH.cons rfl (fun K hK => ?_) AllReadyH.nil))
            · refine step_append_src (by rfl) (some 58) (by rfl) (.tmp 53) (.tmp 57) 99 (by rfl) wd.heap.size 105 i0 (.agg Try.zeroCells105) 65 72 Try.underlying99 hi0 hz3 hz4 hz5 (by rfl) (by decide) (.slice (some ⟨g53, 0, none⟩) 0 0) 0 [] (by rfl) ho1 (by simp [Value.ownBlock]) xv N cN (by rfl) (gX.out _ hB1) hm1 hm2 hB1.size ?_
              intro g58 cap58 v8 ho8 hgr8 _ _
              refine hK.out _ _ trivial (fun _ => ?_)
              clear hK K
              simp only [Act.put, List.setIfInBounds_toArray, List.set_cons_zero, List.set_cons_succ]
              simp only [Nat.zero_add, List.nil_append] at ho8 ⊢
              have hB8 := below_grown hB1 hgr8 hq1
              refine wpAnyH_ready (rs := [8]) (by kernel_rfl) (by simp) (AllReadyH.cons rfl (fun K hK => ?_) AllReadyH.nil)
              · refine step_build1' (by rfl) (some 60) (by rfl) 99 105 (.tmp 59) (by rfl) cw (by rfl) (.agg Try.zeroCells105) Try.underlying99 hz1 hz2 (by omega) (by omega) ?_
                intro g60 v9 hg9 hb9 _ hk9
                refine hK.out _ _ trivial (fun _ => ?_)
                clear hK K
                simp only [Act.put, List.setIfInBounds_toArray, List.set_cons_zero, List.set_cons_succ]
                have HG9 : Hid (g60 = v8.heap.size) := hg9
                clear hg9
                have hB9 : Below wd.heap.size wd v9 := hB8.trans (hb9.mono hB8.size)
                have ho9 := own_below ho8 hb9
                refine wpAnyH_ready (rs := [9]) (by kernel_rfl) (by simp) (AllReadyH.cons rfl (fun K hK => ?_) AllReadyH.nil)
                · refine step_append_src (by rfl) (some 61) (by rfl) (.tmp 58) (.tmp 60) 99 (by rfl) wd.heap.size 105 i0 (.agg Try.zeroCells105) 65 72 Try.underlying99 hi0 hz3 hz4 hz5 (by rfl) (by decide) (.slice (some ⟨g58, 0, none⟩) N cap58) N cN (by rfl) ho9 (by simp [Value.ownBlock]) (.slice (some ⟨g60, 0, none⟩) 1 1) 1 cw (by rfl) (src_blk hk9 hwl hw1c) hm3 hm4 hB9.size ?_
                  intro g61 cap61 v10 ho10 hgr10 _ _
                  refine hK.out _ _ trivial (fun _ => ?_)
                  clear hK K
                  simp only [Act.put, List.setIfInBounds_toArray, List.set_cons_zero, List.set_cons_succ]
                  have hB10 := below_grown hB9 hgr10 (World.ownsRow.lt ho9 g58 rfl).1
                  have hcz := gC.out _ hB10
                  have hfz := gF.out _ hB10
                  refine wpAnyH_take' 10 (some 62) (.pointer (some ⟨r, 0, none⟩)) rfl rfl (by kernel_rfl) (by kernel_rfl) (by kernel_rfl) (fun _ _ _ h => h) (Or.inl ⟨by rfl, fun w' _ => by go_simp⟩) trivial ?_
                  simp only [Act.put, List.setIfInBounds_toArray, List.set_cons_zero, List.set_cons_succ]
                  refine wpAnyH_take' 11 (some 63) (.pointer (some ⟨r, 1, none⟩)) rfl rfl (by kernel_rfl) (by kernel_rfl) (by kernel_rfl) (fun _ _ _ h => h) (Or.inl ⟨by rfl, fun w' _ => by go_simp⟩) trivial ?_
                  simp only [Act.put, List.setIfInBounds_toArray, List.set_cons_zero, List.set_cons_succ]
                  refine wpAnyH_ready (rs := [12]) (by kernel_rfl) (by simp) (AllReadyH.cons rfl (fun K hK => ?_) AllReadyH.nil)
                  have hfin := gE.out _ _ _ hB10 ho10
                  go_simp
                  refine hK.out _ _ trivial (fun _ => ?_)
                  clear hK K
                  refine wpAnyH_done (by kernel_rfl) ?_ _
                  go_wp2
                  go_ret
                  exact ⟨rfl, hfin⟩
            · refine step_build1' (by rfl) (some 60) (by rfl) 99 105 (.tmp 59) (by rfl) cw (by rfl) (.agg Try.zeroCells105) Try.underlying99 hz1 hz2 (by omega) (by omega) ?_
              intro g60 v11 hg11 hb11 _ hk11
              refine hK.out _ _ trivial (fun _ => ?_)
              clear hK K
              simp only [Act.put, List.setIfInBounds_toArray, List.set_cons_zero, List.set_cons_succ]
              have HG11 : Hid (g60 = v1.heap.size) := hg11
              clear hg11
              have hB11 : Below wd.heap.size wd v11 := hB1.trans (hb11.mono hB1.size)
              have hn11 : g60 ≠ g53 := fun e => by have := (World.ownsRow.lt ho1 g53 rfl).2; have := HG11.out; omega
              have ho11 := own_below ho1 hb11
              refine wpAnyH_ready (rs := [6]) (by kernel_rfl) (by simp) (AllReadyH.cons rfl (fun K hK => ?_) AllReadyH.nil)
              · refine step_append_src (by rfl) (some 58) (by rfl) (.tmp 53) (.tmp 57) 99 (by rfl) wd.heap.size 105 i0 (.agg Try.zeroCells105) 65 72 Try.underlying99 hi0 hz3 hz4 hz5 (by rfl) (by decide) (.slice (some ⟨g53, 0, none⟩) 0 0) 0 [] (by rfl) ho11 (by simp [Value.ownBlock]) xv N cN (by rfl) (gX.out _ hB11) hm1 hm2 hB11.size ?_
                intro g58 cap58 v12 ho12 hgr12 _ _
                refine hK.out _ _ trivial (fun _ => ?_)
                clear hK K
                simp only [Act.put, List.setIfInBounds_toArray, List.set_cons_zero, List.set_cons_succ]
                simp only [Nat.zero_add, List.nil_append] at ho12 ⊢
                have hB12 := below_grown hB11 hgr12 hq1
                have hk12 := blk_grown hk11 hgr12 hn11
                refine wpAnyH_ready (rs := [9]) (by kernel_rfl) (by simp) (AllReadyH.cons rfl (fun K hK => ?_) AllReadyH.nil)
                · refine step_append_src (by rfl) (some 61) (by rfl) (.tmp 58) (.tmp 60) 99 (by rfl) wd.heap.size 105 i0 (.agg Try.zeroCells105) 65 72 Try.underlying99 hi0 hz3 hz4 hz5 (by rfl) (by decide) (.slice (some ⟨g58, 0, none⟩) N cap58) N cN (by rfl) ho12 (by simp [Value.ownBlock]) (.slice (some ⟨g60, 0, none⟩) 1 1) 1 cw (by rfl) (src_blk hk12 hwl hw1c) hm3 hm4 hB12.size ?_
                  intro g61 cap61 v13 ho13 hgr13 _ _
                  refine hK.out _ _ trivial (fun _ => ?_)
                  clear hK K
                  simp only [Act.put, List.setIfInBounds_toArray, List.set_cons_zero, List.set_cons_succ]
                  have hB13 := below_grown hB12 hgr13 (World.ownsRow.lt ho12 g58 rfl).1
                  have hcz := gC.out _ hB13
                  have hfz := gF.out _ hB13
                  refine wpAnyH_take' 10 (some 62) (.pointer (some ⟨r, 0, none⟩)) rfl rfl (by kernel_rfl) (by kernel_rfl) (by kernel_rfl) (fun _ _ _ h => h) (Or.inl ⟨by rfl, fun w' _ => by go_simp⟩) trivial ?_
                  simp only [Act.put, List.setIfInBounds_toArray, List.set_cons_zero, List.set_cons_succ]
                  refine wpAnyH_take' 11 (some 63) (.pointer (some ⟨r, 1, none⟩)) rfl rfl (by kernel_rfl) (by kernel_rfl) (by kernel_rfl) (fun _ _ _ h => h) (Or.inl ⟨by rfl, fun w' _ => by go_simp⟩) trivial ?_
                  simp only [Act.put, List.setIfInBounds_toArray, List.set_cons_zero, List.set_cons_succ]
                  refine wpAnyH_ready (rs := [12]) (by kernel_rfl) (by simp) (AllReadyH.cons rfl (fun K hK => ?_) AllReadyH.nil)
                  have hfin := gE.out _ _ _ hB13 ho13
                  go_simp
                  refine hK.out _ _ trivial (fun _ => ?_)
                  clear hK K
                  refine wpAnyH_done (by kernel_rfl) ?_ _
                  go_wp2
                  go_ret
                  exact ⟨rfl, hfin⟩
        · refine step_load_mid' (by rfl) (some 59) (by rfl) 105 (.tmp 7) (by rfl) Bw 0 (by rfl) cw _ (gR.out _ hB1) Try.underlying105 rfl hwi ?_
          refine hK.out _ _ trivial (fun _ => ?_)
          clear hK K
          simp only [Act.put, List.setIfInBounds_toArray, List.set_cons_zero, List.set_cons_succ]
          refine wpAnyH_ready (rs := [5, 8]) (by kernel_rfl) (by simp) (AllReadyH.cons rfl (fun K hK => ?_) (AllReadyH.cons rfl (fun K hK => ?_) AllReadyH.nil))
          · have hcl15 := gC.out _ hB1
            go_simp
            refine hK.out _ _ trivial (fun _ => ?_)
            clear hK K
            clear hcl15
            refine wpAnyH_ready (rs := [6, 8]) (by kernel_rfl) (by simp) (AllReadyH.cons rfl (fun K hK => ?_) (AllReadyH.cons rfl (fun K hK => ?_) AllReadyH.nil))
            · refine step_append_src (by rfl) (some 58) (by rfl) (.tmp 53) (.tmp 57) 99 (by rfl) wd.heap.size 105 i0 (.agg Try.zeroCells105) 65 72 Try.underlying99 hi0 hz3 hz4 hz5 (by rfl) (by decide) (.slice (some ⟨g53, 0, none⟩) 0 0) 0 [] (by rfl) ho1 (by simp [Value.ownBlock]) xv N cN (by rfl) (gX.out _ hB1) hm1 hm2 hB1.size ?_
              intro g58 cap58 v16 ho16 hgr16 _ _
              refine hK.out _ _ trivial (fun _ => ?_)
              clear hK K
              simp only [Act.put, List.setIfInBounds_toArray, List.set_cons_zero, List.set_cons_succ]
              simp only [Nat.zero_add, List.nil_append] at ho16 ⊢
              have hB16 := below_grown hB1 hgr16 hq1
              refine wpAnyH_ready (rs := [8]) (by kernel_rfl) (by simp) (AllReadyH.cons rfl (fun K hK => ?_) AllReadyH.nil)
              · refine step_build1' (by rfl) (some 60) (by rfl) 99 105 (.tmp 59) (by rfl) cw (by rfl) (.agg Try.zeroCells105) Try.underlying99 hz1 hz2 (by omega) (by omega) ?_
                intro g60 v17 hg17 hb17 _ hk17
                refine hK.out _ _ trivial (fun _ => ?_)
                clear hK K
                simp only [Act.put, List.setIfInBounds_toArray, List.set_cons_zero, List.set_cons_succ]
                have HG17 : Hid (g60 = v16.heap.size) := hg17
                clear hg17
                have hB17 : Below wd.heap.size wd v17 := hB16.trans (hb17.mono hB16.size)
                have ho17 := own_below ho16 hb17
                refine wpAnyH_ready (rs := [9]) (by kernel_rfl) (by simp) (AllReadyH.cons rfl (fun K hK => ?_) AllReadyH.nil)
                · refine step_append_src (by rfl) (some 61) (by rfl) (.tmp 58) (.tmp 60) 99 (by rfl) wd.heap.size 105 i0 (.agg Try.zeroCells105) 65 72 Try.underlying99 hi0 hz3 hz4 hz5 (by rfl) (by decide) (.slice (some ⟨g58, 0, none⟩) N cap58) N cN (by rfl) ho17 (by simp [Value.ownBlock]) (.slice (some ⟨g60, 0, none⟩) 1 1) 1 cw (by rfl) (src_blk hk17 hwl hw1c) hm3 hm4 hB17.size ?_
                  intro g61 cap61 v18 ho18 hgr18 _ _
                  refine hK.out _ _ trivial (fun _ => ?_)
                  clear hK K
                  simp only [Act.put, List.setIfInBounds_toArray, List.set_cons_zero, List.set_cons_succ]
                  have hB18 := below_grown hB17 hgr18 (World.ownsRow.lt ho17 g58 rfl).1
                  have hcz := gC.out _ hB18
                  have hfz := gF.out _ hB18
                  refine wpAnyH_take' 10 (some 62) (.pointer (some ⟨r, 0, none⟩)) rfl rfl (by kernel_rfl) (by kernel_rfl) (by kernel_rfl) (fun _ _ _ h => h) (Or.inl ⟨by rfl, fun w' _ => by go_simp⟩) trivial ?_
                  simp only [Act.put, List.setIfInBounds_toArray, List.set_cons_zero, List.set_cons_succ]
                  refine wpAnyH_take' 11 (some 63) (.pointer (some ⟨r, 1, none⟩)) rfl rfl (by kernel_rfl) (by kernel_rfl) (by kernel_rfl) (fun _ _ _ h => h) (Or.inl ⟨by rfl, fun w' _ => by go_simp⟩) trivial ?_
                  simp only [Act.put, List.setIfInBounds_toArray, List.set_cons_zero, List.set_cons_succ]
                  refine wpAnyH_ready (rs := [12]) (by kernel_rfl) (by simp) (AllReadyH.cons rfl (fun K hK => ?_) AllReadyH.nil)
                  have hfin := gE.out _ _ _ hB18 ho18
                  go_simp
                  refine hK.out _ _ trivial (fun _ => ?_)
                  clear hK K
                  refine wpAnyH_done (by kernel_rfl) ?_ _
                  go_wp2
                  go_ret
                  exact ⟨rfl, hfin⟩
            · refine step_build1' (by rfl) (some 60) (by rfl) 99 105 (.tmp 59) (by rfl) cw (by rfl) (.agg Try.zeroCells105) Try.underlying99 hz1 hz2 (by omega) (by omega) ?_
              intro g60 v19 hg19 hb19 _ hk19
              refine hK.out _ _ trivial (fun _ => ?_)
              clear hK K
              simp only [Act.put, List.setIfInBounds_toArray, List.set_cons_zero, List.set_cons_succ]
              have HG19 : Hid (g60 = v1.heap.size) := hg19
              clear hg19
              have hB19 : Below wd.heap.size wd v19 := hB1.trans (hb19.mono hB1.size)
              have hn19 : g60 ≠ g53 := fun e => by have := (World.ownsRow.lt ho1 g53 rfl).2; have := HG19.out; omega
              have ho19 := own_below ho1 hb19
              refine wpAnyH_ready (rs := [6]) (by kernel_rfl) (by simp) (AllReadyH.cons rfl (fun K hK => ?_) AllReadyH.nil)
              · refine step_append_src (by rfl) (some 58) (by rfl) (.tmp 53) (.tmp 57) 99 (by rfl) wd.heap.size 105 i0 (.agg Try.zeroCells105) 65 72 Try.underlying99 hi0 hz3 hz4 hz5 (by rfl) (by decide) (.slice (some ⟨g53, 0, none⟩) 0 0) 0 [] (by rfl) ho19 (by simp [Value.ownBlock]) xv N cN (by rfl) (gX.out _ hB19) hm1 hm2 hB19.size ?_
                intro g58 cap58 v20 ho20 hgr20 _ _
                refine hK.out _ _ trivial (fun _ => ?_)
                clear hK K
                simp only [Act.put, List.setIfInBounds_toArray, List.set_cons_zero, List.set_cons_succ]
                simp only [Nat.zero_add, List.nil_append] at ho20 ⊢
                have hB20 := below_grown hB19 hgr20 hq1
                have hk20 := blk_grown hk19 hgr20 hn19
                refine wpAnyH_ready (rs := [9]) (by kernel_rfl) (by simp) (AllReadyH.cons rfl (fun K hK => ?_) AllReadyH.nil)
                · refine step_append_src (by rfl) (some 61) (by rfl) (.tmp 58) (.tmp 60) 99 (by rfl) wd.heap.size 105 i0 (.agg Try.zeroCells105) 65 72 Try.underlying99 hi0 hz3 hz4 hz5 (by rfl) (by decide) (.slice (some ⟨g58, 0, none⟩) N cap58) N cN (by rfl) ho20 (by simp [Value.ownBlock]) (.slice (some ⟨g60, 0, none⟩) 1 1) 1 cw (by rfl) (src_blk hk20 hwl hw1c) hm3 hm4 hB20.size ?_
                  intro g61 cap61 v21 ho21 hgr21 _ _
                  refine hK.out _ _ trivial (fun _ => ?_)
                  clear hK K
                  simp only [Act.put, List.setIfInBounds_toArray, List.set_cons_zero, List.set_cons_succ]
                  have hB21 := below_grown hB20 hgr21 (World.ownsRow.lt ho20 g58 rfl).1
                  have hcz := gC.out _ hB21
                  have hfz := gF.out _ hB21
                  refine wpAnyH_take' 10 (some 62) (.pointer (some ⟨r, 0, none⟩)) rfl rfl (by kernel_rfl) (by kernel_rfl) (by kernel_rfl) (fun _ _ _ h => h) (Or.inl ⟨by rfl, fun w' _ => by go_simp⟩) trivial ?_
                  simp only [Act.put, List.setIfInBounds_toArray, List.set_cons_zero, List.set_cons_succ]
                  refine wpAnyH_take' 11 (some 63) (.pointer (some ⟨r, 1, none⟩)) rfl rfl (by kernel_rfl) (by kernel_rfl) (by kernel_rfl) (fun _ _ _ h => h) (Or.inl ⟨by rfl, fun w' _ => by go_simp⟩) trivial ?_
                  simp only [Act.put, List.setIfInBounds_toArray, List.set_cons_zero, List.set_cons_succ]
                  refine wpAnyH_ready (rs := [12]) (by kernel_rfl) (by simp) (AllReadyH.cons rfl (fun K hK => ?_) AllReadyH.nil)
                  have hfin := gE.out _ _ _ hB21 ho21
                  go_simp
                  refine hK.out _ _ trivial (fun _ => ?_)
                  clear hK K
                  refine wpAnyH_done (by kernel_rfl) ?_ _
                  go_wp2
                  go_ret
                  exact ⟨rfl, hfin⟩
          · refine step_build1' (by rfl) (some 60) (by rfl) 99 105 (.tmp 59) (by rfl) cw (by rfl) (.agg Try.zeroCells105) Try.underlying99 hz1 hz2 (by omega) (by omega) ?_
            intro g60 v22 hg22 hb22 _ hk22
            refine hK.out _ _ trivial (fun _ => ?_)
            clear hK K
            simp only [Act.put, List.setIfInBounds_toArray, List.set_cons_zero, List.set_cons_succ]
            have HG22 : Hid (g60 = v1.heap.size) := hg22
            clear hg22
            have hB22 : Below wd.heap.size wd v22 := hB1.trans (hb22.mono hB1.size)
            have hn22 : g60 ≠ g53 := fun e => by have := (World.ownsRow.lt ho1 g53 rfl).2; have := HG22.out; omega
            have ho22 := own_below ho1 hb22
            refine wpAnyH_ready (rs := [5]) (by kernel_rfl) (by simp) (AllReadyH.cons rfl (fun K hK => ?_) AllReadyH.nil)
            · have hcl23 := gC.out _ hB22
              go_simp
              refine hK.out _ _ trivial (fun _ => ?_)
              clear hK K
              clear hcl23
              refine wpAnyH_ready (rs := [6]) (by kernel_rfl) (by simp) (AllReadyH.cons rfl (fun K hK => ?_) AllReadyH.nil)
              · refine step_append_src (by rfl) (some 58) (by rfl) (.tmp 53) (.tmp 57) 99 (by rfl) wd.heap.size 105 i0 (.agg Try.zeroCells105) 65 72 Try.underlying99 hi0 hz3 hz4 hz5 (by rfl) (by decide) (.slice (some ⟨g53, 0, none⟩) 0 0) 0 [] (by rfl) ho22 (by simp [Value.ownBlock]) xv N cN (by rfl) (gX.out _ hB22) hm1 hm2 hB22.size ?_
                intro g58 cap58 v24 ho24 hgr24 _ _
                refine hK.out _ _ trivial (fun _ => ?_)
                clear hK K
                simp only [Act.put, List.setIfInBounds_toArray, List.set_cons_zero, List.set_cons_succ]
                simp only [Nat.zero_add, List.nil_append] at ho24 ⊢
                have hB24 := below_grown hB22 hgr24 hq1
                have hk24 := blk_grown hk22 hgr24 hn22
                refine wpAnyH_ready (rs := [9]) (by kernel_rfl) (by simp) (AllReadyH.cons rfl (fun K hK => ?_) AllReadyH.nil)
                · refine step_append_src (by rfl) (some 61) (by rfl) (.tmp 58) (.tmp 60) 99 (by rfl) wd.heap.size 105 i0 (.agg Try.zeroCells105) 65 72 Try.underlying99 hi0 hz3 hz4 hz5 (by rfl) (by decide) (.slice (some ⟨g58, 0, none⟩) N cap58) N cN (by rfl) ho24 (by simp [Value.ownBlock]) (.slice (some ⟨g60, 0, none⟩) 1 1) 1 cw (by rfl) (src_blk hk24 hwl hw1c) hm3 hm4 hB24.size ?_
                  intro g61 cap61 v25 ho25 hgr25 _ _
                  refine hK.out _ _ trivial (fun _ => ?_)
                  clear hK K
                  simp only [Act.put, List.setIfInBounds_toArray, List.set_cons_zero, List.set_cons_succ]
                  have hB25 := below_grown hB24 hgr25 (World.ownsRow.lt ho24 g58 rfl).1
                  have hcz := gC.out _ hB25
                  have hfz := gF.out _ hB25
                  refine wpAnyH_take' 10 (some 62) (.pointer (some ⟨r, 0, none⟩)) rfl rfl (by kernel_rfl) (by kernel_rfl) (by kernel_rfl) (fun _ _ _ h => h) (Or.inl ⟨by rfl, fun w' _ => by go_simp⟩) trivial ?_
                  simp only [Act.put, List.setIfInBounds_toArray, List.set_cons_zero, List.set_cons_succ]
                  refine wpAnyH_take' 11 (some 63) (.pointer (some ⟨r, 1, none⟩)) rfl rfl (by kernel_rfl) (by kernel_rfl) (by kernel_rfl) (fun _ _ _ h => h) (Or.inl ⟨by rfl, fun w' _ => by go_simp⟩) trivial ?_
                  simp only [Act.put, List.setIfInBounds_toArray, List.set_cons_zero, List.set_cons_succ]
                  refine wpAnyH_ready (rs := [12]) (by kernel_rfl) (by simp) (AllReadyH.cons rfl (fun K hK => ?_) AllReadyH.nil)
                  have hfin := gE.out _ _ _ hB25 ho25
                  go_simp
                  refine hK.out _ _ trivial (fun _ => ?_)
                  clear hK K
                  refine wpAnyH_done (by kernel_rfl) ?_ _
                  go_wp2
                  go_ret
                  exact ⟨rfl, hfin⟩
      · have hcl26 := gC.out _ hB0
        go_simp
        refine hK.out _ _ trivial (fun _ => ?_)
        clear hK K
        clear hcl26
        refine wpAnyH_ready (rs := [1, 7]) (by kernel_rfl) (by simp) (AllReadyH.cons rfl (fun K hK => ?_) (AllReadyH.cons rfl (fun K hK => ?_) AllReadyH.nil))
        · refine step_build0' (by rfl) (some 53) (by rfl) 99 105 (by rfl) (.agg Try.zeroCells105) 65 Try.underlying99 hz65 hB0 ?_
          intro g53 v27 hg27 hb27 _ ho27
          refine hK.out _ _ trivial (fun _ => ?_)
          clear hK K
          simp only [Act.put, List.setIfInBounds_toArray, List.set_cons_zero, List.set_cons_succ]
          have hB27 : Below wd.heap.size wd v27 := hB0.trans (hb27.mono hB0.size)
          have hq27 : wd.heap.size ≤ g53 := by rw [hg27]; exact hB0.size
          have HG27 : Hid (g53 = wd.heap.size) := hg27
          clear hg27
          refine wpAnyH_ready (rs := [6, 7]) (by kernel_rfl) (by simp) (AllReadyH.cons rfl (fun K hK => ?_) (AllReadyH.cons rfl (fun K hK => ?_) AllReadyH.nil))
          · refine step_append_src (by rfl) (some 58) (by rfl) (.tmp 53) (.tmp 57) 99 (by rfl) wd.heap.size 105 i0 (.agg Try.zeroCells105) 65 72 Try.underlying99 hi0 hz3 hz4 hz5 (by rfl) (by decide) (.slice (some ⟨g53, 0, none⟩) 0 0) 0 [] (by rfl) ho27 (by simp [Value.ownBlock]) xv N cN (by rfl) (gX.out _ hB27) hm1 hm2 hB27.size ?_
            intro g58 cap58 v28 ho28 hgr28 _ _
            refine hK.out _ _ trivial (fun _ => ?_)
            clear hK K
            simp only [Act.put, List.setIfInBounds_toArray, List.set_cons_zero, List.set_cons_succ]
            simp only [Nat.zero_add, List.nil_append] at ho28 ⊢
            have hB28 := below_grown hB27 hgr28 hq27
            refine wpAnyH_ready (rs := [7]) (by kernel_rfl) (by simp) (AllReadyH.cons rfl (fun K hK => ?_) AllReadyH.nil)
            · refine step_load_mid' (by rfl) (some 59) (by rfl) 105 (.tmp 7) (by rfl) Bw 0 (by rfl) cw _ (gR.out _ hB28) Try.underlying105 rfl hwi ?_
              refine hK.out _ _ trivial (fun _ => ?_)
              clear hK K
              simp only [Act.put, List.setIfInBounds_toArray, List.set_cons_zero, List.set_cons_succ]
              refine wpAnyH_ready (rs := [8]) (by kernel_rfl) (by simp) (AllReadyH.cons rfl (fun K hK => ?_) AllReadyH.nil)
              · refine step_build1' (by rfl) (some 60) (by rfl) 99 105 (.tmp 59) (by rfl) cw (by rfl) (.agg Try.zeroCells105) Try.underlying99 hz1 hz2 (by omega) (by omega) ?_
                intro g60 v30 hg30 hb30 _ hk30
                refine hK.out _ _ trivial (fun _ => ?_)
                clear hK K
                simp only [Act.put, List.setIfInBounds_toArray, List.set_cons_zero, List.set_cons_succ]
                have HG30 : Hid (g60 = v28.heap.size) := hg30
                clear hg30
                have hB30 : Below wd.heap.size wd v30 := hB28.trans (hb30.mono hB28.size)
                have ho30 := own_below ho28 hb30
                refine wpAnyH_ready (rs := [9]) (by kernel_rfl) (by simp) (AllReadyH.cons rfl (fun K hK => ?_) AllReadyH.nil)
                · refine step_append_src (by rfl) (some 61) (by rfl) (.tmp 58) (.tmp 60) 99 (by rfl) wd.heap.size 105 i0 (.agg Try.zeroCells105) 65 72 Try.underlying99 hi0 hz3 hz4 hz5 (by rfl) (by decide) (.slice (some ⟨g58, 0, none⟩) N cap58) N cN (by rfl) ho30 (by simp [Value.ownBlock]) (.slice (some ⟨g60, 0, none⟩) 1 1) 1 cw (by rfl) (src_blk hk30 hwl hw1c) hm3 hm4 hB30.size ?_
                  intro g61 cap61 v31 ho31 hgr31 _ _
                  refine hK.out _ _ trivial (fun _ => ?_)
                  clear hK K
                  simp only [Act.put, List.setIfInBounds_toArray, List.set_cons_zero, List.set_cons_succ]
                  have hB31 := below_grown hB30 hgr31 (World.ownsRow.lt ho30 g58 rfl).1
                  have hcz := gC.out _ hB31
                  have hfz := gF.out _ hB31
                  refine wpAnyH_take' 10 (some 62) (.pointer (some ⟨r, 0, none⟩)) rfl rfl (by kernel_rfl) (by kernel_rfl) (by kernel_rfl) (fun _ _ _ h => h) (Or.inl ⟨by rfl, fun w' _ => by go_simp⟩) trivial ?_
                  simp only [Act.put, List.setIfInBounds_toArray, List.set_cons_zero, List.set_cons_succ]
                  refine wpAnyH_take' 11 (some 63) (.pointer (some ⟨r, 1, none⟩)) rfl rfl (by kernel_rfl) (by kernel_rfl) (by kernel_rfl) (fun _ _ _ h => h) (Or.inl ⟨by rfl, fun w' _ => by go_simp⟩) trivial ?_
                  simp only [Act.put, List.setIfInBounds_toArray, List.set_cons_zero, List.set_cons_succ]
                  refine wpAnyH_ready (rs := [12]) (by kernel_rfl) (by simp) (AllReadyH.cons rfl (fun K hK => ?_) AllReadyH.nil)
                  have hfin := gE.out _ _ _ hB31 ho31
                  go_simp
                  refine hK.out _ _ trivial (fun _ => ?_)
                  clear hK K
                  refine wpAnyH_done (by kernel_rfl) ?_ _
                  go_wp2
                  go_ret
                  exact ⟨rfl, hfin⟩
          · refine step_load_mid' (by rfl) (some 59) (by rfl) 105 (.tmp 7) (by rfl) Bw 0 (by rfl) cw _ (gR.out _ hB27) Try.underlying105 rfl hwi ?_
            refine hK.out _ _ trivial (fun _ => ?_)
            clear hK K
            simp only [Act.put, List.setIfInBounds_toArray, List.set_cons_zero, List.set_cons_succ]
            refine wpAnyH_ready (rs := [6, 8]) (by kernel_rfl) (by simp) (AllReadyH.cons rfl (fun K hK => ?_) (AllReadyH.cons rfl (fun K hK => ?_) AllReadyH.nil))
            · refine step_append_src (by rfl) (some 58) (by rfl) (.tmp 53) (.tmp 57) 99 (by rfl) wd.heap.size 105 i0 (.agg Try.zeroCells105) 65 72 Try.underlying99 hi0 hz3 hz4 hz5 (by rfl) (by decide) (.slice (some ⟨g53, 0, none⟩) 0 0) 0 [] (by rfl) ho27 (by simp [Value.ownBlock]) xv N cN (by rfl) (gX.out _ hB27) hm1 hm2 hB27.size ?_
              intro g58 cap58 v33 ho33 hgr33 _ _
              refine hK.out _ _ trivial (fun _ => ?_)
              clear hK K
              simp only [Act.put, List.setIfInBounds_toArray, List.set_cons_zero, List.set_cons_succ]
              simp only [Nat.zero_add, List.nil_append] at ho33 ⊢
              have hB33 := below_grown hB27 hgr33 hq27
              refine wpAnyH_ready (rs := [8]) (by kernel_rfl) (by simp) (AllReadyH.cons rfl (fun K hK => ?_) AllReadyH.nil)
              · refine step_build1' (by rfl) (some 60) (by rfl) 99 105 (.tmp 59) (by rfl) cw (by rfl) (.agg Try.zeroCells105) Try.underlying99 hz1 hz2 (by omega) (by omega) ?_
                intro g60 v34 hg34 hb34 _ hk34
                refine hK.out _ _ trivial (fun _ => ?_)
                clear hK K
                simp only [Act.put, List.setIfInBounds_toArray, List.set_cons_zero, List.set_cons_succ]
                have HG34 : Hid (g60 = v33.heap.size) := hg34
                clear hg34
                have hB34 : Below wd.heap.size wd v34 := hB33.trans (hb34.mono hB33.size)
                have ho34 := own_below ho33 hb34
                refine wpAnyH_ready (rs := [9]) (by kernel_rfl) (by simp) (AllReadyH.cons rfl (fun K hK => ?_) AllReadyH.nil)
                · refine step_append_src (by rfl) (some 61) (by rfl) (.tmp 58) (.tmp 60) 99 (by rfl) wd.heap.size 105 i0 (.agg Try.zeroCells105) 65 72 Try.underlying99 hi0 hz3 hz4 hz5 (by rfl) (by decide) (.slice (some ⟨g58, 0, none⟩) N cap58) N cN (by rfl) ho34 (by simp [Value.ownBlock]) (.slice (some ⟨g60, 0, none⟩) 1 1) 1 cw (by rfl) (src_blk hk34 hwl hw1c) hm3 hm4 hB34.size ?_
                  intro g61 cap61 v35 ho35 hgr35 _ _
                  refine hK.out _ _ trivial (fun _ => ?_)
                  clear hK K
                  simp only [Act.put, List.setIfInBounds_toArray, List.set_cons_zero, List.set_cons_succ]
                  have hB35 := below_grown hB34 hgr35 (World.ownsRow.lt ho34 g58 rfl).1
                  have hcz := gC.out _ hB35
                  have hfz := gF.out _ hB35
                  refine wpAnyH_take' 10 (some 62) (.pointer (some ⟨r, 0, none⟩)) rfl rfl (by kernel_rfl) (by kernel_rfl) (by kernel_rfl) (fun _ _ _ h => h) (Or.inl ⟨by rfl, fun w' _ => by go_simp⟩) trivial ?_
                  simp only [Act.put, List.setIfInBounds_toArray, List.set_cons_zero, List.set_cons_succ]
                  refine wpAnyH_take' 11 (some 63) (.pointer (some ⟨r, 1, none⟩)) rfl rfl (by kernel_rfl) (by kernel_rfl) (by kernel_rfl) (fun _ _ _ h => h) (Or.inl ⟨by rfl, fun w' _ => by go_simp⟩) trivial ?_
                  simp only [Act.put, List.setIfInBounds_toArray, List.set_cons_zero, List.set_cons_succ]
                  refine wpAnyH_ready (rs := [12]) (by kernel_rfl) (by simp) (AllReadyH.cons rfl (fun K hK => ?_) AllReadyH.nil)
                  have hfin := gE.out _ _ _ hB35 ho35
                  go_simp
                  refine hK.out _ _ trivial (fun _ => ?_)
                  clear hK K
                  refine wpAnyH_done (by kernel_rfl) ?_ _
                  go_wp2
                  go_ret
                  exact ⟨rfl, hfin⟩
            · refine step_build1' (by rfl) (some 60) (by rfl) 99 105 (.tmp 59) (by rfl) cw (by rfl) (.agg Try.zeroCells105) Try.underlying99 hz1 hz2 (by omega) (by omega) ?_
              intro g60 v36 hg36 hb36 _ hk36
              refine hK.out _ _ trivial (fun _ => ?_)
              clear hK K
              simp only [Act.put, List.setIfInBounds_toArray, List.set_cons_zero, List.set_cons_succ]
              have HG36 : Hid (g60 = v27.heap.size) := hg36
              clear hg36
              have hB36 : Below wd.heap.size wd v36 := hB27.trans (hb36.mono hB27.size)
              have hn36 : g60 ≠ g53 := fun e => by have := (World.ownsRow.lt ho27 g53 rfl).2; have := HG36.out; omega
              have ho36 := own_below ho27 hb36
              refine wpAnyH_ready (rs := [6]) (by kernel_rfl) (by simp) (AllReadyH.cons rfl (fun K hK => ?_) AllReadyH.nil)
              · refine step_append_src (by rfl) (some 58) (by rfl) (.tmp 53) (.tmp 57) 99 (by rfl) wd.heap.size 105 i0 (.agg Try.zeroCells105) 65 72 Try.underlying99 hi0 hz3 hz4 hz5 (by rfl) (by decide) (.slice (some ⟨g53, 0, none⟩) 0 0) 0 [] (by rfl) ho36 (by simp [Value.ownBlock]) xv N cN (by rfl) (gX.out _ hB36) hm1 hm2 hB36.size ?_
                intro g58 cap58 v37 ho37 hgr37 _ _
                refine hK.out _ _ trivial (fun _ => ?_)
                clear hK K
                simp only [Act.put, List.setIfInBounds_toArray, List.set_cons_zero, List.set_cons_succ]
                simp only [Nat.zero_add, List.nil_append] at ho37 ⊢
                have hB37 := below_grown hB36 hgr37 hq27
                have hk37 := blk_grown hk36 hgr37 hn36
                refine wpAnyH_ready (rs := [9]) (by kernel_rfl) (by simp) (AllReadyH.cons rfl (fun K hK => ?_) AllReadyH.nil)
                · refine step_append_src (by rfl) (some 61) (by rfl) (.tmp 58) (.tmp 60) 99 (by rfl) wd.heap.size 105 i0 (.agg Try.zeroCells105) 65 72 Try.underlying99 hi0 hz3 hz4 hz5 (by rfl) (by decide) (.slice (some ⟨g58, 0, none⟩) N cap58) N cN (by rfl) ho37 (by simp [Value.ownBlock]) (.slice (some ⟨g60, 0, none⟩) 1 1) 1 cw (by rfl) (src_blk hk37 hwl hw1c) hm3 hm4 hB37.size ?_
                  intro g61 cap61 v38 ho38 hgr38 _ _
                  refine hK.out _ _ trivial (fun _ => ?_)
                  clear hK K
                  simp only [Act.put, List.setIfInBounds_toArray, List.set_cons_zero, List.set_cons_succ]
                  have hB38 := below_grown hB37 hgr38 (World.ownsRow.lt ho37 g58 rfl).1
                  have hcz := gC.out _ hB38
                  have hfz := gF.out _ hB38
                  refine wpAnyH_take' 10 (some 62) (.pointer (some ⟨r, 0, none⟩)) rfl rfl (by kernel_rfl) (by kernel_rfl) (by kernel_rfl) (fun _ _ _ h => h) (Or.inl ⟨by rfl, fun w' _ => by go_simp⟩) trivial ?_
                  simp only [Act.put, List.setIfInBounds_toArray, List.set_cons_zero, List.set_cons_succ]
                  refine wpAnyH_take' 11 (some 63) (.pointer (some ⟨r, 1, none⟩)) rfl rfl (by kernel_rfl) (by kernel_rfl) (by kernel_rfl) (fun _ _ _ h => h) (Or.inl ⟨by rfl, fun w' _ => by go_simp⟩) trivial ?_
                  simp only [Act.put, List.setIfInBounds_toArray, List.set_cons_zero, List.set_cons_succ]
                  refine wpAnyH_ready (rs := [12]) (by kernel_rfl) (by simp) (AllReadyH.cons rfl (fun K hK => ?_) AllReadyH.nil)
                  have hfin := gE.out _ _ _ hB38 ho38
                  go_simp
                  refine hK.out _ _ trivial (fun _ => ?_)
                  clear hK K
                  refine wpAnyH_done (by kernel_rfl) ?_ _
                  go_wp2
                  go_ret
                  exact ⟨rfl, hfin⟩
        · refine step_load_mid' (by rfl) (some 59) (by rfl) 105 (.tmp 7) (by rfl) Bw 0 (by rfl) cw _ (gR.out _ hB0) Try.underlying105 rfl hwi ?_
          refine hK.out _ _ trivial (fun _ => ?_)
          clear hK K
          simp only [Act.put, List.setIfInBounds_toArray, List.set_cons_zero, List.set_cons_succ]
          refine wpAnyH_ready (rs := [1, 8]) (by kernel_rfl) (by simp) (AllReadyH.cons rfl (fun K hK => ?_) (AllReadyH.cons rfl (fun K hK => ?_) AllReadyH.nil))
          · refine step_build0' (by rfl) (some 53) (by rfl) 99 105 (by rfl) (.agg Try.zeroCells105) 65 Try.underlying99 hz65 hB0 ?_
            intro g53 v40 hg40 hb40 _ ho40
            refine hK.out _ _ trivial (fun _ => ?_)
            clear hK K
            simp only [Act.put, List.setIfInBounds_toArray, List.set_cons_zero, List.set_cons_succ]
            have hB40 : Below wd.heap.size wd v40 := hB0.trans (hb40.mono hB0.size)
            have hq40 : wd.heap.size ≤ g53 := by rw [hg40]; exact hB0.size
            have HG40 : Hid (g53 = wd.heap.size) := hg40
            clear hg40
            refine wpAnyH_ready (rs := [6, 8]) (by kernel_rfl) (by simp) (AllReadyH.cons rfl (fun K hK => ?_) (AllReadyH.cons rfl (fun K hK => ?_) AllReadyH.nil))
            · refine step_append_src (by rfl) (some 58) (by rfl) (.tmp 53) (.tmp 57) 99 (by rfl) wd.heap.size 105 i0 (.agg Try.zeroCells105) 65 72 Try.underlying99 hi0 hz3 hz4 hz5 (by rfl) (by decide) (.slice (some ⟨g53, 0, none⟩) 0 0) 0 [] (by rfl) ho40 (by simp [Value.ownBlock]) xv N cN (by rfl) (gX.out _ hB40) hm1 hm2 hB40.size ?_
              intro g58 cap58 v41 ho41 hgr41 _ _
              refine hK.out _ _ trivial (fun _ => ?_)
              clear hK K
              simp only [Act.put, List.setIfInBounds_toArray, List.set_cons_zero, List.set_cons_succ]
              simp only [Nat.zero_add, List.nil_append] at ho41 ⊢
              have hB41 := below_grown hB40 hgr41 hq40
              refine wpAnyH_ready (rs := [8]) (by kernel_rfl) (by simp) (AllReadyH.cons rfl (fun K hK => ?_) AllReadyH.nil)
              · refine step_build1' (by rfl) (some 60) (by rfl) 99 105 (.tmp 59) (by rfl) cw (by rfl) (.agg Try.zeroCells105) Try.underlying99 hz1 hz2 (by omega) (by omega) ?_
                intro g60 v42 hg42 hb42 _ hk42
                refine hK.out _ _ trivial (fun _ => ?_)
                clear hK K
                simp only [Act.put, List.setIfInBounds_toArray, List.set_cons_zero, List.set_cons_succ]
                have HG42 : Hid (g60 = v41.heap.size) := hg42
                clear hg42
                have hB42 : Below wd.heap.size wd v42 := hB41.trans (hb42.mono hB41.size)
                have ho42 := own_below ho41 hb42
                refine wpAnyH_ready (rs := [9]) (by kernel_rfl) (by simp) (AllReadyH.cons rfl (fun K hK => ?_) AllReadyH.nil)
                · refine step_append_src (by rfl) (some 61) (by rfl) (.tmp 58) (.tmp 60) 99 (by rfl) wd.heap.size 105 i0 (.agg Try.zeroCells105) 65 72 Try.underlying99 hi0 hz3 hz4 hz5 (by rfl) (by decide) (.slice (some ⟨g58, 0, none⟩) N cap58) N cN (by rfl) ho42 (by simp [Value.ownBlock]) (.slice (some ⟨g60, 0, none⟩) 1 1) 1 cw (by rfl) (src_blk hk42 hwl hw1c) hm3 hm4 hB42.size ?_
                  intro g61 cap61 v43 ho43 hgr43 _ _
                  refine hK.out _ _ trivial (fun _ => ?_)
                  clear hK K
                  simp only [Act.put, List.setIfInBounds_toArray, List.set_cons_zero, List.set_cons_succ]
                  have hB43 := below_grown hB42 hgr43 (World.ownsRow.lt ho42 g58 rfl).1
                  have hcz := gC.out _ hB43
                  have hfz := gF.out _ hB43
                  refine wpAnyH_take' 10 (some 62) (.pointer (some ⟨r, 0, none⟩)) rfl rfl (by kernel_rfl) (by kernel_rfl) (by kernel_rfl) (fun _ _ _ h => h) (Or.inl ⟨by rfl, fun w' _ => by go_simp⟩) trivial ?_
                  simp only [Act.put, List.setIfInBounds_toArray, List.set_cons_zero, List.set_cons_succ]
                  refine wpAnyH_take' 11 (some 63) (.pointer (some ⟨r, 1, none⟩)) rfl rfl (by kernel_rfl) (by kernel_rfl) (by kernel_rfl) (fun _ _ _ h => h) (Or.inl ⟨by rfl, fun w' _ => by go_simp⟩) trivial ?_
                  simp only [Act.put, List.setIfInBounds_toArray, List.set_cons_zero, List.set_cons_succ]
                  refine wpAnyH_ready (rs := [12]) (by kernel_rfl) (by simp) (AllReadyH.cons rfl (fun K hK => ?_) AllReadyH.nil)
                  have hfin := gE.out _ _ _ hB43 ho43
                  go_simp
                  refine hK.out _ _ trivial (fun _ => ?_)
                  clear hK K
                  refine wpAnyH_done (by kernel_rfl) ?_ _
                  go_wp2
                  go_ret
                  exact ⟨rfl, hfin⟩
            · refine step_build1' (by rfl) (some 60) (by rfl) 99 105 (.tmp 59) (by rfl) cw (by rfl) (.agg Try.zeroCells105) Try.underlying99 hz1 hz2 (by omega) (by omega) ?_
              intro g60 v44 hg44 hb44 _ hk44
              refine hK.out _ _ trivial (fun _ => ?_)
              clear hK K
              simp only [Act.put, List.setIfInBounds_toArray, List.set_cons_zero, List.set_cons_succ]
              have HG44 : Hid (g60 = v40.heap.size) := hg44
              clear hg44
              have hB44 : Below wd.heap.size wd v44 := hB40.trans (hb44.mono hB40.size)
              have hn44 : g60 ≠ g53 := fun e => by have := (World.ownsRow.lt ho40 g53 rfl).2; have := HG44.out; omega
              have ho44 := own_below ho40 hb44
              refine wpAnyH_ready (rs := [6]) (by kernel_rfl) (by simp) (AllReadyH.cons rfl (fun K hK => ?_) AllReadyH.nil)
              · refine step_append_src (by rfl) (some 58) (by rfl) (.tmp 53) (.tmp 57) 99 (by rfl) wd.heap.size 105 i0 (.agg Try.zeroCells105) 65 72 Try.underlying99 hi0 hz3 hz4 hz5 (by rfl) (by decide) (.slice (some ⟨g53, 0, none⟩) 0 0) 0 [] (by rfl) ho44 (by simp [Value.ownBlock]) xv N cN (by rfl) (gX.out _ hB44) hm1 hm2 hB44.size ?_
                intro g58 cap58 v45 ho45 hgr45 _ _
                refine hK.out _ _ trivial (fun _ => ?_)
                clear hK K
                simp only [Act.put, List.setIfInBounds_toArray, List.set_cons_zero, List.set_cons_succ]
                simp only [Nat.zero_add, List.nil_append] at ho45 ⊢
                have hB45 := below_grown hB44 hgr45 hq40
                have hk45 := blk_grown hk44 hgr45 hn44
                refine wpAnyH_ready (rs := [9]) (by kernel_rfl) (by simp) (AllReadyH.cons rfl (fun K hK => ?_) AllReadyH.nil)
                · refine step_append_src (by rfl) (some 61) (by rfl) (.tmp 58) (.tmp 60) 99 (by rfl) wd.heap.size 105 i0 (.agg Try.zeroCells105) 65 72 Try.underlying99 hi0 hz3 hz4 hz5 (by rfl) (by decide) (.slice (some ⟨g58, 0, none⟩) N cap58) N cN (by rfl) ho45 (by simp [Value.ownBlock]) (.slice (some ⟨g60, 0, none⟩) 1 1) 1 cw (by rfl) (src_blk hk45 hwl hw1c) hm3 hm4 hB45.size ?_
                  intro g61 cap61 v46 ho46 hgr46 _ _
                  refine hK.out _ _ trivial (fun _ => ?_)
                  clear hK K
                  simp only [Act.put, List.setIfInBounds_toArray, List.set_cons_zero, List.set_cons_succ]
                  have hB46 := below_grown hB45 hgr46 (World.ownsRow.lt ho45 g58 rfl).1
                  have hcz := gC.out _ hB46
                  have hfz := gF.out _ hB46
                  refine wpAnyH_take' 10 (some 62) (.pointer (some ⟨r, 0, none⟩)) rfl rfl (by kernel_rfl) (by kernel_rfl) (by kernel_rfl) (fun _ _ _ h => h) (Or.inl ⟨by rfl, fun w' _ => by go_simp⟩) trivial ?_
                  simp only [Act.put, List.setIfInBounds_toArray, List.set_cons_zero, List.set_cons_succ]
                  refine wpAnyH_take' 11 (some 63) (.pointer (some ⟨r, 1, none⟩)) rfl rfl (by kernel_rfl) (by kernel_rfl) (by kernel_rfl) (fun _ _ _ h => h) (Or.inl ⟨by rfl, fun w' _ => by go_simp⟩) trivial ?_
                  simp only [Act.put, List.setIfInBounds_toArray, List.set_cons_zero, List.set_cons_succ]
                  refine wpAnyH_ready (rs := [12]) (by kernel_rfl) (by simp) (AllReadyH.cons rfl (fun K hK => ?_) AllReadyH.nil)
                  have hfin := gE.out _ _ _ hB46 ho46
                  go_simp
                  refine hK.out _ _ trivial (fun _ => ?_)
                  clear hK K
                  refine wpAnyH_done (by kernel_rfl) ?_ _
                  go_wp2
                  go_ret
                  exact ⟨rfl, hfin⟩
          · refine step_build1' (by rfl) (some 60) (by rfl) 99 105 (.tmp 59) (by rfl) cw (by rfl) (.agg Try.zeroCells105) Try.underlying99 hz1 hz2 (by omega) (by omega) ?_
            intro g60 v47 hg47 hb47 _ hk47
            refine hK.out _ _ trivial (fun _ => ?_)
            clear hK K
            simp only [Act.put, List.setIfInBounds_toArray, List.set_cons_zero, List.set_cons_succ]
            have HG47 : Hid (g60 = wd.heap.size) := hg47
            clear hg47
            have hB47 : Below wd.heap.size wd v47 := hB0.trans (hb47.mono hB0.size)
            refine wpAnyH_ready (rs := [1]) (by kernel_rfl) (by simp) (AllReadyH.cons rfl (fun K hK => ?_) AllReadyH.nil)
            · refine step_build0' (by rfl) (some 53) (by rfl) 99 105 (by rfl) (.agg Try.zeroCells105) 65 Try.underlying99 hz65 hB47 ?_
              intro g53 v48 hg48 hb48 _ ho48
              refine hK.out _ _ trivial (fun _ => ?_)
              clear hK K
              simp only [Act.put, List.setIfInBounds_toArray, List.set_cons_zero, List.set_cons_succ]
              have hB48 : Below wd.heap.size wd v48 := hB47.trans (hb48.mono hB47.size)
              have hq48 : wd.heap.size ≤ g53 := by rw [hg48]; exact hB47.size
              have HG48 : Hid (g53 = v47.heap.size) := hg48
              clear hg48
              have hn48 : g60 ≠ g53 := fun e => by have := hk47.lt; have := HG48.out; omega
              have hk48 := hk47.below hb48
              refine wpAnyH_ready (rs := [6]) (by kernel_rfl) (by simp) (AllReadyH.cons rfl (fun K hK => ?_) AllReadyH.nil)
              · refine step_append_src (by rfl) (some 58) (by rfl) (.tmp 53) (.tmp 57) 99 (by rfl) wd.heap.size 105 i0 (.agg Try.zeroCells105) 65 72 Try.underlying99 hi0 hz3 hz4 hz5 (by rfl) (by decide) (.slice (some ⟨g53, 0, none⟩) 0 0) 0 [] (by rfl) ho48 (by simp [Value.ownBlock]) xv N cN (by rfl) (gX.out _ hB48) hm1 hm2 hB48.size ?_
                intro g58 cap58 v49 ho49 hgr49 _ _
                refine hK.out _ _ trivial (fun _ => ?_)
                clear hK K
                simp only [Act.put, List.setIfInBounds_toArray, List.set_cons_zero, List.set_cons_succ]
                simp only [Nat.zero_add, List.nil_append] at ho49 ⊢
                have hB49 := below_grown hB48 hgr49 hq48
                have hk49 := blk_grown hk48 hgr49 hn48
                refine wpAnyH_ready (rs := [9]) (by kernel_rfl) (by simp) (AllReadyH.cons rfl (fun K hK => ?_) AllReadyH.nil)
                · refine step_append_src (by rfl) (some 61) (by rfl) (.tmp 58) (.tmp 60) 99 (by rfl) wd.heap.size 105 i0 (.agg Try.zeroCells105) 65 72 Try.underlying99 hi0 hz3 hz4 hz5 (by rfl) (by decide) (.slice (some ⟨g58, 0, none⟩) N cap58) N cN (by rfl) ho49 (by simp [Value.ownBlock]) (.slice (some ⟨g60, 0, none⟩) 1 1) 1 cw (by rfl) (src_blk hk49 hwl hw1c) hm3 hm4 hB49.size ?_
                  intro g61 cap61 v50 ho50 hgr50 _ _
                  refine hK.out _ _ trivial (fun _ => ?_)
                  clear hK K
                  simp only [Act.put, List.setIfInBounds_toArray, List.set_cons_zero, List.set_cons_succ]
                  have hB50 := below_grown hB49 hgr50 (World.ownsRow.lt ho49 g58 rfl).1
                  have hcz := gC.out _ hB50
                  have hfz := gF.out _ hB50
                  refine wpAnyH_take' 10 (some 62) (.pointer (some ⟨r, 0, none⟩)) rfl rfl (by kernel_rfl) (by kernel_rfl) (by kernel_rfl) (fun _ _ _ h => h) (Or.inl ⟨by rfl, fun w' _ => by go_simp⟩) trivial ?_
                  simp only [Act.put, List.setIfInBounds_toArray, List.set_cons_zero, List.set_cons_succ]
                  refine wpAnyH_take' 11 (some 63) (.pointer (some ⟨r, 1, none⟩)) rfl rfl (by kernel_rfl) (by kernel_rfl) (by kernel_rfl) (fun _ _ _ h => h) (Or.inl ⟨by rfl, fun w' _ => by go_simp⟩) trivial ?_
                  simp only [Act.put, List.setIfInBounds_toArray, List.set_cons_zero, List.set_cons_succ]
                  refine wpAnyH_ready (rs := [12]) (by kernel_rfl) (by simp) (AllReadyH.cons rfl (fun K hK => ?_) AllReadyH.nil)
                  have hfin := gE.out _ _ _ hB50 ho50
                  go_simp
                  refine hK.out _ _ trivial (fun _ => ?_)
                  clear hK K
                  refine wpAnyH_done (by kernel_rfl) ?_ _
                  go_wp2
                  go_ret
                  exact ⟨rfl, hfin⟩
      · refine step_load_mid' (by rfl) (some 59) (by rfl) 105 (.tmp 7) (by rfl) Bw 0 (by rfl) cw _ (gR.out _ hB0) Try.underlying105 rfl hwi ?_
        refine hK.out _ _ trivial (fun _ => ?_)
        clear hK K
        simp only [Act.put, List.setIfInBounds_toArray, List.set_cons_zero, List.set_cons_succ]
        refine wpAnyH_ready (rs := [1, 5, 8]) (by kernel_rfl) (by simp) (AllReadyH.cons rfl (fun K hK => ?_) (AllReadyH.cons rfl (fun K hK => ?_) (AllReadyH.cons rfl (fun K hK => ?_) AllReadyH.nil)))
        · refine step_build0' (by rfl) (some 53) (by rfl) 99 105 (by rfl) (.agg Try.zeroCells105) 65 Try.underlying99 hz65 hB0 ?_
          intro g53 v52 hg52 hb52 _ ho52
          refine hK.out _ _ trivial (fun _ => ?_)
          clear hK K
          simp only [Act.put, List.setIfInBounds_toArray, List.set_cons_zero, List.set_cons_succ]
          have hB52 : Below wd.heap.size wd v52 := hB0.trans (hb52.mono hB0.size)
          have hq52 : wd.heap.size ≤ g53 := by rw [hg52]; exact hB0.size
          have HG52 : Hid (g53 = wd.heap.size) := hg52
          clear hg52
          refine wpAnyH_ready (rs := [5, 8]) (by kernel_rfl) (by simp) (AllReadyH.cons rfl (fun K hK => ?_) (AllReadyH.cons rfl (fun K hK => ?_) AllReadyH.nil))
          · have hcl53 := gC.out _ hB52
            go_simp
            refine hK.out _ _ trivial (fun _ => ?_)
            clear hK K
            clear hcl53
            refine wpAnyH_ready (rs := [6, 8]) (by kernel_rfl) (by simp) (AllReadyH.cons rfl (fun K hK => ?_) (AllReadyH.cons rfl (fun K hK => ?_) AllReadyH.nil))
            · refine step_append_src (by rfl) (some 58) (by rfl) (.tmp 53) (.tmp 57) 99 (by rfl) wd.heap.size 105 i0 (.agg Try.zeroCells105) 65 72 Try.underlying99 hi0 hz3 hz4 hz5 (by rfl) (by decide) (.slice (some ⟨g53, 0, none⟩) 0 0) 0 [] (by rfl) ho52 (by simp [Value.ownBlock]) xv N cN (by rfl) (gX.out _ hB52) hm1 hm2 hB52.size ?_
              intro g58 cap58 v54 ho54 hgr54 _ _
              refine hK.out _ _ trivial (fun _ => ?_)
              clear hK K
              simp only [Act.put, List.setIfInBounds_toArray, List.set_cons_zero, List.set_cons_succ]
              simp only [Nat.zero_add, List.nil_append] at ho54 ⊢
              have hB54 := below_grown hB52 hgr54 hq52
              refine wpAnyH_ready (rs := [8]) (by kernel_rfl) (by simp) (AllReadyH.cons rfl (fun K hK => ?_) AllReadyH.nil)
              · refine step_build1' (by rfl) (some 60) (by rfl) 99 105 (.tmp 59) (by rfl) cw (by rfl) (.agg Try.zeroCells105) Try.underlying99 hz1 hz2 (by omega) (by omega) ?_
                intro g60 v55 hg55 hb55 _ hk55
                refine hK.out _ _ trivial (fun _ => ?_)
                clear hK K
                simp only [Act.put, List.setIfInBounds_toArray, List.set_cons_zero, List.set_cons_succ]
                have HG55 : Hid (g60 = v54.heap.size) := hg55
                clear hg55
                have hB55 : Below wd.heap.size wd v55 := hB54.trans (hb55.mono hB54.size)
                have ho55 := own_below ho54 hb55
                refine wpAnyH_ready (rs := [9]) (by kernel_rfl) (by simp) (AllReadyH.cons rfl (fun K hK => ?_) AllReadyH.nil)
                · refine step_append_src (by rfl) (some 61) (by rfl) (.tmp 58) (.tmp 60) 99 (by rfl) wd.heap.size 105 i0 (.agg Try.zeroCells105) 65 72 Try.underlying99 hi0 hz3 hz4 hz5 (by rfl) (by decide) (.slice (some ⟨g58, 0, none⟩) N cap58) N cN (by rfl) ho55 (by simp [Value.ownBlock]) (.slice (some ⟨g60, 0, none⟩) 1 1) 1 cw (by rfl) (src_blk hk55 hwl hw1c) hm3 hm4 hB55.size ?_
                  intro g61 cap61 v56 ho56 hgr56 _ _
                  refine hK.out _ _ trivial (fun _ => ?_)
                  clear hK K
                  simp only [Act.put, List.setIfInBounds_toArray, List.set_cons_zero, List.set_cons_succ]
                  have hB56 := below_grown hB55 hgr56 (World.ownsRow.lt ho55 g58 rfl).1
                  have hcz := gC.out _ hB56
                  have hfz := gF.out _ hB56
                  refine wpAnyH_take' 10 (some 62) (.pointer (some ⟨r, 0, none⟩)) rfl rfl (by kernel_rfl) (by kernel_rfl) (by kernel_rfl) (fun _ _ _ h => h) (Or.inl ⟨by rfl, fun w' _ => by go_simp⟩) trivial ?_
                  simp only [Act.put, List.setIfInBounds_toArray, List.set_cons_zero, List.set_cons_succ]
                  refine wpAnyH_take' 11 (some 63) (.pointer (some ⟨r, 1, none⟩)) rfl rfl (by kernel_rfl) (by kernel_rfl) (by kernel_rfl) (fun _ _ _ h => h) (Or.inl ⟨by rfl, fun w' _ => by go_simp⟩) trivial ?_
                  simp only [Act.put, List.setIfInBounds_toArray, List.set_cons_zero, List.set_cons_succ]
                  refine wpAnyH_ready (rs := [12]) (by kernel_rfl) (by simp) (AllReadyH.cons rfl (fun K hK => ?_) AllReadyH.nil)
                  have hfin := gE.out _ _ _ hB56 ho56
                  go_simp
                  refine hK.out _ _ trivial (fun _ => ?_)
                  clear hK K
                  refine wpAnyH_done (by kernel_rfl) ?_ _
                  go_wp2
                  go_ret
                  exact ⟨rfl, hfin⟩
            · refine step_build1' (by rfl) (some 60) (by rfl) 99 105 (.tmp 59) (by rfl) cw (by rfl) (.agg Try.zeroCells105) Try.underlying99 hz1 hz2 (by omega) (by omega) ?_
              intro g60 v57 hg57 hb57 _ hk57
              refine hK.out _ _ trivial (fun _ => ?_)
              clear hK K
              simp only [Act.put, List.setIfInBounds_toArray, List.set_cons_zero, List.set_cons_succ]
              have HG57 : Hid (g60 = v52.heap.size) := hg57
              clear hg57
              have hB57 : Below wd.heap.size wd v57 := hB52.trans (hb57.mono hB52.size)
              have hn57 : g60 ≠ g53 := fun e => by have := (World.ownsRow.lt ho52 g53 rfl).2; have := HG57.out; omega
              have ho57 := own_below ho52 hb57
              refine wpAnyH_ready (rs := [6]) (by kernel_rfl) (by simp) (AllReadyH.cons rfl (fun K hK => ?_) AllReadyH.nil)
              · refine step_append_src (by rfl) (some 58) (by rfl) (.tmp 53) (.tmp 57) 99 (by rfl) wd.heap.size 105 i0 (.agg Try.zeroCells105) 65 72 Try.underlying99 hi0 hz3 hz4 hz5 (by rfl) (by decide) (.slice (some ⟨g53, 0, none⟩) 0 0) 0 [] (by rfl) ho57 (by simp [Value.ownBlock]) xv N cN (by rfl) (gX.out _ hB57) hm1 hm2 hB57.size ?_
                intro g58 cap58 v58 ho58 hgr58 _ _
                refine hK.out _ _ trivial (fun _ => ?_)
                clear hK K
                simp only [Act.put, List.setIfInBounds_toArray, List.set_cons_zero, List.set_cons_succ]
                simp only [Nat.zero_add, List.nil_append] at ho58 ⊢
                have hB58 := below_grown hB57 hgr58 hq52
                have hk58 := blk_grown hk57 hgr58 hn57
                refine wpAnyH_ready (rs := [9]) (by kernel_rfl) (by simp) (AllReadyH.cons rfl (fun K hK => ?_) AllReadyH.nil)
                · refine step_append_src (by rfl) (some 61) (by rfl) (.tmp 58) (.tmp 60) 99 (by rfl) wd.heap.size 105 i0 (.agg Try.zeroCells105) 65 72 Try.underlying99 hi0 hz3 hz4 hz5 (by rfl) (by decide) (.slice (some ⟨g58, 0, none⟩) N cap58) N cN (by rfl) ho58 (by simp [Value.ownBlock]) (.slice (some ⟨g60, 0, none⟩) 1 1) 1 cw (by rfl) (src_blk hk58 hwl hw1c) hm3 hm4 hB58.size ?_
                  intro g61 cap61 v59 ho59 hgr59 _ _
                  refine hK.out _ _ trivial (fun _ => ?_)
                  clear hK K
                  simp only [Act.put, List.setIfInBounds_toArray, List.set_cons_zero, List.set_cons_succ]
                  have hB59 := below_grown hB58 hgr59 (World.ownsRow.lt ho58 g58 rfl).1
                  have hcz := gC.out _ hB59
                  have hfz := gF.out _ hB59
                  refine wpAnyH_take' 10 (some 62) (.pointer (some ⟨r, 0, none⟩)) rfl rfl (by kernel_rfl) (by kernel_rfl) (by kernel_rfl) (fun _ _ _ h => h) (Or.inl ⟨by rfl, fun w' _ => by go_simp⟩) trivial ?_
                  simp only [Act.put, List.setIfInBounds_toArray, List.set_cons_zero, List.set_cons_succ]
                  refine wpAnyH_take' 11 (some 63) (.pointer (some ⟨r, 1, none⟩)) rfl rfl (by kernel_rfl) (by kernel_rfl) (by kernel_rfl) (fun _ _ _ h => h) (Or.inl ⟨by rfl, fun w' _ => by go_simp⟩) trivial ?_
                  simp only [Act.put, List.setIfInBounds_toArray, List.set_cons_zero, List.set_cons_succ]
                  refine wpAnyH_ready (rs := [12]) (by kernel_rfl) (by simp) (AllReadyH.cons rfl (fun K hK => ?_) AllReadyH.nil)
                  have hfin := gE.out _ _ _ hB59 ho59
                  go_simp
                  refine hK.out _ _ trivial (fun _ => ?_)
                  clear hK K
                  refine wpAnyH_done (by kernel_rfl) ?_ _
                  go_wp2
                  go_ret
                  exact ⟨rfl, hfin⟩
          · refine step_build1' (by rfl) (some 60) (by rfl) 99 105 (.tmp 59) (by rfl) cw (by rfl) (.agg Try.zeroCells105) Try.underlying99 hz1 hz2 (by omega) (by omega) ?_
            intro g60 v60 hg60 hb60 _ hk60
            refine hK.out _ _ trivial (fun _ => ?_)
            clear hK K
            simp only [Act.put, List.setIfInBounds_toArray, List.set_cons_zero, List.set_cons_succ]
            have HG60 : Hid (g60 = v52.heap.size) := hg60
            clear hg60
            have hB60 : Below wd.heap.size wd v60 := hB52.trans (hb60.mono hB52.size)
            have hn60 : g60 ≠ g53 := fun e => by have := (World.ownsRow.lt ho52 g53 rfl).2; have := HG60.out; omega
            have ho60 := own_below ho52 hb60
            refine wpAnyH_ready (rs := [5]) (by kernel_rfl) (by simp) (AllReadyH.cons rfl (fun K hK => ?_) AllReadyH.nil)
            · have hcl61 := gC.out _ hB60
              go_simp
              refine hK.out _ _ trivial (fun _ => ?_)
              clear hK K
              clear hcl61
              refine wpAnyH_ready (rs := [6]) (by kernel_rfl) (by simp) (AllReadyH.cons rfl (fun K hK => ?_) AllReadyH.nil)
              · refine step_append_src (by rfl) (some 58) (by rfl) (.tmp 53) (.tmp 57) 99 (by rfl) wd.heap.size 105 i0 (.agg Try.zeroCells105) 65 72 Try.underlying99 hi0 hz3 hz4 hz5 (by rfl) (by decide) (.slice (some ⟨g53, 0, none⟩) 0 0) 0 [] (by rfl) ho60 (by simp [Value.ownBlock]) xv N cN (by rfl) (gX.out _ hB60) hm1 hm2 hB60.size ?_
                intro g58 cap58 v62 ho62 hgr62 _ _
                refine hK.out _ _ trivial (fun _ => ?_)
                clear hK K
                simp only [Act.put, List.setIfInBounds_toArray, List.set_cons_zero, List.set_cons_succ]
                simp only [Nat.zero_add, List.nil_append] at ho62 ⊢
                have hB62 := below_grown hB60 hgr62 hq52
                have hk62 := blk_grown hk60 hgr62 hn60
                refine wpAnyH_ready (rs := [9]) (by kernel_rfl) (by simp) (AllReadyH.cons rfl (fun K hK => ?_) AllReadyH.nil)
                · refine step_append_src (by rfl) (some 61) (by rfl) (.tmp 58) (.tmp 60) 99 (by rfl) wd.heap.size 105 i0 (.agg Try.zeroCells105) 65 72 Try.underlying99 hi0 hz3 hz4 hz5 (by rfl) (by decide) (.slice (some ⟨g58, 0, none⟩) N cap58) N cN (by rfl) ho62 (by simp [Value.ownBlock]) (.slice (some ⟨g60, 0, none⟩) 1 1) 1 cw (by rfl) (src_blk hk62 hwl hw1c) hm3 hm4 hB62.size ?_
                  intro g61 cap61 v63 ho63 hgr63 _ _
                  refine hK.out _ _ trivial (fun _ => ?_)
                  clear hK K
                  simp only [Act.put, List.setIfInBounds_toArray, List.set_cons_zero, List.set_cons_succ]
                  have hB63 := below_grown hB62 hgr63 (World.ownsRow.lt ho62 g58 rfl).1
                  have hcz := gC.out _ hB63
                  have hfz := gF.out _ hB63
                  refine wpAnyH_take' 10 (some 62) (.pointer (some ⟨r, 0, none⟩)) rfl rfl (by kernel_rfl) (by kernel_rfl) (by kernel_rfl) (fun _ _ _ h => h) (Or.inl ⟨by rfl, fun w' _ => by go_simp⟩) trivial ?_
                  simp only [Act.put, List.setIfInBounds_toArray, List.set_cons_zero, List.set_cons_succ]
                  refine wpAnyH_take' 11 (some 63) (.pointer (some ⟨r, 1, none⟩)) rfl rfl (by kernel_rfl) (by kernel_rfl) (by kernel_rfl) (fun _ _ _ h => h) (Or.inl ⟨by rfl, fun w' _ => by go_simp⟩) trivial ?_
                  simp only [Act.put, List.setIfInBounds_toArray, List.set_cons_zero, List.set_cons_succ]
                  refine wpAnyH_ready (rs := [12]) (by kernel_rfl) (by simp) (AllReadyH.cons rfl (fun K hK => ?_) AllReadyH.nil)
                  have hfin := gE.out _ _ _ hB63 ho63
                  go_simp
                  refine hK.out _ _ trivial (fun _ => ?_)
                  clear hK K
                  refine wpAnyH_done (by kernel_rfl) ?_ _
                  go_wp2
                  go_ret
                  exact ⟨rfl, hfin⟩
        · have hcl64 := gC.out _ hB0
          go_simp
          refine hK.out _ _ trivial (fun _ => ?_)
          clear hK K
          clear hcl64
          refine wpAnyH_ready (rs := [1, 8]) (by kernel_rfl) (by simp) (AllReadyH.cons rfl (fun K hK => ?_) (AllReadyH.cons rfl (fun K hK => ?_) AllReadyH.nil))
          · refine step_build0' (by rfl) (some 53) (by rfl) 99 105 (by rfl) (.agg Try.zeroCells105) 65 Try.underlying99 hz65 hB0 ?_
            intro g53 v65 hg65 hb65 _ ho65
            refine hK.out _ _ trivial (fun _ => ?_)
            clear hK K
            simp only [Act.put, List.setIfInBounds_toArray, List.set_cons_zero, List.set_cons_succ]
            have hB65 : Below wd.heap.size wd v65 := hB0.trans (hb65.mono hB0.size)
            have hq65 : wd.heap.size ≤ g53 := by rw [hg65]; exact hB0.size
            have HG65 : Hid (g53 = wd.heap.size) := hg65
            clear hg65
            refine wpAnyH_ready (rs := [6, 8]) (by kernel_rfl) (by simp) (AllReadyH.cons rfl (fun K hK => ?_) (AllReadyH.cons rfl (fun K hK => ?_) AllReadyH.nil))
            · refine step_append_src (by rfl) (some 58) (by rfl) (.tmp 53) (.tmp 57) 99 (by rfl) wd.heap.size 105 i0 (.agg Try.zeroCells105) 65 72 Try.underlying99 hi0 hz3 hz4 hz5 (by rfl) (by decide) (.slice (some ⟨g53, 0, none⟩) 0 0) 0 [] (by rfl) ho65 (by simp [Value.ownBlock]) xv N cN (by rfl) (gX.out _ hB65) hm1 hm2 hB65.size ?_
              intro g58 cap58 v66 ho66 hgr66 _ _
              refine hK.out _ _ trivial (fun _ => ?_)
              clear hK K
              simp only [Act.put, List.setIfInBounds_toArray, List.set_cons_zero, List.set_cons_succ]
              simp only [Nat.zero_add, List.nil_append] at ho66 ⊢
              have hB66 := below_grown hB65 hgr66 hq65
              refine wpAnyH_ready (rs := [8]) (by kernel_rfl) (by simp) (AllReadyH.cons rfl (fun K hK => ?_) AllReadyH.nil)
              · refine step_build1' (by rfl) (some 60) (by rfl) 99 105 (.tmp 59) (by rfl) cw (by rfl) (.agg Try.zeroCells105) Try.underlying99 hz1 hz2 (by omega) (by omega) ?_
                intro g60 v67 hg67 hb67 _ hk67
                refine hK.out _ _ trivial (fun _ => ?_)
                clear hK K
                simp only [Act.put, List.setIfInBounds_toArray, List.set_cons_zero, List.set_cons_succ]
                have HG67 : Hid (g60 = v66.heap.size) := hg67
                clear hg67
                have hB67 : Below wd.heap.size wd v67 := hB66.trans (hb67.mono hB66.size)
                have ho67 := own_below ho66 hb67
                refine wpAnyH_ready (rs := [9]) (by kernel_rfl) (by simp) (AllReadyH.cons rfl (fun K hK => ?_) AllReadyH.nil)
                · refine step_append_src (by rfl) (some 61) (by rfl) (.tmp 58) (.tmp 60) 99 (by rfl) wd.heap.size 105 i0 (.agg Try.zeroCells105) 65 72 Try.underlying99 hi0 hz3 hz4 hz5 (by rfl) (by decide) (.slice (some ⟨g58, 0, none⟩) N cap58) N cN (by rfl) ho67 (by simp [Value.ownBlock]) (.slice (some ⟨g60, 0, none⟩) 1 1) 1 cw (by rfl) (src_blk hk67 hwl hw1c) hm3 hm4 hB67.size ?_
                  intro g61 cap61 v68 ho68 hgr68 _ _
                  refine hK.out _ _ trivial (fun _ => ?_)
                  clear hK K
                  simp only [Act.put, List.setIfInBounds_toArray, List.set_cons_zero, List.set_cons_succ]
                  have hB68 := below_grown hB67 hgr68 (World.ownsRow.lt ho67 g58 rfl).1
                  have hcz := gC.out _ hB68
                  have hfz := gF.out _ hB68
                  refine wpAnyH_take' 10 (some 62) (.pointer (some ⟨r, 0, none⟩)) rfl rfl (by kernel_rfl) (by kernel_rfl) (by kernel_rfl) (fun _ _ _ h => h) (Or.inl ⟨by rfl, fun w' _ => by go_simp⟩) trivial ?_
                  simp only [Act.put, List.setIfInBounds_toArray, List.set_cons_zero, List.set_cons_succ]
                  refine wpAnyH_take' 11 (some 63) (.pointer (some ⟨r, 1, none⟩)) rfl rfl (by kernel_rfl) (by kernel_rfl) (by kernel_rfl) (fun _ _ _ h => h) (Or.inl ⟨by rfl, fun w' _ => by go_simp⟩) trivial ?_
                  simp only [Act.put, List.setIfInBounds_toArray, List.set_cons_zero, List.set_cons_succ]
                  refine wpAnyH_ready (rs := [12]) (by kernel_rfl) (by simp) (AllReadyH.cons rfl (fun K hK => ?_) AllReadyH.nil)
                  have hfin := gE.out _ _ _ hB68 ho68
                  go_simp
                  refine hK.out _ _ trivial (fun _ => ?_)
                  clear hK K
                  refine wpAnyH_done (by kernel_rfl) ?_ _
                  go_wp2
                  go_ret
                  exact ⟨rfl, hfin⟩
            · refine step_build1' (by rfl) (some 60) (by rfl) 99 105 (.tmp 59) (by rfl) cw (by rfl) (.agg Try.zeroCells105) Try.underlying99 hz1 hz2 (by omega) (by omega) ?_
              intro g60 v69 hg69 hb69 _ hk69
              refine hK.out _ _ trivial (fun _ => ?_)
              clear hK K
              simp only [Act.put, List.setIfInBounds_toArray, List.set_cons_zero, List.set_cons_succ]
              have HG69 : Hid (g60 = v65.heap.size) := hg69
              clear hg69
              have hB69 : Below wd.heap.size wd v69 := hB65.trans (hb69.mono hB65.size)
              have hn69 : g60 ≠ g53 := fun e => by have := (World.ownsRow.lt ho65 g53 rfl).2; have := HG69.out; omega
              have ho69 := own_below ho65 hb69
              refine wpAnyH_ready (rs := [6]) (by kernel_rfl) (by simp) (AllReadyH.cons rfl (fun K hK => ?_) AllReadyH.nil)
              · refine step_append_src (by rfl) (some 58) (by rfl) (.tmp 53) (.tmp 57) 99 (by rfl) wd.heap.size 105 i0 (.agg Try.zeroCells105) 65 72 Try.underlying99 hi0 hz3 hz4 hz5 (by rfl) (by decide) (.slice (some ⟨g53, 0, none⟩) 0 0) 0 [] (by rfl) ho69 (by simp [Value.ownBlock]) xv N cN (by rfl) (gX.out _ hB69) hm1 hm2 hB69.size ?_
                intro g58 cap58 v70 ho70 hgr70 _ _
                refine hK.out _ _ trivial (fun _ => ?_)
                clear hK K
                simp only [Act.put, List.setIfInBounds_toArray, List.set_cons_zero, List.set_cons_succ]
                simp only [Nat.zero_add, List.nil_append] at ho70 ⊢
                have hB70 := below_grown hB69 hgr70 hq65
                have hk70 := blk_grown hk69 hgr70 hn69
                refine wpAnyH_ready (rs := [9]) (by kernel_rfl) (by simp) (AllReadyH.cons rfl (fun K hK => ?_) AllReadyH.nil)
                · refine step_append_src (by rfl) (some 61) (by rfl) (.tmp 58) (.tmp 60) 99 (by rfl) wd.heap.size 105 i0 (.agg Try.zeroCells105) 65 72 Try.underlying99 hi0 hz3 hz4 hz5 (by rfl) (by decide) (.slice (some ⟨g58, 0, none⟩) N cap58) N cN (by rfl) ho70 (by simp [Value.ownBlock]) (.slice (some ⟨g60, 0, none⟩) 1 1) 1 cw (by rfl) (src_blk hk70 hwl hw1c) hm3 hm4 hB70.size ?_
                  intro g61 cap61 v71 ho71 hgr71 _ _
                  refine hK.out _ _ trivial (fun _ => ?_)
                  clear hK K
                  simp only [Act.put, List.setIfInBounds_toArray, List.set_cons_zero, List.set_cons_succ]
                  have hB71 := below_grown hB70 hgr71 (World.ownsRow.lt ho70 g58 rfl).1
                  have hcz := gC.out _ hB71
                  have hfz := gF.out _ hB71
                  refine wpAnyH_take' 10 (some 62) (.pointer (some ⟨r, 0, none⟩)) rfl rfl (by kernel_rfl) (by kernel_rfl) (by kernel_rfl) (fun _ _ _ h => h) (Or.inl ⟨by rfl, fun w' _ => by go_simp⟩) trivial ?_
                  simp only [Act.put, List.setIfInBounds_toArray, List.set_cons_zero, List.set_cons_succ]
                  refine wpAnyH_take' 11 (some 63) (.pointer (some ⟨r, 1, none⟩)) rfl rfl (by kernel_rfl) (by kernel_rfl) (by kernel_rfl) (fun _ _ _ h => h) (Or.inl ⟨by rfl, fun w' _ => by go_simp⟩) trivial ?_
                  simp only [Act.put, List.setIfInBounds_toArray, List.set_cons_zero, List.set_cons_succ]
                  refine wpAnyH_ready (rs := [12]) (by kernel_rfl) (by simp) (AllReadyH.cons rfl (fun K hK => ?_) AllReadyH.nil)
                  have hfin := gE.out _ _ _ hB71 ho71
                  go_simp
                  refine hK.out _ _ trivial (fun _ => ?_)
                  clear hK K
                  refine wpAnyH_done (by kernel_rfl) ?_ _
                  go_wp2
                  go_ret
                  exact ⟨rfl, hfin⟩
          · refine step_build1' (by rfl) (some 60) (by rfl) 99 105 (.tmp 59) (by rfl) cw (by rfl) (.agg Try.zeroCells105) Try.underlying99 hz1 hz2 (by omega) (by omega) ?_
            intro g60 v72 hg72 hb72 _ hk72
            refine hK.out _ _ trivial (fun _ => ?_)
            clear hK K
            simp only [Act.put, List.setIfInBounds_toArray, List.set_cons_zero, List.set_cons_succ]
            have HG72 : Hid (g60 = wd.heap.size) := hg72
            clear hg72
            have hB72 : Below wd.heap.size wd v72 := hB0.trans (hb72.mono hB0.size)
            refine wpAnyH_ready (rs := [1]) (by kernel_rfl) (by simp) (AllReadyH.cons rfl (fun K hK => ?_) AllReadyH.nil)
            · refine step_build0' (by rfl) (some 53) (by rfl) 99 105 (by rfl) (.agg Try.zeroCells105) 65 Try.underlying99 hz65 hB72 ?_
              intro g53 v73 hg73 hb73 _ ho73
              refine hK.out _ _ trivial (fun _ => ?_)
              clear hK K
              simp only [Act.put, List.setIfInBounds_toArray, List.set_cons_zero, List.set_cons_succ]
              have hB73 : Below wd.heap.size wd v73 := hB72.trans (hb73.mono hB72.size)
              have hq73 : wd.heap.size ≤ g53 := by rw [hg73]; exact hB72.size
              have HG73 : Hid (g53 = v72.heap.size) := hg73
              clear hg73
              have hn73 : g60 ≠ g53 := fun e => by have := hk72.lt; have := HG73.out; omega
              have hk73 := hk72.below hb73
              refine wpAnyH_ready (rs := [6]) (by kernel_rfl) (by simp) (AllReadyH.cons rfl (fun K hK => ?_) AllReadyH.nil)
              · refine step_append_src (by rfl) (some 58) (by rfl) (.tmp 53) (.tmp 57) 99 (by rfl) wd.heap.size 105 i0 (.agg Try.zeroCells105) 65 72 Try.underlying99 hi0 hz3 hz4 hz5 (by rfl) (by decide) (.slice (some ⟨g53, 0, none⟩) 0 0) 0 [] (by rfl) ho73 (by simp [Value.ownBlock]) xv N cN (by rfl) (gX.out _ hB73) hm1 hm2 hB73.size ?_
                intro g58 cap58 v74 ho74 hgr74 _ _
                refine hK.out _ _ trivial (fun _ => ?_)
                clear hK K
                simp only [Act.put, List.setIfInBounds_toArray, List.set_cons_zero, List.set_cons_succ]
                simp only [Nat.zero_add, List.nil_append] at ho74 ⊢
                have hB74 := below_grown hB73 hgr74 hq73
                have hk74 := blk_grown hk73 hgr74 hn73
                refine wpAnyH_ready (rs := [9]) (by kernel_rfl) (by simp) (AllReadyH.cons rfl (fun K hK => ?_) AllReadyH.nil)
                · refine step_append_src (by rfl) (some 61) (by rfl) (.tmp 58) (.tmp 60) 99 (by rfl) wd.heap.size 105 i0 (.agg Try.zeroCells105) 65 72 Try.underlying99 hi0 hz3 hz4 hz5 (by rfl) (by decide) (.slice (some ⟨g58, 0, none⟩) N cap58) N cN (by rfl) ho74 (by simp [Value.ownBlock]) (.slice (some ⟨g60, 0, none⟩) 1 1) 1 cw (by rfl) (src_blk hk74 hwl hw1c) hm3 hm4 hB74.size ?_
                  intro g61 cap61 v75 ho75 hgr75 _ _
                  refine hK.out _ _ trivial (fun _ => ?_)
                  clear hK K
                  simp only [Act.put, List.setIfInBounds_toArray, List.set_cons_zero, List.set_cons_succ]
                  have hB75 := below_grown hB74 hgr75 (World.ownsRow.lt ho74 g58 rfl).1
                  have hcz := gC.out _ hB75
                  have hfz := gF.out _ hB75
                  refine wpAnyH_take' 10 (some 62) (.pointer (some ⟨r, 0, none⟩)) rfl rfl (by kernel_rfl) (by kernel_rfl) (by kernel_rfl) (fun _ _ _ h => h) (Or.inl ⟨by rfl, fun w' _ => by go_simp⟩) trivial ?_
                  simp only [Act.put, List.setIfInBounds_toArray, List.set_cons_zero, List.set_cons_succ]
                  refine wpAnyH_take' 11 (some 63) (.pointer (some ⟨r, 1, none⟩)) rfl rfl (by kernel_rfl) (by kernel_rfl) (by kernel_rfl) (fun _ _ _ h => h) (Or.inl ⟨by rfl, fun w' _ => by go_simp⟩) trivial ?_
                  simp only [Act.put, List.setIfInBounds_toArray, List.set_cons_zero, List.set_cons_succ]
                  refine wpAnyH_ready (rs := [12]) (by kernel_rfl) (by simp) (AllReadyH.cons rfl (fun K hK => ?_) AllReadyH.nil)
                  have hfin := gE.out _ _ _ hB75 ho75
                  go_simp
                  refine hK.out _ _ trivial (fun _ => ?_)
                  clear hK K
                  refine wpAnyH_done (by kernel_rfl) ?_ _
                  go_wp2
                  go_ret
                  exact ⟨rfl, hfin⟩
        · refine step_build1' (by rfl) (some 60) (by rfl) 99 105 (.tmp 59) (by rfl) cw (by rfl) (.agg Try.zeroCells105) Try.underlying99 hz1 hz2 (by omega) (by omega) ?_
          intro g60 v76 hg76 hb76 _ hk76
          refine hK.out _ _ trivial (fun _ => ?_)
          clear hK K
          simp only [Act.put, List.setIfInBounds_toArray, List.set_cons_zero, List.set_cons_succ]
          have HG76 : Hid (g60 = wd.heap.size) := hg76
          clear hg76
          have hB76 : Below wd.heap.size wd v76 := hB0.trans (hb76.mono hB0.size)
          refine wpAnyH_ready (rs := [1, 5]) (by kernel_rfl) (by simp) (AllReadyH.cons rfl (fun K hK => ?_) (AllReadyH.cons rfl (fun K hK => ?_) AllReadyH.nil))
          · refine step_build0' (by rfl) (some 53) (by rfl) 99 105 (by rfl) (.agg Try.zeroCells105) 65 Try.underlying99 hz65 hB76 ?_
            intro g53 v77 hg77 hb77 _ ho77
            refine hK.out _ _ trivial (fun _ => ?_)
            clear hK K
            simp only [Act.put, List.setIfInBounds_toArray, List.set_cons_zero, List.set_cons_succ]
            have hB77 : Below wd.heap.size wd v77 := hB76.trans (hb77.mono hB76.size)
            have hq77 : wd.heap.size ≤ g53 := by rw [hg77]; exact hB76.size
            have HG77 : Hid (g53 = v76.heap.size) := hg77
            clear hg77
            have hn77 : g60 ≠ g53 := fun e => by have := hk76.lt; have := HG77.out; omega
            have hk77 := hk76.below hb77
            refine wpAnyH_ready (rs := [5]) (by kernel_rfl) (by simp) (AllReadyH.cons rfl (fun K hK => ?_) AllReadyH.nil)
            · have hcl78 := gC.out _ hB77
              go_simp
              refine hK.out _ _ trivial (fun _ => ?_)
              clear hK K
              clear hcl78
              refine wpAnyH_ready (rs := [6]) (by kernel_rfl) (by simp) (AllReadyH.cons rfl (fun K hK => ?_) AllReadyH.nil)
              · refine step_append_src (by rfl) (some 58) (by rfl) (.tmp 53) (.tmp 57) 99 (by rfl) wd.heap.size 105 i0 (.agg Try.zeroCells105) 65 72 Try.underlying99 hi0 hz3 hz4 hz5 (by rfl) (by decide) (.slice (some ⟨g53, 0, none⟩) 0 0) 0 [] (by rfl) ho77 (by simp [Value.ownBlock]) xv N cN (by rfl) (gX.out _ hB77) hm1 hm2 hB77.size ?_
                intro g58 cap58 v79 ho79 hgr79 _ _
                refine hK.out _ _ trivial (fun _ => ?_)
                clear hK K
                simp only [Act.put, List.setIfInBounds_toArray, List.set_cons_zero, List.set_cons_succ]
                simp only [Nat.zero_add, List.nil_append] at ho79 ⊢
                have hB79 := below_grown hB77 hgr79 hq77
                have hk79 := blk_grown hk77 hgr79 hn77
                refine wpAnyH_ready (rs := [9]) (by kernel_rfl) (by simp) (AllReadyH.cons rfl (fun K hK => ?_) AllReadyH.nil)
                · refine step_append_src (by rfl) (some 61) (by rfl) (.tmp 58) (.tmp 60) 99 (by rfl) wd.heap.size 105 i0 (.agg Try.zeroCells105) 65 72 Try.underlying99 hi0 hz3 hz4 hz5 (by rfl) (by decide) (.slice (some ⟨g58, 0, none⟩) N cap58) N cN (by rfl) ho79 (by simp [Value.ownBlock]) (.slice (some ⟨g60, 0, none⟩) 1 1) 1 cw (by rfl) (src_blk hk79 hwl hw1c) hm3 hm4 hB79.size ?_
                  intro g61 cap61 v80 ho80 hgr80 _ _
                  refine hK.out _ _ trivial (fun _ => ?_)
                  clear hK K
                  simp only [Act.put, List.setIfInBounds_toArray, List.set_cons_zero, List.set_cons_succ]
                  have hB80 := below_grown hB79 hgr80 (World.ownsRow.lt ho79 g58 rfl).1
                  have hcz := gC.out _ hB80
                  have hfz := gF.out _ hB80
                  refine wpAnyH_take' 10 (some 62) (.pointer (some ⟨r, 0, none⟩)) rfl rfl (by kernel_rfl) (by kernel_rfl) (by kernel_rfl) (fun _ _ _ h => h) (Or.inl ⟨by rfl, fun w' _ => by go_simp⟩) trivial ?_
                  simp only [Act.put, List.setIfInBounds_toArray, List.set_cons_zero, List.set_cons_succ]
                  refine wpAnyH_take' 11 (some 63) (.pointer (some ⟨r, 1, none⟩)) rfl rfl (by kernel_rfl) (by kernel_rfl) (by kernel_rfl) (fun _ _ _ h => h) (Or.inl ⟨by rfl, fun w' _ => by go_simp⟩) trivial ?_
                  simp only [Act.put, List.setIfInBounds_toArray, List.set_cons_zero, List.set_cons_succ]
                  refine wpAnyH_ready (rs := [12]) (by kernel_rfl) (by simp) (AllReadyH.cons rfl (fun K hK => ?_) AllReadyH.nil)
                  have hfin := gE.out _ _ _ hB80 ho80
                  go_simp
                  refine hK.out _ _ trivial (fun _ => ?_)
                  clear hK K
                  refine wpAnyH_done (by kernel_rfl) ?_ _
                  go_wp2
                  go_ret
                  exact ⟨rfl, hfin⟩
          · have hcl81 := gC.out _ hB76
            go_simp
            refine hK.out _ _ trivial (fun _ => ?_)
            clear hK K
            clear hcl81
            refine wpAnyH_ready (rs := [1]) (by kernel_rfl) (by simp) (AllReadyH.cons rfl (fun K hK => ?_) AllReadyH.nil)
            · refine step_build0' (by rfl) (some 53) (by rfl) 99 105 (by rfl) (.agg Try.zeroCells105) 65 Try.underlying99 hz65 hB76 ?_
              intro g53 v82 hg82 hb82 _ ho82
              refine hK.out _ _ trivial (fun _ => ?_)
              clear hK K
              simp only [Act.put, List.setIfInBounds_toArray, List.set_cons_zero, List.set_cons_succ]
              have hB82 : Below wd.heap.size wd v82 := hB76.trans (hb82.mono hB76.size)
              have hq82 : wd.heap.size ≤ g53 := by rw [hg82]; exact hB76.size
              have HG82 : Hid (g53 = v76.heap.size) := hg82
              clear hg82
              have hn82 : g60 ≠ g53 := fun e => by have := hk76.lt; have := HG82.out; omega
              have hk82 := hk76.below hb82
              refine wpAnyH_ready (rs := [6]) (by kernel_rfl) (by simp) (AllReadyH.cons rfl (fun K hK => ?_) AllReadyH.nil)
              · refine step_append_src (by rfl) (some 58) (by rfl) (.tmp 53) (.tmp 57) 99 (by rfl) wd.heap.size 105 i0 (.agg Try.zeroCells105) 65 72 Try.underlying99 hi0 hz3 hz4 hz5 (by rfl) (by decide) (.slice (some ⟨g53, 0, none⟩) 0 0) 0 [] (by rfl) ho82 (by simp [Value.ownBlock]) xv N cN (by rfl) (gX.out _ hB82) hm1 hm2 hB82.size ?_
                intro g58 cap58 v83 ho83 hgr83 _ _
                refine hK.out _ _ trivial (fun _ => ?_)
                clear hK K
                simp only [Act.put, List.setIfInBounds_toArray, List.set_cons_zero, List.set_cons_succ]
                simp only [Nat.zero_add, List.nil_append] at ho83 ⊢
                have hB83 := below_grown hB82 hgr83 hq82
                have hk83 := blk_grown hk82 hgr83 hn82
                refine wpAnyH_ready (rs := [9]) (by kernel_rfl) (by simp) (AllReadyH.cons rfl (fun K hK => ?_) AllReadyH.nil)
                · refine step_append_src (by rfl) (some 61) (by rfl) (.tmp 58) (.tmp 60) 99 (by rfl) wd.heap.size 105 i0 (.agg Try.zeroCells105) 65 72 Try.underlying99 hi0 hz3 hz4 hz5 (by rfl) (by decide) (.slice (some ⟨g58, 0, none⟩) N cap58) N cN (by rfl) ho83 (by simp [Value.ownBlock]) (.slice (some ⟨g60, 0, none⟩) 1 1) 1 cw (by rfl) (src_blk hk83 hwl hw1c) hm3 hm4 hB83.size ?_
                  intro g61 cap61 v84 ho84 hgr84 _ _
                  refine hK.out _ _ trivial (fun _ => ?_)
                  clear hK K
                  simp only [Act.put, List.setIfInBounds_toArray, List.set_cons_zero, List.set_cons_succ]
                  have hB84 := below_grown hB83 hgr84 (World.ownsRow.lt ho83 g58 rfl).1
                  have hcz := gC.out _ hB84
                  have hfz := gF.out _ hB84
                  refine wpAnyH_take' 10 (some 62) (.pointer (some ⟨r, 0, none⟩)) rfl rfl (by kernel_rfl) (by kernel_rfl) (by kernel_rfl) (fun _ _ _ h => h) (Or.inl ⟨by rfl, fun w' _ => by go_simp⟩) trivial ?_
                  simp only [Act.put, List.setIfInBounds_toArray, List.set_cons_zero, List.set_cons_succ]
                  refine wpAnyH_take' 11 (some 63) (.pointer (some ⟨r, 1, none⟩)) rfl rfl (by kernel_rfl) (by kernel_rfl) (by kernel_rfl) (fun _ _ _ h => h) (Or.inl ⟨by rfl, fun w' _ => by go_simp⟩) trivial ?_
                  simp only [Act.put, List.setIfInBounds_toArray, List.set_cons_zero, List.set_cons_succ]
                  refine wpAnyH_ready (rs := [12]) (by kernel_rfl) (by simp) (AllReadyH.cons rfl (fun K hK => ?_) AllReadyH.nil)
                  have hfin := gE.out _ _ _ hB84 ho84
                  go_simp
                  refine hK.out _ _ trivial (fun _ => ?_)
                  clear hK K
                  refine wpAnyH_done (by kernel_rfl) ?_ _
                  go_wp2
                  go_ret
                  exact ⟨rfl, hfin⟩
      -- END OF TREE
end Go.Proofs.Ytnganmekiloigaa
