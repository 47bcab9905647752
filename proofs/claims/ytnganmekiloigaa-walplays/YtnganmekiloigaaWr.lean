/- disk.Write. -/
import Derived.Test.YtnganmekiloigaaLaw
import Derived.Deep.RegionHeld3
namespace Go.Proofs.Ytnganmekiloigaa
open Go.RowKit
set_option maxRecDepth 100000
variable {W : World} {d s : Nat} {wv : Value} {D : Dk}

theorem copy_n {cb : List Value} {n : Nat} (h : cb.length = n) (hn : n ≤ 64) : cb.length = Nat.min n 64 := by rw [h]; exact (Nat.min_eq_left hn).symm
theorem copy_src {a : Option Addr} {l : Bs} {cb : List Value} {B : Nat} {W w2 w3 : World} {F : Nat → Prop} (hf : 0 < l.length → ∃ b o, a = some ⟨b, o, none⟩ ∧ At W b o l ∧ ¬ F b) (hc : cellsB l = cb) (hk : Keep F W w2) (hb : Below w2.heap.size w2 w3) :
    0 < cb.length → (some ⟨B, 1, none⟩ : Option Addr) = some ⟨B, 1, none⟩ ∧ ∃ ad, a = some ad ∧ ∀ j v, cb[j]? = some v → w3.cell? (ad.add j) = some v := fun h0 => by
  rw [← hc, cellsB_length] at h0
  obtain ⟨b, o, rfl, hat, hF⟩ := hf h0
  refine ⟨rfl, _, rfl, fun j v hv => ?_⟩
  rw [Addr.add_mid]
  have hj : j < l.length := by
    rw [← hc] at hv
    have := (List.getElem?_eq_some_iff.1 hv).1
    rwa [cellsB_length] at this
  rw [← hc, cellsB_get l j hj] at hv
  have h1 := hat j hj
  have hbl := World.block_lt_of_cell? _ _ h1
  rw [hb.cell (p := ⟨b, o + j, none⟩) (Nat.lt_of_lt_of_le hbl hk.size), World.cell?_of_block (a := ⟨b, o + j, none⟩) (hk.block b hbl hF), h1]
  exact hv

theorem PD.push (h : PD W d s wv D) (i : Nat) (b : Bs) (hi : i < D.secs.length) (hb : b.length = 64) {w5 : World} {g cap : Nat} (hown : w5.ownsRow (d + 1) 93 65 (.slice (some ⟨g, 0, none⟩) (D.wait.length + 1) cap) (D.wait.length + 1) (cellsW D.wait ++ cellW i b)) (hgrow : W.grownBy w5 wv.ownBlock) (hat : wv.ownBlock = some g ∨ g = W.heap.size) :
    PD (w5.setCell ⟨d, 1, none⟩ (.slice (some ⟨g, 0, none⟩) (D.wait.length + 1) cap)) d s (.slice (some ⟨g, 0, none⟩) (D.wait.length + 1) cap) { D with wait := D.wait ++ [(i, b)] } := by
  have hd := h.dlt
  have hs := h.slt
  have hne := h.ne
  have hod : wv.ownBlock ≠ some d := fun e => by have := (h.wlt d e).1; omega
  have hgd : d + 1 ≤ g := (World.ownsRow.lt hown g rfl).1
  have hgs : g ≠ s := fun e => by
    rcases hat with h1 | h1
    · exact h.own (by rw [h1, e])
    · omega
  have hk : ∀ k v, k ≠ d → (w5.setCell ⟨d, 1, none⟩ v).heap[k]? = w5.heap[k]? := fun k v hk => Below.heap_setCell _ _ _ _ hk
  refine ⟨(h.dx.block (hgrow.block d hd (fun e => hod e.symm))).set1 _, (h.secs.block (hgrow.block s hs (fun e => h.own e.symm))).block (hk s _ hne), ?_, ⟨h.ok.secs, fun x hx => ?_, h.ok.left⟩, hne, fun e => hgs (by simpa [Value.ownBlock] using e), by have := hgrow.size; simp [World.setCell]; omega⟩
  · show World.ownsRow _ _ _ _ _ _ _
    rw [show (D.wait ++ [(i, b)]).length = D.wait.length + 1 by simp, cellsW_append, show cellsW [(i, b)] = cellW i b by simp [cellsW, cellW]]
    obtain ⟨h1, h2 | ⟨g', cap', cur, e, hBg, hw, hn, hcap, hz, htk⟩⟩ := hown
    · exact ⟨h1, .inl h2⟩
    · have hg' : g' ≠ d := by omega
      exact ⟨h1, .inr ⟨g', cap', cur, e, hBg, by rw [hk g' _ hg']; exact hw, hn, hcap, hz, htk⟩⟩
  · rcases List.mem_append.1 hx with hx | hx
    · exact h.ok.wait x hx
    · rw [List.mem_singleton.1 hx]; exact ⟨hb, hi⟩
theorem foot_push {g n cap z z' : Nat} (hat : wv.ownBlock = some g ∨ g = z) (hz : z' ≤ z) {k : Nat} (hk : foot d s (.slice (some ⟨g, 0, none⟩) n cap) k) : foot d s wv k ∨ z' ≤ k := by
  rcases hk with h | h | h
  · exact .inl (.inl h)
  · exact .inl (.inr (.inl h))
  · have e : g = k := by simpa [Value.ownBlock] using h
    subst e
    rcases hat with h1 | h1
    · exact .inl (.inr (.inr h1))
    · exact .inr (by omega)

set_option maxHeartbeats 1000000 in
theorem write22_yes (h : PD W d s wv D) (i : Nat) (v : Value) (l : Bs) (hi : i < D.secs.length) (hv : SB W v l) (hvf : ∀ a n c, v = .slice (some a) n c → 0 < l.length → ¬ foot d s wv a.block) (hn : l.length ≤ 64) (hw : D.wait.length ≤ 100000)
   (hr : D.reach i = 0) (hsp : D.spend.1 = true) :
    Calls Try.prog 22 #[.pointer (some ⟨d, 0, none⟩), .int .i64 i, v] W fun e w' => e = .returned (.int .i64 0) ∧ ∃ wv', PD w' d s wv' { D.spend.2 with wait := D.spend.2.wait ++ [(i, pad l)] } ∧ Keep (foot d s wv) W w' ∧ (∀ k, foot d s wv' k → foot d s wv k ∨ W.heap.size ≤ k) := by
  have c53 := reach53 h i
  rw [hr] at c53
  have c55 := spend55 h
  rw [hsp] at c55
  obtain ⟨a, c, rfl, hf⟩ := hv.form
  have hn' : ¬ ((64 : Int) < (l.length : Int)) := by omega
  clear hr hsp hv
  have hw1 : D.spend.2.wait.length ≤ 100000 := by rw [(spend_secs D).2.1]; exact hw
  have hi1 : i < D.spend.2.secs.length := by rw [(spend_secs D).1]; exact hi
  generalize D.spend.2 = D1 at *
  obtain ⟨cs, hcs⟩ : ∃ cs, cellW i Z64 = cs := ⟨_, rfl⟩
  obtain ⟨cb, hcb⟩ : ∃ cb, cellsB l = cb := ⟨_, rfl⟩
  have hcs1 : cs.length = 65 := by rw [← hcs, cellW_length Z64_length]
  have hcs2 : ∀ v ∈ cs, v.oneCell' = true := by rw [← hcs]; exact cellW_one _ _
  have hcb1 : cb.length = l.length := by rw [← hcb, cellsB_length]
  have hcb2 : ∀ v ∈ cb, v.oneCell' = true := by rw [← hcb]; exact cellsB_one _
  have hz := z93_set i
  rw [hcs] at hz
  have HZ : Hid (Try.zeroCells93.setIfInBounds 0 (.int .i64 (i : Int)) = cs.toArray) := hz
  have HS : Hid (splice cs 1 cb = cellW i (pad l)) := by show _ = _; rw [← hcs, ← hcb]; exact splice_pad i l
  have HC : Hid (cellsB l = cb) := hcb
  have HF : Hid (0 < l.length → ∃ b o, a = some ⟨b, o, none⟩ ∧ At W b o l ∧ ¬ foot d s wv b) := fun h0 => by
    obtain ⟨b, o, e, h2⟩ := hf h0
    exact ⟨b, o, e, h2, hvf ⟨b, o, none⟩ l.length c (by rw [e]) h0⟩
  have HB : Hid (∀ w : World, Blk (w.alloc (.cells Try.zeroCells93 93)) w.heap.size (cellW 0 Z64) 93) := fun w => by rw [z93]; exact blk_new _ _ _
  have hz1 : (cellW 0 Z64).length = 65 := cellW_length Z64_length
  generalize cellW 0 Z64 = z0 at *
  clear hz hcs hcb hf hvf
  go_enter Try.func22, Try.ntmps22
  go_wp2_with (first
    | (go_at_call 53; (refine c53.mono ?_; rintro e w1 ⟨rfl, rfl⟩))
    | (go_at_call 55; (refine c55.mono ?_; rintro e w2 ⟨rfl, hp2, hk2⟩))
    | (refine wpList_store_whole rfl 93 (.tmp 8) (.tmp 22) rfl w2.heap.size cs rfl (congrArg Value.agg HZ.out) z0 93 (HB.out w2) (by omega) (by rw [hcs1]; exact info93s) hcs2 ?_; intro w3 hB3 hk3 hz3; have hb3 : Below w2.heap.size w2 w3 := (al w2 _).trans (hk3.below (by simp) (fun i hi => by omega)))
    | (skip; (refine wpList_copy_splice (by rfl) (.tmp 24) (.tmp 25) 33 33 (by rfl) 5 Try.underlying33 info5s (some ⟨w2.heap.size, 1, none⟩) a 64 64 l.length c (by rfl) (by rfl) w2.heap.size 1 cs 93 hB3 cb (copy_n hcb1 hn) (copy_src HF.out HC.out hk2 hb3) (by omega) hcb2 w2.heap.size w2 hb3 (Nat.le_refl _) ?_; intro w4 hB4 hb4)))
  have hB5 : Blk w4 w2.heap.size (cellW i (pad l)) 93 := by rw [← HS.out]; exact hB4.out
  have hp4 := hp2.below hb4
  have hd1 := hp4.dx.c1
  have hd2 := hp4.dx.z1
  have hr5 := hB5.whole
  have hdl := hp4.dlt
  have hu := Try.underlying93
  have hcl : (cellW i (pad l)).length = 65 := cellW_length (pad_length hn)
  have hi : (Try.prog.info? 93).map (·.size) = some (cellW i (pad l)).length := by rw [hcl]; exact info93s
  have hc1 : ∀ v ∈ cellW i (pad l), v.oneCell' = true := cellW_one _ _
  have HP : Hid (PD w4 d s wv D1) := hp4
  clear hp2 hp4 hB3 hB4 hk3 hb3 HZ HS HC HF HB c53 c55 hcs1 hcs2 hcb1 hcb2 hz1
  generalize hcw : cellW i (pad l) = cw at *
  have hr6 : w4.drew.rangeAt w2.heap.size 0 cw := by simpa using hr5
  have hp6 := (HP.out.below (Below.refl _ _).drew).below (al _ (.cells cw.toArray 93))
  have hown := hp6.wait
  have hcd := hp6.dx.c1
  have hfd := hp6.dx.z1
  have hod : wv.ownBlock ≠ some d := fun e => by have := (HP.out.wlt d e).1; omega
  have hnews : ∀ j u, cw[j]? = some u → (w4.drew.alloc (.cells cw.toArray 93)).cell? ((⟨w4.heap.size, 0, none⟩ : Addr).add j) = some u := by
    have := World.news_of_block (blk_new w4.drew cw 93)
    simpa using this
  obtain ⟨i0, hi0, hz3, hz4, hz5⟩ := info_parts info93z
  have hm1 : D1.wait.length + 1 ≤ maxLen := by unfold maxLen; omega
  have hm2 : (D1.wait.length + 1) * 72 ≤ 140737488355328 := by omega
  have hm3 : d + 1 ≤ (w4.drew.alloc (.cells cw.toArray 93)).heap.size := by simp; omega
  refine wp_region_held_drew (S := fun _ => True) (by kernel_rfl) trivial (fun _ => ?_)
  refine wpAnyH_take' 0 (some 27) (.pointer (some ⟨d, 0, none⟩)) rfl rfl (by kernel_rfl) (by kernel_rfl) (by kernel_rfl) (fun _ _ _ h => h) (Or.inl ⟨by rfl, fun w' _ => by go_simp⟩) trivial ?_
  simp only [Act.put, List.setIfInBounds_toArray, List.set_cons_zero, List.set_cons_succ]
  refine wpAnyH_take' 1 (some 28) (.pointer (some ⟨d, 0, none⟩)) rfl rfl (by kernel_rfl) (by kernel_rfl) (by kernel_rfl) (fun _ _ _ h => h) (Or.inl ⟨by rfl, fun w' _ => by go_simp⟩) trivial ?_
  simp only [Act.put, List.setIfInBounds_toArray, List.set_cons_zero, List.set_cons_succ]
  refine wpAnyH_take' 2 (some 29) (.pointer (some ⟨d, 0, none⟩)) rfl rfl (by kernel_rfl) (by kernel_rfl) (by kernel_rfl) (fun _ _ _ h => h) (Or.inl ⟨by rfl, fun w' _ => by go_simp⟩) trivial ?_
  simp only [Act.put, List.setIfInBounds_toArray, List.set_cons_zero, List.set_cons_succ]
  refine wpAnyH_take' 3 (some 30) (.pointer (some ⟨d, 1, none⟩)) rfl rfl (by kernel_rfl) (by kernel_rfl) (by kernel_rfl) (fun _ _ _ h => h) (Or.inl ⟨by rfl, fun w' _ => by go_simp⟩) trivial ?_
  simp only [Act.put, List.setIfInBounds_toArray, List.set_cons_zero, List.set_cons_succ]
  have hz1 : (Try.prog.info? 93).map (fun i => (i.zero, i.size)) = some (some (.agg Try.zeroCells93), cw.length) := by rw [hcl]; kernel_rfl
  have hz2 : (Value.agg Try.zeroCells93).cells.size = cw.length := by rw [hcl]; kernel_rfl
  refine wpAnyH_ready (rs := [4, 5]) (by kernel_rfl) (by simp) (AllReadyH.cons rfl (fun K hK => ?_) (AllReadyH.cons rfl (fun K hK => ?_) (AllReadyH.nil)))
  · go_simp
    refine hK.out _ _ trivial (fun _ => ?_)
    clear hK K
    refine wpAnyH_ready (rs := [5]) (by kernel_rfl) (by simp) (AllReadyH.cons rfl (fun K hK => ?_) AllReadyH.nil)
    refine step_load_mid' (by rfl) (some 32) (by rfl) 93 (.tmp 8) (by rfl) w2.heap.size 0 (by rfl) cw _ hr6 hu rfl hi ?_
    refine hK.out _ _ trivial (fun _ => ?_)
    clear hK K
    simp only [Act.put, List.setIfInBounds_toArray, List.set_cons_zero, List.set_cons_succ]
    refine wpAnyH_ready (rs := [6]) (by kernel_rfl) (by simp) (AllReadyH.cons rfl (fun K hK => ?_) AllReadyH.nil)
    refine step_buildSlice1 (by rfl) (some 33) (by rfl) 87 93 (.tmp 32) (by rfl) cw (by rfl) (.agg Try.zeroCells93) Try.underlying87 hz1 hz2 (by omega) (by omega) ?_
    refine hK.out _ _ trivial (fun _ => ?_)
    clear hK K
    simp only [Act.put, List.setIfInBounds_toArray, List.set_cons_zero, List.set_cons_succ]
    refine wpAnyH_ready (rs := [7]) (by kernel_rfl) (by simp) (AllReadyH.cons rfl (fun K hK => ?_) AllReadyH.nil)
    refine step_append_lies' (by rfl) (some 34) (by rfl) (.tmp 31) (.tmp 33) 87 (by rfl) (d + 1) 93 i0 (.agg Try.zeroCells93) 65 72 Try.underlying87 hi0 hz3 hz4 hz5 (by rfl) (by decide) wv D1.wait.length (cellsW D1.wait) (by rfl) hown ⟨w4.heap.size, 0, none⟩ 1 1 cw (by rfl) (by omega) hnews hc1 (by decide) hm1 hm2 hm3 ?_
    intro g cap w5 hown5 hgrow hat5 hlt5
    refine hK.out _ _ trivial (fun _ => ?_)
    clear hK K
    simp only [Act.put, List.setIfInBounds_toArray, List.set_cons_zero, List.set_cons_succ]
    have hc5 := (hgrow.cell_far ⟨d, 1, none⟩ (by simp; omega) (fun e => hod e.symm)).trans hcd
    have hf5 := (hgrow.frozen_far ⟨d, 1, none⟩ (by simp; omega) (fun e => hod e.symm)).trans hfd
    refine wpAnyH_take' 8 (some 35) (.pointer (some ⟨d, 0, none⟩)) rfl rfl (by kernel_rfl) (by kernel_rfl) (by kernel_rfl) (fun _ _ _ h => h) (Or.inl ⟨by rfl, fun w' _ => by go_simp⟩) trivial ?_
    simp only [Act.put, List.setIfInBounds_toArray, List.set_cons_zero, List.set_cons_succ]
    refine wpAnyH_take' 9 (some 36) (.pointer (some ⟨d, 1, none⟩)) rfl rfl (by kernel_rfl) (by kernel_rfl) (by kernel_rfl) (fun _ _ _ h => h) (Or.inl ⟨by rfl, fun w' _ => by go_simp⟩) trivial ?_
    simp only [Act.put, List.setIfInBounds_toArray, List.set_cons_zero, List.set_cons_succ]
    refine wpAnyH_ready (rs := [10]) (by kernel_rfl) (by simp) (AllReadyH.cons rfl (fun K hK => ?_) AllReadyH.nil)
    go_simp
    refine hK.out _ _ trivial (fun _ => ?_)
    clear hK K
    refine wpAnyH_done (by kernel_rfl) ?_ _
    have hpf := hp6.push i (pad l) hi1 (pad_length hn) (by rw [hcw]; exact hown5) hgrow hat5
    have hkf : Keep (foot d s wv) w1 (w5.setCell ⟨d, 1, none⟩ (.slice (some ⟨g, 0, none⟩) (D1.wait.length + 1) cap)) := ((hk2.trans (Keep.of (F := foot d s wv) (bmore (bmore hb4 (Below.refl _ _).drew) (al _ _))) (fun _ _ h => h)).grown hgrow (fun k hk => .inr (.inr (.inr hk)))).set (.inr (.inl rfl)) _
    have hff : ∀ k, foot d s (.slice (some ⟨g, 0, none⟩) (D1.wait.length + 1) cap) k → foot d s wv k ∨ w1.heap.size ≤ k := fun k hk => foot_push hat5 (Nat.le_trans (Nat.le_trans hk2.size hb4.size) (bmore (Below.refl _ _).drew (al _ _)).size) hk
    clear hown5 hgrow hat5 hlt5 hc5 hf5
    go_wp2
    go_ret
    exact ⟨rfl, _, hpf, hkf, hff⟩
  · refine step_load_mid' (by rfl) (some 32) (by rfl) 93 (.tmp 8) (by rfl) w2.heap.size 0 (by rfl) cw _ hr6 hu rfl hi ?_
    refine hK.out _ _ trivial (fun _ => ?_)
    clear hK K
    simp only [Act.put, List.setIfInBounds_toArray, List.set_cons_zero, List.set_cons_succ]
    refine wpAnyH_ready (rs := [4, 6]) (by kernel_rfl) (by simp) (AllReadyH.cons rfl (fun K hK => ?_) (AllReadyH.cons rfl (fun K hK => ?_) (AllReadyH.nil)))
    · go_simp
      refine hK.out _ _ trivial (fun _ => ?_)
      clear hK K
      refine wpAnyH_ready (rs := [6]) (by kernel_rfl) (by simp) (AllReadyH.cons rfl (fun K hK => ?_) AllReadyH.nil)
      refine step_buildSlice1 (by rfl) (some 33) (by rfl) 87 93 (.tmp 32) (by rfl) cw (by rfl) (.agg Try.zeroCells93) Try.underlying87 hz1 hz2 (by omega) (by omega) ?_
      refine hK.out _ _ trivial (fun _ => ?_)
      clear hK K
      simp only [Act.put, List.setIfInBounds_toArray, List.set_cons_zero, List.set_cons_succ]
      refine wpAnyH_ready (rs := [7]) (by kernel_rfl) (by simp) (AllReadyH.cons rfl (fun K hK => ?_) AllReadyH.nil)
      refine step_append_lies' (by rfl) (some 34) (by rfl) (.tmp 31) (.tmp 33) 87 (by rfl) (d + 1) 93 i0 (.agg Try.zeroCells93) 65 72 Try.underlying87 hi0 hz3 hz4 hz5 (by rfl) (by decide) wv D1.wait.length (cellsW D1.wait) (by rfl) hown ⟨w4.heap.size, 0, none⟩ 1 1 cw (by rfl) (by omega) hnews hc1 (by decide) hm1 hm2 hm3 ?_
      intro g cap w5 hown5 hgrow hat5 hlt5
      refine hK.out _ _ trivial (fun _ => ?_)
      clear hK K
      simp only [Act.put, List.setIfInBounds_toArray, List.set_cons_zero, List.set_cons_succ]
      have hc5 := (hgrow.cell_far ⟨d, 1, none⟩ (by simp; omega) (fun e => hod e.symm)).trans hcd
      have hf5 := (hgrow.frozen_far ⟨d, 1, none⟩ (by simp; omega) (fun e => hod e.symm)).trans hfd
      refine wpAnyH_take' 8 (some 35) (.pointer (some ⟨d, 0, none⟩)) rfl rfl (by kernel_rfl) (by kernel_rfl) (by kernel_rfl) (fun _ _ _ h => h) (Or.inl ⟨by rfl, fun w' _ => by go_simp⟩) trivial ?_
      simp only [Act.put, List.setIfInBounds_toArray, List.set_cons_zero, List.set_cons_succ]
      refine wpAnyH_take' 9 (some 36) (.pointer (some ⟨d, 1, none⟩)) rfl rfl (by kernel_rfl) (by kernel_rfl) (by kernel_rfl) (fun _ _ _ h => h) (Or.inl ⟨by rfl, fun w' _ => by go_simp⟩) trivial ?_
      simp only [Act.put, List.setIfInBounds_toArray, List.set_cons_zero, List.set_cons_succ]
      refine wpAnyH_ready (rs := [10]) (by kernel_rfl) (by simp) (AllReadyH.cons rfl (fun K hK => ?_) AllReadyH.nil)
      go_simp
      refine hK.out _ _ trivial (fun _ => ?_)
      clear hK K
      refine wpAnyH_done (by kernel_rfl) ?_ _
      have hpf := hp6.push i (pad l) hi1 (pad_length hn) (by rw [hcw]; exact hown5) hgrow hat5
      have hkf : Keep (foot d s wv) w1 (w5.setCell ⟨d, 1, none⟩ (.slice (some ⟨g, 0, none⟩) (D1.wait.length + 1) cap)) := ((hk2.trans (Keep.of (F := foot d s wv) (bmore (bmore hb4 (Below.refl _ _).drew) (al _ _))) (fun _ _ h => h)).grown hgrow (fun k hk => .inr (.inr (.inr hk)))).set (.inr (.inl rfl)) _
      have hff : ∀ k, foot d s (.slice (some ⟨g, 0, none⟩) (D1.wait.length + 1) cap) k → foot d s wv k ∨ w1.heap.size ≤ k := fun k hk => foot_push hat5 (Nat.le_trans (Nat.le_trans hk2.size hb4.size) (bmore (Below.refl _ _).drew (al _ _)).size) hk
      clear hown5 hgrow hat5 hlt5 hc5 hf5
      go_wp2
      go_ret
      exact ⟨rfl, _, hpf, hkf, hff⟩
    · refine step_buildSlice1 (by rfl) (some 33) (by rfl) 87 93 (.tmp 32) (by rfl) cw (by rfl) (.agg Try.zeroCells93) Try.underlying87 hz1 hz2 (by omega) (by omega) ?_
      refine hK.out _ _ trivial (fun _ => ?_)
      clear hK K
      simp only [Act.put, List.setIfInBounds_toArray, List.set_cons_zero, List.set_cons_succ]
      refine wpAnyH_ready (rs := [4]) (by kernel_rfl) (by simp) (AllReadyH.cons rfl (fun K hK => ?_) AllReadyH.nil)
      go_simp
      refine hK.out _ _ trivial (fun _ => ?_)
      clear hK K
      change wpAnyH _ _ _ _ _ _ _ _ (w4.drew.alloc (Obj.cells cw.toArray 93))
      refine wpAnyH_ready (rs := [7]) (by kernel_rfl) (by simp) (AllReadyH.cons rfl (fun K hK => ?_) AllReadyH.nil)
      refine step_append_lies' (by rfl) (some 34) (by rfl) (.tmp 31) (.tmp 33) 87 (by rfl) (d + 1) 93 i0 (.agg Try.zeroCells93) 65 72 Try.underlying87 hi0 hz3 hz4 hz5 (by rfl) (by decide) wv D1.wait.length (cellsW D1.wait) (by rfl) hown ⟨w4.heap.size, 0, none⟩ 1 1 cw (by rfl) (by omega) hnews hc1 (by decide) hm1 hm2 hm3 ?_
      intro g cap w5 hown5 hgrow hat5 hlt5
      refine hK.out _ _ trivial (fun _ => ?_)
      clear hK K
      simp only [Act.put, List.setIfInBounds_toArray, List.set_cons_zero, List.set_cons_succ]
      have hc5 := (hgrow.cell_far ⟨d, 1, none⟩ (by simp; omega) (fun e => hod e.symm)).trans hcd
      have hf5 := (hgrow.frozen_far ⟨d, 1, none⟩ (by simp; omega) (fun e => hod e.symm)).trans hfd
      refine wpAnyH_take' 8 (some 35) (.pointer (some ⟨d, 0, none⟩)) rfl rfl (by kernel_rfl) (by kernel_rfl) (by kernel_rfl) (fun _ _ _ h => h) (Or.inl ⟨by rfl, fun w' _ => by go_simp⟩) trivial ?_
      simp only [Act.put, List.setIfInBounds_toArray, List.set_cons_zero, List.set_cons_succ]
      refine wpAnyH_take' 9 (some 36) (.pointer (some ⟨d, 1, none⟩)) rfl rfl (by kernel_rfl) (by kernel_rfl) (by kernel_rfl) (fun _ _ _ h => h) (Or.inl ⟨by rfl, fun w' _ => by go_simp⟩) trivial ?_
      simp only [Act.put, List.setIfInBounds_toArray, List.set_cons_zero, List.set_cons_succ]
      refine wpAnyH_ready (rs := [10]) (by kernel_rfl) (by simp) (AllReadyH.cons rfl (fun K hK => ?_) AllReadyH.nil)
      go_simp
      refine hK.out _ _ trivial (fun _ => ?_)
      clear hK K
      refine wpAnyH_done (by kernel_rfl) ?_ _
      have hpf := hp6.push i (pad l) hi1 (pad_length hn) (by rw [hcw]; exact hown5) hgrow hat5
      have hkf : Keep (foot d s wv) w1 (w5.setCell ⟨d, 1, none⟩ (.slice (some ⟨g, 0, none⟩) (D1.wait.length + 1) cap)) := ((hk2.trans (Keep.of (F := foot d s wv) (bmore (bmore hb4 (Below.refl _ _).drew) (al _ _))) (fun _ _ h => h)).grown hgrow (fun k hk => .inr (.inr (.inr hk)))).set (.inr (.inl rfl)) _
      have hff : ∀ k, foot d s (.slice (some ⟨g, 0, none⟩) (D1.wait.length + 1) cap) k → foot d s wv k ∨ w1.heap.size ≤ k := fun k hk => foot_push hat5 (Nat.le_trans (Nat.le_trans hk2.size hb4.size) (bmore (Below.refl _ _).drew (al _ _)).size) hk
      clear hown5 hgrow hat5 hlt5 hc5 hf5
      go_wp2
      go_ret
      exact ⟨rfl, _, hpf, hkf, hff⟩
end Go.Proofs.Ytnganmekiloigaa
