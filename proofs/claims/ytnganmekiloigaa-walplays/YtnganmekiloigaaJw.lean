/- Whether lists of records are the same; story.begins. · The law WalSure. · The law WalSure. -/
import Derived.Test.YtnganmekiloigaaHv
import Derived.Deep.CutRange
/-! ### Whether lists of records are the same; story.begins. -/
namespace Go.Proofs.Ytnganmekiloigaa
open Go.RowKit
set_option maxRecDepth 100000
variable {w w' : World} {B d s x q E : Nat}
theorem conv_zero (a : Option Addr) (c : Nat) (w : World) : (convert 33 9 (.slice a 0 c)).run Try.prog w = .ok (.string (strB [])) w := by
  rw [run_convert_bytes_string w 33 9 5 _ 0 c Try.underlying33 Try.underlying5 Try.underlying9]
  cases a <;> simp [Conv.bytesToString, loadCells]
  all_goals rfl
/-- Any bytes behind a slice, as a string: of none, too. -/
theorem conv_any {a : Option Addr} {n c : Nat} {l : Bs} (h : LV EB w (.slice a n c) l) : (convert 33 9 (.slice a n c)).run Try.prog w = .ok (.string (strB l)) w := by
  by_cases h0 : 0 < l.length
  · exact conv_lv h h0
  · obtain rfl : l = [] := List.eq_nil_of_length_eq_zero (by omega)
    obtain rfl : n = 0 := h.cap.1
    exact conv_zero a c w
theorem strB_inj {l m : Bs} (h : strB l = strB m) : l = m := by
  unfold strB at h
  simpa using h
/-- Same, of two lists that agree. -/
theorem same74 {v u : Value} {L : List Bs} (hv : RL w v L) (hu : RL w u L) (hL : L.length ≤ 1000) : Calls Try.prog 74 #[v, u] w fun e w' => e = .returned (.bool true) ∧ Below w.heap.size w w' := by
  obtain ⟨a, c, rfl⟩ := hv.form
  obtain ⟨b, k, rfl⟩ := hu.form
  have HV : Hid (RL w (.slice a L.length c) L) := hv
  have HU : Hid (RL w (.slice b L.length k) L) := hu
  obtain ⟨n, hn⟩ : ∃ n, L.length = n := ⟨_, rfl⟩
  rw [hn] at hL HV HU ⊢
  have HN : Hid (L.length = n) := hn
  have HL : Hid (n ≤ 1000) := hL
  clear hv hu hn hL
  go_enter Try.func74, Try.ntmps74
  go_wp2_with fail
  go_loopw [5] (fun p wr => ∃ i : Nat, p = .int .i64 (i : Int) ∧ Hid (i ≤ n) ∧ Hid (Below w.heap.size w wr)) (fun p _ => n - (intOf p).toNat)
  case atStart => exact ⟨0, rfl, Nat.zero_le _, Below.refl _ _⟩
  case round =>
    obtain ⟨i, rfl, hi, HB⟩ := hrel
    by_cases hlt : i < n
    · have hlti : (i : Int) < (n : Int) := by omega
      have hi1000 : i < 1000 := by have := HL.out; omega
      have hi1000i : (i : Int) < 1000 := by omega
      have h0i : (0 : Int) ≤ (i : Int) := by omega
      obtain ⟨l, hl⟩ : ∃ l, L[i]? = some l := ⟨_, List.getElem?_eq_getElem (by rw [HN.out]; exact hlt)⟩
      obtain ⟨g1, o1, p1, k1, q1, rfl, hc1, hl1⟩ := (HV.out.below HB.out).at hl
      obtain ⟨g2, o2, p2, k2, q2, rfl, hc2, hl2⟩ := (HU.out.below HB.out).at hl
      have hs1 : ∀ W, Below wr.heap.size wr W → (convert 33 9 (.slice p1 k1 q1)).run Try.prog W = .ok (.string (strB l)) W := fun W k => conv_any (hl1.below k)
      have hs2 : ∀ W, Below wr.heap.size wr W → (convert 33 9 (.slice p2 k2 q2)).run Try.prog W = .ok (.string (strB l)) W := fun W k => conv_any (hl2.below k)
      generalize strB l = sA at *
      have t1 := hs1 _ (Below.refl _ wr).drew
      have t2 := hs2 _ (Below.refl _ wr).drew
      have e1 : wr.drew.cell? ⟨g1, o1 + i, none⟩ = some (.slice p1 k1 q1) := hc1
      have e2 : wr.drew.cell? ⟨g2, o2 + i, none⟩ = some (.slice p2 k2 q2) := hc2
      have HI1 : Hid (i + 1 ≤ n) := hlt
      have HBD : Hid (Below w.heap.size w wr.drew) := HB.out.trans (Below.refl _ _).drew
      clear hc1 hc2 hl1 hl2 hs1 hs2 hl
      go_wp2_with fail
      refine wp_region_held_drew (S := fun W => W = wr.drew) (by kernel_rfl) rfl (fun hS => ?_)
      refine wpAnyH_take' 0 (some 17) (.slice (some ⟨g1, o1, none⟩) n c) rfl rfl (by kernel_rfl) (by kernel_rfl) (by kernel_rfl) (fun _ _ _ h => h) (Or.inl ⟨by rfl, fun w' hS => by subst hS; go_simp⟩) hS ?_
      simp only [Act.put, List.setIfInBounds_toArray, List.set_cons_zero, List.set_cons_succ]
      refine wpAnyH_take' 1 (some 18) (.int .i64 (i : Int)) rfl rfl (by kernel_rfl) (by kernel_rfl) (by kernel_rfl) (fun _ _ _ h => h) (Or.inl ⟨by rfl, fun w' hS => by subst hS; go_simp⟩) hS ?_
      simp only [Act.put, List.setIfInBounds_toArray, List.set_cons_zero, List.set_cons_succ]
      refine wpAnyH_take' 2 (some 19) (.pointer (some ⟨g1, o1 + i, none⟩)) rfl rfl (by kernel_rfl) (by kernel_rfl) (by kernel_rfl) (fun _ _ _ h => h) (Or.inl ⟨by rfl, fun w' hS => by subst hS; go_simp⟩) hS ?_
      simp only [Act.put, List.setIfInBounds_toArray, List.set_cons_zero, List.set_cons_succ]
      refine wpAnyH_take' 3 (some 20) (.slice p1 k1 q1) rfl rfl (by kernel_rfl) (by kernel_rfl) (by kernel_rfl) (fun _ _ _ h => h) (Or.inl ⟨by rfl, fun w' hS => by subst hS; go_simp⟩) hS ?_
      simp only [Act.put, List.setIfInBounds_toArray, List.set_cons_zero, List.set_cons_succ]
      refine wpAnyH_take' 4 (some 21) (.string sA) rfl rfl (by kernel_rfl) (by kernel_rfl) (by kernel_rfl) (fun _ _ _ h => h) (Or.inl ⟨by rfl, fun w' hS => by subst hS; go_simp⟩) hS ?_
      simp only [Act.put, List.setIfInBounds_toArray, List.set_cons_zero, List.set_cons_succ]
      refine wpAnyH_take' 5 (some 22) (.slice (some ⟨g2, o2, none⟩) n k) rfl rfl (by kernel_rfl) (by kernel_rfl) (by kernel_rfl) (fun _ _ _ h => h) (Or.inl ⟨by rfl, fun w' hS => by subst hS; go_simp⟩) hS ?_
      simp only [Act.put, List.setIfInBounds_toArray, List.set_cons_zero, List.set_cons_succ]
      refine wpAnyH_take' 6 (some 23) (.int .i64 (i : Int)) rfl rfl (by kernel_rfl) (by kernel_rfl) (by kernel_rfl) (fun _ _ _ h => h) (Or.inl ⟨by rfl, fun w' hS => by subst hS; go_simp⟩) hS ?_
      simp only [Act.put, List.setIfInBounds_toArray, List.set_cons_zero, List.set_cons_succ]
      refine wpAnyH_take' 7 (some 24) (.pointer (some ⟨g2, o2 + i, none⟩)) rfl rfl (by kernel_rfl) (by kernel_rfl) (by kernel_rfl) (fun _ _ _ h => h) (Or.inl ⟨by rfl, fun w' hS => by subst hS; go_simp⟩) hS ?_
      simp only [Act.put, List.setIfInBounds_toArray, List.set_cons_zero, List.set_cons_succ]
      refine wpAnyH_take' 8 (some 25) (.slice p2 k2 q2) rfl rfl (by kernel_rfl) (by kernel_rfl) (by kernel_rfl) (fun _ _ _ h => h) (Or.inl ⟨by rfl, fun w' hS => by subst hS; go_simp⟩) hS ?_
      simp only [Act.put, List.setIfInBounds_toArray, List.set_cons_zero, List.set_cons_succ]
      refine wpAnyH_take' 9 (some 26) (.string sA) rfl rfl (by kernel_rfl) (by kernel_rfl) (by kernel_rfl) (fun _ _ _ h => h) (Or.inl ⟨by rfl, fun w' hS => by subst hS; go_simp⟩) hS ?_
      simp only [Act.put, List.setIfInBounds_toArray, List.set_cons_zero, List.set_cons_succ]
      refine wpAnyH_take' 10 (some 27) (.bool false) rfl rfl (by kernel_rfl) (by kernel_rfl) (by kernel_rfl) (fun _ _ _ h => h) (Or.inl ⟨by rfl, fun w' hS => by subst hS; go_simp⟩) hS ?_
      simp only [Act.put, List.setIfInBounds_toArray, List.set_cons_zero, List.set_cons_succ]
      refine wpAnyH_done (by kernel_rfl) ?_ _
      go_wp2
      go_roundw
      case rel => exact ⟨i + 1, by simp, HI1.out, HBD.out⟩
      case measure => simp only [intOf]; exact meas_lt hlt
    · have hlti : ¬ (i : Int) < (n : Int) := by omega
      go_wp2_with fail
      go_ret
      exact ⟨rfl, HB.out⟩
theorem RL.take {a : Option Addr} {n c k : Nat} {L : List Bs} (h : RL w (.slice a n c) L) (hk : k ≤ L.length) : RL w (.slice a k c) (L.take k) := by
  obtain ⟨vs, h1, h2, h3⟩ := h
  have hc := h1.cap
  refine ⟨vs.take k, h1.take (by omega) c (by omega), by simp [h2], fun i y b hy hb => ?_⟩
  rw [List.getElem?_take] at hy hb
  by_cases hi : i < k
  · rw [if_pos hi] at hy hb
    exact h3 i y b hy hb
  · rw [if_neg hi] at hy
    cases hy
set_option maxHeartbeats 2000000 in
theorem begins38 {sv mv : Value} {S M : List Bs} {j : Nat} {ra : Option Addr} {rn rc : Nat} (hb : Blk w q [sv, mv] 67) (hS : RL w sv S) (hM : RL w mv M) (hj : j ≤ M.length) (hf : S.length + M.length ≤ 6) (hr : RL w (.slice ra rn rc) (S ++ M.take j)) :
    Calls Try.prog 38 #[.pointer (some ⟨q, 0, none⟩), .slice ra rn rc] w fun e w' => e = .returned (.bool true) ∧ Below w.heap.size w w' := by
  obtain ⟨sa, sc, rfl⟩ := hS.form
  obtain ⟨ma, mc, rfl⟩ := hM.form
  obtain ⟨vs, hv1, hvl, hve⟩ := id hS
  obtain ⟨ws, hu1, hul, hue⟩ := id hM
  have hrn : rn = S.length + j := by
    obtain ⟨_, _, hv⟩ := hr.form
    simp only [Value.slice.injEq, List.length_append, List.length_take] at hv
    omega
  have HRT : Hid (S ++ M.take j = (S ++ M).take rn) := by show _ = _; rw [hrn, List.take_length_add_append]
  have HSW : Hid (∀ w6 ad n6 c6, Below w.heap.size w w6 → LV EV w6 (.slice (some ad) n6 c6) (vs ++ ws) → n6 = S.length + M.length ∧ n6 ≤ c6 ∧ Calls Try.prog 74 #[.slice ra rn rc, .slice (some ad) rn c6] w6 fun e w' => e = .returned (.bool true) ∧ Below w6.heap.size w6 w') := fun w6 ad n6 c6 k h6 => by
    have hcap := h6.cap
    rw [List.length_append] at hcap
    have hR6 : RL w6 (.slice (some ad) n6 c6) (S ++ M) := by
      refine ⟨vs ++ ws, h6, by simp [hvl, hul], fun i y b hy hb => ?_⟩
      by_cases hi : i < vs.length
      · rw [List.getElem?_append_left hi] at hy
        rw [List.getElem?_append_left (by omega)] at hb
        exact (hve i y b hy hb).below k
      · rw [List.getElem?_append_right (by omega)] at hy
        rw [List.getElem?_append_right (by omega), ← hvl] at hb
        exact (hue _ y b hy hb).below k
    have hT := hR6.take (k := rn) (by rw [List.length_append]; omega)
    rw [← HRT.out] at hT
    exact ⟨by omega, by omega, same74 (hr.below k) hT (by simp; omega)⟩
  have HS4 : Hid (∀ W, Below w.heap.size w W → W.cell? ⟨q, 0, none⟩ = some (.slice sa S.length sc) ∧ W.cell? ⟨q, 1, none⟩ = some (.slice ma M.length mc)) := fun W k => ⟨(hb.below k).cell 0, (hb.below k).cell 1⟩
  have HLV : Hid (∀ W, Below w.heap.size w W → LV EV W (.slice sa S.length sc) vs ∧ LV EV W (.slice ma M.length mc) ws) := fun W k => ⟨hv1.below k, hu1.below k⟩
  have HVL : Hid (vs.length + ws.length ≤ 6) := by show _ ≤ _; omega
  have HRN : Hid (S.length ≤ rn ∧ rn ≤ S.length + M.length) := ⟨by omega, by omega⟩
  clear hb hS hM hr hv1 hvl hve hu1 hul hue hj hf hrn
  generalize S.length = nS at *
  generalize M.length = nM at *
  go_enter Try.func38, Try.ntmps38
  go_wp2_with fail
  refine wp_region_L (fun W2 => W2.cell? ⟨q, 0, none⟩ = some (.slice sa nS sc) ∧ W2.cell? ⟨q, 1, none⟩ = some (.slice ma nM mc)) 11 (by kernel_rfl) ?_
  have kd : Below w.heap.size w w.drew := (Below.refl _ _).drew
  have HS5 : Hid (∀ W, Below w.drew.heap.size w.drew W → W.cell? ⟨q, 0, none⟩ = some (.slice sa nS sc) ∧ W.cell? ⟨q, 1, none⟩ = some (.slice ma nM mc)) := fun W k => HS4.out W (bmore kd k)
  have HLD := HLV.out _ kd
  have HKD : Hid (Below w.heap.size w w.drew) := kd
  generalize w.drew = w4 at *
  have HS0 := HS5.out _ (Below.refl _ w4)
  refine wpAnyL_take 1 (some 7) (.pointer (some ⟨q, 0, none⟩)) rfl rfl (by kernel_rfl) (by kernel_rfl) (by kernel_rfl) (by kernel_rfl) (fun _ _ _ h => h) (Or.inl ⟨by rfl, fun w2 hw2 => by obtain ⟨s0, s1⟩ := hw2; go_simp⟩) HS0 ?_
  simp only [Act.put, List.setIfInBounds_toArray, List.set_cons_zero, List.set_cons_succ]
  refine wpAnyL_take 2 (some 8) (.pointer (some ⟨q, 0, none⟩)) rfl rfl (by kernel_rfl) (by kernel_rfl) (by kernel_rfl) (by kernel_rfl) (fun _ _ _ h => h) (Or.inl ⟨by rfl, fun w2 hw2 => by obtain ⟨s0, s1⟩ := hw2; go_simp⟩) HS0 ?_
  simp only [Act.put, List.setIfInBounds_toArray, List.set_cons_zero, List.set_cons_succ]
  refine wpAnyL_take 3 (some 9) (.pointer (some ⟨q, 0, none⟩)) rfl rfl (by kernel_rfl) (by kernel_rfl) (by kernel_rfl) (by kernel_rfl) (fun _ _ _ h => h) (Or.inl ⟨by rfl, fun w2 hw2 => by obtain ⟨s0, s1⟩ := hw2; go_simp⟩) HS0 ?_
  simp only [Act.put, List.setIfInBounds_toArray, List.set_cons_zero, List.set_cons_succ]
  refine wpAnyL_take 4 (some 10) (.slice sa nS sc) rfl rfl (by kernel_rfl) (by kernel_rfl) (by kernel_rfl) (by kernel_rfl) (fun _ _ _ h => h) (Or.inl ⟨by rfl, fun w2 hw2 => by obtain ⟨s0, s1⟩ := hw2; go_simp⟩) HS0 ?_
  simp only [Act.put, List.setIfInBounds_toArray, List.set_cons_zero, List.set_cons_succ]
  refine wpAnyL_take 6 (some 12) (.pointer (some ⟨q, 0, none⟩)) rfl rfl (by kernel_rfl) (by kernel_rfl) (by kernel_rfl) (by kernel_rfl) (fun _ _ _ h => h) (Or.inl ⟨by rfl, fun w2 hw2 => by obtain ⟨s0, s1⟩ := hw2; go_simp⟩) HS0 ?_
  simp only [Act.put, List.setIfInBounds_toArray, List.set_cons_zero, List.set_cons_succ]
  refine wpAnyL_take 7 (some 13) (.pointer (some ⟨q, 0, none⟩)) rfl rfl (by kernel_rfl) (by kernel_rfl) (by kernel_rfl) (by kernel_rfl) (fun _ _ _ h => h) (Or.inl ⟨by rfl, fun w2 hw2 => by obtain ⟨s0, s1⟩ := hw2; go_simp⟩) HS0 ?_
  simp only [Act.put, List.setIfInBounds_toArray, List.set_cons_zero, List.set_cons_succ]
  refine wpAnyL_take 8 (some 14) (.pointer (some ⟨q, 1, none⟩)) rfl rfl (by kernel_rfl) (by kernel_rfl) (by kernel_rfl) (by kernel_rfl) (fun _ _ _ h => h) (Or.inl ⟨by rfl, fun w2 hw2 => by obtain ⟨s0, s1⟩ := hw2; go_simp⟩) HS0 ?_
  simp only [Act.put, List.setIfInBounds_toArray, List.set_cons_zero, List.set_cons_succ]
  refine wpAnyL_take 9 (some 15) (.slice ma nM mc) rfl rfl (by kernel_rfl) (by kernel_rfl) (by kernel_rfl) (by kernel_rfl) (fun _ _ _ h => h) (Or.inl ⟨by rfl, fun w2 hw2 => by obtain ⟨s0, s1⟩ := hw2; go_simp⟩) HS0 ?_
  simp only [Act.put, List.setIfInBounds_toArray, List.set_cons_zero, List.set_cons_succ]
  refine wpAnyL_ready (rs := [0]) (by kernel_rfl) (by simp) (AllReadyL.cons rfl (fun K hK => ?_) AllReadyL.nil)
  go_simp
  refine hK.out _ _ (fun _ => HS5.out _ (al w4 (.cells #[] 33))) ?_
  clear hK K
  try simp only [Act.put, List.setIfInBounds_toArray, List.set_cons_zero, List.set_cons_succ]
  obtain ⟨u5, w5, hr5, hu5, hg5⟩ := run_app (ru_emptyE EV 33 (w := w4)) (HLD.1.below (al w4 (.cells #[] 33))) (by simp; have := HVL.out; omega) (by simp)
  rw [List.nil_append] at hu5
  have B5 : Below w4.heap.size w4 w5 := (al w4 _).trans (grown_below (ru_emptyE EV 33 (w := w4)) hg5 (by simp))
  obtain ⟨u6, w6, hr6, hu6, hg6⟩ := run_app hu5 (HLD.2.below B5) (by have := HVL.out; omega) B5.size
  have B6 : Below w4.heap.size w4 w6 := B5.trans (grown_below hu5 hg6 B5.size)
  refine wpAnyL_ready (rs := [5]) (by kernel_rfl) (by simp) (AllReadyL.cons rfl (fun K hK => ?_) AllReadyL.nil)
  refine step_append_run rfl (.tmp 6) (.tmp 10) 62 rfl (.slice (some ⟨w4.heap.size, 0, none⟩) 0 0) (.slice sa nS sc) rfl rfl u5 w5 (by exact hr5) ?_
  refine hK.out _ _ (fun _ => HS5.out _ B5) ?_
  clear hK K
  try simp only [Act.put, List.setIfInBounds_toArray]
  obtain ⟨ad, n6, c6, rfl, h61, h62⟩ := ru_addr hu6
  refine wpAnyL_ready (rs := [10]) (by kernel_rfl) (by simp) (AllReadyL.cons rfl (fun K hK => ?_) AllReadyL.nil)
  refine step_append_run rfl (.tmp 11) (.tmp 15) 62 rfl u5 (.slice ma nM mc) rfl rfl (.slice (some ad) n6 c6) w6 (by exact hr6) ?_
  refine hK.out _ _ (fun _ => HS5.out _ B6) ?_
  clear hK K
  try simp only [Act.put]
  obtain ⟨hn6, hnc, k74⟩ := HSW.out w6 ad n6 c6 (bmore HKD.out B6) hu6.read
  have HB6 : Hid (Below w.heap.size w w6) := bmore HKD.out B6
  obtain ⟨y0, y1⟩ := HS5.out _ B6
  have g1 : (nS : Int) ≤ (rn : Int) := by have := HRN.out; omega
  have g1n : nS ≤ rn := HRN.out.1
  have g2n : rn ≤ n6 := by have := HRN.out; omega
  have g2 : (rn : Int) ≤ (n6 : Int) := by omega
  have g3n : rn ≤ c6 := by omega
  have g3 : (rn : Int) ≤ (c6 : Int) := by omega
  have g0 : (0 : Int) ≤ (rn : Int) := by omega
  clear hu5 hu6 hg5 hg6 hr5 hr6 B5 B6 HLD HS0 hn6
  refine wpAnyL_ready (rs := [11]) (by kernel_rfl) (by simp) (AllReadyL.cons rfl (fun K hK => ?_) AllReadyL.nil)
  go_simp
  refine hK.out _ _ (fun h => absurd rfl h) ?_
  clear hK K
  refine wpAnyL_done (by kernel_rfl) ?_ _
  go_wp2_with (go_at_call 74; (refine k74.mono ?_; rintro e w7 ⟨rfl, B7⟩))
  go_ret
  exact ⟨rfl, bmore HB6.out B7⟩
end Go.Proofs.Ytnganmekiloigaa
/-! ### The law WalSure. -/
namespace Go.Proofs.Ytnganmekiloigaa
open Go.RowKit
set_option maxRecDepth 100000
variable {w w' : World} {B d s x q E : Nat} {D : Dk} {W : Wl} {G : List Nat}
theorem Alone.adds {N : List Nat} (h : Alone B w d s D G) (k : Below w.heap.size w w') (hN : ∀ g ∈ N, w.heap.size ≤ g ∧ g < w'.heap.size) : Alone B w' d s D (N ++ G) := by
  obtain ⟨wv, p1, p2, p3, p4⟩ := h
  refine ⟨wv, p1.below k, fun g hg => ?_, p3, Nat.le_trans p4 k.size⟩
  rcases List.mem_append.1 hg with hg | hg
  · exact ⟨fun hf => by have := p1.foot_lt _ hf; have := (hN g hg).1; omega, (hN g hg).2⟩
  · exact ⟨(p2 g hg).1, Nat.lt_of_lt_of_le (p2 g hg).2 k.size⟩
/-- Open, and the blocks that its records lie in. -/
theorem open_own {R h E cnt en u e1 : Nat} {sure : List Bs} (hA : Alone B w d s D []) (i : Inv R D h E cnt en u e1 sure []) (hR : 2 ≤ R) (hR2 : R ≤ 64) :
    Calls Try.prog 35 #[.pointer (some ⟨d, 0, none⟩)] w fun e w' => ∃ x ua uc H, e = .returned (.tuple #[.pointer (some ⟨x, 0, none⟩), .slice ua sure.length uc, .int .i64 0]) ∧ Blk w' x (wlC d ⟨h, great (pcs D.secs) + 1, sure.length, u, false⟩) 111 ∧ RLG H w' (.slice ua sure.length uc) sure ∧ (∀ g ∈ H, w.heap.size ≤ g ∧ g < w'.heap.size ∧ g ≠ x) ∧ Below w.heap.size w w' ∧ w.heap.size ≤ x := by
  have hw : D.wait = [] := by rw [i.wait]; rfl
  have hgr : great (pcs D.secs) ≤ E := great_bound _ 0 E (Nat.zero_le _) i.all
  obtain ⟨o1, o2, o3, o4⟩ := i.opens
  refine (open35 hA i.off (by rw [hw]; simp) i.len hR hR2 (by rw [rdS_nil hw]; have := i.ep.2; omega)).mono ?_
  rintro e w1 ⟨x, v, vs, rfl, hb, hu, hvs, hB, hx⟩
  rw [rdS_nil hw] at hb hvs
  rw [o1, o3, o4] at hb
  have hl := hvs.len
  rw [o4] at hl
  obtain ⟨ua, uc, rfl, _⟩ := hu.form
  rw [hl] at hu ⊢
  have hat : ∀ (i : Nat) (y : Sl), vs[i]? = some y → ∃ b, sure[i]? = some b ∧ RW EB w.heap.size w1 (slV y) b := fun i y hy => by
    have hi := (List.getElem?_eq_some_iff.1 hy).1
    have hi2 : i < (toldP D.secs).length := by omega
    refine ⟨(toldP D.secs)[i].b, ?_, hvs.at' i y _ hy (List.getElem?_eq_getElem hi2)⟩
    rw [← o2, List.getElem?_map, List.getElem?_eq_getElem hi2]; rfl
  refine ⟨x, ua, uc, ((Value.slice ua sure.length uc).ownBlock).toList ++ vs.filterMap (fun y => (slV y).ownBlock), rfl, hb, ⟨vs, ⟨hu.read, fun a n c e _ => by cases e; simp [Value.ownBlock]⟩, hl, fun i y b hy hb' => ?_⟩, fun g hg => ?_, hB, hx⟩
  · obtain ⟨b', h1, h2⟩ := hat i y hy
    rw [hb'] at h1
    cases h1
    refine ⟨h2.read, fun a n c e _ => List.mem_append.2 (.inr (List.mem_filterMap.2 ⟨y, List.mem_of_getElem? hy, ?_⟩))⟩
    rw [e]; rfl
  · rcases List.mem_append.1 hg with hg | hg
    · have hg' := Option.mem_toList.1 hg
      have h3 := hu.at hg'
      exact ⟨h3.1, h3.2, fun e => RW.ne hb (by decide) hu (by rw [← e]; exact hg')⟩
    · obtain ⟨y, hy, hyg⟩ := List.mem_filterMap.1 hg
      obtain ⟨i, hi⟩ := List.getElem?_of_mem hy
      obtain ⟨b', h1, h2⟩ := hat i y hi
      have h3 := h2.at hyg
      exact ⟨h3.1, h3.2, fun e => RW.ne hb (by decide) h2 (by rw [← e]; exact hyg)⟩
/-- Behind a crash: the disk, and the story as it was. -/
structure Kc (B : Nat) (w : World) (d s q E : Nat) : Prop where
  ex : ∃ D H h cnt en u e1 S M sv mv j, Alone B w d s D (q :: H) ∧ q ∉ H ∧ B ≤ q ∧ Inv 6 D h (great (pcs D.secs) + 1) cnt en u e1 (S ++ M.take j) [] ∧ j ≤ M.length ∧ S.length + M.length ≤ 6 ∧ great (pcs D.secs) + 1 ≤ E + 1 ∧ Blk w q [sv, mv] 67 ∧ RLG H w sv S ∧ RLG H w mv M
theorem Sy.crash {l : List Bool} {v : Value} (h : Sy B w d s x q E) (hE : E ≤ 60000) (hv : KB w v l) (hvB : ∀ a n c, v = .slice (some a) n c → 0 < l.length → a.block < B) :
    Calls Try.prog 18 #[.pointer (some ⟨d, 0, none⟩), v] w fun e w' => e = .returned (.tuple #[]) ∧ Kc B w' d s q E ∧ Below B w w' := by
  obtain ⟨D, W, H, u, e1, S, M, sv, mv, A, hq, hB, I, hbr, he, hb, hS, hM⟩ := h.ex
  have hwl : D.wait.length ≤ 100000 := by rw [I.wait, waitOf_length]; have := I.en'; have := I.room; omega
  have hfew := I.few
  refine (lg_crash A.alone hv hvB hwl).mono ?_
  rintro e w1 ⟨rfl, A1, K1, B1⟩
  obtain ⟨j, u', e', hj, hc, hE', hf, hg, I2, hw⟩ := I.crash (by omega) (by omega) l
  have KH : Kept H w w1 := fun g hg => K1 g (by simp [hg])
  exact ⟨rfl, ⟨_, H, _, _, _, _, _, S, M, sv, mv, j, A1, hq, hB, I2, hj, hfew, by omega, hb.block (K1 q (by simp)), hS.kept KH, hM.kept KH⟩, B1⟩
/-- Behind the Open: what it answered, and what begins says of it; and the story turned. -/
def OcPost (B d s q E : Nat) (w0 : World) (e : Ending) (w' : World) : Prop := ∃ x2 ua n uc, e = .returned (.tuple #[.pointer (some ⟨x2, 0, none⟩), .slice ua n uc, .int .i64 0]) ∧ Below w0.heap.size w0 w' ∧
  (Calls Try.prog 38 #[.pointer (some ⟨q, 0, none⟩), .slice ua n uc] w' fun e w2 => e = .returned (.bool true) ∧ Below w'.heap.size w' w2) ∧
  ∀ w2, Below w'.heap.size w' w2 → (∃ l, Blk w2 q l 67 ∧ l.length = 2) ∧ Sy B ((w2.setCell ⟨q, 0, none⟩ (.slice ua n uc)).setCell ⟨q, 1, none⟩ (.slice none 0 0)) d s x2 q (E + 1) ∧ Below B w2 ((w2.setCell ⟨q, 0, none⟩ (.slice ua n uc)).setCell ⟨q, 1, none⟩ (.slice none 0 0))
theorem Kc.opens (h : Kc B w d s q E) : Calls Try.prog 35 #[.pointer (some ⟨d, 0, none⟩)] w (OcPost B d s q E w) := by
  obtain ⟨D, H, h, cnt, en, u, e1, S, M, sv, mv, j, A, hq, hqB, I, hj, hfew, hg, hb, hS, hM⟩ := h.ex
  have hsz : B ≤ w.heap.size := by obtain ⟨_, _, _, _, h⟩ := A; exact h
  have hcn : cnt = (S ++ M.take j).length := by rw [I.cnt']; simp
  have hen : en = u := by rw [I.en']; simp [layAll]
  have hql : q < w.heap.size := hb.lt
  refine (open_own (A.less (by simp)) I (by omega) (by omega)).mono ?_
  rintro e w1 ⟨x2, ua, uc, N, rfl, hb1, hr, hN, B1, hx⟩
  refine ⟨x2, ua, _, uc, rfl, B1, begins38 (hb.below B1) (hS.below B1).rl (hM.below B1).rl hj hfew hr.rl, fun w2 k2 => ?_⟩
  have B2 := bmore B1 k2
  have hb2 := hb.below B2
  have hqN : q ∉ N := fun hm => by have := (hN q hm).1; omega
  have hx2 := hb1.lt
  have A2 : LG B w2 d s D x2 ⟨h, great (pcs D.secs) + 1, cnt, en, false⟩ (q :: N) := by
    have A3 := A.adds (N := x2 :: N) B2 (fun g hg => by
      rcases List.mem_cons.1 hg with rfl | hg
      · exact ⟨hx, Nat.lt_of_lt_of_le hx2 k2.size⟩
      · exact ⟨(hN g hg).1, Nat.lt_of_lt_of_le (hN g hg).2.1 k2.size⟩)
    refine ⟨A3.less (fun g hg => ?_), by rw [hcn, hen]; exact hb1.below k2, fun hm => ?_, by omega⟩
    · simp only [List.mem_cons, List.mem_append] at hg ⊢
      rcases hg with h | h | h
      · exact .inl (.inl h)
      · exact .inr (.inl h)
      · exact .inl (.inr h)
    · rcases List.mem_cons.1 hm with e | hm
      · omega
      · exact (hN x2 hm).2.2 rfl
  have kk : Keep (fun b => b = q) w2 ((w2.setCell ⟨q, 0, none⟩ (.slice ua (S ++ M.take j).length uc)).setCell ⟨q, 1, none⟩ (.slice none 0 0)) := ((Keep.refl (fun b => b = q) _).set (.inr rfl) _).set (.inr rfl) _
  refine ⟨⟨_, hb2, rfl⟩, Sy.put A2 hqN hqB I rfl hg ((hb2.set (o := 0) (.slice ua (S ++ M.take j).length uc)).set (o := 1) (.slice none 0 0)) (hr.below k2) (RLG.nil _ _) kk, kk.below (Nat.le_trans hsz B2.size) (fun i e => by omega)⟩
end Go.Proofs.Ytnganmekiloigaa
/-! ### The law WalSure. -/
namespace Go.Proofs.Ytnganmekiloigaa
open Go.RowKit
set_option maxRecDepth 100000
theorem kb_of_inkS {W0 W : World} {v : Value} {kl : List Bool} (h : InK W0.heap.size W0 v kl) (hB : Below W0.heap.size W0 W) : KB W v kl := by
  obtain ⟨a, c, rfl, h1, h2, h3⟩ := h.below hB
  by_cases h0 : 0 < kl.length
  · obtain ⟨b, o, rfl, hb, hat⟩ := h3 h0
    exact .inr ⟨b, o, c, rfl, h0, hat⟩
  · have e : kl = [] := List.eq_nil_of_length_eq_zero (by omega)
    subst e
    exact .inl ⟨a, c, rfl, rfl⟩
theorem ink_lowS {W0 : World} {v : Value} {kl : List Bool} (h : InK W0.heap.size W0 v kl) : ∀ a n c, v = .slice (some a) n c → 0 < kl.length → a.block < W0.heap.size := fun a n c e h0 => by
  obtain ⟨a', c', h1, _, _, h3⟩ := h
  obtain ⟨b, o, e', hb, _⟩ := h3 h0
  rw [h1, e'] at e
  cases e
  exact hb
theorem meas_lt30 {m k : Nat} (h : m < k) : k - ((m : Int) + 1).toNat < k - ((m : Int)).toNat := by omega
set_option maxHeartbeats 4000000 in
theorem sure9 (W0 : World) (v0 : Value) (l : List WDeed) (hl : InDW W0.heap.size W0 v0 l) :
    Calls Try.prog 9 #[v0] W0 fun e w' => e = .returned (.bool true) ∧ Below W0.heap.size W0 w' := by
  have c29 := new29 12 W0 (by omega) (by omega)
  obtain ⟨a0, c0, rfl, hmx, _⟩ := id hl
  have HD : Hid (∀ i, i < l.length → ∃ b o, a0 = some ⟨b, o, none⟩ ∧ ∃ k N vb vk bs kl, DW W0 b (o + i * 4) k N vb vk bs kl) := fun i hi => dw_of hl hi
  have HL31 : Hid (∀ w, Calls Try.prog 31 #[] w fun e w' => e = .returned (.bool true) ∧ Below w.heap.size w w') := live31
  generalize l.length = nl at *
  clear hl
  go_enter Try.func9, Try.ntmps9
  go_wp2_with (first
    | (go_at_call 29; (refine c29.mono ?_; rintro e w1 ⟨rfl, hPD, B1⟩; have k35 := open_new (R := 6) (alone_new29 hPD B1) (by omega) (by omega)))
    | (go_at_call 35; (refine k35.mono ?_; rintro e w2 ⟨x, ua, uc, rfl, A2, -, B2⟩; have B12 := B1.trans (B2.mono B1.size)))
    | (go_at_call 31; (refine Calls.mono (HL31.out _) ?_; rintro e w3 ⟨rfl, B3⟩; have H3 : Hid (Sy W0.heap.size (w3.alloc (.cells #[.slice none 0 0, .slice none 0 0] 67)) (W0.heap.size + 1) W0.heap.size x w3.heap.size 1 ∧ Below W0.heap.size W0 (w3.alloc (.cells #[.slice none 0 0, .slice none 0 0] 67))) := ⟨sy_new (A2.below B3), (B12.trans (B3.mono B12.size)).trans ((al w3 _).mono (Nat.le_trans B12.size B3.size))⟩; clear A2 B12 B1 B2 hPD k35 c29)))
  obtain ⟨q, hq⟩ : ∃ q, w3.heap.size = q := ⟨_, rfl⟩
  rw [hq] at H3 ⊢
  clear hq
  generalize w3.alloc (.cells #[.slice none 0 0, .slice none 0 0] 67) = w4 at *
  go_loopw [4, 8] (fun p4 p wr => ∃ x i : Nat, p4 = .pointer (some ⟨x, 0, none⟩) ∧ p = .int .i64 (i : Int) ∧ Hid (i ≤ 30) ∧ Hid (Sy W0.heap.size wr (W0.heap.size + 1) W0.heap.size x q (1 + i) ∧ Below W0.heap.size W0 wr)) (fun _ p _ => 30 - (intOf p).toNat)
  case atStart => exact ⟨x, 0, rfl, rfl, Nat.zero_le _, H3.out⟩
  case round =>
    clear H3
    obtain ⟨x1, i, rfl, rfl, hi, HI⟩ := hrel
    by_cases hlt : i < nl ∧ i < 30
    · obtain ⟨hln, hl30⟩ := hlt
      have b1 : (i : Int) < (nl : Int) := by omega
      have b2 : (i : Int) < 30 := by omega
      have b3 : decide ((i : Int) < (nl : Int)) = true := decide_eq_true b1
      have b4 : decide (i < nl) = true := decide_eq_true hln
      have h0i : (0 : Int) ≤ (i : Int) := by omega
      obtain ⟨bl, ol, rfl, k, N, vb, vk, bs, ks, hdw⟩ := HD.out i hln
      obtain ⟨z0, z1, z2, z3⟩ := hdw.cells _ HI.out.2
      have hE : 1 + i ≤ 60000 := by omega
      have HBW : Hid (Below W0.heap.size W0 wr) := HI.out.2
      have HI1 : Hid (i + 1 ≤ 30) := hl30
      obtain ⟨va, vn, vc, rfl⟩ := hdw.inb.form
      obtain ⟨ka, kc, rfl, hkc, _, _⟩ := id hdw.ink
      have HINK : Hid (InK W0.heap.size W0 (.slice ka ks.length kc) ks) := hdw.ink
      have HINB : Hid (InB W0.heap.size wr (.slice va vn vc) bs) := hdw.inb.below HI.out.2
      clear hdw
      by_cases hk4 : k = 4
      · subst hk4
        have k37 := bits37 ka ks.length kc hkc
        have hit := ink_take (k := 40) HINK.out
        have k18 := HI.out.1.crash hE (kb_of_inkS hit HBW.out) (ink_lowS hit)
        clear hit HI HINK HINB
        generalize ks.length = kn at *
        generalize min kn 40 = km at *
        go_wp2_with (first
          | (go_at_call 37; (refine (k37 _).mono ?_; rintro e w9 ⟨rfl, h9⟩; replace h9 := h9.symm; subst h9))
          | (go_at_call 18; (refine k18.mono ?_; rintro e w5 ⟨rfl, h5, B5⟩; have k35 := h5.opens; have HB5 : Hid (Below W0.heap.size W0 w5) := HBW.out.trans B5; clear h5 B5 k18))
          | (go_at_call 35; (refine k35.mono ?_; rintro e w6 ⟨x2, ra, n6, rc, rfl, B6, k38, h6⟩; have HB6 : Hid (Below W0.heap.size W0 w6) := HB5.out.trans (B6.mono HB5.out.size); have H6 : Hid _ := h6; clear B6 k35 h6))
          | (go_at_call 38; (refine k38.mono ?_; rintro e w7 ⟨rfl, B7⟩; obtain ⟨⟨ll, hb7, hl7⟩, hsy, hbs⟩ := H6.out w7 B7; have HB7 : Hid (Below W0.heap.size W0 w7) := HB6.out.trans (B7.mono HB6.out.size); have HS7 : Hid _ := hsy; have HQ7 : Hid _ := hbs; obtain ⟨l0, l1, rfl⟩ : ∃ l0 l1, ll = [l0, l1] := (by match ll, hl7 with | [a, b], _ => exact ⟨a, b, rfl⟩); have f0 := hb7.frozen 0; have c0 := hb7.cell 0; have hb8 := hb7.set (o := 0) (.slice ra n6 rc); have f1 := hb8.frozen 1; have c1 := hb8.cell 1; simp only [List.getElem?_cons_zero, List.getElem?_cons_succ, List.set_cons_zero] at c0 c1; clear hb7 hb8 hl7 hsy hbs B7 k38)))
        go_roundw
        case rel => exact ⟨x2, i + 1, rfl, by simp, HI1.out, HS7.out.up (by omega), HB7.out.trans HQ7.out⟩
        case measure => simp only [intOf]; exact meas_lt30 hl30
      · have hk4b : (k == 4) = false := by simpa using hk4
        have hk4c : (k != 4) = true := by simp [bne, hk4b]
        have k36 := step36 (k := k) (N := N) (vk := .slice ka ks.length kc) HI.out.1 hE HINB.out
        clear HI HINK HINB
        generalize ks.length = kn at *
        go_wp2_with (go_at_call 36; (refine k36.mono ?_; rintro e w5 ⟨rfl, h5⟩; have H5 : Hid (StPost W0.heap.size wr (W0.heap.size + 1) W0.heap.size x1 q (1 + i) w5) := h5; clear h5))
        go_roundw
        case rel => exact ⟨x1, i + 1, rfl, by simp, HI1.out, H5.out.1.up (by omega), HBW.out.trans H5.out.2⟩
        case measure => simp only [intOf]; exact meas_lt30 hl30
    · have HBW : Hid (Below W0.heap.size W0 wr) := HI.out.2
      clear HI
      by_cases hln : i < nl
      · have hl30 : ¬ i < 30 := fun h => hlt ⟨hln, h⟩
        have b1 : (i : Int) < (nl : Int) := by omega
        have b2 : ¬ (i : Int) < 30 := by omega
        have b3 : decide ((i : Int) < (nl : Int)) = true := decide_eq_true b1
        have b4 : decide (i < nl) = true := decide_eq_true hln
        go_wp2_with fail
        go_ret
        exact ⟨rfl, HBW.out⟩
      · have b1 : ¬ (i : Int) < (nl : Int) := by omega
        have b3 : decide ((i : Int) < (nl : Int)) = false := decide_eq_false b1
        have b4 : decide (i < nl) = false := decide_eq_false hln
        go_wp2_with fail
        go_ret
        exact ⟨rfl, HBW.out⟩
end Go.Proofs.Ytnganmekiloigaa
