/- Whether lists of records are the same; story.begins. -/
import Derived.Test.YtnganmekiloigaaHv
namespace Go.Proofs.Ytnganmekiloigaa
open Go.RowKit
set_option maxRecDepth 100000
variable {w w' : World} {B d s x q E : Nat}
theorem conv_zero (a : Option Addr) (c : Nat) (w : World) : (convert 33 9 (.slice a 0 c)).run Try.prog w = .ok (.string (strB [])) w := by
  rw [run_convert_bytes_string w 33 9 5 _ 0 c Try.underlying33 Try.underlying5 Try.underlying9]
  cases a <;> simp [Conv.bytesToString, loadCells]
  all_goals rfl
/-- Any bytes behind a slice, as a string: of none, too. -/
theorem conv_any {a : Option Addr} {n c : Nat} {l : Bs} (h : LV EB w (.slice a n c) l) : (convert 33 9 (.slice a n c)).run Try.prog w = .ok (.string (strB l)) w := by
  by_cases h0 : 0 < l.length
  · exact conv_lv h h0
  · obtain rfl : l = [] := List.eq_nil_of_length_eq_zero (by omega)
    obtain rfl : n = 0 := h.cap.1
    exact conv_zero a c w
theorem strB_inj {l m : Bs} (h : strB l = strB m) : l = m := by
  unfold strB at h
  simpa using h
/-- Same, of two lists that agree. -/
theorem same74 {v u : Value} {L : List Bs} (hv : RL w v L) (hu : RL w u L) (hL : L.length ≤ 1000) : Calls Try.prog 74 #[v, u] w fun e w' => e = .returned (.bool true) ∧ Below w.heap.size w w' := by
  obtain ⟨a, c, rfl⟩ := hv.form
  obtain ⟨b, k, rfl⟩ := hu.form
  have HV : Hid (RL w (.slice a L.length c) L) := hv
  have HU : Hid (RL w (.slice b L.length k) L) := hu
  obtain ⟨n, hn⟩ : ∃ n, L.length = n := ⟨_, rfl⟩
  rw [hn] at hL HV HU ⊢
  have HN : Hid (L.length = n) := hn
  have HL : Hid (n ≤ 1000) := hL
  clear hv hu hn hL
  go_enter Try.func74, Try.ntmps74
  go_wp2_with fail
  go_loopw [5] (fun p wr => ∃ i : Nat, p = .int .i64 (i : Int) ∧ Hid (i ≤ n) ∧ Hid (Below w.heap.size w wr)) (fun p _ => n - (intOf p).toNat)
  case atStart => exact ⟨0, rfl, Nat.zero_le _, Below.refl _ _⟩
  case round =>
    obtain ⟨i, rfl, hi, HB⟩ := hrel
    by_cases hlt : i < n
    · have hlti : (i : Int) < (n : Int) := by omega
      have hi1000 : i < 1000 := by have := HL.out; omega
      have hi1000i : (i : Int) < 1000 := by omega
      have h0i : (0 : Int) ≤ (i : Int) := by omega
      obtain ⟨l, hl⟩ : ∃ l, L[i]? = some l := ⟨_, List.getElem?_eq_getElem (by rw [HN.out]; exact hlt)⟩
      obtain ⟨g1, o1, p1, k1, q1, rfl, hc1, hl1⟩ := (HV.out.below HB.out).at hl
      obtain ⟨g2, o2, p2, k2, q2, rfl, hc2, hl2⟩ := (HU.out.below HB.out).at hl
      have hs1 : ∀ W, Below wr.heap.size wr W → (convert 33 9 (.slice p1 k1 q1)).run Try.prog W = .ok (.string (strB l)) W := fun W k => conv_any (hl1.below k)
      have hs2 : ∀ W, Below wr.heap.size wr W → (convert 33 9 (.slice p2 k2 q2)).run Try.prog W = .ok (.string (strB l)) W := fun W k => conv_any (hl2.below k)
      generalize strB l = sA at *
      have t1 := hs1 _ (Below.refl _ wr).drew
      have t2 := hs2 _ (Below.refl _ wr).drew
      have e1 : wr.drew.cell? ⟨g1, o1 + i, none⟩ = some (.slice p1 k1 q1) := hc1
      have e2 : wr.drew.cell? ⟨g2, o2 + i, none⟩ = some (.slice p2 k2 q2) := hc2
      have HI1 : Hid (i + 1 ≤ n) := hlt
      have HBD : Hid (Below w.heap.size w wr.drew) := HB.out.trans (Below.refl _ _).drew
      clear hc1 hc2 hl1 hl2 hs1 hs2 hl
      go_wp2_with fail
      refine wp_region_held_drew (S := fun W => W = wr.drew) (by kernel_rfl) rfl (fun hS => ?_)
      refine wpAnyH_take' 0 (some 17) (.slice (some ⟨g1, o1, none⟩) n c) rfl rfl (by kernel_rfl) (by kernel_rfl) (by kernel_rfl) (fun _ _ _ h => h) (Or.inl ⟨by rfl, fun w' hS => by subst hS; go_simp⟩) hS ?_
      simp only [Act.put, List.setIfInBounds_toArray, List.set_cons_zero, List.set_cons_succ]
      refine wpAnyH_take' 1 (some 18) (.int .i64 (i : Int)) rfl rfl (by kernel_rfl) (by kernel_rfl) (by kernel_rfl) (fun _ _ _ h => h) (Or.inl ⟨by rfl, fun w' hS => by subst hS; go_simp⟩) hS ?_
      simp only [Act.put, List.setIfInBounds_toArray, List.set_cons_zero, List.set_cons_succ]
      refine wpAnyH_take' 2 (some 19) (.pointer (some ⟨g1, o1 + i, none⟩)) rfl rfl (by kernel_rfl) (by kernel_rfl) (by kernel_rfl) (fun _ _ _ h => h) (Or.inl ⟨by rfl, fun w' hS => by subst hS; go_simp⟩) hS ?_
      simp only [Act.put, List.setIfInBounds_toArray, List.set_cons_zero, List.set_cons_succ]
      refine wpAnyH_take' 3 (some 20) (.slice p1 k1 q1) rfl rfl (by kernel_rfl) (by kernel_rfl) (by kernel_rfl) (fun _ _ _ h => h) (Or.inl ⟨by rfl, fun w' hS => by subst hS; go_simp⟩) hS ?_
      simp only [Act.put, List.setIfInBounds_toArray, List.set_cons_zero, List.set_cons_succ]
      refine wpAnyH_take' 4 (some 21) (.string sA) rfl rfl (by kernel_rfl) (by kernel_rfl) (by kernel_rfl) (fun _ _ _ h => h) (Or.inl ⟨by rfl, fun w' hS => by subst hS; go_simp⟩) hS ?_
      simp only [Act.put, List.setIfInBounds_toArray, List.set_cons_zero, List.set_cons_succ]
      refine wpAnyH_take' 5 (some 22) (.slice (some ⟨g2, o2, none⟩) n k) rfl rfl (by kernel_rfl) (by kernel_rfl) (by kernel_rfl) (fun _ _ _ h => h) (Or.inl ⟨by rfl, fun w' hS => by subst hS; go_simp⟩) hS ?_
      simp only [Act.put, List.setIfInBounds_toArray, List.set_cons_zero, List.set_cons_succ]
      refine wpAnyH_take' 6 (some 23) (.int .i64 (i : Int)) rfl rfl (by kernel_rfl) (by kernel_rfl) (by kernel_rfl) (fun _ _ _ h => h) (Or.inl ⟨by rfl, fun w' hS => by subst hS; go_simp⟩) hS ?_
      simp only [Act.put, List.setIfInBounds_toArray, List.set_cons_zero, List.set_cons_succ]
      refine wpAnyH_take' 7 (some 24) (.pointer (some ⟨g2, o2 + i, none⟩)) rfl rfl (by kernel_rfl) (by kernel_rfl) (by kernel_rfl) (fun _ _ _ h => h) (Or.inl ⟨by rfl, fun w' hS => by subst hS; go_simp⟩) hS ?_
      simp only [Act.put, List.setIfInBounds_toArray, List.set_cons_zero, List.set_cons_succ]
      refine wpAnyH_take' 8 (some 25) (.slice p2 k2 q2) rfl rfl (by kernel_rfl) (by kernel_rfl) (by kernel_rfl) (fun _ _ _ h => h) (Or.inl ⟨by rfl, fun w' hS => by subst hS; go_simp⟩) hS ?_
      simp only [Act.put, List.setIfInBounds_toArray, List.set_cons_zero, List.set_cons_succ]
      refine wpAnyH_take' 9 (some 26) (.string sA) rfl rfl (by kernel_rfl) (by kernel_rfl) (by kernel_rfl) (fun _ _ _ h => h) (Or.inl ⟨by rfl, fun w' hS => by subst hS; go_simp⟩) hS ?_
      simp only [Act.put, List.setIfInBounds_toArray, List.set_cons_zero, List.set_cons_succ]
      refine wpAnyH_take' 10 (some 27) (.bool false) rfl rfl (by kernel_rfl) (by kernel_rfl) (by kernel_rfl) (fun _ _ _ h => h) (Or.inl ⟨by rfl, fun w' hS => by subst hS; go_simp⟩) hS ?_
      simp only [Act.put, List.setIfInBounds_toArray, List.set_cons_zero, List.set_cons_succ]
      refine wpAnyH_done (by kernel_rfl) ?_ _
      go_wp2
      go_roundw
      case rel => exact ⟨i + 1, by simp, HI1.out, HBD.out⟩
      case measure => simp only [intOf]; exact meas_lt hlt
    · have hlti : ¬ (i : Int) < (n : Int) := by omega
      go_wp2_with fail
      go_ret
      exact ⟨rfl, HB.out⟩
theorem RL.take {a : Option Addr} {n c k : Nat} {L : List Bs} (h : RL w (.slice a n c) L) (hk : k ≤ L.length) : RL w (.slice a k c) (L.take k) := by
  obtain ⟨vs, h1, h2, h3⟩ := h
  have hc := h1.cap
  refine ⟨vs.take k, h1.take (by omega) c (by omega), by simp [h2], fun i y b hy hb => ?_⟩
  rw [List.getElem?_take] at hy hb
  by_cases hi : i < k
  · rw [if_pos hi] at hy hb
    exact h3 i y b hy hb
  · rw [if_neg hi] at hy
    cases hy
set_option maxHeartbeats 2000000 in
theorem begins38 {sv mv : Value} {S M : List Bs} {j : Nat} {ra : Option Addr} {rn rc : Nat} (hb : Blk w q [sv, mv] 67) (hS : RL w sv S) (hM : RL w mv M) (hj : j ≤ M.length) (hf : S.length + M.length ≤ 6) (hr : RL w (.slice ra rn rc) (S ++ M.take j)) :
    Calls Try.prog 38 #[.pointer (some ⟨q, 0, none⟩), .slice ra rn rc] w fun e w' => e = .returned (.bool true) ∧ Below w.heap.size w w' := by
  obtain ⟨sa, sc, rfl⟩ := hS.form
  obtain ⟨ma, mc, rfl⟩ := hM.form
  obtain ⟨vs, hv1, hvl, hve⟩ := id hS
  obtain ⟨ws, hu1, hul, hue⟩ := id hM
  have hrn : rn = S.length + j := by
    obtain ⟨_, _, hv⟩ := hr.form
    simp only [Value.slice.injEq, List.length_append, List.length_take] at hv
    omega
  have HRT : Hid (S ++ M.take j = (S ++ M).take rn) := by show _ = _; rw [hrn, List.take_length_add_append]
  have HSW : Hid (∀ w6 ad n6 c6, Below w.heap.size w w6 → LV EV w6 (.slice (some ad) n6 c6) (vs ++ ws) → n6 = S.length + M.length ∧ n6 ≤ c6 ∧ Calls Try.prog 74 #[.slice ra rn rc, .slice (some ad) rn c6] w6 fun e w' => e = .returned (.bool true) ∧ Below w6.heap.size w6 w') := fun w6 ad n6 c6 k h6 => by
    have hcap := h6.cap
    rw [List.length_append] at hcap
    have hR6 : RL w6 (.slice (some ad) n6 c6) (S ++ M) := by
      refine ⟨vs ++ ws, h6, by simp [hvl, hul], fun i y b hy hb => ?_⟩
      by_cases hi : i < vs.length
      · rw [List.getElem?_append_left hi] at hy
        rw [List.getElem?_append_left (by omega)] at hb
        exact (hve i y b hy hb).below k
      · rw [List.getElem?_append_right (by omega)] at hy
        rw [List.getElem?_append_right (by omega), ← hvl] at hb
        exact (hue _ y b hy hb).below k
    have hT := hR6.take (k := rn) (by rw [List.length_append]; omega)
    rw [← HRT.out] at hT
    exact ⟨by omega, by omega, same74 (hr.below k) hT (by simp; omega)⟩
  have HS4 : Hid (∀ W, Below w.heap.size w W → W.cell? ⟨q, 0, none⟩ = some (.slice sa S.length sc) ∧ W.cell? ⟨q, 1, none⟩ = some (.slice ma M.length mc)) := fun W k => ⟨(hb.below k).cell 0, (hb.below k).cell 1⟩
  have HLV : Hid (∀ W, Below w.heap.size w W → LV EV W (.slice sa S.length sc) vs ∧ LV EV W (.slice ma M.length mc) ws) := fun W k => ⟨hv1.below k, hu1.below k⟩
  have HVL : Hid (vs.length + ws.length ≤ 6) := by show _ ≤ _; omega
  have HRN : Hid (S.length ≤ rn ∧ rn ≤ S.length + M.length) := ⟨by omega, by omega⟩
  clear hb hS hM hr hv1 hvl hve hu1 hul hue hj hf hrn
  generalize S.length = nS at *
  generalize M.length = nM at *
  go_enter Try.func38, Try.ntmps38
  go_wp2_with fail
  refine wp_region_L (fun W2 => W2.cell? ⟨q, 0, none⟩ = some (.slice sa nS sc) ∧ W2.cell? ⟨q, 1, none⟩ = some (.slice ma nM mc)) 11 (by kernel_rfl) ?_
  have kd : Below w.heap.size w w.drew := (Below.refl _ _).drew
  have HS5 : Hid (∀ W, Below w.drew.heap.size w.drew W → W.cell? ⟨q, 0, none⟩ = some (.slice sa nS sc) ∧ W.cell? ⟨q, 1, none⟩ = some (.slice ma nM mc)) := fun W k => HS4.out W (bmore kd k)
  have HLD := HLV.out _ kd
  have HKD : Hid (Below w.heap.size w w.drew) := kd
  generalize w.drew = w4 at *
  have HS0 := HS5.out _ (Below.refl _ w4)
  refine wpAnyL_take 1 (some 7) (.pointer (some ⟨q, 0, none⟩)) rfl rfl (by kernel_rfl) (by kernel_rfl) (by kernel_rfl) (by kernel_rfl) (fun _ _ _ h => h) (Or.inl ⟨by rfl, fun w2 hw2 => by obtain ⟨s0, s1⟩ := hw2; go_simp⟩) HS0 ?_
  simp only [Act.put, List.setIfInBounds_toArray, List.set_cons_zero, List.set_cons_succ]
  refine wpAnyL_take 2 (some 8) (.pointer (some ⟨q, 0, none⟩)) rfl rfl (by kernel_rfl) (by kernel_rfl) (by kernel_rfl) (by kernel_rfl) (fun _ _ _ h => h) (Or.inl ⟨by rfl, fun w2 hw2 => by obtain ⟨s0, s1⟩ := hw2; go_simp⟩) HS0 ?_
  simp only [Act.put, List.setIfInBounds_toArray, List.set_cons_zero, List.set_cons_succ]
  refine wpAnyL_take 3 (some 9) (.pointer (some ⟨q, 0, none⟩)) rfl rfl (by kernel_rfl) (by kernel_rfl) (by kernel_rfl) (by kernel_rfl) (fun _ _ _ h => h) (Or.inl ⟨by rfl, fun w2 hw2 => by obtain ⟨s0, s1⟩ := hw2; go_simp⟩) HS0 ?_
  simp only [Act.put, List.setIfInBounds_toArray, List.set_cons_zero, List.set_cons_succ]
  refine wpAnyL_take 4 (some 10) (.slice sa nS sc) rfl rfl (by kernel_rfl) (by kernel_rfl) (by kernel_rfl) (by kernel_rfl) (fun _ _ _ h => h) (Or.inl ⟨by rfl, fun w2 hw2 => by obtain ⟨s0, s1⟩ := hw2; go_simp⟩) HS0 ?_
  simp only [Act.put, List.setIfInBounds_toArray, List.set_cons_zero, List.set_cons_succ]
  refine wpAnyL_take 6 (some 12) (.pointer (some ⟨q, 0, none⟩)) rfl rfl (by kernel_rfl) (by kernel_rfl) (by kernel_rfl) (by kernel_rfl) (fun _ _ _ h => h) (Or.inl ⟨by rfl, fun w2 hw2 => by obtain ⟨s0, s1⟩ := hw2; go_simp⟩) HS0 ?_
  simp only [Act.put, List.setIfInBounds_toArray, List.set_cons_zero, List.set_cons_succ]
  refine wpAnyL_take 7 (some 13) (.pointer (some ⟨q, 0, none⟩)) rfl rfl (by kernel_rfl) (by kernel_rfl) (by kernel_rfl) (by kernel_rfl) (fun _ _ _ h => h) (Or.inl ⟨by rfl, fun w2 hw2 => by obtain ⟨s0, s1⟩ := hw2; go_simp⟩) HS0 ?_
  simp only [Act.put, List.setIfInBounds_toArray, List.set_cons_zero, List.set_cons_succ]
  refine wpAnyL_take 8 (some 14) (.pointer (some ⟨q, 1, none⟩)) rfl rfl (by kernel_rfl) (by kernel_rfl) (by kernel_rfl) (by kernel_rfl) (fun _ _ _ h => h) (Or.inl ⟨by rfl, fun w2 hw2 => by obtain ⟨s0, s1⟩ := hw2; go_simp⟩) HS0 ?_
  simp only [Act.put, List.setIfInBounds_toArray, List.set_cons_zero, List.set_cons_succ]
  refine wpAnyL_take 9 (some 15) (.slice ma nM mc) rfl rfl (by kernel_rfl) (by kernel_rfl) (by kernel_rfl) (by kernel_rfl) (fun _ _ _ h => h) (Or.inl ⟨by rfl, fun w2 hw2 => by obtain ⟨s0, s1⟩ := hw2; go_simp⟩) HS0 ?_
  simp only [Act.put, List.setIfInBounds_toArray, List.set_cons_zero, List.set_cons_succ]
  refine wpAnyL_ready (rs := [0]) (by kernel_rfl) (by simp) (AllReadyL.cons rfl (fun K hK => ?_) AllReadyL.nil)
  go_simp
  refine hK.out _ _ (fun _ => HS5.out _ (al w4 (.cells #[] 33))) ?_
  clear hK K
  try simp only [Act.put, List.setIfInBounds_toArray, List.set_cons_zero, List.set_cons_succ]
  obtain ⟨u5, w5, hr5, hu5, hg5⟩ := run_app (ru_emptyE EV 33 (w := w4)) (HLD.1.below (al w4 (.cells #[] 33))) (by simp; have := HVL.out; omega) (by simp)
  rw [List.nil_append] at hu5
  have B5 : Below w4.heap.size w4 w5 := (al w4 _).trans (grown_below (ru_emptyE EV 33 (w := w4)) hg5 (by simp))
  obtain ⟨u6, w6, hr6, hu6, hg6⟩ := run_app hu5 (HLD.2.below B5) (by have := HVL.out; omega) B5.size
  have B6 : Below w4.heap.size w4 w6 := B5.trans (grown_below hu5 hg6 B5.size)
  refine wpAnyL_ready (rs := [5]) (by kernel_rfl) (by simp) (AllReadyL.cons rfl (fun K hK => ?_) AllReadyL.nil)
  refine step_append_run rfl (.tmp 6) (.tmp 10) 62 rfl (.slice (some ⟨w4.heap.size, 0, none⟩) 0 0) (.slice sa nS sc) rfl rfl u5 w5 (by exact hr5) ?_
  refine hK.out _ _ (fun _ => HS5.out _ B5) ?_
  clear hK K
  try simp only [Act.put, List.setIfInBounds_toArray]
  obtain ⟨ad, n6, c6, rfl, h61, h62⟩ := ru_addr hu6
  refine wpAnyL_ready (rs := [10]) (by kernel_rfl) (by simp) (AllReadyL.cons rfl (fun K hK => ?_) AllReadyL.nil)
  refine step_append_run rfl (.tmp 11) (.tmp 15) 62 rfl u5 (.slice ma nM mc) rfl rfl (.slice (some ad) n6 c6) w6 (by exact hr6) ?_
  refine hK.out _ _ (fun _ => HS5.out _ B6) ?_
  clear hK K
  try simp only [Act.put]
  obtain ⟨hn6, hnc, k74⟩ := HSW.out w6 ad n6 c6 (bmore HKD.out B6) hu6.read
  have HB6 : Hid (Below w.heap.size w w6) := bmore HKD.out B6
  obtain ⟨y0, y1⟩ := HS5.out _ B6
  have g1 : (nS : Int) ≤ (rn : Int) := by have := HRN.out; omega
  have g1n : nS ≤ rn := HRN.out.1
  have g2n : rn ≤ n6 := by have := HRN.out; omega
  have g2 : (rn : Int) ≤ (n6 : Int) := by omega
  have g3n : rn ≤ c6 := by omega
  have g3 : (rn : Int) ≤ (c6 : Int) := by omega
  have g0 : (0 : Int) ≤ (rn : Int) := by omega
  clear hu5 hu6 hg5 hg6 hr5 hr6 B5 B6 HLD HS0 hn6
  refine wpAnyL_ready (rs := [11]) (by kernel_rfl) (by simp) (AllReadyL.cons rfl (fun K hK => ?_) AllReadyL.nil)
  go_simp
  refine hK.out _ _ (fun h => absurd rfl h) ?_
  clear hK K
  refine wpAnyL_done (by kernel_rfl) ?_ _
  go_wp2_with (go_at_call 74; (refine k74.mono ?_; rintro e w7 ⟨rfl, B7⟩))
  go_ret
  exact ⟨rfl, bmore HB6.out B7⟩
end Go.Proofs.Ytnganmekiloigaa
