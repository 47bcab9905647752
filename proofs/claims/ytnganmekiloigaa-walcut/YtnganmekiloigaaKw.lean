/- begins, of any records; what Open tells of a disk that is known. · A log on a disk that is cut, with its story: Append, Switch, Flush, crash, Open. · The law WalCut. -/
import Derived.Test.YtnganmekiloigaaJw
import Derived.Test.YtnganmekiloigaaKp
import Derived.Test.YtnganmekiloigaaKi
/-! ### begins, of any records; what Open tells of a disk that is known. -/
namespace Go.Proofs.Ytnganmekiloigaa
open Go.RowKit
set_option maxRecDepth 100000
variable {w w' : World} {B d s x q E : Nat} {D : Dk} {G : List Nat}
/-- Some truth is answered. -/
def AnyB (w : World) (e : Ending) (w' : World) : Prop := (∃ t, e = .returned (.bool t)) ∧ Below w.heap.size w w'
theorem toList_inj {a b : ByteArray} (h : a.toList = b.toList) : a = b := by
  rw [ByteArray.toList_eq, ByteArray.toList_eq] at h
  cases a
  cases b
  simpa using h
theorem same74_eq {v u : Value} {L K : List Bs} (hv : RL w v L) (hu : RL w u K) (hL : L.length ≤ 1000) (hlen : K.length = L.length) : Calls Try.prog 74 #[v, u] w (AnyB w) := by
  obtain ⟨a, c, rfl⟩ := hv.form
  obtain ⟨b, k, rfl⟩ := hu.form
  rw [hlen] at hu ⊢
  have HV : Hid (RL w (.slice a L.length c) L) := hv
  have HU : Hid (RL w (.slice b L.length k) K) := hu
  obtain ⟨n, hn⟩ : ∃ n, L.length = n := ⟨_, rfl⟩
  rw [hn] at hL HV HU ⊢
  have HN : Hid (L.length = n) := hn
  have HN2 : Hid (K.length = n) := hlen.trans hn
  have HL : Hid (n ≤ 1000) := hL
  clear hv hu hn hL hlen
  go_enter Try.func74, Try.ntmps74
  go_wp2_with fail
  go_loopw [5] (fun p wr => ∃ i : Nat, p = .int .i64 (i : Int) ∧ Hid (i ≤ n) ∧ Hid (Below w.heap.size w wr)) (fun p _ => n - (intOf p).toNat)
  case atStart => exact ⟨0, rfl, Nat.zero_le _, Below.refl _ _⟩
  case round =>
    obtain ⟨i, rfl, hi, HB⟩ := hrel
    by_cases hlt : i < n
    · have hlti : (i : Int) < (n : Int) := by omega
      have hi1000 : i < 1000 := by have := HL.out; omega
      have hi1000i : (i : Int) < 1000 := by omega
      have h0i : (0 : Int) ≤ (i : Int) := by omega
      obtain ⟨l, hl⟩ : ∃ l, L[i]? = some l := ⟨_, List.getElem?_eq_getElem (by rw [HN.out]; exact hlt)⟩
      obtain ⟨l2, hl'⟩ : ∃ l2, K[i]? = some l2 := ⟨_, List.getElem?_eq_getElem (by rw [HN2.out]; exact hlt)⟩
      obtain ⟨g1, o1, p1, k1, q1, rfl, hc1, hl1⟩ := (HV.out.below HB.out).at hl
      obtain ⟨g2, o2, p2, k2, q2, rfl, hc2, hl2⟩ := (HU.out.below HB.out).at hl'
      by_cases hll : l = l2
      · subst hll
        have hs1 : ∀ W, Below wr.heap.size wr W → (convert 33 9 (.slice p1 k1 q1)).run Try.prog W = .ok (.string (strB l)) W := fun W k => conv_any (hl1.below k)
        have hs2 : ∀ W, Below wr.heap.size wr W → (convert 33 9 (.slice p2 k2 q2)).run Try.prog W = .ok (.string (strB l)) W := fun W k => conv_any (hl2.below k)
        generalize strB l = sA at *
        have t1 := hs1 _ (Below.refl _ wr).drew
        have t2 := hs2 _ (Below.refl _ wr).drew
        have e1 : wr.drew.cell? ⟨g1, o1 + i, none⟩ = some (.slice p1 k1 q1) := hc1
        have e2 : wr.drew.cell? ⟨g2, o2 + i, none⟩ = some (.slice p2 k2 q2) := hc2
        have HI1 : Hid (i + 1 ≤ n) := hlt
        have HBD : Hid (Below w.heap.size w wr.drew) := HB.out.trans (Below.refl _ _).drew
        clear hc1 hc2 hl1 hl2 hs1 hs2 hl hl'
        go_wp2_with fail
        refine wp_region_held_drew (S := fun W => W = wr.drew) (by kernel_rfl) rfl (fun hS => ?_)
        refine wpAnyH_take' 0 (some 17) (.slice (some ⟨g1, o1, none⟩) n c) rfl rfl (by kernel_rfl) (by kernel_rfl) (by kernel_rfl) (fun _ _ _ h => h) (Or.inl ⟨by rfl, fun w' hS => by subst hS; go_simp⟩) hS ?_
        simp only [Act.put, List.setIfInBounds_toArray, List.set_cons_zero, List.set_cons_succ]
        refine wpAnyH_take' 1 (some 18) (.int .i64 (i : Int)) rfl rfl (by kernel_rfl) (by kernel_rfl) (by kernel_rfl) (fun _ _ _ h => h) (Or.inl ⟨by rfl, fun w' hS => by subst hS; go_simp⟩) hS ?_
        simp only [Act.put, List.setIfInBounds_toArray, List.set_cons_zero, List.set_cons_succ]
        refine wpAnyH_take' 2 (some 19) (.pointer (some ⟨g1, o1 + i, none⟩)) rfl rfl (by kernel_rfl) (by kernel_rfl) (by kernel_rfl) (fun _ _ _ h => h) (Or.inl ⟨by rfl, fun w' hS => by subst hS; go_simp⟩) hS ?_
        simp only [Act.put, List.setIfInBounds_toArray, List.set_cons_zero, List.set_cons_succ]
        refine wpAnyH_take' 3 (some 20) (.slice p1 k1 q1) rfl rfl (by kernel_rfl) (by kernel_rfl) (by kernel_rfl) (fun _ _ _ h => h) (Or.inl ⟨by rfl, fun w' hS => by subst hS; go_simp⟩) hS ?_
        simp only [Act.put, List.setIfInBounds_toArray, List.set_cons_zero, List.set_cons_succ]
        refine wpAnyH_take' 4 (some 21) (.string sA) rfl rfl (by kernel_rfl) (by kernel_rfl) (by kernel_rfl) (fun _ _ _ h => h) (Or.inl ⟨by rfl, fun w' hS => by subst hS; go_simp⟩) hS ?_
        simp only [Act.put, List.setIfInBounds_toArray, List.set_cons_zero, List.set_cons_succ]
        refine wpAnyH_take' 5 (some 22) (.slice (some ⟨g2, o2, none⟩) n k) rfl rfl (by kernel_rfl) (by kernel_rfl) (by kernel_rfl) (fun _ _ _ h => h) (Or.inl ⟨by rfl, fun w' hS => by subst hS; go_simp⟩) hS ?_
        simp only [Act.put, List.setIfInBounds_toArray, List.set_cons_zero, List.set_cons_succ]
        refine wpAnyH_take' 6 (some 23) (.int .i64 (i : Int)) rfl rfl (by kernel_rfl) (by kernel_rfl) (by kernel_rfl) (fun _ _ _ h => h) (Or.inl ⟨by rfl, fun w' hS => by subst hS; go_simp⟩) hS ?_
        simp only [Act.put, List.setIfInBounds_toArray, List.set_cons_zero, List.set_cons_succ]
        refine wpAnyH_take' 7 (some 24) (.pointer (some ⟨g2, o2 + i, none⟩)) rfl rfl (by kernel_rfl) (by kernel_rfl) (by kernel_rfl) (fun _ _ _ h => h) (Or.inl ⟨by rfl, fun w' hS => by subst hS; go_simp⟩) hS ?_
        simp only [Act.put, List.setIfInBounds_toArray, List.set_cons_zero, List.set_cons_succ]
        refine wpAnyH_take' 8 (some 25) (.slice p2 k2 q2) rfl rfl (by kernel_rfl) (by kernel_rfl) (by kernel_rfl) (fun _ _ _ h => h) (Or.inl ⟨by rfl, fun w' hS => by subst hS; go_simp⟩) hS ?_
        simp only [Act.put, List.setIfInBounds_toArray, List.set_cons_zero, List.set_cons_succ]
        refine wpAnyH_take' 9 (some 26) (.string sA) rfl rfl (by kernel_rfl) (by kernel_rfl) (by kernel_rfl) (fun _ _ _ h => h) (Or.inl ⟨by rfl, fun w' hS => by subst hS; go_simp⟩) hS ?_
        simp only [Act.put, List.setIfInBounds_toArray, List.set_cons_zero, List.set_cons_succ]
        refine wpAnyH_take' 10 (some 27) (.bool false) rfl rfl (by kernel_rfl) (by kernel_rfl) (by kernel_rfl) (fun _ _ _ h => h) (Or.inl ⟨by rfl, fun w' hS => by subst hS; go_simp⟩) hS ?_
        simp only [Act.put, List.setIfInBounds_toArray, List.set_cons_zero, List.set_cons_succ]
        refine wpAnyH_done (by kernel_rfl) ?_ _
        go_wp2
        go_roundw
        case rel => exact ⟨i + 1, by simp, HI1.out, HBD.out⟩
        case measure => simp only [intOf]; exact meas_lt hlt
      · skip
        have hs1 : ∀ W, Below wr.heap.size wr W → (convert 33 9 (.slice p1 k1 q1)).run Try.prog W = .ok (.string (strB l)) W := fun W k => conv_any (hl1.below k)
        have hs2 : ∀ W, Below wr.heap.size wr W → (convert 33 9 (.slice p2 k2 q2)).run Try.prog W = .ok (.string (strB l2)) W := fun W k => conv_any (hl2.below k)
        have hsn : strB l ≠ strB l2 := fun h => hll (strB_inj h)
        generalize strB l = sA at *
        generalize strB l2 = sB at *
        have hn2 : (sA.toList == sB.toList) = false := by rw [beq_eq_false_iff_ne]; exact fun h => hsn (toList_inj h)
        have hn3 : (sA.toList != sB.toList) = true := by simp [bne, hn2]
        have hn5 : ¬ sA.toList = sB.toList := fun h => hsn (toList_inj h)
        have t1 := hs1 _ (Below.refl _ wr).drew
        have t2 := hs2 _ (Below.refl _ wr).drew
        have e1 : wr.drew.cell? ⟨g1, o1 + i, none⟩ = some (.slice p1 k1 q1) := hc1
        have e2 : wr.drew.cell? ⟨g2, o2 + i, none⟩ = some (.slice p2 k2 q2) := hc2
        have HBD : Hid (Below w.heap.size w wr.drew) := HB.out.trans (Below.refl _ _).drew
        clear hc1 hc2 hl1 hl2 hs1 hs2 hl hl'
        go_wp2_with fail
        refine wp_region_held_drew (S := fun W => W = wr.drew) (by kernel_rfl) rfl (fun hS => ?_)
        refine wpAnyH_take' 0 (some 17) (.slice (some ⟨g1, o1, none⟩) n c) rfl rfl (by kernel_rfl) (by kernel_rfl) (by kernel_rfl) (fun _ _ _ h => h) (Or.inl ⟨by rfl, fun w' hS => by subst hS; go_simp⟩) hS ?_
        simp only [Act.put, List.setIfInBounds_toArray, List.set_cons_zero, List.set_cons_succ]
        refine wpAnyH_take' 1 (some 18) (.int .i64 (i : Int)) rfl rfl (by kernel_rfl) (by kernel_rfl) (by kernel_rfl) (fun _ _ _ h => h) (Or.inl ⟨by rfl, fun w' hS => by subst hS; go_simp⟩) hS ?_
        simp only [Act.put, List.setIfInBounds_toArray, List.set_cons_zero, List.set_cons_succ]
        refine wpAnyH_take' 2 (some 19) (.pointer (some ⟨g1, o1 + i, none⟩)) rfl rfl (by kernel_rfl) (by kernel_rfl) (by kernel_rfl) (fun _ _ _ h => h) (Or.inl ⟨by rfl, fun w' hS => by subst hS; go_simp⟩) hS ?_
        simp only [Act.put, List.setIfInBounds_toArray, List.set_cons_zero, List.set_cons_succ]
        refine wpAnyH_take' 3 (some 20) (.slice p1 k1 q1) rfl rfl (by kernel_rfl) (by kernel_rfl) (by kernel_rfl) (fun _ _ _ h => h) (Or.inl ⟨by rfl, fun w' hS => by subst hS; go_simp⟩) hS ?_
        simp only [Act.put, List.setIfInBounds_toArray, List.set_cons_zero, List.set_cons_succ]
        refine wpAnyH_take' 4 (some 21) (.string sA) rfl rfl (by kernel_rfl) (by kernel_rfl) (by kernel_rfl) (fun _ _ _ h => h) (Or.inl ⟨by rfl, fun w' hS => by subst hS; go_simp⟩) hS ?_
        simp only [Act.put, List.setIfInBounds_toArray, List.set_cons_zero, List.set_cons_succ]
        refine wpAnyH_take' 5 (some 22) (.slice (some ⟨g2, o2, none⟩) n k) rfl rfl (by kernel_rfl) (by kernel_rfl) (by kernel_rfl) (fun _ _ _ h => h) (Or.inl ⟨by rfl, fun w' hS => by subst hS; go_simp⟩) hS ?_
        simp only [Act.put, List.setIfInBounds_toArray, List.set_cons_zero, List.set_cons_succ]
        refine wpAnyH_take' 6 (some 23) (.int .i64 (i : Int)) rfl rfl (by kernel_rfl) (by kernel_rfl) (by kernel_rfl) (fun _ _ _ h => h) (Or.inl ⟨by rfl, fun w' hS => by subst hS; go_simp⟩) hS ?_
        simp only [Act.put, List.setIfInBounds_toArray, List.set_cons_zero, List.set_cons_succ]
        refine wpAnyH_take' 7 (some 24) (.pointer (some ⟨g2, o2 + i, none⟩)) rfl rfl (by kernel_rfl) (by kernel_rfl) (by kernel_rfl) (fun _ _ _ h => h) (Or.inl ⟨by rfl, fun w' hS => by subst hS; go_simp⟩) hS ?_
        simp only [Act.put, List.setIfInBounds_toArray, List.set_cons_zero, List.set_cons_succ]
        refine wpAnyH_take' 8 (some 25) (.slice p2 k2 q2) rfl rfl (by kernel_rfl) (by kernel_rfl) (by kernel_rfl) (fun _ _ _ h => h) (Or.inl ⟨by rfl, fun w' hS => by subst hS; go_simp⟩) hS ?_
        simp only [Act.put, List.setIfInBounds_toArray, List.set_cons_zero, List.set_cons_succ]
        refine wpAnyH_take' 9 (some 26) (.string sB) rfl rfl (by kernel_rfl) (by kernel_rfl) (by kernel_rfl) (fun _ _ _ h => h) (Or.inl ⟨by rfl, fun w' hS => by subst hS; go_simp⟩) hS ?_
        simp only [Act.put, List.setIfInBounds_toArray, List.set_cons_zero, List.set_cons_succ]
        refine wpAnyH_take' 10 (some 27) (.bool true) rfl rfl (by kernel_rfl) (by kernel_rfl) (by kernel_rfl) (fun _ _ _ h => h) (Or.inl ⟨by rfl, fun w' hS => by subst hS; go_simp⟩) hS ?_
        simp only [Act.put, List.setIfInBounds_toArray, List.set_cons_zero, List.set_cons_succ]
        refine wpAnyH_done (by kernel_rfl) ?_ _
        go_wp2
        go_ret
        exact ⟨⟨_, rfl⟩, HBD.out⟩
    · have hlti : ¬ (i : Int) < (n : Int) := by omega
      go_wp2_with fail
      go_ret
      exact ⟨⟨_, rfl⟩, HB.out⟩
theorem same74_ne {v u : Value} {L K : List Bs} (hv : RL w v L) (hu : RL w u K) (hlen : ¬ K.length = L.length) : Calls Try.prog 74 #[v, u] w (AnyB w) := by
  obtain ⟨a, c, rfl⟩ := hv.form
  obtain ⟨b, k, rfl⟩ := hu.form
  have h1 : ((L.length : Int) == (K.length : Int)) = false := by rw [beq_eq_false_iff_ne]; omega
  have h2 : ((L.length : Int) != (K.length : Int)) = true := by simp [bne, h1]
  have h3 : ¬ (L.length : Int) = (K.length : Int) := by omega
  have h4 : (L.length == K.length) = false := by rw [beq_eq_false_iff_ne]; omega
  have h5 : (L.length != K.length) = true := by simp [bne, h4]
  have h6 : ¬ L.length = K.length := by omega
  clear hv hu hlen
  generalize L.length = n at *
  generalize K.length = m at *
  go_enter Try.func74, Try.ntmps74
  go_wp2
  go_ret
  exact ⟨⟨_, rfl⟩, Below.refl _ _⟩
theorem same74_any {v u : Value} {L K : List Bs} (hv : RL w v L) (hu : RL w u K) (hL : L.length ≤ 1000) : Calls Try.prog 74 #[v, u] w (AnyB w) := by
  by_cases h : K.length = L.length
  · exact same74_eq hv hu hL h
  · exact same74_ne hv hu h
set_option maxHeartbeats 2000000 in
theorem begins38_any {sv mv : Value} {S M L : List Bs} {ra : Option Addr} {rn rc : Nat} (hb : Blk w q [sv, mv] 67) (hS : RL w sv S) (hM : RL w mv M) (hf : S.length + M.length ≤ 6) (hr : RL w (.slice ra rn rc) L) :
    Calls Try.prog 38 #[.pointer (some ⟨q, 0, none⟩), .slice ra rn rc] w (AnyB w) := by
  obtain ⟨sa, sc, rfl⟩ := hS.form
  obtain ⟨ma, mc, rfl⟩ := hM.form
  obtain ⟨vs, hv1, hvl, hve⟩ := id hS
  obtain ⟨ws, hu1, hul, hue⟩ := id hM
  have hrn : rn = L.length := by
    obtain ⟨_, _, hv⟩ := hr.form
    simp only [Value.slice.injEq] at hv
    exact hv.2.1
  have HSW : Hid (∀ w6 ad n6 c6, Below w.heap.size w w6 → LV EV w6 (.slice (some ad) n6 c6) (vs ++ ws) → n6 = S.length + M.length ∧ n6 ≤ c6 ∧ (rn ≤ S.length + M.length → Calls Try.prog 74 #[.slice ra rn rc, .slice (some ad) rn c6] w6 (AnyB w6))) := fun w6 ad n6 c6 k h6 => by
    have hcap := h6.cap
    rw [List.length_append] at hcap
    have hR6 : RL w6 (.slice (some ad) n6 c6) (S ++ M) := by
      refine ⟨vs ++ ws, h6, by simp [hvl, hul], fun i y b hy hb => ?_⟩
      by_cases hi : i < vs.length
      · rw [List.getElem?_append_left hi] at hy
        rw [List.getElem?_append_left (by omega)] at hb
        exact (hve i y b hy hb).below k
      · rw [List.getElem?_append_right (by omega)] at hy
        rw [List.getElem?_append_right (by omega), ← hvl] at hb
        exact (hue _ y b hy hb).below k
    refine ⟨by omega, by omega, fun hle => ?_⟩
    have hT := hR6.take (k := rn) (by rw [List.length_append]; omega)
    exact same74_any (hr.below k) hT (by omega)
  have HS4 : Hid (∀ W, Below w.heap.size w W → W.cell? ⟨q, 0, none⟩ = some (.slice sa S.length sc) ∧ W.cell? ⟨q, 1, none⟩ = some (.slice ma M.length mc)) := fun W k => ⟨(hb.below k).cell 0, (hb.below k).cell 1⟩
  have HLV : Hid (∀ W, Below w.heap.size w W → LV EV W (.slice sa S.length sc) vs ∧ LV EV W (.slice ma M.length mc) ws) := fun W k => ⟨hv1.below k, hu1.below k⟩
  have HVL : Hid (vs.length + ws.length ≤ 6) := by show _ ≤ _; omega
  clear hb hS hM hr hv1 hvl hve hu1 hul hue hf hrn
  generalize S.length = nS at *
  generalize M.length = nM at *
  go_enter Try.func38, Try.ntmps38
  go_wp2_with fail
  refine wp_region_L (fun W2 => W2.cell? ⟨q, 0, none⟩ = some (.slice sa nS sc) ∧ W2.cell? ⟨q, 1, none⟩ = some (.slice ma nM mc)) 11 (by kernel_rfl) ?_
  have kd : Below w.heap.size w w.drew := (Below.refl _ _).drew
  have HS5 : Hid (∀ W, Below w.drew.heap.size w.drew W → W.cell? ⟨q, 0, none⟩ = some (.slice sa nS sc) ∧ W.cell? ⟨q, 1, none⟩ = some (.slice ma nM mc)) := fun W k => HS4.out W (bmore kd k)
  have HLD := HLV.out _ kd
  have HKD : Hid (Below w.heap.size w w.drew) := kd
  generalize w.drew = w4 at *
  have HS0 := HS5.out _ (Below.refl _ w4)
  refine wpAnyL_take 1 (some 7) (.pointer (some ⟨q, 0, none⟩)) rfl rfl (by kernel_rfl) (by kernel_rfl) (by kernel_rfl) (by kernel_rfl) (fun _ _ _ h => h) (Or.inl ⟨by rfl, fun w2 hw2 => by obtain ⟨s0, s1⟩ := hw2; go_simp⟩) HS0 ?_
  simp only [Act.put, List.setIfInBounds_toArray, List.set_cons_zero, List.set_cons_succ]
  refine wpAnyL_take 2 (some 8) (.pointer (some ⟨q, 0, none⟩)) rfl rfl (by kernel_rfl) (by kernel_rfl) (by kernel_rfl) (by kernel_rfl) (fun _ _ _ h => h) (Or.inl ⟨by rfl, fun w2 hw2 => by obtain ⟨s0, s1⟩ := hw2; go_simp⟩) HS0 ?_
  simp only [Act.put, List.setIfInBounds_toArray, List.set_cons_zero, List.set_cons_succ]
  refine wpAnyL_take 3 (some 9) (.pointer (some ⟨q, 0, none⟩)) rfl rfl (by kernel_rfl) (by kernel_rfl) (by kernel_rfl) (by kernel_rfl) (fun _ _ _ h => h) (Or.inl ⟨by rfl, fun w2 hw2 => by obtain ⟨s0, s1⟩ := hw2; go_simp⟩) HS0 ?_
  simp only [Act.put, List.setIfInBounds_toArray, List.set_cons_zero, List.set_cons_succ]
  refine wpAnyL_take 4 (some 10) (.slice sa nS sc) rfl rfl (by kernel_rfl) (by kernel_rfl) (by kernel_rfl) (by kernel_rfl) (fun _ _ _ h => h) (Or.inl ⟨by rfl, fun w2 hw2 => by obtain ⟨s0, s1⟩ := hw2; go_simp⟩) HS0 ?_
  simp only [Act.put, List.setIfInBounds_toArray, List.set_cons_zero, List.set_cons_succ]
  refine wpAnyL_take 6 (some 12) (.pointer (some ⟨q, 0, none⟩)) rfl rfl (by kernel_rfl) (by kernel_rfl) (by kernel_rfl) (by kernel_rfl) (fun _ _ _ h => h) (Or.inl ⟨by rfl, fun w2 hw2 => by obtain ⟨s0, s1⟩ := hw2; go_simp⟩) HS0 ?_
  simp only [Act.put, List.setIfInBounds_toArray, List.set_cons_zero, List.set_cons_succ]
  refine wpAnyL_take 7 (some 13) (.pointer (some ⟨q, 0, none⟩)) rfl rfl (by kernel_rfl) (by kernel_rfl) (by kernel_rfl) (by kernel_rfl) (fun _ _ _ h => h) (Or.inl ⟨by rfl, fun w2 hw2 => by obtain ⟨s0, s1⟩ := hw2; go_simp⟩) HS0 ?_
  simp only [Act.put, List.setIfInBounds_toArray, List.set_cons_zero, List.set_cons_succ]
  refine wpAnyL_take 8 (some 14) (.pointer (some ⟨q, 1, none⟩)) rfl rfl (by kernel_rfl) (by kernel_rfl) (by kernel_rfl) (by kernel_rfl) (fun _ _ _ h => h) (Or.inl ⟨by rfl, fun w2 hw2 => by obtain ⟨s0, s1⟩ := hw2; go_simp⟩) HS0 ?_
  simp only [Act.put, List.setIfInBounds_toArray, List.set_cons_zero, List.set_cons_succ]
  refine wpAnyL_take 9 (some 15) (.slice ma nM mc) rfl rfl (by kernel_rfl) (by kernel_rfl) (by kernel_rfl) (by kernel_rfl) (fun _ _ _ h => h) (Or.inl ⟨by rfl, fun w2 hw2 => by obtain ⟨s0, s1⟩ := hw2; go_simp⟩) HS0 ?_
  simp only [Act.put, List.setIfInBounds_toArray, List.set_cons_zero, List.set_cons_succ]
  refine wpAnyL_ready (rs := [0]) (by kernel_rfl) (by simp) (AllReadyL.cons rfl (fun K hK => ?_) AllReadyL.nil)
  go_simp
  refine hK.out _ _ (fun _ => HS5.out _ (al w4 (.cells #[] 33))) ?_
  clear hK K
  try simp only [Act.put, List.setIfInBounds_toArray, List.set_cons_zero, List.set_cons_succ]
  obtain ⟨u5, w5, hr5, hu5, hg5⟩ := run_app (ru_emptyE EV 33 (w := w4)) (HLD.1.below (al w4 (.cells #[] 33))) (by simp; have := HVL.out; omega) (by simp)
  rw [List.nil_append] at hu5
  have B5 : Below w4.heap.size w4 w5 := (al w4 _).trans (grown_below (ru_emptyE EV 33 (w := w4)) hg5 (by simp))
  obtain ⟨u6, w6, hr6, hu6, hg6⟩ := run_app hu5 (HLD.2.below B5) (by have := HVL.out; omega) B5.size
  have B6 : Below w4.heap.size w4 w6 := B5.trans (grown_below hu5 hg6 B5.size)
  refine wpAnyL_ready (rs := [5]) (by kernel_rfl) (by simp) (AllReadyL.cons rfl (fun K hK => ?_) AllReadyL.nil)
  refine step_append_run rfl (.tmp 6) (.tmp 10) 62 rfl (.slice (some ⟨w4.heap.size, 0, none⟩) 0 0) (.slice sa nS sc) rfl rfl u5 w5 (by exact hr5) ?_
  refine hK.out _ _ (fun _ => HS5.out _ B5) ?_
  clear hK K
  try simp only [Act.put, List.setIfInBounds_toArray]
  obtain ⟨ad, n6, c6, rfl, h61, h62⟩ := ru_addr hu6
  refine wpAnyL_ready (rs := [10]) (by kernel_rfl) (by simp) (AllReadyL.cons rfl (fun K hK => ?_) AllReadyL.nil)
  refine step_append_run rfl (.tmp 11) (.tmp 15) 62 rfl u5 (.slice ma nM mc) rfl rfl (.slice (some ad) n6 c6) w6 (by exact hr6) ?_
  refine hK.out _ _ (fun _ => HS5.out _ B6) ?_
  clear hK K
  try simp only [Act.put]
  obtain ⟨hn6, hnc, k74⟩ := HSW.out w6 ad n6 c6 (bmore HKD.out B6) hu6.read
  have HB6 : Hid (Below w.heap.size w w6) := bmore HKD.out B6
  obtain ⟨y0, y1⟩ := HS5.out _ B6
  have HN6 : Hid (n6 = nS + nM) := hn6
  clear hn6
  clear hu5 hu6 hg5 hg6 hr5 hr6 B5 B6 HLD HS0
  refine wpAnyL_ready (rs := [11]) (by kernel_rfl) (by simp) (AllReadyL.cons rfl (fun K hK => ?_) AllReadyL.nil)
  go_simp
  refine hK.out _ _ (fun h => absurd rfl h) ?_
  clear hK K
  refine wpAnyL_done (by kernel_rfl) ?_ _
  by_cases q1 : nS ≤ rn
  · have g1 : (nS : Int) ≤ (rn : Int) := by omega
    have g1d : decide ((nS : Int) ≤ (rn : Int)) = true := decide_eq_true g1
    have g1e : decide (nS ≤ rn) = true := decide_eq_true q1
    by_cases q2 : rn ≤ n6
    · have g2 : (rn : Int) ≤ (n6 : Int) := by omega
      have g3n : rn ≤ c6 := by omega
      have g3 : (rn : Int) ≤ (c6 : Int) := by omega
      have g0 : (0 : Int) ≤ (rn : Int) := by omega
      have k74' := k74 (by have := HN6.out; omega)
      clear k74
      go_wp2_with (go_at_call 74; (refine k74'.mono ?_; rintro e w7 ⟨⟨tt, rfl⟩, B7⟩))
      go_ret
      exact ⟨⟨_, rfl⟩, bmore HB6.out B7⟩
    · have g2 : ¬ (rn : Int) ≤ (n6 : Int) := by omega
      have g2d : decide ((rn : Int) ≤ (n6 : Int)) = false := decide_eq_false g2
      have g2e : decide (rn ≤ n6) = false := decide_eq_false q2
      clear k74
      go_wp2
      go_ret
      exact ⟨⟨_, rfl⟩, HB6.out⟩
  · have g1 : ¬ (nS : Int) ≤ (rn : Int) := by omega
    have g1d : decide ((nS : Int) ≤ (rn : Int)) = false := decide_eq_false g1
    have g1e : decide (nS ≤ rn) = false := decide_eq_false q1
    clear k74
    go_wp2
    go_ret
    exact ⟨⟨_, rfl⟩, HB6.out⟩
/-- What Open tells of a disk that is known. -/
theorem open_told {R : Nat} {L : List Bs} (hA : Alone B w d s D []) (hoff : D.off = false) (hw : D.wait = []) (hS : D.secs.length = 2 * R) (hR : 2 ≤ R) (hR2 : R ≤ 64) (hg : great (pcs D.secs) < 65535) (ht : (toldP D.secs).map Rc.b = L) :
    Calls Try.prog 35 #[.pointer (some ⟨d, 0, none⟩)] w fun e w' => ∃ x ua uc, e = .returned (.tuple #[.pointer (some ⟨x, 0, none⟩), .slice ua L.length uc, .int .i64 0]) ∧ RL w' (.slice ua L.length uc) L ∧ Below w.heap.size w w' := by
  have o4 : (toldP D.secs).length = L.length := by rw [← ht, List.length_map]
  refine (open35 hA hoff (by rw [hw]; simp) hS hR hR2 (by rw [rdS_nil hw]; omega)).mono ?_
  rintro e w1 ⟨x, v, vs, rfl, hb, hu, hvs, hB, hx⟩
  rw [rdS_nil hw] at hvs
  have hl := hvs.len
  rw [o4] at hl
  obtain ⟨ua, uc, rfl, _⟩ := hu.form
  rw [hl] at hu ⊢
  refine ⟨x, ua, uc, rfl, ⟨vs, hu.read, hl, fun i y b hy hb => ?_⟩, hB⟩
  obtain ⟨r, hr, rfl⟩ : ∃ r, (toldP D.secs)[i]? = some r ∧ r.b = b := by
    rw [← ht, List.getElem?_map] at hb
    cases hq : (toldP D.secs)[i]? with
    | none => rw [hq] at hb; cases hb
    | some r => rw [hq] at hb; exact ⟨r, rfl, by simpa using hb⟩
  exact (hvs.at' i y r hy hr).read
end Go.Proofs.Ytnganmekiloigaa
/-! ### A log on a disk that is cut, with its story: Append, Switch, Flush, crash, Open. -/
namespace Go.Proofs.Ytnganmekiloigaa
open Go.RowKit
set_option maxRecDepth 100000
variable {w w' : World} {B d s x q E : Nat} {D D0 D2 : Dk} {W : Wl} {G H : List Nat}
theorem inb_up {B0 B1 : Nat} {v : Value} {l : Bs} (h : InB B0 w v l) (hB : B0 ≤ B1) : InB B1 w v l := by
  obtain ⟨a, c, h1, h2, h3, h4⟩ := h
  exact ⟨a, c, h1, h2, h3, fun h0 => by obtain ⟨b, o, e, hb, hat⟩ := h4 h0; exact ⟨b, o, e, by omega, hat⟩⟩
theorem ink_up {B0 B1 : Nat} {v : Value} {l : List Bool} (h : InK B0 w v l) (hB : B0 ≤ B1) : InK B1 w v l := by
  obtain ⟨a, c, h1, h2, h3, h4⟩ := h
  exact ⟨a, c, h1, h2, h3, fun h0 => by obtain ⟨b, o, e, hb, hat⟩ := h4 h0; exact ⟨b, o, e, by omega, hat⟩⟩
/-- What is told behind a crash: what is sure, and a beginning of what may be; or one record. -/
def Gd (D : Dk) (S M : List Bs) (alt : Option Bs) : Prop := S.length + M.length ≤ 6 ∧ ∀ keep : List Bool, (D.crash keep).secs.length = 12 ∧ great (pcs (D.crash keep).secs) < 65535 ∧ ((∃ j, j ≤ M.length ∧ (toldP (D.crash keep).secs).map Rc.b = S ++ M.take j) ∨ ∃ b, alt = some b ∧ (toldP (D.crash keep).secs).map Rc.b = [b])
section
variable {h e cnt en u e1 : Nat} {S : List Bs} {b : Bs}
theorem gd_same (i : Inv 6 D0 h e cnt en u e1 S []) (hs : ∀ keep, (D2.crash keep).secs = D0.secs) (alt : Option Bs) : Gd D2 S [] alt := ⟨i.few, fun keep => by
  rw [hs keep]
  have hg : great (pcs D0.secs) ≤ e := great_bound _ 0 e (Nat.zero_le _) i.all
  have he := i.ep.2
  exact ⟨i.len, by omega, .inl ⟨0, Nat.zero_le _, by rw [i.opens.2.1]; simp⟩⟩⟩
theorem gd_app (i : Inv 6 D0 h e cnt en u e1 S []) (hb : 1 ≤ b.length ∧ b.length ≤ 3648) (hn : en + np b ≤ 6) (hs : ∀ keep, ∃ kp, (D2.crash keep).secs = land kp 0 (waitOf (h * 6 + en) (layP e en b)) D0.secs) (alt : Option Bs) : Gd D2 S [b] alt := ⟨by
  have h1 := i.chain.le
  have h2 := i.en'
  have h3 : 1 ≤ np b := by unfold np; omega
  simp [layAll] at h2 ⊢
  omega, fun keep => by
  obtain ⟨kp, hk⟩ := hs keep
  rw [hk]
  obtain ⟨h1, h2, h3⟩ := i.cutA (by omega) hb hn kp
  have he := i.ep.2
  refine ⟨h1, by omega, .inl ?_⟩
  rcases h3 with h3 | h3
  · exact ⟨0, Nat.zero_le _, by rw [h3]; simp⟩
  · exact ⟨1, by simp, by rw [h3]; simp⟩⟩
theorem gd_swi (i : Inv 6 D0 h e cnt en u e1 S []) (he : e < 64990) (hb : 1 ≤ b.length ∧ b.length ≤ 3648) (hn : np b ≤ 6) (hs : ∀ keep, ∃ kp, (D2.crash keep).secs = land kp 0 (waitOf ((1 - h) * 6 + 0) (layP (e + 1) 0 b)) D0.secs) : Gd D2 S [] (some b) := ⟨i.few, fun keep => by
  obtain ⟨kp, hk⟩ := hs keep
  rw [hk]
  obtain ⟨h1, h2, h3⟩ := i.cutS (by omega) he hb hn kp
  refine ⟨h1, by rw [Nat.add_zero]; omega, ?_⟩
  rcases h3 with h3 | h3
  · exact .inl ⟨0, Nat.zero_le _, by rw [Nat.add_zero, h3]; simp⟩
  · exact .inr ⟨b, rfl, by rw [Nat.add_zero, h3]⟩⟩
end
theorem flush_01 (D : Dk) : D.flush.1 = 0 ∨ D.flush.1 = 7 := by
  unfold Dk.flush
  split
  · exact .inr rfl
  · split
    · exact .inl rfl
    · exact .inr rfl
theorem flush_len (D : Dk) : D.flush.2.wait.length ≤ D.wait.length := by
  unfold Dk.flush
  split
  · exact Nat.le_refl _
  · split
    · simp
    · rw [(spend_secs D).2.1]; exact Nat.le_refl _
/-- A flush, and a crash. -/
theorem crash_flush (D : Dk) (hoff : D.off = false) : (∀ keep, (D.flush.2.crash keep).secs = land (fun _ => true) 0 D.wait D.secs) ∨ (∀ keep, (D.flush.2.crash keep).secs = (D.crash keep).secs) := by
  unfold Dk.flush
  rw [if_neg (by rw [hoff]; simp)]
  split
  · exact .inl fun keep => rfl
  · refine .inr fun keep => ?_
    show land _ 0 D.spend.2.wait D.spend.2.secs = _
    rw [(spend_secs D).1, (spend_secs D).2.1]
    rfl
theorem flush_done (D : Dk) (hoff : D.off = false) (h : D.flush.1 = 0) : D.flush.2.wait = [] ∧ D.flush.2.secs = land (fun _ => true) 0 D.wait D.secs ∧ D.flush.2.off = false := by
  unfold Dk.flush at h ⊢
  rw [if_neg (by rw [hoff]; simp)] at h ⊢
  split
  · refine ⟨rfl, rfl, ?_⟩
    rename_i hs
    show D.spend.2.off = false
    unfold Dk.spend at hs ⊢
    split
    · split
      · rename_i h1 h2
        rw [if_pos h1, if_pos h2] at hs
        cases hs
      · exact hoff
    · exact hoff
  · rename_i hs
    rw [if_neg hs] at h
    cases h
section
variable {b : Nat} {X : List Bs}
theorem co_put (hw : D.wait = []) (keep : List Bool) : ((D.put b X).crash keep).secs = land (fun k => keep.getD k false) 0 (waitOf b X) D.secs := by
  show land _ 0 (D.wait ++ waitOf b X) D.secs = _
  rw [hw, List.nil_append]
theorem co_stuck (hw : D.wait = []) (keep : List Bool) : ∃ kp, ((D.stuck b X).crash keep).secs = land kp 0 (waitOf b X) D.secs := ⟨_, put_crash hw keep true _⟩
theorem co_sunk (hw : D.wait = []) (hoff : D.off = false) (keep : List Bool) : ∃ kp, ((D.sunk b X).crash keep).secs = land kp 0 (waitOf b X) D.secs := by
  rcases crash_flush (D.put b X) hoff with h | h
  · refine ⟨fun _ => true, (h keep).trans ?_⟩
    show land _ 0 (D.wait ++ waitOf b X) D.secs = _
    rw [hw, List.nil_append]
  · exact ⟨_, (h keep).trans (co_put hw keep)⟩
theorem co_sunk2 (hw : D.wait = []) (hoff : D.off = false) (h0 : D.says b X = 0) (keep : List Bool) : ∃ kp, ((D.sunk b X).flush.2.crash keep).secs = land kp 0 (waitOf b X) D.secs := by
  obtain ⟨h1, h2, h3⟩ := flush_done (D.put b X) hoff h0
  have e : (D.sunk b X).secs = land (fun _ => true) 0 (waitOf b X) D.secs := by
    refine h2.trans ?_
    show land _ 0 (D.wait ++ waitOf b X) D.secs = _
    rw [hw, List.nil_append]
  have hw2 : (D.sunk b X).wait = [] := h1
  rcases crash_flush (D.sunk b X) h3 with h | h
  · refine ⟨fun _ => true, (h keep).trans ?_⟩
    rw [hw2, e]; rfl
  · refine ⟨fun _ => true, (h keep).trans ?_⟩
    show land _ 0 (D.sunk b X).wait (D.sunk b X).secs = _
    rw [hw2, e]; rfl
theorem co_same (hw : D.wait = []) (hoff : D.off = false) (keep : List Bool) : (D.flush.2.crash keep).secs = D.secs := by
  rcases crash_flush D hoff with h | h
  · rw [h keep, hw]; rfl
  · rw [h keep]
    show land _ 0 D.wait D.secs = _
    rw [hw]; rfl
end
/-- A log of which all is sure, on a disk that may be cut; and its story. -/
structure Sc (B : Nat) (w : World) (d s x q E : Nat) (S : List Bs) : Prop where
  ex : ∃ D DC W H u e1 sv, LG B w d s DC x W (q :: H) ∧ q ∉ H ∧ B ≤ q ∧ Inv 6 D W.half W.e W.cnt W.en u e1 S [] ∧ DC.secs = D.secs ∧ DC.wait = [] ∧ DC.off = false ∧ (DC.cut = true → 0 ≤ DC.left) ∧ W.br = false ∧ W.e ≤ E ∧ Blk w q [sv, .slice none 0 0] 67 ∧ RLG H w sv S
/-- A log on a disk, of which it is known what will be told behind a flush and a crash. -/
structure Sd (B : Nat) (w : World) (d s x q : Nat) (S M' M : List Bs) (alt : Option Bs) : Prop where
  ex : ∃ D W H sv mv, LG B w d s D x W (q :: H) ∧ q ∉ H ∧ B ≤ q ∧ D.wait.length ≤ 60000 ∧ (W.br = false → Gd D.flush.2 S M alt) ∧ (W.br = true → Gd D S M alt) ∧ Blk w q [sv, mv] 67 ∧ RLG H w sv S ∧ RLG H w mv M'
/-- A disk of which it is known what will be told behind a crash. -/
structure Se (B : Nat) (w : World) (d s q : Nat) (S M' M : List Bs) (alt : Option Bs) : Prop where
  ex : ∃ D H sv mv, Alone B w d s D (q :: H) ∧ B ≤ q ∧ D.wait.length ≤ 60000 ∧ Gd D S M alt ∧ Blk w q [sv, mv] 67 ∧ RLG H w sv S ∧ RLG H w mv M'
/-- A disk, behind the crash. -/
structure Sg (B : Nat) (w : World) (d s q : Nat) (S M' M : List Bs) (alt : Option Bs) : Prop where
  ex : S.length + M.length ≤ 6 ∧ ∃ D H sv mv L, Alone B w d s D (q :: H) ∧ B ≤ q ∧ D.off = false ∧ D.wait = [] ∧ D.secs.length = 12 ∧ great (pcs D.secs) < 65535 ∧ (toldP D.secs).map Rc.b = L ∧ ((∃ j, j ≤ M.length ∧ L = S ++ M.take j) ∨ ∃ b, alt = some b ∧ L = [b]) ∧ Blk w q [sv, mv] 67 ∧ RLG H w sv S ∧ RLG H w mv M'
section
variable {S M' M : List Bs} {alt : Option Bs}
theorem Sc.below (h : Sc B w d s x q E S) (k : Below w.heap.size w w') : Sc B w' d s x q E S := by
  obtain ⟨D, DC, W, H, u, e1, sv, A, hq, hB, I, i1, i2, i3, i4, hbr, he, hb, hS⟩ := h.ex
  exact ⟨D, DC, W, H, u, e1, sv, A.below k, hq, hB, I, i1, i2, i3, i4, hbr, he, hb.below k, hS.below k⟩
theorem Sd.below (h : Sd B w d s x q S M' M alt) (k : Below w.heap.size w w') : Sd B w' d s x q S M' M alt := by
  obtain ⟨D, W, H, sv, mv, A, hq, hB, i1, i2, i3, hb, hS, hM⟩ := h.ex
  exact ⟨D, W, H, sv, mv, A.below k, hq, hB, i1, i2, i3, hb.below k, hS.below k, hM.below k⟩
theorem Se.below (h : Se B w d s q S M' M alt) (k : Below w.heap.size w w') : Se B w' d s q S M' M alt := by
  obtain ⟨D, H, sv, mv, A, hB, i1, i2, hb, hS, hM⟩ := h.ex
  exact ⟨D, H, sv, mv, A.below k, hB, i1, i2, hb.below k, hS.below k, hM.below k⟩
theorem Sg.below (h : Sg B w d s q S M' M alt) (k : Below w.heap.size w w') : Sg B w' d s q S M' M alt := by
  obtain ⟨hf, D, H, sv, mv, L, A, hB, i1, i2, i3, i4, i5, i6, hb, hS, hM⟩ := h.ex
  exact ⟨hf, D, H, sv, mv, L, A.below k, hB, i1, i2, i3, i4, i5, i6, hb.below k, hS.below k, hM.below k⟩
/-- The disk is cut. -/
theorem Sc.cut {n : Int} (h : Sc B w d s x q E S) (hn : 0 ≤ n ∧ n ≤ 1000) : Calls Try.prog 23 #[.pointer (some ⟨d, 0, none⟩), .int .i64 n] w fun e w' => e = .returned (.tuple #[]) ∧ Sc B w' d s x q E S ∧ Below B w w' := by
  obtain ⟨D, DC, W, H, u, e1, sv, A, hq, hB, I, i1, i2, i3, i4, hbr, he, hb, hS⟩ := h.ex
  refine (alone23 A.disk n ⟨by omega, by omega⟩).mono ?_
  rintro e w1 ⟨rfl, A1, K1, B1⟩
  have hdc : DC.doCut n = { DC with cut := true, left := max n 0 } := by unfold Dk.doCut; rw [if_neg (by rw [i3]; simp)]
  rw [hdc] at A1
  have KH : Kept H w w1 := fun g hg => K1 g (by simp [hg])
  exact ⟨rfl, ⟨D, _, W, H, u, e1, sv, ⟨A1, A.wal.block (K1 x (by simp)), A.nx, A.bx⟩, hq, hB, I, i1, i2, i3, fun _ => by show 0 ≤ max n 0; omega, hbr, he, hb.block (K1 q (by simp)), hS.kept KH⟩, B1⟩
/-- What an Append leaves. -/
def APost (B d s x q : Nat) (S : List Bs) (bs : Bs) (w0 : World) (e : Ending) (w' : World) : Prop := ∃ n f : Int, e = .returned (.tuple #[.int .i64 n, .int .i64 f]) ∧ Below B w0 w' ∧ (((f = 2 ∨ f = 15) ∧ Sd B w' d s x q S [] [] none) ∨ ((f = 0 ∨ f = 7) ∧ Sd B w' d s x q S [] [bs] none))
theorem Sc.append {a : Option Addr} {m c : Nat} {bs : Bs} (h : Sc B w d s x q E S) (hE : E ≤ 60000) (hv : InB B w (.slice a m c) bs) (hm : m ≤ 400) :
    Calls Try.prog 42 #[.pointer (some ⟨x, 0, none⟩), .slice a m c] w (APost B d s x q S bs w) := by
  obtain ⟨D, DC, W, H, u, e1, sv, A, hq, hqB, I, i1, i2, i3, i4, hbr, he, hb, hS⟩ := h.ex
  have hsz := A.size
  have hml : m = bs.length := by obtain ⟨a', c', hv', _⟩ := hv; simp only [Value.slice.injEq] at hv'; exact hv'.2.1
  have hen := I.room
  have hcn : W.cnt ≤ 6 := by have := I.few; have := I.cnt'; simp at this; simp at *; omega
  have hlen : DC.secs.length = 2 * 6 := by rw [i1]; exact I.len
  have hsame : ∀ w1, Below w.heap.size w w1 → Sd B w1 d s x q S [] [] none := fun w1 B1 =>
    ⟨DC, W, H, sv, .slice none 0 0, A.below B1, hq, hqB, by rw [i2]; simp, fun _ => gd_same I (fun keep => by rw [co_same i2 i3, i1]) _, (fun h => by rw [hbr] at h; cases h), hb.below B1, hS.below B1, RLG.nil _ _⟩
  by_cases hm0 : m < 1
  · refine (append42_range A.wal hbr (.inl hm0)).mono ?_
    rintro e w1 ⟨rfl, B1⟩
    exact ⟨_, _, rfl, B1.mono hsz, .inl ⟨.inl rfl, hsame w1 B1⟩⟩
  · by_cases hf : 6 - W.en < (m + 56) / 57
    · refine (append42_full (R := 6) A hbr hlen (by omega) hen ⟨by omega, by omega⟩ hf).mono ?_
      rintro e w1 ⟨rfl, B1⟩
      exact ⟨_, _, rfl, B1.mono hsz, .inl ⟨.inr rfl, hsame w1 B1⟩⟩
    · obtain ⟨H', hH, hq', A', hlb⟩ := lg_bytes A hq hqB hv
      have hnp : np bs = (m + 56) / 57 := by rw [hml]; rfl
      have hfit : W.en + np bs ≤ 6 := by rw [hnp]; omega
      have hag : ∀ g o, a = some ⟨g, o, none⟩ → g ∈ q :: H' := fun g o ha => by subst ha; exact List.mem_cons_of_mem _ (hlb.2 _ _ _ rfl (by omega))
      have hfin : ∀ (D2 : Dk) (W2 : Wl) (w1 : World), LG B w1 d s D2 x W2 (q :: H') → Kept (q :: H') w w1 → D2.wait.length ≤ 60000 → (W2.br = false → Gd D2.flush.2 S [bs] none) → (W2.br = true → Gd D2 S [bs] none) → Sd B w1 d s x q S [] [bs] none := fun D2 W2 w1 A1 K1 h1 h2 h3 =>
        ⟨D2, W2, H', sv, .slice none 0 0, A1, hq', hqB, h1, h2, h3, hb.block (K1 q (by simp)), (hS.mono hH).kept (fun g hg => K1 g (by simp [hg])), RLG.nil _ _⟩
      have hb1 : 1 ≤ bs.length ∧ bs.length ≤ 3648 := ⟨by omega, by omega⟩
      have hXl : (layP W.e W.en bs).length ≤ 6 := by rw [lay_length]; omega
      by_cases hcan : DC.can (np bs)
      · refine (append42_yes (R := 6) (l := bs) A' hbr i4 hcan i3 (by rw [i2]; simp) hlen (by omega) I.half (by omega) (by omega) hlb.1 (by omega) (by omega) hag hfit).mono ?_
        rintro e w1 ⟨rfl, A1, K1, B1⟩
        refine ⟨_, _, rfl, B1, .inr ⟨.inl rfl, hfin _ _ w1 A1 K1 ?_ (fun _ => gd_app I hb1 hfit (fun keep => ?_) _) (fun h => by cases h)⟩⟩
        · show (DC.wait ++ waitOf _ _).length ≤ _
          rw [i2, List.nil_append, waitOf_length]; omega
        · have := co_sunk (b := W.half * 6 + W.en) (X := layP W.e W.en bs) i2 i3 keep
          rw [i1] at this
          exact this
      · refine (append42_no (R := 6) (l := bs) A' hbr i4 hcan i3 (by rw [i2]; simp) hlen (by omega) I.half (by omega) hlb.1 (by omega) (by omega) hag hfit).mono ?_
        rintro e w1 ⟨rfl, A1, K1, B1⟩
        refine ⟨_, _, rfl, B1, .inr ⟨.inr rfl, hfin _ _ w1 A1 K1 ?_ (fun h => by cases h) (fun _ => gd_app I hb1 hfit (fun keep => ?_) _)⟩⟩
        · show (DC.wait ++ waitOf _ _).length ≤ _
          rw [i2, List.nil_append, waitOf_length, List.length_take]; omega
        · have := co_stuck (b := W.half * 6 + W.en) (X := layP W.e W.en bs) i2 keep
          rw [i1] at this
          exact this
/-- What a Switch leaves. -/
def SPostC (B d s x q : Nat) (S : List Bs) (bs : Bs) (w0 : World) (e : Ending) (w' : World) : Prop := (∃ f : Int, e = .returned (.int .i64 f)) ∧ Below B w0 w' ∧ Sd B w' d s x q S [] [] (some bs)
theorem Sc.switch {a : Option Addr} {m c : Nat} {bs : Bs} (h : Sc B w d s x q E S) (hE : E ≤ 60000) (hv : InB B w (.slice a m c) bs) (hm : m ≤ 400) :
    Calls Try.prog 41 #[.pointer (some ⟨x, 0, none⟩), .slice a m c] w (SPostC B d s x q S bs w) := by
  obtain ⟨D, DC, W, H, u, e1, sv, A, hq, hqB, I, i1, i2, i3, i4, hbr, he, hb, hS⟩ := h.ex
  have hsz := A.size
  have hml : m = bs.length := by obtain ⟨a', c', hv', _⟩ := hv; simp only [Value.slice.injEq] at hv'; exact hv'.2.1
  have hlen : DC.secs.length = 2 * 6 := by rw [i1]; exact I.len
  have hsame : ∀ w1, Below w.heap.size w w1 → Sd B w1 d s x q S [] [] (some bs) := fun w1 B1 =>
    ⟨DC, W, H, sv, .slice none 0 0, A.below B1, hq, hqB, by rw [i2]; simp, fun _ => gd_same I (fun keep => by rw [co_same i2 i3, i1]) _, (fun h => by rw [hbr] at h; cases h), hb.below B1, hS.below B1, RLG.nil _ _⟩
  by_cases hm0 : m < 1
  · refine (switch41_range A.wal hbr (.inl hm0)).mono ?_
    rintro e w1 ⟨rfl, B1⟩
    exact ⟨⟨_, rfl⟩, B1.mono hsz, hsame w1 B1⟩
  · by_cases hf : 6 < (m + 56) / 57
    · refine (switch41_full (R := 6) A hbr hlen (by omega) (by omega) hf).mono ?_
      rintro e w1 ⟨rfl, B1⟩
      exact ⟨⟨_, rfl⟩, B1.mono hsz, hsame w1 B1⟩
    · obtain ⟨H', hH, hq', A', hlb⟩ := lg_bytes A hq hqB hv
      have hnp : np bs = (m + 56) / 57 := by rw [hml]; rfl
      have hfit : np bs ≤ 6 := by rw [hnp]; omega
      have hag : ∀ g o, a = some ⟨g, o, none⟩ → g ∈ q :: H' := fun g o ha => by subst ha; exact List.mem_cons_of_mem _ (hlb.2 _ _ _ rfl (by omega))
      have hfin : ∀ (D2 : Dk) (W2 : Wl) (w1 : World), LG B w1 d s D2 x W2 (q :: H') → Kept (q :: H') w w1 → D2.wait.length ≤ 60000 → (W2.br = false → Gd D2.flush.2 S [] (some bs)) → (W2.br = true → Gd D2 S [] (some bs)) → Sd B w1 d s x q S [] [] (some bs) := fun D2 W2 w1 A1 K1 h1 h2 h3 =>
        ⟨D2, W2, H', sv, .slice none 0 0, A1, hq', hqB, h1, h2, h3, hb.block (K1 q (by simp)), (hS.mono hH).kept (fun g hg => K1 g (by simp [hg])), RLG.nil _ _⟩
      have hb1 : 1 ≤ bs.length ∧ bs.length ≤ 3648 := ⟨by omega, by omega⟩
      have hpl : (DC.put ((1 - W.half) * 6 + 0) (layP (W.e + 1) 0 bs)).wait.length ≤ 60000 := by
        show (DC.wait ++ waitOf _ _).length ≤ _
        rw [i2, List.nil_append, waitOf_length, lay_length]; omega
      have hsl : (DC.sunk ((1 - W.half) * 6 + 0) (layP (W.e + 1) 0 bs)).wait.length ≤ 60000 := Nat.le_trans (flush_len _) hpl
      by_cases hcan : DC.can (np bs)
      · rcases flush_01 (DC.put ((1 - W.half) * 6 + 0) (layP (W.e + 1) 0 bs)) with hfl | hfl
        · refine (switch41_yes (R := 6) (l := bs) A' hbr i4 hcan i3 (by rw [i2]; simp) hlen (by omega) I.half (by omega) hlb.1 (by omega) (by omega) hag hfit hfl).mono ?_
          rintro e w1 ⟨rfl, A1, K1, B1⟩
          refine ⟨⟨_, rfl⟩, B1, hfin _ _ w1 A1 K1 hsl (fun _ => gd_swi I (by omega) hb1 hfit (fun keep => ?_)) (fun h => by cases h)⟩
          have := co_sunk2 (b := (1 - W.half) * 6 + 0) (X := layP (W.e + 1) 0 bs) i2 i3 hfl keep
          rw [i1] at this
          exact this
        · refine (switch41_no (R := 6) (l := bs) A' hbr i4 i3 (by rw [i2]; simp) hlen (by omega) I.half (by omega) hlb.1 (by omega) (by omega) hag hfit (.inr ⟨hcan, hfl, rfl⟩)).mono ?_
          rintro e w1 ⟨rfl, A1, K1, B1⟩
          refine ⟨⟨_, rfl⟩, B1, hfin _ _ w1 A1 K1 hsl (fun h => by cases h) (fun _ => gd_swi I (by omega) hb1 hfit (fun keep => ?_))⟩
          have := co_sunk (b := (1 - W.half) * 6 + 0) (X := layP (W.e + 1) 0 bs) i2 i3 keep
          rw [i1] at this
          exact this
      · refine (switch41_no (R := 6) (l := bs) A' hbr i4 i3 (by rw [i2]; simp) hlen (by omega) I.half (by omega) hlb.1 (by omega) (by omega) hag hfit (.inl ⟨hcan, rfl⟩)).mono ?_
        rintro e w1 ⟨rfl, A1, K1, B1⟩
        refine ⟨⟨_, rfl⟩, B1, hfin _ _ w1 A1 K1 ?_ (fun h => by cases h) (fun _ => gd_swi I (by omega) hb1 hfit (fun keep => ?_))⟩
        · show (DC.wait ++ waitOf _ _).length ≤ _
          rw [i2, List.nil_append, waitOf_length, List.length_take, lay_length]; omega
        · have := co_stuck (b := (1 - W.half) * 6 + 0) (X := layP (W.e + 1) 0 bs) i2 keep
          rw [i1] at this
          exact this
/-- The record is written into the story. -/
theorem Sd.tell {a : Option Addr} {m c : Nat} {bs : Bs} (h : Sd B w d s x q S M' [bs] none) (hv : InB B w (.slice a m c) bs) :
    Sd B ((w.alloc (.cells #[.slice a m c] 33)).setCell ⟨q, 1, none⟩ (.slice (some ⟨w.heap.size, 0, none⟩) 1 1)) d s x q S [bs] [bs] none ∧ Below B w ((w.alloc (.cells #[.slice a m c] 33)).setCell ⟨q, 1, none⟩ (.slice (some ⟨w.heap.size, 0, none⟩) 1 1)) := by
  obtain ⟨D, W, H0, sv, mv, A0, hq0, hqB, i1, i2, i3, hb, hS0, hM⟩ := h.ex
  obtain ⟨H, hH, hq, A, hlb⟩ := lg_bytes A0 hq0 hqB hv
  have hS := hS0.mono hH
  have hqw := A.glt q (by simp)
  have kk : Keep (fun b => b = q) (w.alloc (.cells #[.slice a m c] 33)) ((w.alloc (.cells #[.slice a m c] 33)).setCell ⟨q, 1, none⟩ (.slice (some ⟨w.heap.size, 0, none⟩) 1 1)) := (Keep.refl (fun b => b = q) _).set (.inr rfl) _
  have B6 := al w (.cells #[.slice a m c] 33)
  have A6 := (A.add (g := w.heap.size) B6 (Nat.le_refl _) (by simp)).poke (q := q) (by simp) kk
  have hb6 := (hb.below B6).set (o := 1) (.slice (some ⟨w.heap.size, 0, none⟩) 1 1)
  have hqN : q ∉ w.heap.size :: H := fun hm => by
    rcases List.mem_cons.1 hm with e | hm
    · omega
    · exact hq hm
  have KH : Kept (w.heap.size :: H) (w.alloc (.cells #[.slice a m c] 33)) ((w.alloc (.cells #[.slice a m c] 33)).setCell ⟨q, 1, none⟩ (.slice (some ⟨w.heap.size, 0, none⟩) 1 1)) := fun g hg => kk.block g (by
    rcases List.mem_cons.1 hg with rfl | hg
    · simp
    · have := A.glt g (by simp [hg]); simp; omega) (fun e => hqN (e ▸ hg))
  have hlb6 := hlb.below B6
  exact ⟨⟨D, W, w.heap.size :: H, sv, _, A6.less (fun g hg => by simp only [List.mem_cons] at hg ⊢; rcases hg with h | h | h <;> simp [h]), hqN, hqB, i1, i2, i3, hb6, ((hS.below B6).mono (fun g hg => List.mem_cons_of_mem _ hg)).kept KH, (rlg_row (lv_oneV (a, m, c)) rfl (els_one (y := (a, m, c)) hlb6)).kept KH⟩, (B6.mono A.size).trans (kk.below (Nat.le_trans A.size B6.size) (fun i e => by omega))⟩
/-- What a Flush leaves. -/
def FPost (B d s q : Nat) (S M' M : List Bs) (alt : Option Bs) (w0 : World) (e : Ending) (w' : World) : Prop := (∃ f : Int, e = .returned (.int .i64 f)) ∧ Below B w0 w' ∧ Se B w' d s q S M' M alt
theorem Sd.flush (h : Sd B w d s x q S M' M alt) : Calls Try.prog 39 #[.pointer (some ⟨x, 0, none⟩)] w (FPost B d s q S M' M alt w) := by
  obtain ⟨D, W, H, sv, mv, A, hq, hqB, i1, i2, i3, hb, hS, hM⟩ := h.ex
  have hend : ∀ (D2 : Dk) (W2 : Wl) (w1 : World), LG B w1 d s D2 x W2 (q :: H) → Kept (q :: H) w w1 → D2.wait.length ≤ 60000 → Gd D2 S M alt → Se B w1 d s q S M' M alt := fun D2 W2 w1 A1 K1 h1 h2 =>
    ⟨D2, H, sv, mv, A1.alone, hqB, h1, h2, hb.block (K1 q (by simp)), hS.kept (fun g hg => K1 g (by simp [hg])), hM.kept (fun g hg => K1 g (by simp [hg]))⟩
  cases hbr : W.br with
  | false =>
    rcases flush_01 D with hf | hf
    · refine (flush39 A hbr hf (by omega) A.glt).mono ?_
      rintro e w1 ⟨rfl, A1, K1, B1⟩
      exact ⟨⟨_, rfl⟩, B1, hend _ _ w1 A1 K1 (Nat.le_trans (flush_len D) i1) (i2 hbr)⟩
    · refine (flush39_no A hbr hf (by omega) A.glt).mono ?_
      rintro e w1 ⟨rfl, A1, K1, B1⟩
      exact ⟨⟨_, rfl⟩, B1, hend _ _ w1 A1 K1 (Nat.le_trans (flush_len D) i1) (i2 hbr)⟩
  | true =>
    refine (flush39_br A.wal hbr).mono ?_
    rintro e w1 ⟨rfl, rfl⟩
    exact ⟨⟨_, rfl⟩, Below.refl _ _, hend _ _ _ A (fun _ _ => rfl) i1 (i3 hbr)⟩
theorem Se.crash {l : List Bool} {v : Value} (h : Se B w d s q S M' M alt) (hv : KB w v l) (hvB : ∀ a n c, v = .slice (some a) n c → 0 < l.length → a.block < B) :
    Calls Try.prog 18 #[.pointer (some ⟨d, 0, none⟩), v] w fun e w' => e = .returned (.tuple #[]) ∧ Sg B w' d s q S M' M alt ∧ Below B w w' := by
  obtain ⟨D, H, sv, mv, A, hqB, i1, i2, hb, hS, hM⟩ := h.ex
  refine (lg_crash A hv hvB (by omega)).mono ?_
  rintro e w1 ⟨rfl, A1, K1, B1⟩
  obtain ⟨g1, g2, g3⟩ := i2.2 l
  have KH : Kept H w w1 := fun g hg => K1 g (by simp [hg])
  exact ⟨rfl, ⟨i2.1, _, H, sv, mv, _, A1, hqB, rfl, rfl, g1, g2, rfl, g3, hb.block (K1 q (by simp)), hS.kept KH, hM.kept KH⟩, B1⟩
/-- What Open answers behind the crash, and begins of it. -/
def OPostC (q : Nat) (alt : Option Bs) (w0 : World) (e : Ending) (w' : World) : Prop := ∃ x2 ua n uc, e = .returned (.tuple #[.pointer (some ⟨x2, 0, none⟩), .slice ua n uc, .int .i64 0]) ∧ Below w0.heap.size w0 w' ∧
  ((∀ W, Below w'.heap.size w' W → Calls Try.prog 38 #[.pointer (some ⟨q, 0, none⟩), .slice ua n uc] W fun e w2 => e = .returned (.bool true) ∧ Below W.heap.size W w2) ∨
   (∃ b, alt = some b ∧ n = 1 ∧ RL w' (.slice ua 1 uc) [b] ∧ ∀ W, Below w'.heap.size w' W → Calls Try.prog 38 #[.pointer (some ⟨q, 0, none⟩), .slice ua n uc] W (AnyB W)))
theorem Sg.opens (h : Sg B w d s q S M M alt) : Calls Try.prog 35 #[.pointer (some ⟨d, 0, none⟩)] w (OPostC q alt w) := by
  obtain ⟨hfew, D, H, sv, mv, L, A, hqB, i1, i2, i3, i4, i5, i6, hb, hS, hM⟩ := h.ex
  refine (open_told (R := 6) (A.less (by simp)) i1 i2 i3 (by omega) (by omega) i4 i5).mono ?_
  rintro e w1 ⟨x2, ua, uc, rfl, hr, B1⟩
  refine ⟨x2, ua, _, uc, rfl, B1, ?_⟩
  rcases i6 with ⟨j, hj, rfl⟩ | ⟨b, hal, rfl⟩
  · exact .inl fun W k => begins38 ((hb.below B1).below k) ((hS.below B1).below k).rl ((hM.below B1).below k).rl hj hfew (hr.below k)
  · exact .inr ⟨b, hal, rfl, hr, fun W k => begins38_any ((hb.below B1).below k) ((hS.below B1).below k).rl ((hM.below B1).below k).rl hfew (hr.below k)⟩
end
end Go.Proofs.Ytnganmekiloigaa
/-! ### The law WalCut. -/
namespace Go.Proofs.Ytnganmekiloigaa
open Go.RowKit
set_option maxRecDepth 100000
theorem indw_up {W0 W1 : World} {v : Value} {l : List WDeed} (h : InDW W0.heap.size W0 v l) (k : Below W0.heap.size W0 W1) : InDW W1.heap.size W1 v l := by
  obtain ⟨a, c, h1, h2, h3⟩ := h
  refine ⟨a, c, h1, h2, fun h0 => ?_⟩
  obtain ⟨b, o, ha, hb, hat⟩ := h3 h0
  refine ⟨b, o, ha, Nat.lt_of_lt_of_le hb k.size, fun j x hx => ?_⟩
  obtain ⟨vb, vk, ⟨c0, c1, c2, c3⟩, h4, h5⟩ := hat j x hx
  exact ⟨vb, vk, ⟨(k.cell (p := ⟨b, _, none⟩) hb).trans c0, (k.cell (p := ⟨b, _, none⟩) hb).trans c1, (k.cell (p := ⟨b, _, none⟩) hb).trans c2, (k.cell (p := ⟨b, _, none⟩) hb).trans c3⟩, inb_up (h4.below k) k.size, ink_up (h5.below k) k.size⟩
theorem kb_of_inkC {B : Nat} {W1 W : World} {v : Value} {kl : List Bool} (h : InK B W1 v kl) (hB : Below B W1 W) : KB W v kl := by
  obtain ⟨a, c, rfl, h1, h2, h3⟩ := h.below hB
  by_cases h0 : 0 < kl.length
  · obtain ⟨b, o, rfl, hb, hat⟩ := h3 h0
    exact .inr ⟨b, o, c, rfl, h0, hat⟩
  · have e : kl = [] := List.eq_nil_of_length_eq_zero (by omega)
    subst e
    exact .inl ⟨a, c, rfl, rfl⟩
theorem ink_lowC {B : Nat} {W1 : World} {v : Value} {kl : List Bool} (h : InK B W1 v kl) : ∀ a n c, v = .slice (some a) n c → 0 < kl.length → a.block < B := fun a n c e h0 => by
  obtain ⟨a', c', h1, _, _, h3⟩ := h
  obtain ⟨b, o, e', hb, _⟩ := h3 h0
  rw [h1, e'] at e
  cases e
  exact hb
theorem meas_lt16 {m k : Nat} (h : m < k) : k - ((m : Int) + 1).toNat < k - ((m : Int)).toNat := by omega
theorem Sd.cell1 {w : World} {B d s x q : Nat} {S M' M : List Bs} {alt : Option Bs} (h : Sd B w d s x q S M' M alt) : ∃ mv, ∀ W, Below w.heap.size w W → W.cell? ⟨q, 1, none⟩ = some mv ∧ W.frozen? ⟨q, 1, none⟩ = false := by
  obtain ⟨D, W, H, sv, mv, A, hq, hB, i1, i2, i3, hb, hS, hM⟩ := h.ex
  exact ⟨mv, fun W k => ⟨(hb.below k).cell 1, (hb.below k).frozen 1⟩⟩
set_option maxHeartbeats 8000000 in
theorem cut10 (W0 : World) (v0 : Value) (l : List WDeed) (hl : InDW W0.heap.size W0 v0 l) (xk N : Int) (vb vk : Value) (b0 : Bs) (kl : List Bool) (hb : InB W0.heap.size W0 vb b0) (hk : InK W0.heap.size W0 vk kl) :
    Calls Try.prog 10 #[v0, .agg #[.int .i64 xk, vb, .int .i64 N, vk]] W0 fun e w' => e = .returned (.bool true) ∧ Below W0.heap.size W0 w' := by
  obtain ⟨a0, c0, rfl, hmx, _⟩ := id hl
  obtain ⟨ab, cb, rfl, hcb, _, _⟩ := id hb
  obtain ⟨ak, ck, rfl, hck, _, _⟩ := id hk
  obtain ⟨W1, hW1⟩ : ∃ W1, W0.alloc (.cells #[.int .i64 xk, .slice ab b0.length cb, .int .i64 N, .slice ak kl.length ck] 69) = W1 := ⟨_, rfl⟩
  have hB01 : Below W0.heap.size W0 W1 := by rw [← hW1]; exact al _ _
  have hs01 : W1.heap.size = W0.heap.size + 1 := by rw [← hW1]; simp
  have hbox : Blk W1 W0.heap.size [.int .i64 xk, .slice ab b0.length cb, .int .i64 N, .slice ak kl.length ck] 69 := by rw [← hW1]; exact blk_new _ _ _
  have HX : Hid (∀ W, Below W1.heap.size W1 W → W.cell? ⟨W0.heap.size, 0, none⟩ = some (.int .i64 xk) ∧ W.cell? ⟨W0.heap.size, 1, none⟩ = some (.slice ab b0.length cb) ∧ W.cell? ⟨W0.heap.size, 2, none⟩ = some (.int .i64 N) ∧ W.cell? ⟨W0.heap.size, 3, none⟩ = some (.slice ak kl.length ck)) := fun W k => ⟨(hbox.below k).cell 0, (hbox.below k).cell 1, (hbox.below k).cell 2, (hbox.below k).cell 3⟩
  have HD : Hid (∀ i, i < l.length → ∃ b o, a0 = some ⟨b, o, none⟩ ∧ ∃ k N vb vk bs kl, DW W1 b (o + i * 4) k N vb vk bs kl) := fun i hi => dw_of (indw_up hl hB01) hi
  have HBT : Hid (∀ W, Below W1.heap.size W1 W → InB W1.heap.size W (.slice ab (min b0.length 400) cb) (b0.take 400)) := fun W k => (inb_take (inb_up (hb.below hB01) hB01.size)).below k
  have HKT : Hid (InK W1.heap.size W1 (.slice ak (min kl.length 40) ck) (kl.take 40)) := ink_take (ink_up (hk.below hB01) hB01.size)
  have HL31 : Hid (∀ w, Calls Try.prog 31 #[] w fun e w' => e = .returned (.bool true) ∧ Below w.heap.size w w') := live31
  have c29 := new29 12 W1 (by omega) (by omega)
  have k37 := bits37 ak kl.length ck hck
  have k40 := short40 ab b0.length cb hcb
  have HW1 : Hid (W0.alloc (.cells #[.int .i64 xk, .slice ab b0.length cb, .int .i64 N, .slice ak kl.length ck] 69) = W1) := hW1
  have HB01 : Hid (Below W0.heap.size W0 W1) := hB01
  have HZ01 : Hid (W0.heap.size ≤ W1.heap.size) := hB01.size
  obtain ⟨bs, hbs⟩ : ∃ bs, b0.take 400 = bs := ⟨_, rfl⟩
  obtain ⟨ks, hks⟩ : ∃ ks, kl.take 40 = ks := ⟨_, rfl⟩
  obtain ⟨m, hm⟩ : ∃ m, min b0.length 400 = m := ⟨_, rfl⟩
  obtain ⟨mk, hmk⟩ : ∃ mk, min kl.length 40 = mk := ⟨_, rfl⟩
  have hm4 : m ≤ 400 := by omega
  rw [hbs, hm] at HBT
  rw [hks, hmk] at HKT
  rw [hm] at k40
  rw [hmk] at k37
  clear hl hb hk hB01 hW1 hs01 hbox hbs hks hm hmk hcb hck
  generalize l.length = nl at *
  generalize b0.length = nb at *
  generalize kl.length = nk at *
  obtain ⟨p0, hp0⟩ : ∃ p0, W0.heap.size = p0 := ⟨_, rfl⟩
  have HP0 : Hid (W0.heap.size = p0) := hp0
  rw [hp0] at HX
  clear hp0
  obtain ⟨m8, hm8⟩ : ∃ m8, IntKind.u8.wrap N = m8 := ⟨_, rfl⟩
  have hm8b : 0 ≤ m8 ∧ m8 ≤ 255 := by rw [← hm8]; simp only [IntKind.wrap, IntKind.bits, IntKind.signed] at *; constructor <;> (simp; try omega)
  obtain ⟨hm80, hm81⟩ := hm8b
  go_enter Try.func10, Try.ntmps10
  go_wp2_with (first
    | (go_at_call 29; (rw [HW1.out]; refine c29.mono ?_; rintro e w1 ⟨rfl, hPD, B1⟩; have k35 := open_new (R := 6) (alone_new29 hPD B1) (by omega) (by omega)))
    | (go_at_call 35; (refine k35.mono ?_; rintro e w2 ⟨x, ua, uc, rfl, A2, -, B2⟩; have B12 := B1.trans (B2.mono B1.size)))
    | (go_at_call 31; (refine Calls.mono (HL31.out _) ?_; rintro e w3 ⟨rfl, B3⟩; have H3 : Hid (Sy W1.heap.size (w3.alloc (.cells #[.slice none 0 0, .slice none 0 0] 67)) (W1.heap.size + 1) W1.heap.size x w3.heap.size 1 ∧ Below W1.heap.size W1 (w3.alloc (.cells #[.slice none 0 0, .slice none 0 0] 67))) := ⟨sy_new (A2.below B3), (B12.trans (B3.mono B12.size)).trans ((al w3 _).mono (Nat.le_trans B12.size B3.size))⟩; clear A2 B12 B1 B2 hPD k35 c29)))
  rw [HP0.out]
  obtain ⟨q, hq⟩ : ∃ q, w3.heap.size = q := ⟨_, rfl⟩
  rw [hq] at H3 ⊢
  clear hq
  generalize w3.alloc (.cells #[.slice none 0 0, .slice none 0 0] 67) = w4 at *
  go_loopw [10] (fun p wr => ∃ i : Nat, p = .int .i64 (i : Int) ∧ Hid (i ≤ 16) ∧ Hid (Sy W1.heap.size wr (W1.heap.size + 1) W1.heap.size x q (1 + i) ∧ Below W1.heap.size W1 wr)) (fun p _ => 16 - (intOf p).toNat)
  case atStart => exact ⟨0, rfl, Nat.zero_le _, H3.out⟩
  case round =>
    clear H3
    obtain ⟨i, rfl, hi, HI⟩ := hrel
    by_cases hlt : i < nl ∧ i < 16
    · obtain ⟨hln, hl20⟩ := hlt
      have b1 : (i : Int) < (nl : Int) := by omega
      have b2 : (i : Int) < 16 := by omega
      have b3 : decide ((i : Int) < (nl : Int)) = true := decide_eq_true b1
      have b4 : decide (i < nl) = true := decide_eq_true hln
      have h0i : (0 : Int) ≤ (i : Int) := by omega
      obtain ⟨bl, ol, rfl, k, N2, vb2, vk2, bs2, ks2, hdw⟩ := HD.out i hln
      obtain ⟨z0, z1, z2, z3⟩ := hdw.cells _ HI.out.2
      have k36 := step36 (k := k) (N := N2) (vk := vk2) HI.out.1 (by omega) (hdw.inb.below HI.out.2)
      have HBW : Hid (Below W1.heap.size W1 wr) := HI.out.2
      have HI1 : Hid (i + 1 ≤ 16) := hl20
      obtain ⟨va, vn, vc, rfl⟩ := hdw.inb.form
      obtain ⟨ka, kn, kc, rfl⟩ := hdw.ink.form
      clear HI hdw
      go_wp2_with (first
        | (go_at_call 36; (refine k36.mono ?_; rintro e w5 ⟨rfl, h5⟩; have H5 : Hid (StPost W1.heap.size wr (W1.heap.size + 1) W1.heap.size x q (1 + i) w5) := h5; clear h5)))
      go_roundw
      case rel => exact ⟨i + 1, by simp, HI1.out, H5.out.1.up (by omega), HBW.out.trans H5.out.2⟩
      case measure => simp only [intOf]; exact meas_lt16 hl20
    · have HBW : Hid (Below W1.heap.size W1 wr) := HI.out.2
      have HSY := HI.out.1
      have hE : 1 + i ≤ 60000 := by have := hi.out; omega
      clear HI hi
      obtain ⟨E, hEE⟩ : ∃ E, 1 + i = E := ⟨_, rfl⟩
      rw [hEE] at HSY hE
      clear hEE
      obtain ⟨B, hBB⟩ : ∃ B, W1.heap.size = B := ⟨_, rfl⟩
      obtain ⟨d, hd⟩ : ∃ d, B + 1 = d := ⟨_, rfl⟩
      obtain ⟨s, hs⟩ : ∃ s, B = s := ⟨_, rfl⟩
      have HSY2 : Sy B wr d s x q E := by rw [← hd, ← hs, ← hBB]; exact HSY
      rw [hBB] at HX HBT HKT HBW HZ01 ⊢
      clear HSY
      obtain ⟨D, W, H, u, e1, S, M, sv, mv, A, hq, hqB, I, hbr, he, hb, hS, hM⟩ := HSY2.ex
      have hbl : D.wait.length ≤ 50000 := by rw [I.wait, waitOf_length]; have := I.en'; have := I.room; omega
      have hfew := I.few
      obtain ⟨f1, e', I2⟩ := I.flush (by omega)
      have k39 := flush39 A hbr f1 (by omega) A.glt
      obtain ⟨sa, sc, rfl⟩ := hS.form
      obtain ⟨ma, mc, rfl⟩ := hM.form
      obtain ⟨vs, hv1, hvl, hve⟩ := id hS
      obtain ⟨ws, hu1, hul, hue⟩ := id hM
      have HFIN : Hid (∀ w4 w6 ad n6 c6, LG B w4 d s D.flush.2 x W (q :: H) → Kept (q :: H) wr w4 → Below B wr w4 → Below w4.heap.size w4 w6 → LV EV w6 (.slice (some ad) n6 c6) (vs ++ ws) → w4.heap.size ≤ ad.block → ad.block < w6.heap.size → ∀ w7, w7 = (w6.setCell ⟨q, 0, none⟩ (.slice (some ad) n6 c6)).setCell ⟨q, 1, none⟩ (.slice none 0 0) → Sc B w7 d s x q E (S ++ M) ∧ Below B wr w7) := by
        rintro w4 w6 ad n6 c6 A4 K4 B4 B6 hl6 h61 h62 w7 rfl
        have hqw := A4.glt q (by simp)
        have kk : Keep (fun b => b = q) w6 ((w6.setCell ⟨q, 0, none⟩ (.slice (some ad) n6 c6)).setCell ⟨q, 1, none⟩ (.slice none 0 0)) := ((Keep.refl (fun b => b = q) w6).set (.inr rfl) _).set (.inr rfl) _
        have A6 := A4.add B6 h61 h62
        have hb6 := ((((hb.block (K4 q (by simp))).below B6).set (o := 0) (.slice (some ad) n6 c6)).set (o := 1) (.slice none 0 0))
        have KH : Kept H wr w6 := fun g hg => (B6.block g (A4.glt g (by simp [hg]))).trans (K4 g (by simp [hg]))
        have hmem : ad.block ∉ H := fun hm => by have := A4.glt ad.block (by simp [hm]); omega
        have hq' : q ∉ ad.block :: H := fun hm => by
          rcases List.mem_cons.1 hm with e | hm
          · omega
          · exact hq hm
        have KH2 : Kept (ad.block :: H) w6 ((w6.setCell ⟨q, 0, none⟩ (.slice (some ad) n6 c6)).setCell ⟨q, 1, none⟩ (.slice none 0 0)) := fun g hg => kk.block g (A6.glt g (by simp only [List.mem_cons] at hg ⊢; rcases hg with h | h <;> simp [h])) (fun e => hq' (e ▸ hg))
        have hR : RLG (ad.block :: H) w6 (.slice (some ad) n6 c6) (S ++ M) := rlg_rowA hl6 (by simp [hvl, hul]) (els_app hvl (fun i y b hy hb => (hve i y b hy hb).kept KH) (fun i y b hy hb => (hue i y b hy hb).kept KH))
        exact ⟨⟨D.flush.2, D.flush.2, W, ad.block :: H, _, e', _, (A6.less (fun g hg => by simp only [List.mem_cons] at hg ⊢; rcases hg with h | h | h <;> simp [h])).poke (by simp) kk, hq', hqB, I2, rfl, by rw [I2.wait]; rfl, I2.off, (fun h => by rw [I2.cut] at h; cases h), hbr, he, hb6, hR.kept KH2⟩, (B4.trans (B6.mono A4.size)).trans (kk.below (Nat.le_trans A4.size B6.size) (fun i e => by omega))⟩
      have HSV : Hid (∀ w2, Kept (q :: H) wr w2 → LV EV w2 (.slice sa S.length sc) vs ∧ LV EV w2 (.slice ma M.length mc) ws) := fun w2 K2 => ⟨(hv1.kept (fun g hg => K2 g (by simp [hg]))).1, (hu1.kept (fun g hg => K2 g (by simp [hg]))).1⟩
      have HST : Hid (∀ w2, Kept (q :: H) wr w2 → Blk w2 q [.slice sa S.length sc, .slice ma M.length mc] 67) := fun w2 K2 => hb.block (K2 q (by simp))
      have HVL : Hid (vs.length + ws.length ≤ 6) := by show _ ≤ _; omega
      have HDS : Hid (B + 1 = d ∧ B = s ∧ W1.heap.size = B) := ⟨hd, hs, hBB⟩
      obtain ⟨SM, hSM⟩ : ∃ SM, S ++ M = SM := ⟨_, rfl⟩
      rw [hSM] at HFIN
      clear HSY2 A I I2 hS hM hb hv1 hvl hve hu1 hul hue hbl hfew hSM hq hbr he f1
      generalize S.length = nS at *
      generalize M.length = nM at *
      rw [hd, hs]
      clear hd hs hBB
      by_cases hln : i < nl
      · have hl20 : ¬ i < 16 := fun h => hlt ⟨hln, h⟩
        have b1 : (i : Int) < (nl : Int) := by omega
        have b2 : ¬ (i : Int) < 16 := by omega
        have b3 : decide ((i : Int) < (nl : Int)) = true := decide_eq_true b1
        have b4 : decide (i < nl) = true := decide_eq_true hln
        go_wp2_with (go_at_call 39; (refine k39.mono ?_; rintro e w2 ⟨rfl, A2, K2, B2⟩))
        have K4 : Kept (q :: H) wr w2.drew := K2
        have A4 := A2.below (Below.refl _ w2).drew
        have B4 : Below B wr w2.drew := B2.trans (Below.refl _ _).drew
        have HS4 : Hid (∀ W, Below w2.drew.heap.size w2.drew W → W.cell? ⟨q, 0, none⟩ = some (.slice sa nS sc) ∧ W.cell? ⟨q, 1, none⟩ = some (.slice ma nM mc)) := fun W k => ⟨((HST.out _ K4).below k).cell 0, ((HST.out _ K4).below k).cell 1⟩
        refine wp_region_L (fun W2 => W2.cell? ⟨q, 0, none⟩ = some (.slice sa nS sc) ∧ W2.cell? ⟨q, 1, none⟩ = some (.slice ma nM mc)) 14 (by kernel_rfl) ?_
        generalize w2.drew = w4 at *
        have HS0 := HS4.out _ (Below.refl _ w4)
        refine wpAnyL_take 0 (some 57) (.pointer (some ⟨q, 0, none⟩)) rfl rfl (by kernel_rfl) (by kernel_rfl) (by kernel_rfl) (by kernel_rfl) (fun _ _ _ h => h) (Or.inl ⟨by rfl, fun w2 hw2 => by obtain ⟨s0, s1⟩ := hw2; go_simp⟩) HS0 ?_
        simp only [Act.put, List.setIfInBounds_toArray, List.set_cons_zero, List.set_cons_succ]
        refine wpAnyL_take 2 (some 59) (.pointer (some ⟨q, 0, none⟩)) rfl rfl (by kernel_rfl) (by kernel_rfl) (by kernel_rfl) (by kernel_rfl) (fun _ _ _ h => h) (Or.inl ⟨by rfl, fun w2 hw2 => by obtain ⟨s0, s1⟩ := hw2; go_simp⟩) HS0 ?_
        simp only [Act.put, List.setIfInBounds_toArray, List.set_cons_zero, List.set_cons_succ]
        refine wpAnyL_take 3 (some 60) (.pointer (some ⟨q, 0, none⟩)) rfl rfl (by kernel_rfl) (by kernel_rfl) (by kernel_rfl) (by kernel_rfl) (fun _ _ _ h => h) (Or.inl ⟨by rfl, fun w2 hw2 => by obtain ⟨s0, s1⟩ := hw2; go_simp⟩) HS0 ?_
        simp only [Act.put, List.setIfInBounds_toArray, List.set_cons_zero, List.set_cons_succ]
        refine wpAnyL_take 4 (some 61) (.pointer (some ⟨q, 0, none⟩)) rfl rfl (by kernel_rfl) (by kernel_rfl) (by kernel_rfl) (by kernel_rfl) (fun _ _ _ h => h) (Or.inl ⟨by rfl, fun w2 hw2 => by obtain ⟨s0, s1⟩ := hw2; go_simp⟩) HS0 ?_
        simp only [Act.put, List.setIfInBounds_toArray, List.set_cons_zero, List.set_cons_succ]
        refine wpAnyL_take 5 (some 62) (.slice sa nS sc) rfl rfl (by kernel_rfl) (by kernel_rfl) (by kernel_rfl) (by kernel_rfl) (fun _ _ _ h => h) (Or.inl ⟨by rfl, fun w2 hw2 => by obtain ⟨s0, s1⟩ := hw2; go_simp⟩) HS0 ?_
        simp only [Act.put, List.setIfInBounds_toArray, List.set_cons_zero, List.set_cons_succ]
        refine wpAnyL_take 7 (some 64) (.pointer (some ⟨q, 0, none⟩)) rfl rfl (by kernel_rfl) (by kernel_rfl) (by kernel_rfl) (by kernel_rfl) (fun _ _ _ h => h) (Or.inl ⟨by rfl, fun w2 hw2 => by obtain ⟨s0, s1⟩ := hw2; go_simp⟩) HS0 ?_
        simp only [Act.put, List.setIfInBounds_toArray, List.set_cons_zero, List.set_cons_succ]
        refine wpAnyL_take 8 (some 65) (.pointer (some ⟨q, 0, none⟩)) rfl rfl (by kernel_rfl) (by kernel_rfl) (by kernel_rfl) (by kernel_rfl) (fun _ _ _ h => h) (Or.inl ⟨by rfl, fun w2 hw2 => by obtain ⟨s0, s1⟩ := hw2; go_simp⟩) HS0 ?_
        simp only [Act.put, List.setIfInBounds_toArray, List.set_cons_zero, List.set_cons_succ]
        refine wpAnyL_take 9 (some 66) (.pointer (some ⟨q, 1, none⟩)) rfl rfl (by kernel_rfl) (by kernel_rfl) (by kernel_rfl) (by kernel_rfl) (fun _ _ _ h => h) (Or.inl ⟨by rfl, fun w2 hw2 => by obtain ⟨s0, s1⟩ := hw2; go_simp⟩) HS0 ?_
        simp only [Act.put, List.setIfInBounds_toArray, List.set_cons_zero, List.set_cons_succ]
        refine wpAnyL_take 10 (some 67) (.slice ma nM mc) rfl rfl (by kernel_rfl) (by kernel_rfl) (by kernel_rfl) (by kernel_rfl) (fun _ _ _ h => h) (Or.inl ⟨by rfl, fun w2 hw2 => by obtain ⟨s0, s1⟩ := hw2; go_simp⟩) HS0 ?_
        simp only [Act.put, List.setIfInBounds_toArray, List.set_cons_zero, List.set_cons_succ]
        refine wpAnyL_ready (rs := [1]) (by kernel_rfl) (by simp) (AllReadyL.cons rfl (fun K hK => ?_) AllReadyL.nil)
        go_simp
        refine hK.out _ _ (fun _ => HS4.out _ (al w4 (.cells #[] 33))) ?_
        clear hK K
        try simp only [Act.put, List.setIfInBounds_toArray, List.set_cons_zero, List.set_cons_succ]
        obtain ⟨u5, w5, hr5, hu5, hg5⟩ := run_app (ru_emptyE EV 33 (w := w4)) ((HSV.out _ K4).1.below (al w4 (.cells #[] 33))) (by simp; have := HVL.out; omega) (by simp)
        rw [List.nil_append] at hu5
        have B5 : Below w4.heap.size w4 w5 := (al w4 _).trans (grown_below (ru_emptyE EV 33 (w := w4)) hg5 (by simp))
        obtain ⟨u6, w6, hr6, hu6, hg6⟩ := run_app hu5 ((HSV.out _ K4).2.below B5) (by have := HVL.out; omega) B5.size
        have B6 : Below w4.heap.size w4 w6 := B5.trans (grown_below hu5 hg6 B5.size)
        refine wpAnyL_ready (rs := [6]) (by kernel_rfl) (by simp) (AllReadyL.cons rfl (fun K hK => ?_) AllReadyL.nil)
        refine step_append_run rfl (.tmp 58) (.tmp 62) 62 rfl (.slice (some ⟨w4.heap.size, 0, none⟩) 0 0) (.slice sa nS sc) rfl rfl u5 w5 (by exact hr5) ?_
        refine hK.out _ _ (fun _ => HS4.out _ B5) ?_
        clear hK K
        try simp only [Act.put, List.setIfInBounds_toArray]
        refine wpAnyL_ready (rs := [11]) (by kernel_rfl) (by simp) (AllReadyL.cons rfl (fun K hK => ?_) AllReadyL.nil)
        refine step_append_run rfl (.tmp 63) (.tmp 67) 62 rfl u5 (.slice ma nM mc) rfl rfl u6 w6 (by exact hr6) ?_
        refine hK.out _ _ (fun _ => HS4.out _ B6) ?_
        clear hK K
        try simp only [Act.put]
        obtain ⟨ad, n6, c6, rfl, h61, h62⟩ := ru_addr hu6
        have HS6 := HS4.out _ B6
        have HF := HFIN.out w4 w6 ad n6 c6 A4 K4 B4 B6 hu6.read h61 h62 _ rfl
        have b6 := (HST.out _ K4).below B6
        have y0 := b6.cell 0
        have z0 := b6.frozen 0
        have b7 := b6.set (o := 0) (.slice (some ad) n6 c6)
        have y1 := b7.cell 1
        have z1 := b7.frozen 1
        simp only [List.getElem?_cons_zero, List.getElem?_cons_succ, List.set_cons_zero] at y0 y1
        clear hu5 hu6 hg5 hg6 hr5 hr6 B5 B6 b6 b7 A4 K4 B4 A2 K2 B2
        refine wpAnyL_ready (rs := [12]) (by kernel_rfl) (by simp) (AllReadyL.cons rfl (fun K hK => ?_) AllReadyL.nil)
        go_simp
        refine hK.out _ _ (fun _ => HS6) ?_
        clear hK K
        try simp only [Act.put, List.setIfInBounds_toArray, List.set_cons_zero, List.set_cons_succ]
        refine wpAnyL_ready (rs := [13]) (by kernel_rfl) (by simp) (AllReadyL.cons rfl (fun K hK => ?_) AllReadyL.nil)
        go_simp
        refine hK.out _ _ (fun _ => HS6) ?_
        clear hK K
        try simp only [Act.put, List.setIfInBounds_toArray, List.set_cons_zero, List.set_cons_succ]
        refine wpAnyL_ready (rs := [14]) (by kernel_rfl) (by simp) (AllReadyL.cons rfl (fun K hK => ?_) AllReadyL.nil)
        go_simp
        refine hK.out _ _ (fun h => absurd rfl h) ?_
        clear hK K
        refine wpAnyL_done (by kernel_rfl) ?_ _
        have H7 : Hid (Sc B ((w6.setCell ⟨q, 0, none⟩ (.slice (some ad) n6 c6)).setCell ⟨q, 1, none⟩ (.slice none 0 0)) d s x q E SM ∧ Below B wr ((w6.setCell ⟨q, 0, none⟩ (.slice (some ad) n6 c6)).setCell ⟨q, 1, none⟩ (.slice none 0 0))) := HF
        have HBV : Hid (Below B W1 ((w6.setCell ⟨q, 0, none⟩ (.slice (some ad) n6 c6)).setCell ⟨q, 1, none⟩ (.slice none 0 0))) := HBW.out.trans HF.2
        obtain ⟨x0, x1, x2, x3⟩ := HX.out _ HBV.out
        clear HF HS6 HS0 HS4 HSV HST HVL HFIN k39
        by_cases hx2 : xk = 2
        · subst hx2
          go_wp2_with (first
            | (go_at_call 23; (refine Calls.mono (H7.out.1.cut (n := m8 % 9) (by omega)) ?_; rintro e w5 ⟨rfl, h5, B5⟩; have HB5 : Hid (Below B W1 w5) := HBV.out.trans B5; obtain ⟨x0, x1, x2, x3⟩ := HX.out _ HB5.out; have k41 := h5.switch hE (HBT.out _ HB5.out) hm4; have k42 := h5.append hE (HBT.out _ HB5.out) hm4))
            | (go_at_call 40; (refine (k40 _).mono ?_; rintro e w8 ⟨rfl, h8⟩; replace h8 := h8.symm; subst h8))
            | (go_at_call 41; (refine Calls.mono k41 ?_; rintro e w6 ⟨⟨f6, rfl⟩, B6, h6⟩; have HB6 : Hid (Below B W1 w6) := HB5.out.trans B6))
            | (go_at_call 39; (refine Calls.mono h6.flush ?_; rintro e w7 ⟨⟨f7, rfl⟩, B7, h7⟩; have HB7 : Hid (Below B W1 w7) := HB6.out.trans B7; obtain ⟨x0, x1, x2, x3⟩ := HX.out _ HB7.out; have hkb := kb_of_inkC HKT.out HB7.out))
            | (go_at_call 37; (refine (k37 _).mono ?_; rintro e w8 ⟨rfl, h8⟩; replace h8 := h8.symm; subst h8; have k18 := h7.crash hkb (ink_lowC HKT.out)))
            | (go_at_call 18; (refine k18.mono ?_; rintro e w8 ⟨rfl, h8, B8⟩; have HB8 : Hid (Below B W1 w8) := HB7.out.trans B8; have HZ8 : Hid (B ≤ w8.heap.size) := (by have := HB8.out.size; rw [HDS.out.2.2] at this; exact this); have k35 := h8.opens))
            | (go_at_call 35; (refine k35.mono ?_; rintro e w9 ⟨x9, ua9, n, uc9, rfl, B9, h9⟩)))
          clear k41 k42 h5
          rcases h9 with k38 | ⟨b9, hal, hn9, hr9, k38⟩
          · clear h6 h7 h8 k18 k35 hkb x0 x1 x2 x3
            have HB9 : Hid (Below B W1 w9) := HB8.out.trans (B9.mono HZ8.out)
            have HZ9 : Hid (B ≤ w9.heap.size) := (by have := HB9.out.size; rw [HDS.out.2.2] at this; exact this)
            clear B9 B7 B8 B6 B5
            refine wp_region_held_drew (S := fun _ => True) (by kernel_rfl) trivial (fun hS => ?_)
            refine wpAnyH_take' 0 (some 120) (.int .i64 0) rfl rfl (by kernel_rfl) (by kernel_rfl) (by kernel_rfl) (fun _ _ _ h => h) (Or.inl ⟨by rfl, fun w' hS => by go_simp⟩) hS ?_
            simp only [Act.put, List.setIfInBounds_toArray, List.set_cons_zero, List.set_cons_succ]
            refine wpAnyH_take' 1 (some 121) (.bool true) rfl rfl (by kernel_rfl) (by kernel_rfl) (by kernel_rfl) (fun _ _ _ h => h) (Or.inl ⟨by rfl, fun w' hS => by go_simp⟩) hS ?_
            simp only [Act.put, List.setIfInBounds_toArray, List.set_cons_zero, List.set_cons_succ]
            refine wpAnyH_take' 2 (some 122) (.bool true) rfl rfl (by kernel_rfl) (by kernel_rfl) (by kernel_rfl) (fun _ _ _ h => h) (Or.inl ⟨by rfl, fun w' hS => by go_simp⟩) hS ?_
            simp only [Act.put, List.setIfInBounds_toArray, List.set_cons_zero, List.set_cons_succ]
            refine wpAnyH_take' 3 (some 123) (.pointer (some ⟨q, 0, none⟩)) rfl rfl (by kernel_rfl) (by kernel_rfl) (by kernel_rfl) (fun _ _ _ h => h) (Or.inl ⟨by rfl, fun w' hS => by go_simp⟩) hS ?_
            simp only [Act.put, List.setIfInBounds_toArray, List.set_cons_zero, List.set_cons_succ]
            refine wpAnyH_take' 4 (some 124) (.slice ua9 n uc9) rfl rfl (by kernel_rfl) (by kernel_rfl) (by kernel_rfl) (fun _ _ _ h => h) (Or.inl ⟨by rfl, fun w' hS => by go_simp⟩) hS ?_
            simp only [Act.put, List.setIfInBounds_toArray, List.set_cons_zero, List.set_cons_succ]
            refine wpAnyH_ready (rs := [5]) (by kernel_rfl) (by simp) (AllReadyH.cons rfl (fun K2 hK2 => ?_) AllReadyH.nil)
            go_simp
            refine (k38 _ (Below.refl _ _).drew).mono ?_
            rintro e' w10 ⟨rfl, B10⟩
            refine hK2.out _ _ trivial (fun hS => ?_)
            clear hK2 K2
            try simp only [Act.put, List.setIfInBounds_toArray, List.set_cons_zero, List.set_cons_succ]
            have HB10 : Hid (Below B W1 w10) := HB9.out.trans (((Below.refl _ _).drew.trans B10).mono HZ9.out)
            clear B10
            refine wpAnyH_take' 6 (some 126) (.bool true) rfl rfl (by kernel_rfl) (by kernel_rfl) (by kernel_rfl) (fun _ _ _ h => h) (Or.inl ⟨by rfl, fun w' hS => by go_simp⟩) hS ?_
            simp only [Act.put, List.setIfInBounds_toArray, List.set_cons_zero, List.set_cons_succ]
            refine wpAnyH_take' 7 (some 127) undef rfl rfl (by kernel_rfl) (by kernel_rfl) (by kernel_rfl) (fun _ _ _ h => h) (Or.inr ⟨by rfl, rfl⟩) hS ?_
            simp only [Act.put, List.setIfInBounds_toArray, List.set_cons_zero, List.set_cons_succ]
            refine wpAnyH_take' 8 (some 128) undef rfl rfl (by kernel_rfl) (by kernel_rfl) (by kernel_rfl) (fun _ _ _ h => h) (Or.inr ⟨by rfl, rfl⟩) hS ?_
            simp only [Act.put, List.setIfInBounds_toArray, List.set_cons_zero, List.set_cons_succ]
            refine wpAnyH_take' 9 (some 129) undef rfl rfl (by kernel_rfl) (by kernel_rfl) (by kernel_rfl) (fun _ _ _ h => h) (Or.inr ⟨by rfl, rfl⟩) hS ?_
            simp only [Act.put, List.setIfInBounds_toArray, List.set_cons_zero, List.set_cons_succ]
            refine wpAnyH_take' 10 (some 130) undef rfl rfl (by kernel_rfl) (by kernel_rfl) (by kernel_rfl) (fun _ _ _ h => h) (Or.inr ⟨by rfl, rfl⟩) hS ?_
            simp only [Act.put, List.setIfInBounds_toArray, List.set_cons_zero, List.set_cons_succ]
            refine wpAnyH_take' 11 (some 131) undef rfl rfl (by kernel_rfl) (by kernel_rfl) (by kernel_rfl) (fun _ _ _ h => h) (Or.inr ⟨by rfl, rfl⟩) hS ?_
            simp only [Act.put, List.setIfInBounds_toArray, List.set_cons_zero, List.set_cons_succ]
            refine wpAnyH_take' 12 (some 132) undef rfl rfl (by kernel_rfl) (by kernel_rfl) (by kernel_rfl) (fun _ _ _ h => h) (Or.inr ⟨by rfl, rfl⟩) hS ?_
            simp only [Act.put, List.setIfInBounds_toArray, List.set_cons_zero, List.set_cons_succ]
            refine wpAnyH_take' 13 (some 133) undef rfl rfl (by kernel_rfl) (by kernel_rfl) (by kernel_rfl) (fun _ _ _ h => h) (Or.inr ⟨by rfl, rfl⟩) hS ?_
            simp only [Act.put, List.setIfInBounds_toArray, List.set_cons_zero, List.set_cons_succ]
            refine wpAnyH_take' 14 (some 134) undef rfl rfl (by kernel_rfl) (by kernel_rfl) (by kernel_rfl) (fun _ _ _ h => h) (Or.inr ⟨by rfl, rfl⟩) hS ?_
            simp only [Act.put, List.setIfInBounds_toArray, List.set_cons_zero, List.set_cons_succ]
            refine wpAnyH_take' 15 (some 135) undef rfl rfl (by kernel_rfl) (by kernel_rfl) (by kernel_rfl) (fun _ _ _ h => h) (Or.inr ⟨by rfl, rfl⟩) hS ?_
            simp only [Act.put, List.setIfInBounds_toArray, List.set_cons_zero, List.set_cons_succ]
            refine wpAnyH_take' 16 (some 136) undef rfl rfl (by kernel_rfl) (by kernel_rfl) (by kernel_rfl) (fun _ _ _ h => h) (Or.inr ⟨by rfl, rfl⟩) hS ?_
            simp only [Act.put, List.setIfInBounds_toArray, List.set_cons_zero, List.set_cons_succ]
            refine wpAnyH_take' 17 (some 137) undef rfl rfl (by kernel_rfl) (by kernel_rfl) (by kernel_rfl) (fun _ _ _ h => h) (Or.inr ⟨by rfl, rfl⟩) hS ?_
            simp only [Act.put, List.setIfInBounds_toArray, List.set_cons_zero, List.set_cons_succ]
            refine wpAnyH_take' 18 (some 138) undef rfl rfl (by kernel_rfl) (by kernel_rfl) (by kernel_rfl) (fun _ _ _ h => h) (Or.inr ⟨by rfl, rfl⟩) hS ?_
            simp only [Act.put, List.setIfInBounds_toArray, List.set_cons_zero, List.set_cons_succ]
            refine wpAnyH_take' 19 (some 139) undef rfl rfl (by kernel_rfl) (by kernel_rfl) (by kernel_rfl) (fun _ _ _ h => h) (Or.inr ⟨by rfl, rfl⟩) hS ?_
            simp only [Act.put, List.setIfInBounds_toArray, List.set_cons_zero, List.set_cons_succ]
            refine wpAnyH_take' 20 (some 140) undef rfl rfl (by kernel_rfl) (by kernel_rfl) (by kernel_rfl) (fun _ _ _ h => h) (Or.inr ⟨by rfl, rfl⟩) hS ?_
            simp only [Act.put, List.setIfInBounds_toArray, List.set_cons_zero, List.set_cons_succ]
            refine wpAnyH_take' 21 (some 141) undef rfl rfl (by kernel_rfl) (by kernel_rfl) (by kernel_rfl) (fun _ _ _ h => h) (Or.inr ⟨by rfl, rfl⟩) hS ?_
            simp only [Act.put, List.setIfInBounds_toArray, List.set_cons_zero, List.set_cons_succ]
            refine wpAnyH_take' 22 (some 142) undef rfl rfl (by kernel_rfl) (by kernel_rfl) (by kernel_rfl) (fun _ _ _ h => h) (Or.inr ⟨by rfl, rfl⟩) hS ?_
            simp only [Act.put, List.setIfInBounds_toArray, List.set_cons_zero, List.set_cons_succ]
            refine wpAnyH_take' 23 (some 143) undef rfl rfl (by kernel_rfl) (by kernel_rfl) (by kernel_rfl) (fun _ _ _ h => h) (Or.inr ⟨by rfl, rfl⟩) hS ?_
            simp only [Act.put, List.setIfInBounds_toArray, List.set_cons_zero, List.set_cons_succ]
            refine wpAnyH_take' 24 (some 144) (.bool true) rfl rfl (by kernel_rfl) (by kernel_rfl) (by kernel_rfl) (fun _ _ _ h => h) (Or.inl ⟨by rfl, fun w' hS => by go_simp⟩) hS ?_
            simp only [Act.put, List.setIfInBounds_toArray, List.set_cons_zero, List.set_cons_succ]
            refine wpAnyH_take' 25 (some 145) (.bool true) rfl rfl (by kernel_rfl) (by kernel_rfl) (by kernel_rfl) (fun _ _ _ h => h) (Or.inl ⟨by rfl, fun w' hS => by go_simp⟩) hS ?_
            simp only [Act.put, List.setIfInBounds_toArray, List.set_cons_zero, List.set_cons_succ]
            refine wpAnyH_take' 26 (some 4) (.bool true) rfl rfl (by kernel_rfl) (by kernel_rfl) (by kernel_rfl) (fun _ _ _ h => h) (Or.inl ⟨by rfl, fun w' hS => by go_simp⟩) hS ?_
            simp only [Act.put, List.setIfInBounds_toArray, List.set_cons_zero, List.set_cons_succ]
            refine wpAnyH_done (by kernel_rfl) ?_ _
            clear hS
            go_wp2
            go_ret
            exact ⟨rfl, HB01.out.trans (HB10.out.mono HZ01.out)⟩
          · cases hal
            subst hn9
            clear h6 h7 h8 k18 k35 hkb x0 x1 x2 x3
            have HB9 : Hid (Below B W1 w9) := HB8.out.trans (B9.mono HZ8.out)
            have HZ9 : Hid (B ≤ w9.heap.size) := (by have := HB9.out.size; rw [HDS.out.2.2] at this; exact this)
            obtain ⟨gr, or, p1, k1, q1, rfl, hc9, hl9⟩ := hr9.at (i := 0) (b := bs) rfl
            rw [Nat.add_zero] at hc9
            have hlb := lv_of_in (HBT.out w9 HB9.out)
            have HS9 : Hid (∀ W, Below w9.heap.size w9 W → W.cell? ⟨p0, 0, none⟩ = some (.int .i64 2) ∧ W.cell? ⟨gr, or, none⟩ = some (.slice p1 k1 q1) ∧ LV EB W (.slice p1 k1 q1) bs ∧ LV EB W (.slice ab m cb) bs) := fun W k => ⟨(HX.out W (HB9.out.trans (k.mono HZ9.out))).1, (k.cell (World.block_lt_of_cell? _ _ hc9)).trans hc9, hl9.below k, hlb.below k⟩
            have hcv1 : ∀ W, LV EB W (.slice p1 k1 q1) bs → (convert 33 9 (.slice p1 k1 q1)).run Try.prog W = .ok (.string (strB bs)) W := fun W h => conv_any h
            have hcv2 : ∀ W, LV EB W (.slice ab m cb) bs → (convert 33 9 (.slice ab m cb)).run Try.prog W = .ok (.string (strB bs)) W := fun W h => conv_any h
            generalize strB bs = sA at *
            clear hr9 hc9 hl9 hlb B9 B7 B8 B6 B5
            refine wp_region_held_drew (S := fun W => W.cell? ⟨p0, 0, none⟩ = some (.int .i64 2) ∧ W.cell? ⟨gr, or, none⟩ = some (.slice p1 k1 q1) ∧ LV EB W (.slice p1 k1 q1) bs ∧ LV EB W (.slice ab m cb) bs) (by kernel_rfl) (HS9.out _ (Below.refl _ _).drew) (fun hS => ?_)
            refine wpAnyH_take' 0 (some 120) (.int .i64 0) rfl rfl (by kernel_rfl) (by kernel_rfl) (by kernel_rfl) (fun _ _ _ h => h) (Or.inl ⟨by rfl, fun w' hS => by obtain ⟨s0, s1, s2, s3⟩ := hS; go_simp⟩) hS ?_
            simp only [Act.put, List.setIfInBounds_toArray, List.set_cons_zero, List.set_cons_succ]
            refine wpAnyH_take' 1 (some 121) (.bool true) rfl rfl (by kernel_rfl) (by kernel_rfl) (by kernel_rfl) (fun _ _ _ h => h) (Or.inl ⟨by rfl, fun w' hS => by obtain ⟨s0, s1, s2, s3⟩ := hS; go_simp⟩) hS ?_
            simp only [Act.put, List.setIfInBounds_toArray, List.set_cons_zero, List.set_cons_succ]
            refine wpAnyH_take' 2 (some 122) (.bool true) rfl rfl (by kernel_rfl) (by kernel_rfl) (by kernel_rfl) (fun _ _ _ h => h) (Or.inl ⟨by rfl, fun w' hS => by obtain ⟨s0, s1, s2, s3⟩ := hS; go_simp⟩) hS ?_
            simp only [Act.put, List.setIfInBounds_toArray, List.set_cons_zero, List.set_cons_succ]
            refine wpAnyH_take' 3 (some 123) (.pointer (some ⟨q, 0, none⟩)) rfl rfl (by kernel_rfl) (by kernel_rfl) (by kernel_rfl) (fun _ _ _ h => h) (Or.inl ⟨by rfl, fun w' hS => by obtain ⟨s0, s1, s2, s3⟩ := hS; go_simp⟩) hS ?_
            simp only [Act.put, List.setIfInBounds_toArray, List.set_cons_zero, List.set_cons_succ]
            refine wpAnyH_take' 4 (some 124) (.slice (some ⟨gr, or, none⟩) 1 uc9) rfl rfl (by kernel_rfl) (by kernel_rfl) (by kernel_rfl) (fun _ _ _ h => h) (Or.inl ⟨by rfl, fun w' hS => by obtain ⟨s0, s1, s2, s3⟩ := hS; go_simp⟩) hS ?_
            simp only [Act.put, List.setIfInBounds_toArray, List.set_cons_zero, List.set_cons_succ]
            refine wpAnyH_ready (rs := [5]) (by kernel_rfl) (by simp) (AllReadyH.cons rfl (fun K2 hK2 => ?_) AllReadyH.nil)
            go_simp
            refine (k38 _ (Below.refl _ _).drew).mono ?_
            rintro e' w10 ⟨⟨tt, rfl⟩, B10⟩
            refine hK2.out _ _ (HS9.out _ (bmore (Below.refl _ _).drew B10)) (fun hS => ?_)
            clear hK2 K2
            try simp only [Act.put, List.setIfInBounds_toArray, List.set_cons_zero, List.set_cons_succ]
            have HB10 : Hid (Below B W1 w10) := HB9.out.trans (((Below.refl _ _).drew.trans B10).mono HZ9.out)
            clear B10
            cases tt with
            | true =>
              refine wpAnyH_take' 6 (some 126) (.bool true) rfl rfl (by kernel_rfl) (by kernel_rfl) (by kernel_rfl) (fun _ _ _ h => h) (Or.inl ⟨by rfl, fun w' hS => by obtain ⟨s0, s1, s2, s3⟩ := hS; go_simp⟩) hS ?_
              simp only [Act.put, List.setIfInBounds_toArray, List.set_cons_zero, List.set_cons_succ]
              refine wpAnyH_take' 7 (some 127) undef rfl rfl (by kernel_rfl) (by kernel_rfl) (by kernel_rfl) (fun _ _ _ h => h) (Or.inr ⟨by rfl, rfl⟩) hS ?_
              simp only [Act.put, List.setIfInBounds_toArray, List.set_cons_zero, List.set_cons_succ]
              refine wpAnyH_take' 8 (some 128) undef rfl rfl (by kernel_rfl) (by kernel_rfl) (by kernel_rfl) (fun _ _ _ h => h) (Or.inr ⟨by rfl, rfl⟩) hS ?_
              simp only [Act.put, List.setIfInBounds_toArray, List.set_cons_zero, List.set_cons_succ]
              refine wpAnyH_take' 9 (some 129) undef rfl rfl (by kernel_rfl) (by kernel_rfl) (by kernel_rfl) (fun _ _ _ h => h) (Or.inr ⟨by rfl, rfl⟩) hS ?_
              simp only [Act.put, List.setIfInBounds_toArray, List.set_cons_zero, List.set_cons_succ]
              refine wpAnyH_take' 10 (some 130) undef rfl rfl (by kernel_rfl) (by kernel_rfl) (by kernel_rfl) (fun _ _ _ h => h) (Or.inr ⟨by rfl, rfl⟩) hS ?_
              simp only [Act.put, List.setIfInBounds_toArray, List.set_cons_zero, List.set_cons_succ]
              refine wpAnyH_take' 11 (some 131) undef rfl rfl (by kernel_rfl) (by kernel_rfl) (by kernel_rfl) (fun _ _ _ h => h) (Or.inr ⟨by rfl, rfl⟩) hS ?_
              simp only [Act.put, List.setIfInBounds_toArray, List.set_cons_zero, List.set_cons_succ]
              refine wpAnyH_take' 12 (some 132) undef rfl rfl (by kernel_rfl) (by kernel_rfl) (by kernel_rfl) (fun _ _ _ h => h) (Or.inr ⟨by rfl, rfl⟩) hS ?_
              simp only [Act.put, List.setIfInBounds_toArray, List.set_cons_zero, List.set_cons_succ]
              refine wpAnyH_take' 13 (some 133) undef rfl rfl (by kernel_rfl) (by kernel_rfl) (by kernel_rfl) (fun _ _ _ h => h) (Or.inr ⟨by rfl, rfl⟩) hS ?_
              simp only [Act.put, List.setIfInBounds_toArray, List.set_cons_zero, List.set_cons_succ]
              refine wpAnyH_take' 14 (some 134) undef rfl rfl (by kernel_rfl) (by kernel_rfl) (by kernel_rfl) (fun _ _ _ h => h) (Or.inr ⟨by rfl, rfl⟩) hS ?_
              simp only [Act.put, List.setIfInBounds_toArray, List.set_cons_zero, List.set_cons_succ]
              refine wpAnyH_take' 15 (some 135) undef rfl rfl (by kernel_rfl) (by kernel_rfl) (by kernel_rfl) (fun _ _ _ h => h) (Or.inr ⟨by rfl, rfl⟩) hS ?_
              simp only [Act.put, List.setIfInBounds_toArray, List.set_cons_zero, List.set_cons_succ]
              refine wpAnyH_take' 16 (some 136) undef rfl rfl (by kernel_rfl) (by kernel_rfl) (by kernel_rfl) (fun _ _ _ h => h) (Or.inr ⟨by rfl, rfl⟩) hS ?_
              simp only [Act.put, List.setIfInBounds_toArray, List.set_cons_zero, List.set_cons_succ]
              refine wpAnyH_take' 17 (some 137) undef rfl rfl (by kernel_rfl) (by kernel_rfl) (by kernel_rfl) (fun _ _ _ h => h) (Or.inr ⟨by rfl, rfl⟩) hS ?_
              simp only [Act.put, List.setIfInBounds_toArray, List.set_cons_zero, List.set_cons_succ]
              refine wpAnyH_take' 18 (some 138) undef rfl rfl (by kernel_rfl) (by kernel_rfl) (by kernel_rfl) (fun _ _ _ h => h) (Or.inr ⟨by rfl, rfl⟩) hS ?_
              simp only [Act.put, List.setIfInBounds_toArray, List.set_cons_zero, List.set_cons_succ]
              refine wpAnyH_take' 19 (some 139) undef rfl rfl (by kernel_rfl) (by kernel_rfl) (by kernel_rfl) (fun _ _ _ h => h) (Or.inr ⟨by rfl, rfl⟩) hS ?_
              simp only [Act.put, List.setIfInBounds_toArray, List.set_cons_zero, List.set_cons_succ]
              refine wpAnyH_take' 20 (some 140) undef rfl rfl (by kernel_rfl) (by kernel_rfl) (by kernel_rfl) (fun _ _ _ h => h) (Or.inr ⟨by rfl, rfl⟩) hS ?_
              simp only [Act.put, List.setIfInBounds_toArray, List.set_cons_zero, List.set_cons_succ]
              refine wpAnyH_take' 21 (some 141) undef rfl rfl (by kernel_rfl) (by kernel_rfl) (by kernel_rfl) (fun _ _ _ h => h) (Or.inr ⟨by rfl, rfl⟩) hS ?_
              simp only [Act.put, List.setIfInBounds_toArray, List.set_cons_zero, List.set_cons_succ]
              refine wpAnyH_take' 22 (some 142) undef rfl rfl (by kernel_rfl) (by kernel_rfl) (by kernel_rfl) (fun _ _ _ h => h) (Or.inr ⟨by rfl, rfl⟩) hS ?_
              simp only [Act.put, List.setIfInBounds_toArray, List.set_cons_zero, List.set_cons_succ]
              refine wpAnyH_take' 23 (some 143) undef rfl rfl (by kernel_rfl) (by kernel_rfl) (by kernel_rfl) (fun _ _ _ h => h) (Or.inr ⟨by rfl, rfl⟩) hS ?_
              simp only [Act.put, List.setIfInBounds_toArray, List.set_cons_zero, List.set_cons_succ]
              refine wpAnyH_take' 24 (some 144) (.bool true) rfl rfl (by kernel_rfl) (by kernel_rfl) (by kernel_rfl) (fun _ _ _ h => h) (Or.inl ⟨by rfl, fun w' hS => by obtain ⟨s0, s1, s2, s3⟩ := hS; go_simp⟩) hS ?_
              simp only [Act.put, List.setIfInBounds_toArray, List.set_cons_zero, List.set_cons_succ]
              refine wpAnyH_take' 25 (some 145) (.bool true) rfl rfl (by kernel_rfl) (by kernel_rfl) (by kernel_rfl) (fun _ _ _ h => h) (Or.inl ⟨by rfl, fun w' hS => by obtain ⟨s0, s1, s2, s3⟩ := hS; go_simp⟩) hS ?_
              simp only [Act.put, List.setIfInBounds_toArray, List.set_cons_zero, List.set_cons_succ]
              refine wpAnyH_take' 26 (some 4) (.bool true) rfl rfl (by kernel_rfl) (by kernel_rfl) (by kernel_rfl) (fun _ _ _ h => h) (Or.inl ⟨by rfl, fun w' hS => by obtain ⟨s0, s1, s2, s3⟩ := hS; go_simp⟩) hS ?_
              simp only [Act.put, List.setIfInBounds_toArray, List.set_cons_zero, List.set_cons_succ]
              refine wpAnyH_done (by kernel_rfl) ?_ _
              clear hS
              go_wp2
              go_ret
              exact ⟨rfl, HB01.out.trans (HB10.out.mono HZ01.out)⟩
            | false =>
              refine wpAnyH_take' 6 (some 126) (.bool false) rfl rfl (by kernel_rfl) (by kernel_rfl) (by kernel_rfl) (fun _ _ _ h => h) (Or.inl ⟨by rfl, fun w' hS => by obtain ⟨s0, s1, s2, s3⟩ := hS; go_simp⟩) hS ?_
              simp only [Act.put, List.setIfInBounds_toArray, List.set_cons_zero, List.set_cons_succ]
              refine wpAnyH_take' 7 (some 127) (.pointer (some ⟨p0, 0, none⟩)) rfl rfl (by kernel_rfl) (by kernel_rfl) (by kernel_rfl) (fun _ _ _ h => h) (Or.inl ⟨by rfl, fun w' hS => by obtain ⟨s0, s1, s2, s3⟩ := hS; go_simp⟩) hS ?_
              simp only [Act.put, List.setIfInBounds_toArray, List.set_cons_zero, List.set_cons_succ]
              refine wpAnyH_take' 8 (some 128) (.int .i64 2) rfl rfl (by kernel_rfl) (by kernel_rfl) (by kernel_rfl) (fun _ _ _ h => h) (Or.inl ⟨by rfl, fun w' hS => by obtain ⟨s0, s1, s2, s3⟩ := hS; go_simp⟩) hS ?_
              simp only [Act.put, List.setIfInBounds_toArray, List.set_cons_zero, List.set_cons_succ]
              refine wpAnyH_take' 9 (some 129) (.bool true) rfl rfl (by kernel_rfl) (by kernel_rfl) (by kernel_rfl) (fun _ _ _ h => h) (Or.inl ⟨by rfl, fun w' hS => by obtain ⟨s0, s1, s2, s3⟩ := hS; go_simp⟩) hS ?_
              simp only [Act.put, List.setIfInBounds_toArray, List.set_cons_zero, List.set_cons_succ]
              refine wpAnyH_take' 10 (some 130) (.bool true) rfl rfl (by kernel_rfl) (by kernel_rfl) (by kernel_rfl) (fun _ _ _ h => h) (Or.inl ⟨by rfl, fun w' hS => by obtain ⟨s0, s1, s2, s3⟩ := hS; go_simp⟩) hS ?_
              simp only [Act.put, List.setIfInBounds_toArray, List.set_cons_zero, List.set_cons_succ]
              refine wpAnyH_take' 11 (some 131) (.slice (some ⟨gr, or, none⟩) 1 uc9) rfl rfl (by kernel_rfl) (by kernel_rfl) (by kernel_rfl) (fun _ _ _ h => h) (Or.inl ⟨by rfl, fun w' hS => by obtain ⟨s0, s1, s2, s3⟩ := hS; go_simp⟩) hS ?_
              simp only [Act.put, List.setIfInBounds_toArray, List.set_cons_zero, List.set_cons_succ]
              refine wpAnyH_take' 12 (some 132) (.int .i64 1) rfl rfl (by kernel_rfl) (by kernel_rfl) (by kernel_rfl) (fun _ _ _ h => h) (Or.inl ⟨by rfl, fun w' hS => by obtain ⟨s0, s1, s2, s3⟩ := hS; go_simp⟩) hS ?_
              simp only [Act.put, List.setIfInBounds_toArray, List.set_cons_zero, List.set_cons_succ]
              refine wpAnyH_take' 13 (some 133) (.bool true) rfl rfl (by kernel_rfl) (by kernel_rfl) (by kernel_rfl) (fun _ _ _ h => h) (Or.inl ⟨by rfl, fun w' hS => by obtain ⟨s0, s1, s2, s3⟩ := hS; go_simp⟩) hS ?_
              simp only [Act.put, List.setIfInBounds_toArray, List.set_cons_zero, List.set_cons_succ]
              refine wpAnyH_take' 14 (some 134) (.bool true) rfl rfl (by kernel_rfl) (by kernel_rfl) (by kernel_rfl) (fun _ _ _ h => h) (Or.inl ⟨by rfl, fun w' hS => by obtain ⟨s0, s1, s2, s3⟩ := hS; go_simp⟩) hS ?_
              simp only [Act.put, List.setIfInBounds_toArray, List.set_cons_zero, List.set_cons_succ]
              refine wpAnyH_take' 15 (some 135) (.bool true) rfl rfl (by kernel_rfl) (by kernel_rfl) (by kernel_rfl) (fun _ _ _ h => h) (Or.inl ⟨by rfl, fun w' hS => by obtain ⟨s0, s1, s2, s3⟩ := hS; go_simp⟩) hS ?_
              simp only [Act.put, List.setIfInBounds_toArray, List.set_cons_zero, List.set_cons_succ]
              refine wpAnyH_take' 16 (some 136) (.slice (some ⟨gr, or, none⟩) 1 uc9) rfl rfl (by kernel_rfl) (by kernel_rfl) (by kernel_rfl) (fun _ _ _ h => h) (Or.inl ⟨by rfl, fun w' hS => by obtain ⟨s0, s1, s2, s3⟩ := hS; go_simp⟩) hS ?_
              simp only [Act.put, List.setIfInBounds_toArray, List.set_cons_zero, List.set_cons_succ]
              refine wpAnyH_take' 17 (some 137) (.pointer (some ⟨gr, or, none⟩)) rfl rfl (by kernel_rfl) (by kernel_rfl) (by kernel_rfl) (fun _ _ _ h => h) (Or.inl ⟨by rfl, fun w' hS => by obtain ⟨s0, s1, s2, s3⟩ := hS; go_simp⟩) hS ?_
              simp only [Act.put, List.setIfInBounds_toArray, List.set_cons_zero, List.set_cons_succ]
              refine wpAnyH_take' 18 (some 138) (.slice p1 k1 q1) rfl rfl (by kernel_rfl) (by kernel_rfl) (by kernel_rfl) (fun _ _ _ h => h) (Or.inl ⟨by rfl, fun w' hS => by obtain ⟨s0, s1, s2, s3⟩ := hS; go_simp⟩) hS ?_
              simp only [Act.put, List.setIfInBounds_toArray, List.set_cons_zero, List.set_cons_succ]
              refine wpAnyH_take' 19 (some 139) (.string sA) rfl rfl (by kernel_rfl) (by kernel_rfl) (by kernel_rfl) (fun _ _ _ h => h) (Or.inl ⟨by rfl, fun w' hS => by obtain ⟨s0, s1, s2, s3⟩ := hS; have hcv := hcv1 _ s2; go_simp⟩) hS ?_
              simp only [Act.put, List.setIfInBounds_toArray, List.set_cons_zero, List.set_cons_succ]
              refine wpAnyH_take' 20 (some 140) (.slice ab m cb) rfl rfl (by kernel_rfl) (by kernel_rfl) (by kernel_rfl) (fun _ _ _ h => h) (Or.inl ⟨by rfl, fun w' hS => by obtain ⟨s0, s1, s2, s3⟩ := hS; go_simp⟩) hS ?_
              simp only [Act.put, List.setIfInBounds_toArray, List.set_cons_zero, List.set_cons_succ]
              refine wpAnyH_take' 21 (some 141) (.string sA) rfl rfl (by kernel_rfl) (by kernel_rfl) (by kernel_rfl) (fun _ _ _ h => h) (Or.inl ⟨by rfl, fun w' hS => by obtain ⟨s0, s1, s2, s3⟩ := hS; have hcv := hcv2 _ s3; go_simp⟩) hS ?_
              simp only [Act.put, List.setIfInBounds_toArray, List.set_cons_zero, List.set_cons_succ]
              refine wpAnyH_take' 22 (some 142) (.bool true) rfl rfl (by kernel_rfl) (by kernel_rfl) (by kernel_rfl) (fun _ _ _ h => h) (Or.inl ⟨by rfl, fun w' hS => by obtain ⟨s0, s1, s2, s3⟩ := hS; go_simp⟩) hS ?_
              simp only [Act.put, List.setIfInBounds_toArray, List.set_cons_zero, List.set_cons_succ]
              refine wpAnyH_take' 23 (some 143) (.bool true) rfl rfl (by kernel_rfl) (by kernel_rfl) (by kernel_rfl) (fun _ _ _ h => h) (Or.inl ⟨by rfl, fun w' hS => by obtain ⟨s0, s1, s2, s3⟩ := hS; go_simp⟩) hS ?_
              simp only [Act.put, List.setIfInBounds_toArray, List.set_cons_zero, List.set_cons_succ]
              refine wpAnyH_take' 24 (some 144) (.bool true) rfl rfl (by kernel_rfl) (by kernel_rfl) (by kernel_rfl) (fun _ _ _ h => h) (Or.inl ⟨by rfl, fun w' hS => by obtain ⟨s0, s1, s2, s3⟩ := hS; go_simp⟩) hS ?_
              simp only [Act.put, List.setIfInBounds_toArray, List.set_cons_zero, List.set_cons_succ]
              refine wpAnyH_take' 25 (some 145) (.bool true) rfl rfl (by kernel_rfl) (by kernel_rfl) (by kernel_rfl) (fun _ _ _ h => h) (Or.inl ⟨by rfl, fun w' hS => by obtain ⟨s0, s1, s2, s3⟩ := hS; go_simp⟩) hS ?_
              simp only [Act.put, List.setIfInBounds_toArray, List.set_cons_zero, List.set_cons_succ]
              refine wpAnyH_take' 26 (some 4) (.bool true) rfl rfl (by kernel_rfl) (by kernel_rfl) (by kernel_rfl) (fun _ _ _ h => h) (Or.inl ⟨by rfl, fun w' hS => by obtain ⟨s0, s1, s2, s3⟩ := hS; go_simp⟩) hS ?_
              simp only [Act.put, List.setIfInBounds_toArray, List.set_cons_zero, List.set_cons_succ]
              refine wpAnyH_done (by kernel_rfl) ?_ _
              clear hS hcv1 hcv2
              go_wp2
              go_ret
              exact ⟨rfl, HB01.out.trans (HB10.out.mono HZ01.out)⟩
        · have hx3 : (xk == 2) = false := by simpa using hx2
          go_wp2_with (first
            | (go_at_call 23; (refine Calls.mono (H7.out.1.cut (n := m8 % 9) (by omega)) ?_; rintro e w5 ⟨rfl, h5, B5⟩; have HB5 : Hid (Below B W1 w5) := HBV.out.trans B5; obtain ⟨x0, x1, x2, x3⟩ := HX.out _ HB5.out; have k41 := h5.switch hE (HBT.out _ HB5.out) hm4; have k42 := h5.append hE (HBT.out _ HB5.out) hm4))
            | (go_at_call 40; (refine (k40 _).mono ?_; rintro e w8 ⟨rfl, h8⟩; replace h8 := h8.symm; subst h8))
            | (go_at_call 42; (refine Calls.mono k42 ?_; rintro e w6 ⟨n6', f6, rfl, B6, (⟨rfl | rfl, h6⟩ | ⟨rfl | rfl, h6⟩)⟩ <;> (obtain ⟨mv6, hmv⟩ := h6.cell1; obtain ⟨y1, z1⟩ := hmv _ (al w6 (.cells #[.slice ab m cb] 33)); have HB6 : Hid (Below B W1 w6) := HB5.out.trans B6)))
            | (go_at_call 39; first | ((with_reducible refine Calls.mono h6.flush ?_); rintro e w7 ⟨⟨f7, rfl⟩, B7, h7⟩; have HB7 : Hid (Below B W1 w7) := HB6.out.trans B7; obtain ⟨x0, x1, x2, x3⟩ := HX.out _ HB7.out; have hkb := kb_of_inkC HKT.out HB7.out) | (refine Calls.mono (h6.tell (HBT.out _ HB6.out)).1.flush ?_; rintro e w7 ⟨⟨f7, rfl⟩, B7, h7⟩; have HB7 : Hid (Below B W1 w7) := (HB6.out.trans (h6.tell (HBT.out _ HB6.out)).2).trans B7; obtain ⟨x0, x1, x2, x3⟩ := HX.out _ HB7.out; have hkb := kb_of_inkC HKT.out HB7.out))
            | (go_at_call 37; (refine (k37 _).mono ?_; rintro e w8 ⟨rfl, h8⟩; replace h8 := h8.symm; subst h8; have k18 := h7.crash hkb (ink_lowC HKT.out)))
            | (go_at_call 18; (refine k18.mono ?_; rintro e w8 ⟨rfl, h8, B8⟩; have HB8 : Hid (Below B W1 w8) := HB7.out.trans B8; have HZ8 : Hid (B ≤ w8.heap.size) := (by have := HB8.out.size; rw [HDS.out.2.2] at this; exact this); have k35 := h8.opens))
            | (go_at_call 35; (refine k35.mono ?_; rintro e w9 ⟨x9, ua9, n, uc9, rfl, B9, h9⟩)))
          · clear k41 k42 h5
            rcases h9 with k38 | ⟨b9, hal, -⟩
            · clear h6 h7 h8 k18 k35 hkb x0 x1 x2 x3
              have HB9 : Hid (Below B W1 w9) := HB8.out.trans (B9.mono HZ8.out)
              have HZ9 : Hid (B ≤ w9.heap.size) := (by have := HB9.out.size; rw [HDS.out.2.2] at this; exact this)
              clear B9 B7 B8 B6 B5
              refine wp_region_held_drew (S := fun _ => True) (by kernel_rfl) trivial (fun hS => ?_)
              refine wpAnyH_take' 0 (some 120) (.int .i64 0) rfl rfl (by kernel_rfl) (by kernel_rfl) (by kernel_rfl) (fun _ _ _ h => h) (Or.inl ⟨by rfl, fun w' hS => by go_simp⟩) hS ?_
              simp only [Act.put, List.setIfInBounds_toArray, List.set_cons_zero, List.set_cons_succ]
              refine wpAnyH_take' 1 (some 121) (.bool true) rfl rfl (by kernel_rfl) (by kernel_rfl) (by kernel_rfl) (fun _ _ _ h => h) (Or.inl ⟨by rfl, fun w' hS => by go_simp⟩) hS ?_
              simp only [Act.put, List.setIfInBounds_toArray, List.set_cons_zero, List.set_cons_succ]
              refine wpAnyH_take' 2 (some 122) (.bool true) rfl rfl (by kernel_rfl) (by kernel_rfl) (by kernel_rfl) (fun _ _ _ h => h) (Or.inl ⟨by rfl, fun w' hS => by go_simp⟩) hS ?_
              simp only [Act.put, List.setIfInBounds_toArray, List.set_cons_zero, List.set_cons_succ]
              refine wpAnyH_take' 3 (some 123) (.pointer (some ⟨q, 0, none⟩)) rfl rfl (by kernel_rfl) (by kernel_rfl) (by kernel_rfl) (fun _ _ _ h => h) (Or.inl ⟨by rfl, fun w' hS => by go_simp⟩) hS ?_
              simp only [Act.put, List.setIfInBounds_toArray, List.set_cons_zero, List.set_cons_succ]
              refine wpAnyH_take' 4 (some 124) (.slice ua9 n uc9) rfl rfl (by kernel_rfl) (by kernel_rfl) (by kernel_rfl) (fun _ _ _ h => h) (Or.inl ⟨by rfl, fun w' hS => by go_simp⟩) hS ?_
              simp only [Act.put, List.setIfInBounds_toArray, List.set_cons_zero, List.set_cons_succ]
              refine wpAnyH_ready (rs := [5]) (by kernel_rfl) (by simp) (AllReadyH.cons rfl (fun K2 hK2 => ?_) AllReadyH.nil)
              go_simp
              refine (k38 _ (Below.refl _ _).drew).mono ?_
              rintro e' w10 ⟨rfl, B10⟩
              refine hK2.out _ _ trivial (fun hS => ?_)
              clear hK2 K2
              try simp only [Act.put, List.setIfInBounds_toArray, List.set_cons_zero, List.set_cons_succ]
              have HB10 : Hid (Below B W1 w10) := HB9.out.trans (((Below.refl _ _).drew.trans B10).mono HZ9.out)
              clear B10
              refine wpAnyH_take' 6 (some 126) (.bool true) rfl rfl (by kernel_rfl) (by kernel_rfl) (by kernel_rfl) (fun _ _ _ h => h) (Or.inl ⟨by rfl, fun w' hS => by go_simp⟩) hS ?_
              simp only [Act.put, List.setIfInBounds_toArray, List.set_cons_zero, List.set_cons_succ]
              refine wpAnyH_take' 7 (some 127) undef rfl rfl (by kernel_rfl) (by kernel_rfl) (by kernel_rfl) (fun _ _ _ h => h) (Or.inr ⟨by rfl, rfl⟩) hS ?_
              simp only [Act.put, List.setIfInBounds_toArray, List.set_cons_zero, List.set_cons_succ]
              refine wpAnyH_take' 8 (some 128) undef rfl rfl (by kernel_rfl) (by kernel_rfl) (by kernel_rfl) (fun _ _ _ h => h) (Or.inr ⟨by rfl, rfl⟩) hS ?_
              simp only [Act.put, List.setIfInBounds_toArray, List.set_cons_zero, List.set_cons_succ]
              refine wpAnyH_take' 9 (some 129) undef rfl rfl (by kernel_rfl) (by kernel_rfl) (by kernel_rfl) (fun _ _ _ h => h) (Or.inr ⟨by rfl, rfl⟩) hS ?_
              simp only [Act.put, List.setIfInBounds_toArray, List.set_cons_zero, List.set_cons_succ]
              refine wpAnyH_take' 10 (some 130) undef rfl rfl (by kernel_rfl) (by kernel_rfl) (by kernel_rfl) (fun _ _ _ h => h) (Or.inr ⟨by rfl, rfl⟩) hS ?_
              simp only [Act.put, List.setIfInBounds_toArray, List.set_cons_zero, List.set_cons_succ]
              refine wpAnyH_take' 11 (some 131) undef rfl rfl (by kernel_rfl) (by kernel_rfl) (by kernel_rfl) (fun _ _ _ h => h) (Or.inr ⟨by rfl, rfl⟩) hS ?_
              simp only [Act.put, List.setIfInBounds_toArray, List.set_cons_zero, List.set_cons_succ]
              refine wpAnyH_take' 12 (some 132) undef rfl rfl (by kernel_rfl) (by kernel_rfl) (by kernel_rfl) (fun _ _ _ h => h) (Or.inr ⟨by rfl, rfl⟩) hS ?_
              simp only [Act.put, List.setIfInBounds_toArray, List.set_cons_zero, List.set_cons_succ]
              refine wpAnyH_take' 13 (some 133) undef rfl rfl (by kernel_rfl) (by kernel_rfl) (by kernel_rfl) (fun _ _ _ h => h) (Or.inr ⟨by rfl, rfl⟩) hS ?_
              simp only [Act.put, List.setIfInBounds_toArray, List.set_cons_zero, List.set_cons_succ]
              refine wpAnyH_take' 14 (some 134) undef rfl rfl (by kernel_rfl) (by kernel_rfl) (by kernel_rfl) (fun _ _ _ h => h) (Or.inr ⟨by rfl, rfl⟩) hS ?_
              simp only [Act.put, List.setIfInBounds_toArray, List.set_cons_zero, List.set_cons_succ]
              refine wpAnyH_take' 15 (some 135) undef rfl rfl (by kernel_rfl) (by kernel_rfl) (by kernel_rfl) (fun _ _ _ h => h) (Or.inr ⟨by rfl, rfl⟩) hS ?_
              simp only [Act.put, List.setIfInBounds_toArray, List.set_cons_zero, List.set_cons_succ]
              refine wpAnyH_take' 16 (some 136) undef rfl rfl (by kernel_rfl) (by kernel_rfl) (by kernel_rfl) (fun _ _ _ h => h) (Or.inr ⟨by rfl, rfl⟩) hS ?_
              simp only [Act.put, List.setIfInBounds_toArray, List.set_cons_zero, List.set_cons_succ]
              refine wpAnyH_take' 17 (some 137) undef rfl rfl (by kernel_rfl) (by kernel_rfl) (by kernel_rfl) (fun _ _ _ h => h) (Or.inr ⟨by rfl, rfl⟩) hS ?_
              simp only [Act.put, List.setIfInBounds_toArray, List.set_cons_zero, List.set_cons_succ]
              refine wpAnyH_take' 18 (some 138) undef rfl rfl (by kernel_rfl) (by kernel_rfl) (by kernel_rfl) (fun _ _ _ h => h) (Or.inr ⟨by rfl, rfl⟩) hS ?_
              simp only [Act.put, List.setIfInBounds_toArray, List.set_cons_zero, List.set_cons_succ]
              refine wpAnyH_take' 19 (some 139) undef rfl rfl (by kernel_rfl) (by kernel_rfl) (by kernel_rfl) (fun _ _ _ h => h) (Or.inr ⟨by rfl, rfl⟩) hS ?_
              simp only [Act.put, List.setIfInBounds_toArray, List.set_cons_zero, List.set_cons_succ]
              refine wpAnyH_take' 20 (some 140) undef rfl rfl (by kernel_rfl) (by kernel_rfl) (by kernel_rfl) (fun _ _ _ h => h) (Or.inr ⟨by rfl, rfl⟩) hS ?_
              simp only [Act.put, List.setIfInBounds_toArray, List.set_cons_zero, List.set_cons_succ]
              refine wpAnyH_take' 21 (some 141) undef rfl rfl (by kernel_rfl) (by kernel_rfl) (by kernel_rfl) (fun _ _ _ h => h) (Or.inr ⟨by rfl, rfl⟩) hS ?_
              simp only [Act.put, List.setIfInBounds_toArray, List.set_cons_zero, List.set_cons_succ]
              refine wpAnyH_take' 22 (some 142) undef rfl rfl (by kernel_rfl) (by kernel_rfl) (by kernel_rfl) (fun _ _ _ h => h) (Or.inr ⟨by rfl, rfl⟩) hS ?_
              simp only [Act.put, List.setIfInBounds_toArray, List.set_cons_zero, List.set_cons_succ]
              refine wpAnyH_take' 23 (some 143) undef rfl rfl (by kernel_rfl) (by kernel_rfl) (by kernel_rfl) (fun _ _ _ h => h) (Or.inr ⟨by rfl, rfl⟩) hS ?_
              simp only [Act.put, List.setIfInBounds_toArray, List.set_cons_zero, List.set_cons_succ]
              refine wpAnyH_take' 24 (some 144) (.bool true) rfl rfl (by kernel_rfl) (by kernel_rfl) (by kernel_rfl) (fun _ _ _ h => h) (Or.inl ⟨by rfl, fun w' hS => by go_simp⟩) hS ?_
              simp only [Act.put, List.setIfInBounds_toArray, List.set_cons_zero, List.set_cons_succ]
              refine wpAnyH_take' 25 (some 145) (.bool true) rfl rfl (by kernel_rfl) (by kernel_rfl) (by kernel_rfl) (fun _ _ _ h => h) (Or.inl ⟨by rfl, fun w' hS => by go_simp⟩) hS ?_
              simp only [Act.put, List.setIfInBounds_toArray, List.set_cons_zero, List.set_cons_succ]
              refine wpAnyH_take' 26 (some 4) (.bool true) rfl rfl (by kernel_rfl) (by kernel_rfl) (by kernel_rfl) (fun _ _ _ h => h) (Or.inl ⟨by rfl, fun w' hS => by go_simp⟩) hS ?_
              simp only [Act.put, List.setIfInBounds_toArray, List.set_cons_zero, List.set_cons_succ]
              refine wpAnyH_done (by kernel_rfl) ?_ _
              clear hS
              go_wp2
              go_ret
              exact ⟨rfl, HB01.out.trans (HB10.out.mono HZ01.out)⟩
            · cases hal
          · clear k41 k42 h5
            rcases h9 with k38 | ⟨b9, hal, -⟩
            · clear h6 h7 h8 k18 k35 hkb x0 x1 x2 x3
              have HB9 : Hid (Below B W1 w9) := HB8.out.trans (B9.mono HZ8.out)
              have HZ9 : Hid (B ≤ w9.heap.size) := (by have := HB9.out.size; rw [HDS.out.2.2] at this; exact this)
              clear B9 B7 B8 B6 B5
              refine wp_region_held_drew (S := fun _ => True) (by kernel_rfl) trivial (fun hS => ?_)
              refine wpAnyH_take' 0 (some 120) (.int .i64 0) rfl rfl (by kernel_rfl) (by kernel_rfl) (by kernel_rfl) (fun _ _ _ h => h) (Or.inl ⟨by rfl, fun w' hS => by go_simp⟩) hS ?_
              simp only [Act.put, List.setIfInBounds_toArray, List.set_cons_zero, List.set_cons_succ]
              refine wpAnyH_take' 1 (some 121) (.bool true) rfl rfl (by kernel_rfl) (by kernel_rfl) (by kernel_rfl) (fun _ _ _ h => h) (Or.inl ⟨by rfl, fun w' hS => by go_simp⟩) hS ?_
              simp only [Act.put, List.setIfInBounds_toArray, List.set_cons_zero, List.set_cons_succ]
              refine wpAnyH_take' 2 (some 122) (.bool true) rfl rfl (by kernel_rfl) (by kernel_rfl) (by kernel_rfl) (fun _ _ _ h => h) (Or.inl ⟨by rfl, fun w' hS => by go_simp⟩) hS ?_
              simp only [Act.put, List.setIfInBounds_toArray, List.set_cons_zero, List.set_cons_succ]
              refine wpAnyH_take' 3 (some 123) (.pointer (some ⟨q, 0, none⟩)) rfl rfl (by kernel_rfl) (by kernel_rfl) (by kernel_rfl) (fun _ _ _ h => h) (Or.inl ⟨by rfl, fun w' hS => by go_simp⟩) hS ?_
              simp only [Act.put, List.setIfInBounds_toArray, List.set_cons_zero, List.set_cons_succ]
              refine wpAnyH_take' 4 (some 124) (.slice ua9 n uc9) rfl rfl (by kernel_rfl) (by kernel_rfl) (by kernel_rfl) (fun _ _ _ h => h) (Or.inl ⟨by rfl, fun w' hS => by go_simp⟩) hS ?_
              simp only [Act.put, List.setIfInBounds_toArray, List.set_cons_zero, List.set_cons_succ]
              refine wpAnyH_ready (rs := [5]) (by kernel_rfl) (by simp) (AllReadyH.cons rfl (fun K2 hK2 => ?_) AllReadyH.nil)
              go_simp
              refine (k38 _ (Below.refl _ _).drew).mono ?_
              rintro e' w10 ⟨rfl, B10⟩
              refine hK2.out _ _ trivial (fun hS => ?_)
              clear hK2 K2
              try simp only [Act.put, List.setIfInBounds_toArray, List.set_cons_zero, List.set_cons_succ]
              have HB10 : Hid (Below B W1 w10) := HB9.out.trans (((Below.refl _ _).drew.trans B10).mono HZ9.out)
              clear B10
              refine wpAnyH_take' 6 (some 126) (.bool true) rfl rfl (by kernel_rfl) (by kernel_rfl) (by kernel_rfl) (fun _ _ _ h => h) (Or.inl ⟨by rfl, fun w' hS => by go_simp⟩) hS ?_
              simp only [Act.put, List.setIfInBounds_toArray, List.set_cons_zero, List.set_cons_succ]
              refine wpAnyH_take' 7 (some 127) undef rfl rfl (by kernel_rfl) (by kernel_rfl) (by kernel_rfl) (fun _ _ _ h => h) (Or.inr ⟨by rfl, rfl⟩) hS ?_
              simp only [Act.put, List.setIfInBounds_toArray, List.set_cons_zero, List.set_cons_succ]
              refine wpAnyH_take' 8 (some 128) undef rfl rfl (by kernel_rfl) (by kernel_rfl) (by kernel_rfl) (fun _ _ _ h => h) (Or.inr ⟨by rfl, rfl⟩) hS ?_
              simp only [Act.put, List.setIfInBounds_toArray, List.set_cons_zero, List.set_cons_succ]
              refine wpAnyH_take' 9 (some 129) undef rfl rfl (by kernel_rfl) (by kernel_rfl) (by kernel_rfl) (fun _ _ _ h => h) (Or.inr ⟨by rfl, rfl⟩) hS ?_
              simp only [Act.put, List.setIfInBounds_toArray, List.set_cons_zero, List.set_cons_succ]
              refine wpAnyH_take' 10 (some 130) undef rfl rfl (by kernel_rfl) (by kernel_rfl) (by kernel_rfl) (fun _ _ _ h => h) (Or.inr ⟨by rfl, rfl⟩) hS ?_
              simp only [Act.put, List.setIfInBounds_toArray, List.set_cons_zero, List.set_cons_succ]
              refine wpAnyH_take' 11 (some 131) undef rfl rfl (by kernel_rfl) (by kernel_rfl) (by kernel_rfl) (fun _ _ _ h => h) (Or.inr ⟨by rfl, rfl⟩) hS ?_
              simp only [Act.put, List.setIfInBounds_toArray, List.set_cons_zero, List.set_cons_succ]
              refine wpAnyH_take' 12 (some 132) undef rfl rfl (by kernel_rfl) (by kernel_rfl) (by kernel_rfl) (fun _ _ _ h => h) (Or.inr ⟨by rfl, rfl⟩) hS ?_
              simp only [Act.put, List.setIfInBounds_toArray, List.set_cons_zero, List.set_cons_succ]
              refine wpAnyH_take' 13 (some 133) undef rfl rfl (by kernel_rfl) (by kernel_rfl) (by kernel_rfl) (fun _ _ _ h => h) (Or.inr ⟨by rfl, rfl⟩) hS ?_
              simp only [Act.put, List.setIfInBounds_toArray, List.set_cons_zero, List.set_cons_succ]
              refine wpAnyH_take' 14 (some 134) undef rfl rfl (by kernel_rfl) (by kernel_rfl) (by kernel_rfl) (fun _ _ _ h => h) (Or.inr ⟨by rfl, rfl⟩) hS ?_
              simp only [Act.put, List.setIfInBounds_toArray, List.set_cons_zero, List.set_cons_succ]
              refine wpAnyH_take' 15 (some 135) undef rfl rfl (by kernel_rfl) (by kernel_rfl) (by kernel_rfl) (fun _ _ _ h => h) (Or.inr ⟨by rfl, rfl⟩) hS ?_
              simp only [Act.put, List.setIfInBounds_toArray, List.set_cons_zero, List.set_cons_succ]
              refine wpAnyH_take' 16 (some 136) undef rfl rfl (by kernel_rfl) (by kernel_rfl) (by kernel_rfl) (fun _ _ _ h => h) (Or.inr ⟨by rfl, rfl⟩) hS ?_
              simp only [Act.put, List.setIfInBounds_toArray, List.set_cons_zero, List.set_cons_succ]
              refine wpAnyH_take' 17 (some 137) undef rfl rfl (by kernel_rfl) (by kernel_rfl) (by kernel_rfl) (fun _ _ _ h => h) (Or.inr ⟨by rfl, rfl⟩) hS ?_
              simp only [Act.put, List.setIfInBounds_toArray, List.set_cons_zero, List.set_cons_succ]
              refine wpAnyH_take' 18 (some 138) undef rfl rfl (by kernel_rfl) (by kernel_rfl) (by kernel_rfl) (fun _ _ _ h => h) (Or.inr ⟨by rfl, rfl⟩) hS ?_
              simp only [Act.put, List.setIfInBounds_toArray, List.set_cons_zero, List.set_cons_succ]
              refine wpAnyH_take' 19 (some 139) undef rfl rfl (by kernel_rfl) (by kernel_rfl) (by kernel_rfl) (fun _ _ _ h => h) (Or.inr ⟨by rfl, rfl⟩) hS ?_
              simp only [Act.put, List.setIfInBounds_toArray, List.set_cons_zero, List.set_cons_succ]
              refine wpAnyH_take' 20 (some 140) undef rfl rfl (by kernel_rfl) (by kernel_rfl) (by kernel_rfl) (fun _ _ _ h => h) (Or.inr ⟨by rfl, rfl⟩) hS ?_
              simp only [Act.put, List.setIfInBounds_toArray, List.set_cons_zero, List.set_cons_succ]
              refine wpAnyH_take' 21 (some 141) undef rfl rfl (by kernel_rfl) (by kernel_rfl) (by kernel_rfl) (fun _ _ _ h => h) (Or.inr ⟨by rfl, rfl⟩) hS ?_
              simp only [Act.put, List.setIfInBounds_toArray, List.set_cons_zero, List.set_cons_succ]
              refine wpAnyH_take' 22 (some 142) undef rfl rfl (by kernel_rfl) (by kernel_rfl) (by kernel_rfl) (fun _ _ _ h => h) (Or.inr ⟨by rfl, rfl⟩) hS ?_
              simp only [Act.put, List.setIfInBounds_toArray, List.set_cons_zero, List.set_cons_succ]
              refine wpAnyH_take' 23 (some 143) undef rfl rfl (by kernel_rfl) (by kernel_rfl) (by kernel_rfl) (fun _ _ _ h => h) (Or.inr ⟨by rfl, rfl⟩) hS ?_
              simp only [Act.put, List.setIfInBounds_toArray, List.set_cons_zero, List.set_cons_succ]
              refine wpAnyH_take' 24 (some 144) (.bool true) rfl rfl (by kernel_rfl) (by kernel_rfl) (by kernel_rfl) (fun _ _ _ h => h) (Or.inl ⟨by rfl, fun w' hS => by go_simp⟩) hS ?_
              simp only [Act.put, List.setIfInBounds_toArray, List.set_cons_zero, List.set_cons_succ]
              refine wpAnyH_take' 25 (some 145) (.bool true) rfl rfl (by kernel_rfl) (by kernel_rfl) (by kernel_rfl) (fun _ _ _ h => h) (Or.inl ⟨by rfl, fun w' hS => by go_simp⟩) hS ?_
              simp only [Act.put, List.setIfInBounds_toArray, List.set_cons_zero, List.set_cons_succ]
              refine wpAnyH_take' 26 (some 4) (.bool true) rfl rfl (by kernel_rfl) (by kernel_rfl) (by kernel_rfl) (fun _ _ _ h => h) (Or.inl ⟨by rfl, fun w' hS => by go_simp⟩) hS ?_
              simp only [Act.put, List.setIfInBounds_toArray, List.set_cons_zero, List.set_cons_succ]
              refine wpAnyH_done (by kernel_rfl) ?_ _
              clear hS
              go_wp2
              go_ret
              exact ⟨rfl, HB01.out.trans (HB10.out.mono HZ01.out)⟩
            · cases hal
          · clear k41 k42 h5
            rcases h9 with k38 | ⟨b9, hal, -⟩
            · clear h6 h7 h8 k18 k35 hkb x0 x1 x2 x3
              have HB9 : Hid (Below B W1 w9) := HB8.out.trans (B9.mono HZ8.out)
              have HZ9 : Hid (B ≤ w9.heap.size) := (by have := HB9.out.size; rw [HDS.out.2.2] at this; exact this)
              clear B9 B7 B8 B6 B5
              refine wp_region_held_drew (S := fun _ => True) (by kernel_rfl) trivial (fun hS => ?_)
              refine wpAnyH_take' 0 (some 120) (.int .i64 0) rfl rfl (by kernel_rfl) (by kernel_rfl) (by kernel_rfl) (fun _ _ _ h => h) (Or.inl ⟨by rfl, fun w' hS => by go_simp⟩) hS ?_
              simp only [Act.put, List.setIfInBounds_toArray, List.set_cons_zero, List.set_cons_succ]
              refine wpAnyH_take' 1 (some 121) (.bool true) rfl rfl (by kernel_rfl) (by kernel_rfl) (by kernel_rfl) (fun _ _ _ h => h) (Or.inl ⟨by rfl, fun w' hS => by go_simp⟩) hS ?_
              simp only [Act.put, List.setIfInBounds_toArray, List.set_cons_zero, List.set_cons_succ]
              refine wpAnyH_take' 2 (some 122) (.bool true) rfl rfl (by kernel_rfl) (by kernel_rfl) (by kernel_rfl) (fun _ _ _ h => h) (Or.inl ⟨by rfl, fun w' hS => by go_simp⟩) hS ?_
              simp only [Act.put, List.setIfInBounds_toArray, List.set_cons_zero, List.set_cons_succ]
              refine wpAnyH_take' 3 (some 123) (.pointer (some ⟨q, 0, none⟩)) rfl rfl (by kernel_rfl) (by kernel_rfl) (by kernel_rfl) (fun _ _ _ h => h) (Or.inl ⟨by rfl, fun w' hS => by go_simp⟩) hS ?_
              simp only [Act.put, List.setIfInBounds_toArray, List.set_cons_zero, List.set_cons_succ]
              refine wpAnyH_take' 4 (some 124) (.slice ua9 n uc9) rfl rfl (by kernel_rfl) (by kernel_rfl) (by kernel_rfl) (fun _ _ _ h => h) (Or.inl ⟨by rfl, fun w' hS => by go_simp⟩) hS ?_
              simp only [Act.put, List.setIfInBounds_toArray, List.set_cons_zero, List.set_cons_succ]
              refine wpAnyH_ready (rs := [5]) (by kernel_rfl) (by simp) (AllReadyH.cons rfl (fun K2 hK2 => ?_) AllReadyH.nil)
              go_simp
              refine (k38 _ (Below.refl _ _).drew).mono ?_
              rintro e' w10 ⟨rfl, B10⟩
              refine hK2.out _ _ trivial (fun hS => ?_)
              clear hK2 K2
              try simp only [Act.put, List.setIfInBounds_toArray, List.set_cons_zero, List.set_cons_succ]
              have HB10 : Hid (Below B W1 w10) := HB9.out.trans (((Below.refl _ _).drew.trans B10).mono HZ9.out)
              clear B10
              refine wpAnyH_take' 6 (some 126) (.bool true) rfl rfl (by kernel_rfl) (by kernel_rfl) (by kernel_rfl) (fun _ _ _ h => h) (Or.inl ⟨by rfl, fun w' hS => by go_simp⟩) hS ?_
              simp only [Act.put, List.setIfInBounds_toArray, List.set_cons_zero, List.set_cons_succ]
              refine wpAnyH_take' 7 (some 127) undef rfl rfl (by kernel_rfl) (by kernel_rfl) (by kernel_rfl) (fun _ _ _ h => h) (Or.inr ⟨by rfl, rfl⟩) hS ?_
              simp only [Act.put, List.setIfInBounds_toArray, List.set_cons_zero, List.set_cons_succ]
              refine wpAnyH_take' 8 (some 128) undef rfl rfl (by kernel_rfl) (by kernel_rfl) (by kernel_rfl) (fun _ _ _ h => h) (Or.inr ⟨by rfl, rfl⟩) hS ?_
              simp only [Act.put, List.setIfInBounds_toArray, List.set_cons_zero, List.set_cons_succ]
              refine wpAnyH_take' 9 (some 129) undef rfl rfl (by kernel_rfl) (by kernel_rfl) (by kernel_rfl) (fun _ _ _ h => h) (Or.inr ⟨by rfl, rfl⟩) hS ?_
              simp only [Act.put, List.setIfInBounds_toArray, List.set_cons_zero, List.set_cons_succ]
              refine wpAnyH_take' 10 (some 130) undef rfl rfl (by kernel_rfl) (by kernel_rfl) (by kernel_rfl) (fun _ _ _ h => h) (Or.inr ⟨by rfl, rfl⟩) hS ?_
              simp only [Act.put, List.setIfInBounds_toArray, List.set_cons_zero, List.set_cons_succ]
              refine wpAnyH_take' 11 (some 131) undef rfl rfl (by kernel_rfl) (by kernel_rfl) (by kernel_rfl) (fun _ _ _ h => h) (Or.inr ⟨by rfl, rfl⟩) hS ?_
              simp only [Act.put, List.setIfInBounds_toArray, List.set_cons_zero, List.set_cons_succ]
              refine wpAnyH_take' 12 (some 132) undef rfl rfl (by kernel_rfl) (by kernel_rfl) (by kernel_rfl) (fun _ _ _ h => h) (Or.inr ⟨by rfl, rfl⟩) hS ?_
              simp only [Act.put, List.setIfInBounds_toArray, List.set_cons_zero, List.set_cons_succ]
              refine wpAnyH_take' 13 (some 133) undef rfl rfl (by kernel_rfl) (by kernel_rfl) (by kernel_rfl) (fun _ _ _ h => h) (Or.inr ⟨by rfl, rfl⟩) hS ?_
              simp only [Act.put, List.setIfInBounds_toArray, List.set_cons_zero, List.set_cons_succ]
              refine wpAnyH_take' 14 (some 134) undef rfl rfl (by kernel_rfl) (by kernel_rfl) (by kernel_rfl) (fun _ _ _ h => h) (Or.inr ⟨by rfl, rfl⟩) hS ?_
              simp only [Act.put, List.setIfInBounds_toArray, List.set_cons_zero, List.set_cons_succ]
              refine wpAnyH_take' 15 (some 135) undef rfl rfl (by kernel_rfl) (by kernel_rfl) (by kernel_rfl) (fun _ _ _ h => h) (Or.inr ⟨by rfl, rfl⟩) hS ?_
              simp only [Act.put, List.setIfInBounds_toArray, List.set_cons_zero, List.set_cons_succ]
              refine wpAnyH_take' 16 (some 136) undef rfl rfl (by kernel_rfl) (by kernel_rfl) (by kernel_rfl) (fun _ _ _ h => h) (Or.inr ⟨by rfl, rfl⟩) hS ?_
              simp only [Act.put, List.setIfInBounds_toArray, List.set_cons_zero, List.set_cons_succ]
              refine wpAnyH_take' 17 (some 137) undef rfl rfl (by kernel_rfl) (by kernel_rfl) (by kernel_rfl) (fun _ _ _ h => h) (Or.inr ⟨by rfl, rfl⟩) hS ?_
              simp only [Act.put, List.setIfInBounds_toArray, List.set_cons_zero, List.set_cons_succ]
              refine wpAnyH_take' 18 (some 138) undef rfl rfl (by kernel_rfl) (by kernel_rfl) (by kernel_rfl) (fun _ _ _ h => h) (Or.inr ⟨by rfl, rfl⟩) hS ?_
              simp only [Act.put, List.setIfInBounds_toArray, List.set_cons_zero, List.set_cons_succ]
              refine wpAnyH_take' 19 (some 139) undef rfl rfl (by kernel_rfl) (by kernel_rfl) (by kernel_rfl) (fun _ _ _ h => h) (Or.inr ⟨by rfl, rfl⟩) hS ?_
              simp only [Act.put, List.setIfInBounds_toArray, List.set_cons_zero, List.set_cons_succ]
              refine wpAnyH_take' 20 (some 140) undef rfl rfl (by kernel_rfl) (by kernel_rfl) (by kernel_rfl) (fun _ _ _ h => h) (Or.inr ⟨by rfl, rfl⟩) hS ?_
              simp only [Act.put, List.setIfInBounds_toArray, List.set_cons_zero, List.set_cons_succ]
              refine wpAnyH_take' 21 (some 141) undef rfl rfl (by kernel_rfl) (by kernel_rfl) (by kernel_rfl) (fun _ _ _ h => h) (Or.inr ⟨by rfl, rfl⟩) hS ?_
              simp only [Act.put, List.setIfInBounds_toArray, List.set_cons_zero, List.set_cons_succ]
              refine wpAnyH_take' 22 (some 142) undef rfl rfl (by kernel_rfl) (by kernel_rfl) (by kernel_rfl) (fun _ _ _ h => h) (Or.inr ⟨by rfl, rfl⟩) hS ?_
              simp only [Act.put, List.setIfInBounds_toArray, List.set_cons_zero, List.set_cons_succ]
              refine wpAnyH_take' 23 (some 143) undef rfl rfl (by kernel_rfl) (by kernel_rfl) (by kernel_rfl) (fun _ _ _ h => h) (Or.inr ⟨by rfl, rfl⟩) hS ?_
              simp only [Act.put, List.setIfInBounds_toArray, List.set_cons_zero, List.set_cons_succ]
              refine wpAnyH_take' 24 (some 144) (.bool true) rfl rfl (by kernel_rfl) (by kernel_rfl) (by kernel_rfl) (fun _ _ _ h => h) (Or.inl ⟨by rfl, fun w' hS => by go_simp⟩) hS ?_
              simp only [Act.put, List.setIfInBounds_toArray, List.set_cons_zero, List.set_cons_succ]
              refine wpAnyH_take' 25 (some 145) (.bool true) rfl rfl (by kernel_rfl) (by kernel_rfl) (by kernel_rfl) (fun _ _ _ h => h) (Or.inl ⟨by rfl, fun w' hS => by go_simp⟩) hS ?_
              simp only [Act.put, List.setIfInBounds_toArray, List.set_cons_zero, List.set_cons_succ]
              refine wpAnyH_take' 26 (some 4) (.bool true) rfl rfl (by kernel_rfl) (by kernel_rfl) (by kernel_rfl) (fun _ _ _ h => h) (Or.inl ⟨by rfl, fun w' hS => by go_simp⟩) hS ?_
              simp only [Act.put, List.setIfInBounds_toArray, List.set_cons_zero, List.set_cons_succ]
              refine wpAnyH_done (by kernel_rfl) ?_ _
              clear hS
              go_wp2
              go_ret
              exact ⟨rfl, HB01.out.trans (HB10.out.mono HZ01.out)⟩
            · cases hal
          · clear k41 k42 h5
            rcases h9 with k38 | ⟨b9, hal, -⟩
            · clear h6 h7 h8 k18 k35 hkb x0 x1 x2 x3
              have HB9 : Hid (Below B W1 w9) := HB8.out.trans (B9.mono HZ8.out)
              have HZ9 : Hid (B ≤ w9.heap.size) := (by have := HB9.out.size; rw [HDS.out.2.2] at this; exact this)
              clear B9 B7 B8 B6 B5
              refine wp_region_held_drew (S := fun _ => True) (by kernel_rfl) trivial (fun hS => ?_)
              refine wpAnyH_take' 0 (some 120) (.int .i64 0) rfl rfl (by kernel_rfl) (by kernel_rfl) (by kernel_rfl) (fun _ _ _ h => h) (Or.inl ⟨by rfl, fun w' hS => by go_simp⟩) hS ?_
              simp only [Act.put, List.setIfInBounds_toArray, List.set_cons_zero, List.set_cons_succ]
              refine wpAnyH_take' 1 (some 121) (.bool true) rfl rfl (by kernel_rfl) (by kernel_rfl) (by kernel_rfl) (fun _ _ _ h => h) (Or.inl ⟨by rfl, fun w' hS => by go_simp⟩) hS ?_
              simp only [Act.put, List.setIfInBounds_toArray, List.set_cons_zero, List.set_cons_succ]
              refine wpAnyH_take' 2 (some 122) (.bool true) rfl rfl (by kernel_rfl) (by kernel_rfl) (by kernel_rfl) (fun _ _ _ h => h) (Or.inl ⟨by rfl, fun w' hS => by go_simp⟩) hS ?_
              simp only [Act.put, List.setIfInBounds_toArray, List.set_cons_zero, List.set_cons_succ]
              refine wpAnyH_take' 3 (some 123) (.pointer (some ⟨q, 0, none⟩)) rfl rfl (by kernel_rfl) (by kernel_rfl) (by kernel_rfl) (fun _ _ _ h => h) (Or.inl ⟨by rfl, fun w' hS => by go_simp⟩) hS ?_
              simp only [Act.put, List.setIfInBounds_toArray, List.set_cons_zero, List.set_cons_succ]
              refine wpAnyH_take' 4 (some 124) (.slice ua9 n uc9) rfl rfl (by kernel_rfl) (by kernel_rfl) (by kernel_rfl) (fun _ _ _ h => h) (Or.inl ⟨by rfl, fun w' hS => by go_simp⟩) hS ?_
              simp only [Act.put, List.setIfInBounds_toArray, List.set_cons_zero, List.set_cons_succ]
              refine wpAnyH_ready (rs := [5]) (by kernel_rfl) (by simp) (AllReadyH.cons rfl (fun K2 hK2 => ?_) AllReadyH.nil)
              go_simp
              refine (k38 _ (Below.refl _ _).drew).mono ?_
              rintro e' w10 ⟨rfl, B10⟩
              refine hK2.out _ _ trivial (fun hS => ?_)
              clear hK2 K2
              try simp only [Act.put, List.setIfInBounds_toArray, List.set_cons_zero, List.set_cons_succ]
              have HB10 : Hid (Below B W1 w10) := HB9.out.trans (((Below.refl _ _).drew.trans B10).mono HZ9.out)
              clear B10
              refine wpAnyH_take' 6 (some 126) (.bool true) rfl rfl (by kernel_rfl) (by kernel_rfl) (by kernel_rfl) (fun _ _ _ h => h) (Or.inl ⟨by rfl, fun w' hS => by go_simp⟩) hS ?_
              simp only [Act.put, List.setIfInBounds_toArray, List.set_cons_zero, List.set_cons_succ]
              refine wpAnyH_take' 7 (some 127) undef rfl rfl (by kernel_rfl) (by kernel_rfl) (by kernel_rfl) (fun _ _ _ h => h) (Or.inr ⟨by rfl, rfl⟩) hS ?_
              simp only [Act.put, List.setIfInBounds_toArray, List.set_cons_zero, List.set_cons_succ]
              refine wpAnyH_take' 8 (some 128) undef rfl rfl (by kernel_rfl) (by kernel_rfl) (by kernel_rfl) (fun _ _ _ h => h) (Or.inr ⟨by rfl, rfl⟩) hS ?_
              simp only [Act.put, List.setIfInBounds_toArray, List.set_cons_zero, List.set_cons_succ]
              refine wpAnyH_take' 9 (some 129) undef rfl rfl (by kernel_rfl) (by kernel_rfl) (by kernel_rfl) (fun _ _ _ h => h) (Or.inr ⟨by rfl, rfl⟩) hS ?_
              simp only [Act.put, List.setIfInBounds_toArray, List.set_cons_zero, List.set_cons_succ]
              refine wpAnyH_take' 10 (some 130) undef rfl rfl (by kernel_rfl) (by kernel_rfl) (by kernel_rfl) (fun _ _ _ h => h) (Or.inr ⟨by rfl, rfl⟩) hS ?_
              simp only [Act.put, List.setIfInBounds_toArray, List.set_cons_zero, List.set_cons_succ]
              refine wpAnyH_take' 11 (some 131) undef rfl rfl (by kernel_rfl) (by kernel_rfl) (by kernel_rfl) (fun _ _ _ h => h) (Or.inr ⟨by rfl, rfl⟩) hS ?_
              simp only [Act.put, List.setIfInBounds_toArray, List.set_cons_zero, List.set_cons_succ]
              refine wpAnyH_take' 12 (some 132) undef rfl rfl (by kernel_rfl) (by kernel_rfl) (by kernel_rfl) (fun _ _ _ h => h) (Or.inr ⟨by rfl, rfl⟩) hS ?_
              simp only [Act.put, List.setIfInBounds_toArray, List.set_cons_zero, List.set_cons_succ]
              refine wpAnyH_take' 13 (some 133) undef rfl rfl (by kernel_rfl) (by kernel_rfl) (by kernel_rfl) (fun _ _ _ h => h) (Or.inr ⟨by rfl, rfl⟩) hS ?_
              simp only [Act.put, List.setIfInBounds_toArray, List.set_cons_zero, List.set_cons_succ]
              refine wpAnyH_take' 14 (some 134) undef rfl rfl (by kernel_rfl) (by kernel_rfl) (by kernel_rfl) (fun _ _ _ h => h) (Or.inr ⟨by rfl, rfl⟩) hS ?_
              simp only [Act.put, List.setIfInBounds_toArray, List.set_cons_zero, List.set_cons_succ]
              refine wpAnyH_take' 15 (some 135) undef rfl rfl (by kernel_rfl) (by kernel_rfl) (by kernel_rfl) (fun _ _ _ h => h) (Or.inr ⟨by rfl, rfl⟩) hS ?_
              simp only [Act.put, List.setIfInBounds_toArray, List.set_cons_zero, List.set_cons_succ]
              refine wpAnyH_take' 16 (some 136) undef rfl rfl (by kernel_rfl) (by kernel_rfl) (by kernel_rfl) (fun _ _ _ h => h) (Or.inr ⟨by rfl, rfl⟩) hS ?_
              simp only [Act.put, List.setIfInBounds_toArray, List.set_cons_zero, List.set_cons_succ]
              refine wpAnyH_take' 17 (some 137) undef rfl rfl (by kernel_rfl) (by kernel_rfl) (by kernel_rfl) (fun _ _ _ h => h) (Or.inr ⟨by rfl, rfl⟩) hS ?_
              simp only [Act.put, List.setIfInBounds_toArray, List.set_cons_zero, List.set_cons_succ]
              refine wpAnyH_take' 18 (some 138) undef rfl rfl (by kernel_rfl) (by kernel_rfl) (by kernel_rfl) (fun _ _ _ h => h) (Or.inr ⟨by rfl, rfl⟩) hS ?_
              simp only [Act.put, List.setIfInBounds_toArray, List.set_cons_zero, List.set_cons_succ]
              refine wpAnyH_take' 19 (some 139) undef rfl rfl (by kernel_rfl) (by kernel_rfl) (by kernel_rfl) (fun _ _ _ h => h) (Or.inr ⟨by rfl, rfl⟩) hS ?_
              simp only [Act.put, List.setIfInBounds_toArray, List.set_cons_zero, List.set_cons_succ]
              refine wpAnyH_take' 20 (some 140) undef rfl rfl (by kernel_rfl) (by kernel_rfl) (by kernel_rfl) (fun _ _ _ h => h) (Or.inr ⟨by rfl, rfl⟩) hS ?_
              simp only [Act.put, List.setIfInBounds_toArray, List.set_cons_zero, List.set_cons_succ]
              refine wpAnyH_take' 21 (some 141) undef rfl rfl (by kernel_rfl) (by kernel_rfl) (by kernel_rfl) (fun _ _ _ h => h) (Or.inr ⟨by rfl, rfl⟩) hS ?_
              simp only [Act.put, List.setIfInBounds_toArray, List.set_cons_zero, List.set_cons_succ]
              refine wpAnyH_take' 22 (some 142) undef rfl rfl (by kernel_rfl) (by kernel_rfl) (by kernel_rfl) (fun _ _ _ h => h) (Or.inr ⟨by rfl, rfl⟩) hS ?_
              simp only [Act.put, List.setIfInBounds_toArray, List.set_cons_zero, List.set_cons_succ]
              refine wpAnyH_take' 23 (some 143) undef rfl rfl (by kernel_rfl) (by kernel_rfl) (by kernel_rfl) (fun _ _ _ h => h) (Or.inr ⟨by rfl, rfl⟩) hS ?_
              simp only [Act.put, List.setIfInBounds_toArray, List.set_cons_zero, List.set_cons_succ]
              refine wpAnyH_take' 24 (some 144) (.bool true) rfl rfl (by kernel_rfl) (by kernel_rfl) (by kernel_rfl) (fun _ _ _ h => h) (Or.inl ⟨by rfl, fun w' hS => by go_simp⟩) hS ?_
              simp only [Act.put, List.setIfInBounds_toArray, List.set_cons_zero, List.set_cons_succ]
              refine wpAnyH_take' 25 (some 145) (.bool true) rfl rfl (by kernel_rfl) (by kernel_rfl) (by kernel_rfl) (fun _ _ _ h => h) (Or.inl ⟨by rfl, fun w' hS => by go_simp⟩) hS ?_
              simp only [Act.put, List.setIfInBounds_toArray, List.set_cons_zero, List.set_cons_succ]
              refine wpAnyH_take' 26 (some 4) (.bool true) rfl rfl (by kernel_rfl) (by kernel_rfl) (by kernel_rfl) (fun _ _ _ h => h) (Or.inl ⟨by rfl, fun w' hS => by go_simp⟩) hS ?_
              simp only [Act.put, List.setIfInBounds_toArray, List.set_cons_zero, List.set_cons_succ]
              refine wpAnyH_done (by kernel_rfl) ?_ _
              clear hS
              go_wp2
              go_ret
              exact ⟨rfl, HB01.out.trans (HB10.out.mono HZ01.out)⟩
            · cases hal
      · skip
        have b1 : ¬ (i : Int) < (nl : Int) := by omega
        have b3 : decide ((i : Int) < (nl : Int)) = false := decide_eq_false b1
        have b4 : decide (i < nl) = false := decide_eq_false hln
        go_wp2_with (go_at_call 39; (refine k39.mono ?_; rintro e w2 ⟨rfl, A2, K2, B2⟩))
        have K4 : Kept (q :: H) wr w2.drew := K2
        have A4 := A2.below (Below.refl _ w2).drew
        have B4 : Below B wr w2.drew := B2.trans (Below.refl _ _).drew
        have HS4 : Hid (∀ W, Below w2.drew.heap.size w2.drew W → W.cell? ⟨q, 0, none⟩ = some (.slice sa nS sc) ∧ W.cell? ⟨q, 1, none⟩ = some (.slice ma nM mc)) := fun W k => ⟨((HST.out _ K4).below k).cell 0, ((HST.out _ K4).below k).cell 1⟩
        refine wp_region_L (fun W2 => W2.cell? ⟨q, 0, none⟩ = some (.slice sa nS sc) ∧ W2.cell? ⟨q, 1, none⟩ = some (.slice ma nM mc)) 14 (by kernel_rfl) ?_
        generalize w2.drew = w4 at *
        have HS0 := HS4.out _ (Below.refl _ w4)
        refine wpAnyL_take 0 (some 57) (.pointer (some ⟨q, 0, none⟩)) rfl rfl (by kernel_rfl) (by kernel_rfl) (by kernel_rfl) (by kernel_rfl) (fun _ _ _ h => h) (Or.inl ⟨by rfl, fun w2 hw2 => by obtain ⟨s0, s1⟩ := hw2; go_simp⟩) HS0 ?_
        simp only [Act.put, List.setIfInBounds_toArray, List.set_cons_zero, List.set_cons_succ]
        refine wpAnyL_take 2 (some 59) (.pointer (some ⟨q, 0, none⟩)) rfl rfl (by kernel_rfl) (by kernel_rfl) (by kernel_rfl) (by kernel_rfl) (fun _ _ _ h => h) (Or.inl ⟨by rfl, fun w2 hw2 => by obtain ⟨s0, s1⟩ := hw2; go_simp⟩) HS0 ?_
        simp only [Act.put, List.setIfInBounds_toArray, List.set_cons_zero, List.set_cons_succ]
        refine wpAnyL_take 3 (some 60) (.pointer (some ⟨q, 0, none⟩)) rfl rfl (by kernel_rfl) (by kernel_rfl) (by kernel_rfl) (by kernel_rfl) (fun _ _ _ h => h) (Or.inl ⟨by rfl, fun w2 hw2 => by obtain ⟨s0, s1⟩ := hw2; go_simp⟩) HS0 ?_
        simp only [Act.put, List.setIfInBounds_toArray, List.set_cons_zero, List.set_cons_succ]
        refine wpAnyL_take 4 (some 61) (.pointer (some ⟨q, 0, none⟩)) rfl rfl (by kernel_rfl) (by kernel_rfl) (by kernel_rfl) (by kernel_rfl) (fun _ _ _ h => h) (Or.inl ⟨by rfl, fun w2 hw2 => by obtain ⟨s0, s1⟩ := hw2; go_simp⟩) HS0 ?_
        simp only [Act.put, List.setIfInBounds_toArray, List.set_cons_zero, List.set_cons_succ]
        refine wpAnyL_take 5 (some 62) (.slice sa nS sc) rfl rfl (by kernel_rfl) (by kernel_rfl) (by kernel_rfl) (by kernel_rfl) (fun _ _ _ h => h) (Or.inl ⟨by rfl, fun w2 hw2 => by obtain ⟨s0, s1⟩ := hw2; go_simp⟩) HS0 ?_
        simp only [Act.put, List.setIfInBounds_toArray, List.set_cons_zero, List.set_cons_succ]
        refine wpAnyL_take 7 (some 64) (.pointer (some ⟨q, 0, none⟩)) rfl rfl (by kernel_rfl) (by kernel_rfl) (by kernel_rfl) (by kernel_rfl) (fun _ _ _ h => h) (Or.inl ⟨by rfl, fun w2 hw2 => by obtain ⟨s0, s1⟩ := hw2; go_simp⟩) HS0 ?_
        simp only [Act.put, List.setIfInBounds_toArray, List.set_cons_zero, List.set_cons_succ]
        refine wpAnyL_take 8 (some 65) (.pointer (some ⟨q, 0, none⟩)) rfl rfl (by kernel_rfl) (by kernel_rfl) (by kernel_rfl) (by kernel_rfl) (fun _ _ _ h => h) (Or.inl ⟨by rfl, fun w2 hw2 => by obtain ⟨s0, s1⟩ := hw2; go_simp⟩) HS0 ?_
        simp only [Act.put, List.setIfInBounds_toArray, List.set_cons_zero, List.set_cons_succ]
        refine wpAnyL_take 9 (some 66) (.pointer (some ⟨q, 1, none⟩)) rfl rfl (by kernel_rfl) (by kernel_rfl) (by kernel_rfl) (by kernel_rfl) (fun _ _ _ h => h) (Or.inl ⟨by rfl, fun w2 hw2 => by obtain ⟨s0, s1⟩ := hw2; go_simp⟩) HS0 ?_
        simp only [Act.put, List.setIfInBounds_toArray, List.set_cons_zero, List.set_cons_succ]
        refine wpAnyL_take 10 (some 67) (.slice ma nM mc) rfl rfl (by kernel_rfl) (by kernel_rfl) (by kernel_rfl) (by kernel_rfl) (fun _ _ _ h => h) (Or.inl ⟨by rfl, fun w2 hw2 => by obtain ⟨s0, s1⟩ := hw2; go_simp⟩) HS0 ?_
        simp only [Act.put, List.setIfInBounds_toArray, List.set_cons_zero, List.set_cons_succ]
        refine wpAnyL_ready (rs := [1]) (by kernel_rfl) (by simp) (AllReadyL.cons rfl (fun K hK => ?_) AllReadyL.nil)
        go_simp
        refine hK.out _ _ (fun _ => HS4.out _ (al w4 (.cells #[] 33))) ?_
        clear hK K
        try simp only [Act.put, List.setIfInBounds_toArray, List.set_cons_zero, List.set_cons_succ]
        obtain ⟨u5, w5, hr5, hu5, hg5⟩ := run_app (ru_emptyE EV 33 (w := w4)) ((HSV.out _ K4).1.below (al w4 (.cells #[] 33))) (by simp; have := HVL.out; omega) (by simp)
        rw [List.nil_append] at hu5
        have B5 : Below w4.heap.size w4 w5 := (al w4 _).trans (grown_below (ru_emptyE EV 33 (w := w4)) hg5 (by simp))
        obtain ⟨u6, w6, hr6, hu6, hg6⟩ := run_app hu5 ((HSV.out _ K4).2.below B5) (by have := HVL.out; omega) B5.size
        have B6 : Below w4.heap.size w4 w6 := B5.trans (grown_below hu5 hg6 B5.size)
        refine wpAnyL_ready (rs := [6]) (by kernel_rfl) (by simp) (AllReadyL.cons rfl (fun K hK => ?_) AllReadyL.nil)
        refine step_append_run rfl (.tmp 58) (.tmp 62) 62 rfl (.slice (some ⟨w4.heap.size, 0, none⟩) 0 0) (.slice sa nS sc) rfl rfl u5 w5 (by exact hr5) ?_
        refine hK.out _ _ (fun _ => HS4.out _ B5) ?_
        clear hK K
        try simp only [Act.put, List.setIfInBounds_toArray]
        refine wpAnyL_ready (rs := [11]) (by kernel_rfl) (by simp) (AllReadyL.cons rfl (fun K hK => ?_) AllReadyL.nil)
        refine step_append_run rfl (.tmp 63) (.tmp 67) 62 rfl u5 (.slice ma nM mc) rfl rfl u6 w6 (by exact hr6) ?_
        refine hK.out _ _ (fun _ => HS4.out _ B6) ?_
        clear hK K
        try simp only [Act.put]
        obtain ⟨ad, n6, c6, rfl, h61, h62⟩ := ru_addr hu6
        have HS6 := HS4.out _ B6
        have HF := HFIN.out w4 w6 ad n6 c6 A4 K4 B4 B6 hu6.read h61 h62 _ rfl
        have b6 := (HST.out _ K4).below B6
        have y0 := b6.cell 0
        have z0 := b6.frozen 0
        have b7 := b6.set (o := 0) (.slice (some ad) n6 c6)
        have y1 := b7.cell 1
        have z1 := b7.frozen 1
        simp only [List.getElem?_cons_zero, List.getElem?_cons_succ, List.set_cons_zero] at y0 y1
        clear hu5 hu6 hg5 hg6 hr5 hr6 B5 B6 b6 b7 A4 K4 B4 A2 K2 B2
        refine wpAnyL_ready (rs := [12]) (by kernel_rfl) (by simp) (AllReadyL.cons rfl (fun K hK => ?_) AllReadyL.nil)
        go_simp
        refine hK.out _ _ (fun _ => HS6) ?_
        clear hK K
        try simp only [Act.put, List.setIfInBounds_toArray, List.set_cons_zero, List.set_cons_succ]
        refine wpAnyL_ready (rs := [13]) (by kernel_rfl) (by simp) (AllReadyL.cons rfl (fun K hK => ?_) AllReadyL.nil)
        go_simp
        refine hK.out _ _ (fun _ => HS6) ?_
        clear hK K
        try simp only [Act.put, List.setIfInBounds_toArray, List.set_cons_zero, List.set_cons_succ]
        refine wpAnyL_ready (rs := [14]) (by kernel_rfl) (by simp) (AllReadyL.cons rfl (fun K hK => ?_) AllReadyL.nil)
        go_simp
        refine hK.out _ _ (fun h => absurd rfl h) ?_
        clear hK K
        refine wpAnyL_done (by kernel_rfl) ?_ _
        have H7 : Hid (Sc B ((w6.setCell ⟨q, 0, none⟩ (.slice (some ad) n6 c6)).setCell ⟨q, 1, none⟩ (.slice none 0 0)) d s x q E SM ∧ Below B wr ((w6.setCell ⟨q, 0, none⟩ (.slice (some ad) n6 c6)).setCell ⟨q, 1, none⟩ (.slice none 0 0))) := HF
        have HBV : Hid (Below B W1 ((w6.setCell ⟨q, 0, none⟩ (.slice (some ad) n6 c6)).setCell ⟨q, 1, none⟩ (.slice none 0 0))) := HBW.out.trans HF.2
        obtain ⟨x0, x1, x2, x3⟩ := HX.out _ HBV.out
        clear HF HS6 HS0 HS4 HSV HST HVL HFIN k39
        by_cases hx2 : xk = 2
        · subst hx2
          go_wp2_with (first
            | (go_at_call 23; (refine Calls.mono (H7.out.1.cut (n := m8 % 9) (by omega)) ?_; rintro e w5 ⟨rfl, h5, B5⟩; have HB5 : Hid (Below B W1 w5) := HBV.out.trans B5; obtain ⟨x0, x1, x2, x3⟩ := HX.out _ HB5.out; have k41 := h5.switch hE (HBT.out _ HB5.out) hm4; have k42 := h5.append hE (HBT.out _ HB5.out) hm4))
            | (go_at_call 40; (refine (k40 _).mono ?_; rintro e w8 ⟨rfl, h8⟩; replace h8 := h8.symm; subst h8))
            | (go_at_call 41; (refine Calls.mono k41 ?_; rintro e w6 ⟨⟨f6, rfl⟩, B6, h6⟩; have HB6 : Hid (Below B W1 w6) := HB5.out.trans B6))
            | (go_at_call 39; (refine Calls.mono h6.flush ?_; rintro e w7 ⟨⟨f7, rfl⟩, B7, h7⟩; have HB7 : Hid (Below B W1 w7) := HB6.out.trans B7; obtain ⟨x0, x1, x2, x3⟩ := HX.out _ HB7.out; have hkb := kb_of_inkC HKT.out HB7.out))
            | (go_at_call 37; (refine (k37 _).mono ?_; rintro e w8 ⟨rfl, h8⟩; replace h8 := h8.symm; subst h8; have k18 := h7.crash hkb (ink_lowC HKT.out)))
            | (go_at_call 18; (refine k18.mono ?_; rintro e w8 ⟨rfl, h8, B8⟩; have HB8 : Hid (Below B W1 w8) := HB7.out.trans B8; have HZ8 : Hid (B ≤ w8.heap.size) := (by have := HB8.out.size; rw [HDS.out.2.2] at this; exact this); have k35 := h8.opens))
            | (go_at_call 35; (refine k35.mono ?_; rintro e w9 ⟨x9, ua9, n, uc9, rfl, B9, h9⟩)))
          clear k41 k42 h5
          rcases h9 with k38 | ⟨b9, hal, hn9, hr9, k38⟩
          · clear h6 h7 h8 k18 k35 hkb x0 x1 x2 x3
            have HB9 : Hid (Below B W1 w9) := HB8.out.trans (B9.mono HZ8.out)
            have HZ9 : Hid (B ≤ w9.heap.size) := (by have := HB9.out.size; rw [HDS.out.2.2] at this; exact this)
            clear B9 B7 B8 B6 B5
            refine wp_region_held_drew (S := fun _ => True) (by kernel_rfl) trivial (fun hS => ?_)
            refine wpAnyH_take' 0 (some 120) (.int .i64 0) rfl rfl (by kernel_rfl) (by kernel_rfl) (by kernel_rfl) (fun _ _ _ h => h) (Or.inl ⟨by rfl, fun w' hS => by go_simp⟩) hS ?_
            simp only [Act.put, List.setIfInBounds_toArray, List.set_cons_zero, List.set_cons_succ]
            refine wpAnyH_take' 1 (some 121) (.bool true) rfl rfl (by kernel_rfl) (by kernel_rfl) (by kernel_rfl) (fun _ _ _ h => h) (Or.inl ⟨by rfl, fun w' hS => by go_simp⟩) hS ?_
            simp only [Act.put, List.setIfInBounds_toArray, List.set_cons_zero, List.set_cons_succ]
            refine wpAnyH_take' 2 (some 122) (.bool true) rfl rfl (by kernel_rfl) (by kernel_rfl) (by kernel_rfl) (fun _ _ _ h => h) (Or.inl ⟨by rfl, fun w' hS => by go_simp⟩) hS ?_
            simp only [Act.put, List.setIfInBounds_toArray, List.set_cons_zero, List.set_cons_succ]
            refine wpAnyH_take' 3 (some 123) (.pointer (some ⟨q, 0, none⟩)) rfl rfl (by kernel_rfl) (by kernel_rfl) (by kernel_rfl) (fun _ _ _ h => h) (Or.inl ⟨by rfl, fun w' hS => by go_simp⟩) hS ?_
            simp only [Act.put, List.setIfInBounds_toArray, List.set_cons_zero, List.set_cons_succ]
            refine wpAnyH_take' 4 (some 124) (.slice ua9 n uc9) rfl rfl (by kernel_rfl) (by kernel_rfl) (by kernel_rfl) (fun _ _ _ h => h) (Or.inl ⟨by rfl, fun w' hS => by go_simp⟩) hS ?_
            simp only [Act.put, List.setIfInBounds_toArray, List.set_cons_zero, List.set_cons_succ]
            refine wpAnyH_ready (rs := [5]) (by kernel_rfl) (by simp) (AllReadyH.cons rfl (fun K2 hK2 => ?_) AllReadyH.nil)
            go_simp
            refine (k38 _ (Below.refl _ _).drew).mono ?_
            rintro e' w10 ⟨rfl, B10⟩
            refine hK2.out _ _ trivial (fun hS => ?_)
            clear hK2 K2
            try simp only [Act.put, List.setIfInBounds_toArray, List.set_cons_zero, List.set_cons_succ]
            have HB10 : Hid (Below B W1 w10) := HB9.out.trans (((Below.refl _ _).drew.trans B10).mono HZ9.out)
            clear B10
            refine wpAnyH_take' 6 (some 126) (.bool true) rfl rfl (by kernel_rfl) (by kernel_rfl) (by kernel_rfl) (fun _ _ _ h => h) (Or.inl ⟨by rfl, fun w' hS => by go_simp⟩) hS ?_
            simp only [Act.put, List.setIfInBounds_toArray, List.set_cons_zero, List.set_cons_succ]
            refine wpAnyH_take' 7 (some 127) undef rfl rfl (by kernel_rfl) (by kernel_rfl) (by kernel_rfl) (fun _ _ _ h => h) (Or.inr ⟨by rfl, rfl⟩) hS ?_
            simp only [Act.put, List.setIfInBounds_toArray, List.set_cons_zero, List.set_cons_succ]
            refine wpAnyH_take' 8 (some 128) undef rfl rfl (by kernel_rfl) (by kernel_rfl) (by kernel_rfl) (fun _ _ _ h => h) (Or.inr ⟨by rfl, rfl⟩) hS ?_
            simp only [Act.put, List.setIfInBounds_toArray, List.set_cons_zero, List.set_cons_succ]
            refine wpAnyH_take' 9 (some 129) undef rfl rfl (by kernel_rfl) (by kernel_rfl) (by kernel_rfl) (fun _ _ _ h => h) (Or.inr ⟨by rfl, rfl⟩) hS ?_
            simp only [Act.put, List.setIfInBounds_toArray, List.set_cons_zero, List.set_cons_succ]
            refine wpAnyH_take' 10 (some 130) undef rfl rfl (by kernel_rfl) (by kernel_rfl) (by kernel_rfl) (fun _ _ _ h => h) (Or.inr ⟨by rfl, rfl⟩) hS ?_
            simp only [Act.put, List.setIfInBounds_toArray, List.set_cons_zero, List.set_cons_succ]
            refine wpAnyH_take' 11 (some 131) undef rfl rfl (by kernel_rfl) (by kernel_rfl) (by kernel_rfl) (fun _ _ _ h => h) (Or.inr ⟨by rfl, rfl⟩) hS ?_
            simp only [Act.put, List.setIfInBounds_toArray, List.set_cons_zero, List.set_cons_succ]
            refine wpAnyH_take' 12 (some 132) undef rfl rfl (by kernel_rfl) (by kernel_rfl) (by kernel_rfl) (fun _ _ _ h => h) (Or.inr ⟨by rfl, rfl⟩) hS ?_
            simp only [Act.put, List.setIfInBounds_toArray, List.set_cons_zero, List.set_cons_succ]
            refine wpAnyH_take' 13 (some 133) undef rfl rfl (by kernel_rfl) (by kernel_rfl) (by kernel_rfl) (fun _ _ _ h => h) (Or.inr ⟨by rfl, rfl⟩) hS ?_
            simp only [Act.put, List.setIfInBounds_toArray, List.set_cons_zero, List.set_cons_succ]
            refine wpAnyH_take' 14 (some 134) undef rfl rfl (by kernel_rfl) (by kernel_rfl) (by kernel_rfl) (fun _ _ _ h => h) (Or.inr ⟨by rfl, rfl⟩) hS ?_
            simp only [Act.put, List.setIfInBounds_toArray, List.set_cons_zero, List.set_cons_succ]
            refine wpAnyH_take' 15 (some 135) undef rfl rfl (by kernel_rfl) (by kernel_rfl) (by kernel_rfl) (fun _ _ _ h => h) (Or.inr ⟨by rfl, rfl⟩) hS ?_
            simp only [Act.put, List.setIfInBounds_toArray, List.set_cons_zero, List.set_cons_succ]
            refine wpAnyH_take' 16 (some 136) undef rfl rfl (by kernel_rfl) (by kernel_rfl) (by kernel_rfl) (fun _ _ _ h => h) (Or.inr ⟨by rfl, rfl⟩) hS ?_
            simp only [Act.put, List.setIfInBounds_toArray, List.set_cons_zero, List.set_cons_succ]
            refine wpAnyH_take' 17 (some 137) undef rfl rfl (by kernel_rfl) (by kernel_rfl) (by kernel_rfl) (fun _ _ _ h => h) (Or.inr ⟨by rfl, rfl⟩) hS ?_
            simp only [Act.put, List.setIfInBounds_toArray, List.set_cons_zero, List.set_cons_succ]
            refine wpAnyH_take' 18 (some 138) undef rfl rfl (by kernel_rfl) (by kernel_rfl) (by kernel_rfl) (fun _ _ _ h => h) (Or.inr ⟨by rfl, rfl⟩) hS ?_
            simp only [Act.put, List.setIfInBounds_toArray, List.set_cons_zero, List.set_cons_succ]
            refine wpAnyH_take' 19 (some 139) undef rfl rfl (by kernel_rfl) (by kernel_rfl) (by kernel_rfl) (fun _ _ _ h => h) (Or.inr ⟨by rfl, rfl⟩) hS ?_
            simp only [Act.put, List.setIfInBounds_toArray, List.set_cons_zero, List.set_cons_succ]
            refine wpAnyH_take' 20 (some 140) undef rfl rfl (by kernel_rfl) (by kernel_rfl) (by kernel_rfl) (fun _ _ _ h => h) (Or.inr ⟨by rfl, rfl⟩) hS ?_
            simp only [Act.put, List.setIfInBounds_toArray, List.set_cons_zero, List.set_cons_succ]
            refine wpAnyH_take' 21 (some 141) undef rfl rfl (by kernel_rfl) (by kernel_rfl) (by kernel_rfl) (fun _ _ _ h => h) (Or.inr ⟨by rfl, rfl⟩) hS ?_
            simp only [Act.put, List.setIfInBounds_toArray, List.set_cons_zero, List.set_cons_succ]
            refine wpAnyH_take' 22 (some 142) undef rfl rfl (by kernel_rfl) (by kernel_rfl) (by kernel_rfl) (fun _ _ _ h => h) (Or.inr ⟨by rfl, rfl⟩) hS ?_
            simp only [Act.put, List.setIfInBounds_toArray, List.set_cons_zero, List.set_cons_succ]
            refine wpAnyH_take' 23 (some 143) undef rfl rfl (by kernel_rfl) (by kernel_rfl) (by kernel_rfl) (fun _ _ _ h => h) (Or.inr ⟨by rfl, rfl⟩) hS ?_
            simp only [Act.put, List.setIfInBounds_toArray, List.set_cons_zero, List.set_cons_succ]
            refine wpAnyH_take' 24 (some 144) (.bool true) rfl rfl (by kernel_rfl) (by kernel_rfl) (by kernel_rfl) (fun _ _ _ h => h) (Or.inl ⟨by rfl, fun w' hS => by go_simp⟩) hS ?_
            simp only [Act.put, List.setIfInBounds_toArray, List.set_cons_zero, List.set_cons_succ]
            refine wpAnyH_take' 25 (some 145) (.bool true) rfl rfl (by kernel_rfl) (by kernel_rfl) (by kernel_rfl) (fun _ _ _ h => h) (Or.inl ⟨by rfl, fun w' hS => by go_simp⟩) hS ?_
            simp only [Act.put, List.setIfInBounds_toArray, List.set_cons_zero, List.set_cons_succ]
            refine wpAnyH_take' 26 (some 4) (.bool true) rfl rfl (by kernel_rfl) (by kernel_rfl) (by kernel_rfl) (fun _ _ _ h => h) (Or.inl ⟨by rfl, fun w' hS => by go_simp⟩) hS ?_
            simp only [Act.put, List.setIfInBounds_toArray, List.set_cons_zero, List.set_cons_succ]
            refine wpAnyH_done (by kernel_rfl) ?_ _
            clear hS
            go_wp2
            go_ret
            exact ⟨rfl, HB01.out.trans (HB10.out.mono HZ01.out)⟩
          · cases hal
            subst hn9
            clear h6 h7 h8 k18 k35 hkb x0 x1 x2 x3
            have HB9 : Hid (Below B W1 w9) := HB8.out.trans (B9.mono HZ8.out)
            have HZ9 : Hid (B ≤ w9.heap.size) := (by have := HB9.out.size; rw [HDS.out.2.2] at this; exact this)
            obtain ⟨gr, or, p1, k1, q1, rfl, hc9, hl9⟩ := hr9.at (i := 0) (b := bs) rfl
            rw [Nat.add_zero] at hc9
            have hlb := lv_of_in (HBT.out w9 HB9.out)
            have HS9 : Hid (∀ W, Below w9.heap.size w9 W → W.cell? ⟨p0, 0, none⟩ = some (.int .i64 2) ∧ W.cell? ⟨gr, or, none⟩ = some (.slice p1 k1 q1) ∧ LV EB W (.slice p1 k1 q1) bs ∧ LV EB W (.slice ab m cb) bs) := fun W k => ⟨(HX.out W (HB9.out.trans (k.mono HZ9.out))).1, (k.cell (World.block_lt_of_cell? _ _ hc9)).trans hc9, hl9.below k, hlb.below k⟩
            have hcv1 : ∀ W, LV EB W (.slice p1 k1 q1) bs → (convert 33 9 (.slice p1 k1 q1)).run Try.prog W = .ok (.string (strB bs)) W := fun W h => conv_any h
            have hcv2 : ∀ W, LV EB W (.slice ab m cb) bs → (convert 33 9 (.slice ab m cb)).run Try.prog W = .ok (.string (strB bs)) W := fun W h => conv_any h
            generalize strB bs = sA at *
            clear hr9 hc9 hl9 hlb B9 B7 B8 B6 B5
            refine wp_region_held_drew (S := fun W => W.cell? ⟨p0, 0, none⟩ = some (.int .i64 2) ∧ W.cell? ⟨gr, or, none⟩ = some (.slice p1 k1 q1) ∧ LV EB W (.slice p1 k1 q1) bs ∧ LV EB W (.slice ab m cb) bs) (by kernel_rfl) (HS9.out _ (Below.refl _ _).drew) (fun hS => ?_)
            refine wpAnyH_take' 0 (some 120) (.int .i64 0) rfl rfl (by kernel_rfl) (by kernel_rfl) (by kernel_rfl) (fun _ _ _ h => h) (Or.inl ⟨by rfl, fun w' hS => by obtain ⟨s0, s1, s2, s3⟩ := hS; go_simp⟩) hS ?_
            simp only [Act.put, List.setIfInBounds_toArray, List.set_cons_zero, List.set_cons_succ]
            refine wpAnyH_take' 1 (some 121) (.bool true) rfl rfl (by kernel_rfl) (by kernel_rfl) (by kernel_rfl) (fun _ _ _ h => h) (Or.inl ⟨by rfl, fun w' hS => by obtain ⟨s0, s1, s2, s3⟩ := hS; go_simp⟩) hS ?_
            simp only [Act.put, List.setIfInBounds_toArray, List.set_cons_zero, List.set_cons_succ]
            refine wpAnyH_take' 2 (some 122) (.bool true) rfl rfl (by kernel_rfl) (by kernel_rfl) (by kernel_rfl) (fun _ _ _ h => h) (Or.inl ⟨by rfl, fun w' hS => by obtain ⟨s0, s1, s2, s3⟩ := hS; go_simp⟩) hS ?_
            simp only [Act.put, List.setIfInBounds_toArray, List.set_cons_zero, List.set_cons_succ]
            refine wpAnyH_take' 3 (some 123) (.pointer (some ⟨q, 0, none⟩)) rfl rfl (by kernel_rfl) (by kernel_rfl) (by kernel_rfl) (fun _ _ _ h => h) (Or.inl ⟨by rfl, fun w' hS => by obtain ⟨s0, s1, s2, s3⟩ := hS; go_simp⟩) hS ?_
            simp only [Act.put, List.setIfInBounds_toArray, List.set_cons_zero, List.set_cons_succ]
            refine wpAnyH_take' 4 (some 124) (.slice (some ⟨gr, or, none⟩) 1 uc9) rfl rfl (by kernel_rfl) (by kernel_rfl) (by kernel_rfl) (fun _ _ _ h => h) (Or.inl ⟨by rfl, fun w' hS => by obtain ⟨s0, s1, s2, s3⟩ := hS; go_simp⟩) hS ?_
            simp only [Act.put, List.setIfInBounds_toArray, List.set_cons_zero, List.set_cons_succ]
            refine wpAnyH_ready (rs := [5]) (by kernel_rfl) (by simp) (AllReadyH.cons rfl (fun K2 hK2 => ?_) AllReadyH.nil)
            go_simp
            refine (k38 _ (Below.refl _ _).drew).mono ?_
            rintro e' w10 ⟨⟨tt, rfl⟩, B10⟩
            refine hK2.out _ _ (HS9.out _ (bmore (Below.refl _ _).drew B10)) (fun hS => ?_)
            clear hK2 K2
            try simp only [Act.put, List.setIfInBounds_toArray, List.set_cons_zero, List.set_cons_succ]
            have HB10 : Hid (Below B W1 w10) := HB9.out.trans (((Below.refl _ _).drew.trans B10).mono HZ9.out)
            clear B10
            cases tt with
            | true =>
              refine wpAnyH_take' 6 (some 126) (.bool true) rfl rfl (by kernel_rfl) (by kernel_rfl) (by kernel_rfl) (fun _ _ _ h => h) (Or.inl ⟨by rfl, fun w' hS => by obtain ⟨s0, s1, s2, s3⟩ := hS; go_simp⟩) hS ?_
              simp only [Act.put, List.setIfInBounds_toArray, List.set_cons_zero, List.set_cons_succ]
              refine wpAnyH_take' 7 (some 127) undef rfl rfl (by kernel_rfl) (by kernel_rfl) (by kernel_rfl) (fun _ _ _ h => h) (Or.inr ⟨by rfl, rfl⟩) hS ?_
              simp only [Act.put, List.setIfInBounds_toArray, List.set_cons_zero, List.set_cons_succ]
              refine wpAnyH_take' 8 (some 128) undef rfl rfl (by kernel_rfl) (by kernel_rfl) (by kernel_rfl) (fun _ _ _ h => h) (Or.inr ⟨by rfl, rfl⟩) hS ?_
              simp only [Act.put, List.setIfInBounds_toArray, List.set_cons_zero, List.set_cons_succ]
              refine wpAnyH_take' 9 (some 129) undef rfl rfl (by kernel_rfl) (by kernel_rfl) (by kernel_rfl) (fun _ _ _ h => h) (Or.inr ⟨by rfl, rfl⟩) hS ?_
              simp only [Act.put, List.setIfInBounds_toArray, List.set_cons_zero, List.set_cons_succ]
              refine wpAnyH_take' 10 (some 130) undef rfl rfl (by kernel_rfl) (by kernel_rfl) (by kernel_rfl) (fun _ _ _ h => h) (Or.inr ⟨by rfl, rfl⟩) hS ?_
              simp only [Act.put, List.setIfInBounds_toArray, List.set_cons_zero, List.set_cons_succ]
              refine wpAnyH_take' 11 (some 131) undef rfl rfl (by kernel_rfl) (by kernel_rfl) (by kernel_rfl) (fun _ _ _ h => h) (Or.inr ⟨by rfl, rfl⟩) hS ?_
              simp only [Act.put, List.setIfInBounds_toArray, List.set_cons_zero, List.set_cons_succ]
              refine wpAnyH_take' 12 (some 132) undef rfl rfl (by kernel_rfl) (by kernel_rfl) (by kernel_rfl) (fun _ _ _ h => h) (Or.inr ⟨by rfl, rfl⟩) hS ?_
              simp only [Act.put, List.setIfInBounds_toArray, List.set_cons_zero, List.set_cons_succ]
              refine wpAnyH_take' 13 (some 133) undef rfl rfl (by kernel_rfl) (by kernel_rfl) (by kernel_rfl) (fun _ _ _ h => h) (Or.inr ⟨by rfl, rfl⟩) hS ?_
              simp only [Act.put, List.setIfInBounds_toArray, List.set_cons_zero, List.set_cons_succ]
              refine wpAnyH_take' 14 (some 134) undef rfl rfl (by kernel_rfl) (by kernel_rfl) (by kernel_rfl) (fun _ _ _ h => h) (Or.inr ⟨by rfl, rfl⟩) hS ?_
              simp only [Act.put, List.setIfInBounds_toArray, List.set_cons_zero, List.set_cons_succ]
              refine wpAnyH_take' 15 (some 135) undef rfl rfl (by kernel_rfl) (by kernel_rfl) (by kernel_rfl) (fun _ _ _ h => h) (Or.inr ⟨by rfl, rfl⟩) hS ?_
              simp only [Act.put, List.setIfInBounds_toArray, List.set_cons_zero, List.set_cons_succ]
              refine wpAnyH_take' 16 (some 136) undef rfl rfl (by kernel_rfl) (by kernel_rfl) (by kernel_rfl) (fun _ _ _ h => h) (Or.inr ⟨by rfl, rfl⟩) hS ?_
              simp only [Act.put, List.setIfInBounds_toArray, List.set_cons_zero, List.set_cons_succ]
              refine wpAnyH_take' 17 (some 137) undef rfl rfl (by kernel_rfl) (by kernel_rfl) (by kernel_rfl) (fun _ _ _ h => h) (Or.inr ⟨by rfl, rfl⟩) hS ?_
              simp only [Act.put, List.setIfInBounds_toArray, List.set_cons_zero, List.set_cons_succ]
              refine wpAnyH_take' 18 (some 138) undef rfl rfl (by kernel_rfl) (by kernel_rfl) (by kernel_rfl) (fun _ _ _ h => h) (Or.inr ⟨by rfl, rfl⟩) hS ?_
              simp only [Act.put, List.setIfInBounds_toArray, List.set_cons_zero, List.set_cons_succ]
              refine wpAnyH_take' 19 (some 139) undef rfl rfl (by kernel_rfl) (by kernel_rfl) (by kernel_rfl) (fun _ _ _ h => h) (Or.inr ⟨by rfl, rfl⟩) hS ?_
              simp only [Act.put, List.setIfInBounds_toArray, List.set_cons_zero, List.set_cons_succ]
              refine wpAnyH_take' 20 (some 140) undef rfl rfl (by kernel_rfl) (by kernel_rfl) (by kernel_rfl) (fun _ _ _ h => h) (Or.inr ⟨by rfl, rfl⟩) hS ?_
              simp only [Act.put, List.setIfInBounds_toArray, List.set_cons_zero, List.set_cons_succ]
              refine wpAnyH_take' 21 (some 141) undef rfl rfl (by kernel_rfl) (by kernel_rfl) (by kernel_rfl) (fun _ _ _ h => h) (Or.inr ⟨by rfl, rfl⟩) hS ?_
              simp only [Act.put, List.setIfInBounds_toArray, List.set_cons_zero, List.set_cons_succ]
              refine wpAnyH_take' 22 (some 142) undef rfl rfl (by kernel_rfl) (by kernel_rfl) (by kernel_rfl) (fun _ _ _ h => h) (Or.inr ⟨by rfl, rfl⟩) hS ?_
              simp only [Act.put, List.setIfInBounds_toArray, List.set_cons_zero, List.set_cons_succ]
              refine wpAnyH_take' 23 (some 143) undef rfl rfl (by kernel_rfl) (by kernel_rfl) (by kernel_rfl) (fun _ _ _ h => h) (Or.inr ⟨by rfl, rfl⟩) hS ?_
              simp only [Act.put, List.setIfInBounds_toArray, List.set_cons_zero, List.set_cons_succ]
              refine wpAnyH_take' 24 (some 144) (.bool true) rfl rfl (by kernel_rfl) (by kernel_rfl) (by kernel_rfl) (fun _ _ _ h => h) (Or.inl ⟨by rfl, fun w' hS => by obtain ⟨s0, s1, s2, s3⟩ := hS; go_simp⟩) hS ?_
              simp only [Act.put, List.setIfInBounds_toArray, List.set_cons_zero, List.set_cons_succ]
              refine wpAnyH_take' 25 (some 145) (.bool true) rfl rfl (by kernel_rfl) (by kernel_rfl) (by kernel_rfl) (fun _ _ _ h => h) (Or.inl ⟨by rfl, fun w' hS => by obtain ⟨s0, s1, s2, s3⟩ := hS; go_simp⟩) hS ?_
              simp only [Act.put, List.setIfInBounds_toArray, List.set_cons_zero, List.set_cons_succ]
              refine wpAnyH_take' 26 (some 4) (.bool true) rfl rfl (by kernel_rfl) (by kernel_rfl) (by kernel_rfl) (fun _ _ _ h => h) (Or.inl ⟨by rfl, fun w' hS => by obtain ⟨s0, s1, s2, s3⟩ := hS; go_simp⟩) hS ?_
              simp only [Act.put, List.setIfInBounds_toArray, List.set_cons_zero, List.set_cons_succ]
              refine wpAnyH_done (by kernel_rfl) ?_ _
              clear hS
              go_wp2
              go_ret
              exact ⟨rfl, HB01.out.trans (HB10.out.mono HZ01.out)⟩
            | false =>
              refine wpAnyH_take' 6 (some 126) (.bool false) rfl rfl (by kernel_rfl) (by kernel_rfl) (by kernel_rfl) (fun _ _ _ h => h) (Or.inl ⟨by rfl, fun w' hS => by obtain ⟨s0, s1, s2, s3⟩ := hS; go_simp⟩) hS ?_
              simp only [Act.put, List.setIfInBounds_toArray, List.set_cons_zero, List.set_cons_succ]
              refine wpAnyH_take' 7 (some 127) (.pointer (some ⟨p0, 0, none⟩)) rfl rfl (by kernel_rfl) (by kernel_rfl) (by kernel_rfl) (fun _ _ _ h => h) (Or.inl ⟨by rfl, fun w' hS => by obtain ⟨s0, s1, s2, s3⟩ := hS; go_simp⟩) hS ?_
              simp only [Act.put, List.setIfInBounds_toArray, List.set_cons_zero, List.set_cons_succ]
              refine wpAnyH_take' 8 (some 128) (.int .i64 2) rfl rfl (by kernel_rfl) (by kernel_rfl) (by kernel_rfl) (fun _ _ _ h => h) (Or.inl ⟨by rfl, fun w' hS => by obtain ⟨s0, s1, s2, s3⟩ := hS; go_simp⟩) hS ?_
              simp only [Act.put, List.setIfInBounds_toArray, List.set_cons_zero, List.set_cons_succ]
              refine wpAnyH_take' 9 (some 129) (.bool true) rfl rfl (by kernel_rfl) (by kernel_rfl) (by kernel_rfl) (fun _ _ _ h => h) (Or.inl ⟨by rfl, fun w' hS => by obtain ⟨s0, s1, s2, s3⟩ := hS; go_simp⟩) hS ?_
              simp only [Act.put, List.setIfInBounds_toArray, List.set_cons_zero, List.set_cons_succ]
              refine wpAnyH_take' 10 (some 130) (.bool true) rfl rfl (by kernel_rfl) (by kernel_rfl) (by kernel_rfl) (fun _ _ _ h => h) (Or.inl ⟨by rfl, fun w' hS => by obtain ⟨s0, s1, s2, s3⟩ := hS; go_simp⟩) hS ?_
              simp only [Act.put, List.setIfInBounds_toArray, List.set_cons_zero, List.set_cons_succ]
              refine wpAnyH_take' 11 (some 131) (.slice (some ⟨gr, or, none⟩) 1 uc9) rfl rfl (by kernel_rfl) (by kernel_rfl) (by kernel_rfl) (fun _ _ _ h => h) (Or.inl ⟨by rfl, fun w' hS => by obtain ⟨s0, s1, s2, s3⟩ := hS; go_simp⟩) hS ?_
              simp only [Act.put, List.setIfInBounds_toArray, List.set_cons_zero, List.set_cons_succ]
              refine wpAnyH_take' 12 (some 132) (.int .i64 1) rfl rfl (by kernel_rfl) (by kernel_rfl) (by kernel_rfl) (fun _ _ _ h => h) (Or.inl ⟨by rfl, fun w' hS => by obtain ⟨s0, s1, s2, s3⟩ := hS; go_simp⟩) hS ?_
              simp only [Act.put, List.setIfInBounds_toArray, List.set_cons_zero, List.set_cons_succ]
              refine wpAnyH_take' 13 (some 133) (.bool true) rfl rfl (by kernel_rfl) (by kernel_rfl) (by kernel_rfl) (fun _ _ _ h => h) (Or.inl ⟨by rfl, fun w' hS => by obtain ⟨s0, s1, s2, s3⟩ := hS; go_simp⟩) hS ?_
              simp only [Act.put, List.setIfInBounds_toArray, List.set_cons_zero, List.set_cons_succ]
              refine wpAnyH_take' 14 (some 134) (.bool true) rfl rfl (by kernel_rfl) (by kernel_rfl) (by kernel_rfl) (fun _ _ _ h => h) (Or.inl ⟨by rfl, fun w' hS => by obtain ⟨s0, s1, s2, s3⟩ := hS; go_simp⟩) hS ?_
              simp only [Act.put, List.setIfInBounds_toArray, List.set_cons_zero, List.set_cons_succ]
              refine wpAnyH_take' 15 (some 135) (.bool true) rfl rfl (by kernel_rfl) (by kernel_rfl) (by kernel_rfl) (fun _ _ _ h => h) (Or.inl ⟨by rfl, fun w' hS => by obtain ⟨s0, s1, s2, s3⟩ := hS; go_simp⟩) hS ?_
              simp only [Act.put, List.setIfInBounds_toArray, List.set_cons_zero, List.set_cons_succ]
              refine wpAnyH_take' 16 (some 136) (.slice (some ⟨gr, or, none⟩) 1 uc9) rfl rfl (by kernel_rfl) (by kernel_rfl) (by kernel_rfl) (fun _ _ _ h => h) (Or.inl ⟨by rfl, fun w' hS => by obtain ⟨s0, s1, s2, s3⟩ := hS; go_simp⟩) hS ?_
              simp only [Act.put, List.setIfInBounds_toArray, List.set_cons_zero, List.set_cons_succ]
              refine wpAnyH_take' 17 (some 137) (.pointer (some ⟨gr, or, none⟩)) rfl rfl (by kernel_rfl) (by kernel_rfl) (by kernel_rfl) (fun _ _ _ h => h) (Or.inl ⟨by rfl, fun w' hS => by obtain ⟨s0, s1, s2, s3⟩ := hS; go_simp⟩) hS ?_
              simp only [Act.put, List.setIfInBounds_toArray, List.set_cons_zero, List.set_cons_succ]
              refine wpAnyH_take' 18 (some 138) (.slice p1 k1 q1) rfl rfl (by kernel_rfl) (by kernel_rfl) (by kernel_rfl) (fun _ _ _ h => h) (Or.inl ⟨by rfl, fun w' hS => by obtain ⟨s0, s1, s2, s3⟩ := hS; go_simp⟩) hS ?_
              simp only [Act.put, List.setIfInBounds_toArray, List.set_cons_zero, List.set_cons_succ]
              refine wpAnyH_take' 19 (some 139) (.string sA) rfl rfl (by kernel_rfl) (by kernel_rfl) (by kernel_rfl) (fun _ _ _ h => h) (Or.inl ⟨by rfl, fun w' hS => by obtain ⟨s0, s1, s2, s3⟩ := hS; have hcv := hcv1 _ s2; go_simp⟩) hS ?_
              simp only [Act.put, List.setIfInBounds_toArray, List.set_cons_zero, List.set_cons_succ]
              refine wpAnyH_take' 20 (some 140) (.slice ab m cb) rfl rfl (by kernel_rfl) (by kernel_rfl) (by kernel_rfl) (fun _ _ _ h => h) (Or.inl ⟨by rfl, fun w' hS => by obtain ⟨s0, s1, s2, s3⟩ := hS; go_simp⟩) hS ?_
              simp only [Act.put, List.setIfInBounds_toArray, List.set_cons_zero, List.set_cons_succ]
              refine wpAnyH_take' 21 (some 141) (.string sA) rfl rfl (by kernel_rfl) (by kernel_rfl) (by kernel_rfl) (fun _ _ _ h => h) (Or.inl ⟨by rfl, fun w' hS => by obtain ⟨s0, s1, s2, s3⟩ := hS; have hcv := hcv2 _ s3; go_simp⟩) hS ?_
              simp only [Act.put, List.setIfInBounds_toArray, List.set_cons_zero, List.set_cons_succ]
              refine wpAnyH_take' 22 (some 142) (.bool true) rfl rfl (by kernel_rfl) (by kernel_rfl) (by kernel_rfl) (fun _ _ _ h => h) (Or.inl ⟨by rfl, fun w' hS => by obtain ⟨s0, s1, s2, s3⟩ := hS; go_simp⟩) hS ?_
              simp only [Act.put, List.setIfInBounds_toArray, List.set_cons_zero, List.set_cons_succ]
              refine wpAnyH_take' 23 (some 143) (.bool true) rfl rfl (by kernel_rfl) (by kernel_rfl) (by kernel_rfl) (fun _ _ _ h => h) (Or.inl ⟨by rfl, fun w' hS => by obtain ⟨s0, s1, s2, s3⟩ := hS; go_simp⟩) hS ?_
              simp only [Act.put, List.setIfInBounds_toArray, List.set_cons_zero, List.set_cons_succ]
              refine wpAnyH_take' 24 (some 144) (.bool true) rfl rfl (by kernel_rfl) (by kernel_rfl) (by kernel_rfl) (fun _ _ _ h => h) (Or.inl ⟨by rfl, fun w' hS => by obtain ⟨s0, s1, s2, s3⟩ := hS; go_simp⟩) hS ?_
              simp only [Act.put, List.setIfInBounds_toArray, List.set_cons_zero, List.set_cons_succ]
              refine wpAnyH_take' 25 (some 145) (.bool true) rfl rfl (by kernel_rfl) (by kernel_rfl) (by kernel_rfl) (fun _ _ _ h => h) (Or.inl ⟨by rfl, fun w' hS => by obtain ⟨s0, s1, s2, s3⟩ := hS; go_simp⟩) hS ?_
              simp only [Act.put, List.setIfInBounds_toArray, List.set_cons_zero, List.set_cons_succ]
              refine wpAnyH_take' 26 (some 4) (.bool true) rfl rfl (by kernel_rfl) (by kernel_rfl) (by kernel_rfl) (fun _ _ _ h => h) (Or.inl ⟨by rfl, fun w' hS => by obtain ⟨s0, s1, s2, s3⟩ := hS; go_simp⟩) hS ?_
              simp only [Act.put, List.setIfInBounds_toArray, List.set_cons_zero, List.set_cons_succ]
              refine wpAnyH_done (by kernel_rfl) ?_ _
              clear hS hcv1 hcv2
              go_wp2
              go_ret
              exact ⟨rfl, HB01.out.trans (HB10.out.mono HZ01.out)⟩
        · have hx3 : (xk == 2) = false := by simpa using hx2
          go_wp2_with (first
            | (go_at_call 23; (refine Calls.mono (H7.out.1.cut (n := m8 % 9) (by omega)) ?_; rintro e w5 ⟨rfl, h5, B5⟩; have HB5 : Hid (Below B W1 w5) := HBV.out.trans B5; obtain ⟨x0, x1, x2, x3⟩ := HX.out _ HB5.out; have k41 := h5.switch hE (HBT.out _ HB5.out) hm4; have k42 := h5.append hE (HBT.out _ HB5.out) hm4))
            | (go_at_call 40; (refine (k40 _).mono ?_; rintro e w8 ⟨rfl, h8⟩; replace h8 := h8.symm; subst h8))
            | (go_at_call 42; (refine Calls.mono k42 ?_; rintro e w6 ⟨n6', f6, rfl, B6, (⟨rfl | rfl, h6⟩ | ⟨rfl | rfl, h6⟩)⟩ <;> (obtain ⟨mv6, hmv⟩ := h6.cell1; obtain ⟨y1, z1⟩ := hmv _ (al w6 (.cells #[.slice ab m cb] 33)); have HB6 : Hid (Below B W1 w6) := HB5.out.trans B6)))
            | (go_at_call 39; first | ((with_reducible refine Calls.mono h6.flush ?_); rintro e w7 ⟨⟨f7, rfl⟩, B7, h7⟩; have HB7 : Hid (Below B W1 w7) := HB6.out.trans B7; obtain ⟨x0, x1, x2, x3⟩ := HX.out _ HB7.out; have hkb := kb_of_inkC HKT.out HB7.out) | (refine Calls.mono (h6.tell (HBT.out _ HB6.out)).1.flush ?_; rintro e w7 ⟨⟨f7, rfl⟩, B7, h7⟩; have HB7 : Hid (Below B W1 w7) := (HB6.out.trans (h6.tell (HBT.out _ HB6.out)).2).trans B7; obtain ⟨x0, x1, x2, x3⟩ := HX.out _ HB7.out; have hkb := kb_of_inkC HKT.out HB7.out))
            | (go_at_call 37; (refine (k37 _).mono ?_; rintro e w8 ⟨rfl, h8⟩; replace h8 := h8.symm; subst h8; have k18 := h7.crash hkb (ink_lowC HKT.out)))
            | (go_at_call 18; (refine k18.mono ?_; rintro e w8 ⟨rfl, h8, B8⟩; have HB8 : Hid (Below B W1 w8) := HB7.out.trans B8; have HZ8 : Hid (B ≤ w8.heap.size) := (by have := HB8.out.size; rw [HDS.out.2.2] at this; exact this); have k35 := h8.opens))
            | (go_at_call 35; (refine k35.mono ?_; rintro e w9 ⟨x9, ua9, n, uc9, rfl, B9, h9⟩)))
          · clear k41 k42 h5
            rcases h9 with k38 | ⟨b9, hal, -⟩
            · clear h6 h7 h8 k18 k35 hkb x0 x1 x2 x3
              have HB9 : Hid (Below B W1 w9) := HB8.out.trans (B9.mono HZ8.out)
              have HZ9 : Hid (B ≤ w9.heap.size) := (by have := HB9.out.size; rw [HDS.out.2.2] at this; exact this)
              clear B9 B7 B8 B6 B5
              refine wp_region_held_drew (S := fun _ => True) (by kernel_rfl) trivial (fun hS => ?_)
              refine wpAnyH_take' 0 (some 120) (.int .i64 0) rfl rfl (by kernel_rfl) (by kernel_rfl) (by kernel_rfl) (fun _ _ _ h => h) (Or.inl ⟨by rfl, fun w' hS => by go_simp⟩) hS ?_
              simp only [Act.put, List.setIfInBounds_toArray, List.set_cons_zero, List.set_cons_succ]
              refine wpAnyH_take' 1 (some 121) (.bool true) rfl rfl (by kernel_rfl) (by kernel_rfl) (by kernel_rfl) (fun _ _ _ h => h) (Or.inl ⟨by rfl, fun w' hS => by go_simp⟩) hS ?_
              simp only [Act.put, List.setIfInBounds_toArray, List.set_cons_zero, List.set_cons_succ]
              refine wpAnyH_take' 2 (some 122) (.bool true) rfl rfl (by kernel_rfl) (by kernel_rfl) (by kernel_rfl) (fun _ _ _ h => h) (Or.inl ⟨by rfl, fun w' hS => by go_simp⟩) hS ?_
              simp only [Act.put, List.setIfInBounds_toArray, List.set_cons_zero, List.set_cons_succ]
              refine wpAnyH_take' 3 (some 123) (.pointer (some ⟨q, 0, none⟩)) rfl rfl (by kernel_rfl) (by kernel_rfl) (by kernel_rfl) (fun _ _ _ h => h) (Or.inl ⟨by rfl, fun w' hS => by go_simp⟩) hS ?_
              simp only [Act.put, List.setIfInBounds_toArray, List.set_cons_zero, List.set_cons_succ]
              refine wpAnyH_take' 4 (some 124) (.slice ua9 n uc9) rfl rfl (by kernel_rfl) (by kernel_rfl) (by kernel_rfl) (fun _ _ _ h => h) (Or.inl ⟨by rfl, fun w' hS => by go_simp⟩) hS ?_
              simp only [Act.put, List.setIfInBounds_toArray, List.set_cons_zero, List.set_cons_succ]
              refine wpAnyH_ready (rs := [5]) (by kernel_rfl) (by simp) (AllReadyH.cons rfl (fun K2 hK2 => ?_) AllReadyH.nil)
              go_simp
              refine (k38 _ (Below.refl _ _).drew).mono ?_
              rintro e' w10 ⟨rfl, B10⟩
              refine hK2.out _ _ trivial (fun hS => ?_)
              clear hK2 K2
              try simp only [Act.put, List.setIfInBounds_toArray, List.set_cons_zero, List.set_cons_succ]
              have HB10 : Hid (Below B W1 w10) := HB9.out.trans (((Below.refl _ _).drew.trans B10).mono HZ9.out)
              clear B10
              refine wpAnyH_take' 6 (some 126) (.bool true) rfl rfl (by kernel_rfl) (by kernel_rfl) (by kernel_rfl) (fun _ _ _ h => h) (Or.inl ⟨by rfl, fun w' hS => by go_simp⟩) hS ?_
              simp only [Act.put, List.setIfInBounds_toArray, List.set_cons_zero, List.set_cons_succ]
              refine wpAnyH_take' 7 (some 127) undef rfl rfl (by kernel_rfl) (by kernel_rfl) (by kernel_rfl) (fun _ _ _ h => h) (Or.inr ⟨by rfl, rfl⟩) hS ?_
              simp only [Act.put, List.setIfInBounds_toArray, List.set_cons_zero, List.set_cons_succ]
              refine wpAnyH_take' 8 (some 128) undef rfl rfl (by kernel_rfl) (by kernel_rfl) (by kernel_rfl) (fun _ _ _ h => h) (Or.inr ⟨by rfl, rfl⟩) hS ?_
              simp only [Act.put, List.setIfInBounds_toArray, List.set_cons_zero, List.set_cons_succ]
              refine wpAnyH_take' 9 (some 129) undef rfl rfl (by kernel_rfl) (by kernel_rfl) (by kernel_rfl) (fun _ _ _ h => h) (Or.inr ⟨by rfl, rfl⟩) hS ?_
              simp only [Act.put, List.setIfInBounds_toArray, List.set_cons_zero, List.set_cons_succ]
              refine wpAnyH_take' 10 (some 130) undef rfl rfl (by kernel_rfl) (by kernel_rfl) (by kernel_rfl) (fun _ _ _ h => h) (Or.inr ⟨by rfl, rfl⟩) hS ?_
              simp only [Act.put, List.setIfInBounds_toArray, List.set_cons_zero, List.set_cons_succ]
              refine wpAnyH_take' 11 (some 131) undef rfl rfl (by kernel_rfl) (by kernel_rfl) (by kernel_rfl) (fun _ _ _ h => h) (Or.inr ⟨by rfl, rfl⟩) hS ?_
              simp only [Act.put, List.setIfInBounds_toArray, List.set_cons_zero, List.set_cons_succ]
              refine wpAnyH_take' 12 (some 132) undef rfl rfl (by kernel_rfl) (by kernel_rfl) (by kernel_rfl) (fun _ _ _ h => h) (Or.inr ⟨by rfl, rfl⟩) hS ?_
              simp only [Act.put, List.setIfInBounds_toArray, List.set_cons_zero, List.set_cons_succ]
              refine wpAnyH_take' 13 (some 133) undef rfl rfl (by kernel_rfl) (by kernel_rfl) (by kernel_rfl) (fun _ _ _ h => h) (Or.inr ⟨by rfl, rfl⟩) hS ?_
              simp only [Act.put, List.setIfInBounds_toArray, List.set_cons_zero, List.set_cons_succ]
              refine wpAnyH_take' 14 (some 134) undef rfl rfl (by kernel_rfl) (by kernel_rfl) (by kernel_rfl) (fun _ _ _ h => h) (Or.inr ⟨by rfl, rfl⟩) hS ?_
              simp only [Act.put, List.setIfInBounds_toArray, List.set_cons_zero, List.set_cons_succ]
              refine wpAnyH_take' 15 (some 135) undef rfl rfl (by kernel_rfl) (by kernel_rfl) (by kernel_rfl) (fun _ _ _ h => h) (Or.inr ⟨by rfl, rfl⟩) hS ?_
              simp only [Act.put, List.setIfInBounds_toArray, List.set_cons_zero, List.set_cons_succ]
              refine wpAnyH_take' 16 (some 136) undef rfl rfl (by kernel_rfl) (by kernel_rfl) (by kernel_rfl) (fun _ _ _ h => h) (Or.inr ⟨by rfl, rfl⟩) hS ?_
              simp only [Act.put, List.setIfInBounds_toArray, List.set_cons_zero, List.set_cons_succ]
              refine wpAnyH_take' 17 (some 137) undef rfl rfl (by kernel_rfl) (by kernel_rfl) (by kernel_rfl) (fun _ _ _ h => h) (Or.inr ⟨by rfl, rfl⟩) hS ?_
              simp only [Act.put, List.setIfInBounds_toArray, List.set_cons_zero, List.set_cons_succ]
              refine wpAnyH_take' 18 (some 138) undef rfl rfl (by kernel_rfl) (by kernel_rfl) (by kernel_rfl) (fun _ _ _ h => h) (Or.inr ⟨by rfl, rfl⟩) hS ?_
              simp only [Act.put, List.setIfInBounds_toArray, List.set_cons_zero, List.set_cons_succ]
              refine wpAnyH_take' 19 (some 139) undef rfl rfl (by kernel_rfl) (by kernel_rfl) (by kernel_rfl) (fun _ _ _ h => h) (Or.inr ⟨by rfl, rfl⟩) hS ?_
              simp only [Act.put, List.setIfInBounds_toArray, List.set_cons_zero, List.set_cons_succ]
              refine wpAnyH_take' 20 (some 140) undef rfl rfl (by kernel_rfl) (by kernel_rfl) (by kernel_rfl) (fun _ _ _ h => h) (Or.inr ⟨by rfl, rfl⟩) hS ?_
              simp only [Act.put, List.setIfInBounds_toArray, List.set_cons_zero, List.set_cons_succ]
              refine wpAnyH_take' 21 (some 141) undef rfl rfl (by kernel_rfl) (by kernel_rfl) (by kernel_rfl) (fun _ _ _ h => h) (Or.inr ⟨by rfl, rfl⟩) hS ?_
              simp only [Act.put, List.setIfInBounds_toArray, List.set_cons_zero, List.set_cons_succ]
              refine wpAnyH_take' 22 (some 142) undef rfl rfl (by kernel_rfl) (by kernel_rfl) (by kernel_rfl) (fun _ _ _ h => h) (Or.inr ⟨by rfl, rfl⟩) hS ?_
              simp only [Act.put, List.setIfInBounds_toArray, List.set_cons_zero, List.set_cons_succ]
              refine wpAnyH_take' 23 (some 143) undef rfl rfl (by kernel_rfl) (by kernel_rfl) (by kernel_rfl) (fun _ _ _ h => h) (Or.inr ⟨by rfl, rfl⟩) hS ?_
              simp only [Act.put, List.setIfInBounds_toArray, List.set_cons_zero, List.set_cons_succ]
              refine wpAnyH_take' 24 (some 144) (.bool true) rfl rfl (by kernel_rfl) (by kernel_rfl) (by kernel_rfl) (fun _ _ _ h => h) (Or.inl ⟨by rfl, fun w' hS => by go_simp⟩) hS ?_
              simp only [Act.put, List.setIfInBounds_toArray, List.set_cons_zero, List.set_cons_succ]
              refine wpAnyH_take' 25 (some 145) (.bool true) rfl rfl (by kernel_rfl) (by kernel_rfl) (by kernel_rfl) (fun _ _ _ h => h) (Or.inl ⟨by rfl, fun w' hS => by go_simp⟩) hS ?_
              simp only [Act.put, List.setIfInBounds_toArray, List.set_cons_zero, List.set_cons_succ]
              refine wpAnyH_take' 26 (some 4) (.bool true) rfl rfl (by kernel_rfl) (by kernel_rfl) (by kernel_rfl) (fun _ _ _ h => h) (Or.inl ⟨by rfl, fun w' hS => by go_simp⟩) hS ?_
              simp only [Act.put, List.setIfInBounds_toArray, List.set_cons_zero, List.set_cons_succ]
              refine wpAnyH_done (by kernel_rfl) ?_ _
              clear hS
              go_wp2
              go_ret
              exact ⟨rfl, HB01.out.trans (HB10.out.mono HZ01.out)⟩
            · cases hal
          · clear k41 k42 h5
            rcases h9 with k38 | ⟨b9, hal, -⟩
            · clear h6 h7 h8 k18 k35 hkb x0 x1 x2 x3
              have HB9 : Hid (Below B W1 w9) := HB8.out.trans (B9.mono HZ8.out)
              have HZ9 : Hid (B ≤ w9.heap.size) := (by have := HB9.out.size; rw [HDS.out.2.2] at this; exact this)
              clear B9 B7 B8 B6 B5
              refine wp_region_held_drew (S := fun _ => True) (by kernel_rfl) trivial (fun hS => ?_)
              refine wpAnyH_take' 0 (some 120) (.int .i64 0) rfl rfl (by kernel_rfl) (by kernel_rfl) (by kernel_rfl) (fun _ _ _ h => h) (Or.inl ⟨by rfl, fun w' hS => by go_simp⟩) hS ?_
              simp only [Act.put, List.setIfInBounds_toArray, List.set_cons_zero, List.set_cons_succ]
              refine wpAnyH_take' 1 (some 121) (.bool true) rfl rfl (by kernel_rfl) (by kernel_rfl) (by kernel_rfl) (fun _ _ _ h => h) (Or.inl ⟨by rfl, fun w' hS => by go_simp⟩) hS ?_
              simp only [Act.put, List.setIfInBounds_toArray, List.set_cons_zero, List.set_cons_succ]
              refine wpAnyH_take' 2 (some 122) (.bool true) rfl rfl (by kernel_rfl) (by kernel_rfl) (by kernel_rfl) (fun _ _ _ h => h) (Or.inl ⟨by rfl, fun w' hS => by go_simp⟩) hS ?_
              simp only [Act.put, List.setIfInBounds_toArray, List.set_cons_zero, List.set_cons_succ]
              refine wpAnyH_take' 3 (some 123) (.pointer (some ⟨q, 0, none⟩)) rfl rfl (by kernel_rfl) (by kernel_rfl) (by kernel_rfl) (fun _ _ _ h => h) (Or.inl ⟨by rfl, fun w' hS => by go_simp⟩) hS ?_
              simp only [Act.put, List.setIfInBounds_toArray, List.set_cons_zero, List.set_cons_succ]
              refine wpAnyH_take' 4 (some 124) (.slice ua9 n uc9) rfl rfl (by kernel_rfl) (by kernel_rfl) (by kernel_rfl) (fun _ _ _ h => h) (Or.inl ⟨by rfl, fun w' hS => by go_simp⟩) hS ?_
              simp only [Act.put, List.setIfInBounds_toArray, List.set_cons_zero, List.set_cons_succ]
              refine wpAnyH_ready (rs := [5]) (by kernel_rfl) (by simp) (AllReadyH.cons rfl (fun K2 hK2 => ?_) AllReadyH.nil)
              go_simp
              refine (k38 _ (Below.refl _ _).drew).mono ?_
              rintro e' w10 ⟨rfl, B10⟩
              refine hK2.out _ _ trivial (fun hS => ?_)
              clear hK2 K2
              try simp only [Act.put, List.setIfInBounds_toArray, List.set_cons_zero, List.set_cons_succ]
              have HB10 : Hid (Below B W1 w10) := HB9.out.trans (((Below.refl _ _).drew.trans B10).mono HZ9.out)
              clear B10
              refine wpAnyH_take' 6 (some 126) (.bool true) rfl rfl (by kernel_rfl) (by kernel_rfl) (by kernel_rfl) (fun _ _ _ h => h) (Or.inl ⟨by rfl, fun w' hS => by go_simp⟩) hS ?_
              simp only [Act.put, List.setIfInBounds_toArray, List.set_cons_zero, List.set_cons_succ]
              refine wpAnyH_take' 7 (some 127) undef rfl rfl (by kernel_rfl) (by kernel_rfl) (by kernel_rfl) (fun _ _ _ h => h) (Or.inr ⟨by rfl, rfl⟩) hS ?_
              simp only [Act.put, List.setIfInBounds_toArray, List.set_cons_zero, List.set_cons_succ]
              refine wpAnyH_take' 8 (some 128) undef rfl rfl (by kernel_rfl) (by kernel_rfl) (by kernel_rfl) (fun _ _ _ h => h) (Or.inr ⟨by rfl, rfl⟩) hS ?_
              simp only [Act.put, List.setIfInBounds_toArray, List.set_cons_zero, List.set_cons_succ]
              refine wpAnyH_take' 9 (some 129) undef rfl rfl (by kernel_rfl) (by kernel_rfl) (by kernel_rfl) (fun _ _ _ h => h) (Or.inr ⟨by rfl, rfl⟩) hS ?_
              simp only [Act.put, List.setIfInBounds_toArray, List.set_cons_zero, List.set_cons_succ]
              refine wpAnyH_take' 10 (some 130) undef rfl rfl (by kernel_rfl) (by kernel_rfl) (by kernel_rfl) (fun _ _ _ h => h) (Or.inr ⟨by rfl, rfl⟩) hS ?_
              simp only [Act.put, List.setIfInBounds_toArray, List.set_cons_zero, List.set_cons_succ]
              refine wpAnyH_take' 11 (some 131) undef rfl rfl (by kernel_rfl) (by kernel_rfl) (by kernel_rfl) (fun _ _ _ h => h) (Or.inr ⟨by rfl, rfl⟩) hS ?_
              simp only [Act.put, List.setIfInBounds_toArray, List.set_cons_zero, List.set_cons_succ]
              refine wpAnyH_take' 12 (some 132) undef rfl rfl (by kernel_rfl) (by kernel_rfl) (by kernel_rfl) (fun _ _ _ h => h) (Or.inr ⟨by rfl, rfl⟩) hS ?_
              simp only [Act.put, List.setIfInBounds_toArray, List.set_cons_zero, List.set_cons_succ]
              refine wpAnyH_take' 13 (some 133) undef rfl rfl (by kernel_rfl) (by kernel_rfl) (by kernel_rfl) (fun _ _ _ h => h) (Or.inr ⟨by rfl, rfl⟩) hS ?_
              simp only [Act.put, List.setIfInBounds_toArray, List.set_cons_zero, List.set_cons_succ]
              refine wpAnyH_take' 14 (some 134) undef rfl rfl (by kernel_rfl) (by kernel_rfl) (by kernel_rfl) (fun _ _ _ h => h) (Or.inr ⟨by rfl, rfl⟩) hS ?_
              simp only [Act.put, List.setIfInBounds_toArray, List.set_cons_zero, List.set_cons_succ]
              refine wpAnyH_take' 15 (some 135) undef rfl rfl (by kernel_rfl) (by kernel_rfl) (by kernel_rfl) (fun _ _ _ h => h) (Or.inr ⟨by rfl, rfl⟩) hS ?_
              simp only [Act.put, List.setIfInBounds_toArray, List.set_cons_zero, List.set_cons_succ]
              refine wpAnyH_take' 16 (some 136) undef rfl rfl (by kernel_rfl) (by kernel_rfl) (by kernel_rfl) (fun _ _ _ h => h) (Or.inr ⟨by rfl, rfl⟩) hS ?_
              simp only [Act.put, List.setIfInBounds_toArray, List.set_cons_zero, List.set_cons_succ]
              refine wpAnyH_take' 17 (some 137) undef rfl rfl (by kernel_rfl) (by kernel_rfl) (by kernel_rfl) (fun _ _ _ h => h) (Or.inr ⟨by rfl, rfl⟩) hS ?_
              simp only [Act.put, List.setIfInBounds_toArray, List.set_cons_zero, List.set_cons_succ]
              refine wpAnyH_take' 18 (some 138) undef rfl rfl (by kernel_rfl) (by kernel_rfl) (by kernel_rfl) (fun _ _ _ h => h) (Or.inr ⟨by rfl, rfl⟩) hS ?_
              simp only [Act.put, List.setIfInBounds_toArray, List.set_cons_zero, List.set_cons_succ]
              refine wpAnyH_take' 19 (some 139) undef rfl rfl (by kernel_rfl) (by kernel_rfl) (by kernel_rfl) (fun _ _ _ h => h) (Or.inr ⟨by rfl, rfl⟩) hS ?_
              simp only [Act.put, List.setIfInBounds_toArray, List.set_cons_zero, List.set_cons_succ]
              refine wpAnyH_take' 20 (some 140) undef rfl rfl (by kernel_rfl) (by kernel_rfl) (by kernel_rfl) (fun _ _ _ h => h) (Or.inr ⟨by rfl, rfl⟩) hS ?_
              simp only [Act.put, List.setIfInBounds_toArray, List.set_cons_zero, List.set_cons_succ]
              refine wpAnyH_take' 21 (some 141) undef rfl rfl (by kernel_rfl) (by kernel_rfl) (by kernel_rfl) (fun _ _ _ h => h) (Or.inr ⟨by rfl, rfl⟩) hS ?_
              simp only [Act.put, List.setIfInBounds_toArray, List.set_cons_zero, List.set_cons_succ]
              refine wpAnyH_take' 22 (some 142) undef rfl rfl (by kernel_rfl) (by kernel_rfl) (by kernel_rfl) (fun _ _ _ h => h) (Or.inr ⟨by rfl, rfl⟩) hS ?_
              simp only [Act.put, List.setIfInBounds_toArray, List.set_cons_zero, List.set_cons_succ]
              refine wpAnyH_take' 23 (some 143) undef rfl rfl (by kernel_rfl) (by kernel_rfl) (by kernel_rfl) (fun _ _ _ h => h) (Or.inr ⟨by rfl, rfl⟩) hS ?_
              simp only [Act.put, List.setIfInBounds_toArray, List.set_cons_zero, List.set_cons_succ]
              refine wpAnyH_take' 24 (some 144) (.bool true) rfl rfl (by kernel_rfl) (by kernel_rfl) (by kernel_rfl) (fun _ _ _ h => h) (Or.inl ⟨by rfl, fun w' hS => by go_simp⟩) hS ?_
              simp only [Act.put, List.setIfInBounds_toArray, List.set_cons_zero, List.set_cons_succ]
              refine wpAnyH_take' 25 (some 145) (.bool true) rfl rfl (by kernel_rfl) (by kernel_rfl) (by kernel_rfl) (fun _ _ _ h => h) (Or.inl ⟨by rfl, fun w' hS => by go_simp⟩) hS ?_
              simp only [Act.put, List.setIfInBounds_toArray, List.set_cons_zero, List.set_cons_succ]
              refine wpAnyH_take' 26 (some 4) (.bool true) rfl rfl (by kernel_rfl) (by kernel_rfl) (by kernel_rfl) (fun _ _ _ h => h) (Or.inl ⟨by rfl, fun w' hS => by go_simp⟩) hS ?_
              simp only [Act.put, List.setIfInBounds_toArray, List.set_cons_zero, List.set_cons_succ]
              refine wpAnyH_done (by kernel_rfl) ?_ _
              clear hS
              go_wp2
              go_ret
              exact ⟨rfl, HB01.out.trans (HB10.out.mono HZ01.out)⟩
            · cases hal
          · clear k41 k42 h5
            rcases h9 with k38 | ⟨b9, hal, -⟩
            · clear h6 h7 h8 k18 k35 hkb x0 x1 x2 x3
              have HB9 : Hid (Below B W1 w9) := HB8.out.trans (B9.mono HZ8.out)
              have HZ9 : Hid (B ≤ w9.heap.size) := (by have := HB9.out.size; rw [HDS.out.2.2] at this; exact this)
              clear B9 B7 B8 B6 B5
              refine wp_region_held_drew (S := fun _ => True) (by kernel_rfl) trivial (fun hS => ?_)
              refine wpAnyH_take' 0 (some 120) (.int .i64 0) rfl rfl (by kernel_rfl) (by kernel_rfl) (by kernel_rfl) (fun _ _ _ h => h) (Or.inl ⟨by rfl, fun w' hS => by go_simp⟩) hS ?_
              simp only [Act.put, List.setIfInBounds_toArray, List.set_cons_zero, List.set_cons_succ]
              refine wpAnyH_take' 1 (some 121) (.bool true) rfl rfl (by kernel_rfl) (by kernel_rfl) (by kernel_rfl) (fun _ _ _ h => h) (Or.inl ⟨by rfl, fun w' hS => by go_simp⟩) hS ?_
              simp only [Act.put, List.setIfInBounds_toArray, List.set_cons_zero, List.set_cons_succ]
              refine wpAnyH_take' 2 (some 122) (.bool true) rfl rfl (by kernel_rfl) (by kernel_rfl) (by kernel_rfl) (fun _ _ _ h => h) (Or.inl ⟨by rfl, fun w' hS => by go_simp⟩) hS ?_
              simp only [Act.put, List.setIfInBounds_toArray, List.set_cons_zero, List.set_cons_succ]
              refine wpAnyH_take' 3 (some 123) (.pointer (some ⟨q, 0, none⟩)) rfl rfl (by kernel_rfl) (by kernel_rfl) (by kernel_rfl) (fun _ _ _ h => h) (Or.inl ⟨by rfl, fun w' hS => by go_simp⟩) hS ?_
              simp only [Act.put, List.setIfInBounds_toArray, List.set_cons_zero, List.set_cons_succ]
              refine wpAnyH_take' 4 (some 124) (.slice ua9 n uc9) rfl rfl (by kernel_rfl) (by kernel_rfl) (by kernel_rfl) (fun _ _ _ h => h) (Or.inl ⟨by rfl, fun w' hS => by go_simp⟩) hS ?_
              simp only [Act.put, List.setIfInBounds_toArray, List.set_cons_zero, List.set_cons_succ]
              refine wpAnyH_ready (rs := [5]) (by kernel_rfl) (by simp) (AllReadyH.cons rfl (fun K2 hK2 => ?_) AllReadyH.nil)
              go_simp
              refine (k38 _ (Below.refl _ _).drew).mono ?_
              rintro e' w10 ⟨rfl, B10⟩
              refine hK2.out _ _ trivial (fun hS => ?_)
              clear hK2 K2
              try simp only [Act.put, List.setIfInBounds_toArray, List.set_cons_zero, List.set_cons_succ]
              have HB10 : Hid (Below B W1 w10) := HB9.out.trans (((Below.refl _ _).drew.trans B10).mono HZ9.out)
              clear B10
              refine wpAnyH_take' 6 (some 126) (.bool true) rfl rfl (by kernel_rfl) (by kernel_rfl) (by kernel_rfl) (fun _ _ _ h => h) (Or.inl ⟨by rfl, fun w' hS => by go_simp⟩) hS ?_
              simp only [Act.put, List.setIfInBounds_toArray, List.set_cons_zero, List.set_cons_succ]
              refine wpAnyH_take' 7 (some 127) undef rfl rfl (by kernel_rfl) (by kernel_rfl) (by kernel_rfl) (fun _ _ _ h => h) (Or.inr ⟨by rfl, rfl⟩) hS ?_
              simp only [Act.put, List.setIfInBounds_toArray, List.set_cons_zero, List.set_cons_succ]
              refine wpAnyH_take' 8 (some 128) undef rfl rfl (by kernel_rfl) (by kernel_rfl) (by kernel_rfl) (fun _ _ _ h => h) (Or.inr ⟨by rfl, rfl⟩) hS ?_
              simp only [Act.put, List.setIfInBounds_toArray, List.set_cons_zero, List.set_cons_succ]
              refine wpAnyH_take' 9 (some 129) undef rfl rfl (by kernel_rfl) (by kernel_rfl) (by kernel_rfl) (fun _ _ _ h => h) (Or.inr ⟨by rfl, rfl⟩) hS ?_
              simp only [Act.put, List.setIfInBounds_toArray, List.set_cons_zero, List.set_cons_succ]
              refine wpAnyH_take' 10 (some 130) undef rfl rfl (by kernel_rfl) (by kernel_rfl) (by kernel_rfl) (fun _ _ _ h => h) (Or.inr ⟨by rfl, rfl⟩) hS ?_
              simp only [Act.put, List.setIfInBounds_toArray, List.set_cons_zero, List.set_cons_succ]
              refine wpAnyH_take' 11 (some 131) undef rfl rfl (by kernel_rfl) (by kernel_rfl) (by kernel_rfl) (fun _ _ _ h => h) (Or.inr ⟨by rfl, rfl⟩) hS ?_
              simp only [Act.put, List.setIfInBounds_toArray, List.set_cons_zero, List.set_cons_succ]
              refine wpAnyH_take' 12 (some 132) undef rfl rfl (by kernel_rfl) (by kernel_rfl) (by kernel_rfl) (fun _ _ _ h => h) (Or.inr ⟨by rfl, rfl⟩) hS ?_
              simp only [Act.put, List.setIfInBounds_toArray, List.set_cons_zero, List.set_cons_succ]
              refine wpAnyH_take' 13 (some 133) undef rfl rfl (by kernel_rfl) (by kernel_rfl) (by kernel_rfl) (fun _ _ _ h => h) (Or.inr ⟨by rfl, rfl⟩) hS ?_
              simp only [Act.put, List.setIfInBounds_toArray, List.set_cons_zero, List.set_cons_succ]
              refine wpAnyH_take' 14 (some 134) undef rfl rfl (by kernel_rfl) (by kernel_rfl) (by kernel_rfl) (fun _ _ _ h => h) (Or.inr ⟨by rfl, rfl⟩) hS ?_
              simp only [Act.put, List.setIfInBounds_toArray, List.set_cons_zero, List.set_cons_succ]
              refine wpAnyH_take' 15 (some 135) undef rfl rfl (by kernel_rfl) (by kernel_rfl) (by kernel_rfl) (fun _ _ _ h => h) (Or.inr ⟨by rfl, rfl⟩) hS ?_
              simp only [Act.put, List.setIfInBounds_toArray, List.set_cons_zero, List.set_cons_succ]
              refine wpAnyH_take' 16 (some 136) undef rfl rfl (by kernel_rfl) (by kernel_rfl) (by kernel_rfl) (fun _ _ _ h => h) (Or.inr ⟨by rfl, rfl⟩) hS ?_
              simp only [Act.put, List.setIfInBounds_toArray, List.set_cons_zero, List.set_cons_succ]
              refine wpAnyH_take' 17 (some 137) undef rfl rfl (by kernel_rfl) (by kernel_rfl) (by kernel_rfl) (fun _ _ _ h => h) (Or.inr ⟨by rfl, rfl⟩) hS ?_
              simp only [Act.put, List.setIfInBounds_toArray, List.set_cons_zero, List.set_cons_succ]
              refine wpAnyH_take' 18 (some 138) undef rfl rfl (by kernel_rfl) (by kernel_rfl) (by kernel_rfl) (fun _ _ _ h => h) (Or.inr ⟨by rfl, rfl⟩) hS ?_
              simp only [Act.put, List.setIfInBounds_toArray, List.set_cons_zero, List.set_cons_succ]
              refine wpAnyH_take' 19 (some 139) undef rfl rfl (by kernel_rfl) (by kernel_rfl) (by kernel_rfl) (fun _ _ _ h => h) (Or.inr ⟨by rfl, rfl⟩) hS ?_
              simp only [Act.put, List.setIfInBounds_toArray, List.set_cons_zero, List.set_cons_succ]
              refine wpAnyH_take' 20 (some 140) undef rfl rfl (by kernel_rfl) (by kernel_rfl) (by kernel_rfl) (fun _ _ _ h => h) (Or.inr ⟨by rfl, rfl⟩) hS ?_
              simp only [Act.put, List.setIfInBounds_toArray, List.set_cons_zero, List.set_cons_succ]
              refine wpAnyH_take' 21 (some 141) undef rfl rfl (by kernel_rfl) (by kernel_rfl) (by kernel_rfl) (fun _ _ _ h => h) (Or.inr ⟨by rfl, rfl⟩) hS ?_
              simp only [Act.put, List.setIfInBounds_toArray, List.set_cons_zero, List.set_cons_succ]
              refine wpAnyH_take' 22 (some 142) undef rfl rfl (by kernel_rfl) (by kernel_rfl) (by kernel_rfl) (fun _ _ _ h => h) (Or.inr ⟨by rfl, rfl⟩) hS ?_
              simp only [Act.put, List.setIfInBounds_toArray, List.set_cons_zero, List.set_cons_succ]
              refine wpAnyH_take' 23 (some 143) undef rfl rfl (by kernel_rfl) (by kernel_rfl) (by kernel_rfl) (fun _ _ _ h => h) (Or.inr ⟨by rfl, rfl⟩) hS ?_
              simp only [Act.put, List.setIfInBounds_toArray, List.set_cons_zero, List.set_cons_succ]
              refine wpAnyH_take' 24 (some 144) (.bool true) rfl rfl (by kernel_rfl) (by kernel_rfl) (by kernel_rfl) (fun _ _ _ h => h) (Or.inl ⟨by rfl, fun w' hS => by go_simp⟩) hS ?_
              simp only [Act.put, List.setIfInBounds_toArray, List.set_cons_zero, List.set_cons_succ]
              refine wpAnyH_take' 25 (some 145) (.bool true) rfl rfl (by kernel_rfl) (by kernel_rfl) (by kernel_rfl) (fun _ _ _ h => h) (Or.inl ⟨by rfl, fun w' hS => by go_simp⟩) hS ?_
              simp only [Act.put, List.setIfInBounds_toArray, List.set_cons_zero, List.set_cons_succ]
              refine wpAnyH_take' 26 (some 4) (.bool true) rfl rfl (by kernel_rfl) (by kernel_rfl) (by kernel_rfl) (fun _ _ _ h => h) (Or.inl ⟨by rfl, fun w' hS => by go_simp⟩) hS ?_
              simp only [Act.put, List.setIfInBounds_toArray, List.set_cons_zero, List.set_cons_succ]
              refine wpAnyH_done (by kernel_rfl) ?_ _
              clear hS
              go_wp2
              go_ret
              exact ⟨rfl, HB01.out.trans (HB10.out.mono HZ01.out)⟩
            · cases hal
          · clear k41 k42 h5
            rcases h9 with k38 | ⟨b9, hal, -⟩
            · clear h6 h7 h8 k18 k35 hkb x0 x1 x2 x3
              have HB9 : Hid (Below B W1 w9) := HB8.out.trans (B9.mono HZ8.out)
              have HZ9 : Hid (B ≤ w9.heap.size) := (by have := HB9.out.size; rw [HDS.out.2.2] at this; exact this)
              clear B9 B7 B8 B6 B5
              refine wp_region_held_drew (S := fun _ => True) (by kernel_rfl) trivial (fun hS => ?_)
              refine wpAnyH_take' 0 (some 120) (.int .i64 0) rfl rfl (by kernel_rfl) (by kernel_rfl) (by kernel_rfl) (fun _ _ _ h => h) (Or.inl ⟨by rfl, fun w' hS => by go_simp⟩) hS ?_
              simp only [Act.put, List.setIfInBounds_toArray, List.set_cons_zero, List.set_cons_succ]
              refine wpAnyH_take' 1 (some 121) (.bool true) rfl rfl (by kernel_rfl) (by kernel_rfl) (by kernel_rfl) (fun _ _ _ h => h) (Or.inl ⟨by rfl, fun w' hS => by go_simp⟩) hS ?_
              simp only [Act.put, List.setIfInBounds_toArray, List.set_cons_zero, List.set_cons_succ]
              refine wpAnyH_take' 2 (some 122) (.bool true) rfl rfl (by kernel_rfl) (by kernel_rfl) (by kernel_rfl) (fun _ _ _ h => h) (Or.inl ⟨by rfl, fun w' hS => by go_simp⟩) hS ?_
              simp only [Act.put, List.setIfInBounds_toArray, List.set_cons_zero, List.set_cons_succ]
              refine wpAnyH_take' 3 (some 123) (.pointer (some ⟨q, 0, none⟩)) rfl rfl (by kernel_rfl) (by kernel_rfl) (by kernel_rfl) (fun _ _ _ h => h) (Or.inl ⟨by rfl, fun w' hS => by go_simp⟩) hS ?_
              simp only [Act.put, List.setIfInBounds_toArray, List.set_cons_zero, List.set_cons_succ]
              refine wpAnyH_take' 4 (some 124) (.slice ua9 n uc9) rfl rfl (by kernel_rfl) (by kernel_rfl) (by kernel_rfl) (fun _ _ _ h => h) (Or.inl ⟨by rfl, fun w' hS => by go_simp⟩) hS ?_
              simp only [Act.put, List.setIfInBounds_toArray, List.set_cons_zero, List.set_cons_succ]
              refine wpAnyH_ready (rs := [5]) (by kernel_rfl) (by simp) (AllReadyH.cons rfl (fun K2 hK2 => ?_) AllReadyH.nil)
              go_simp
              refine (k38 _ (Below.refl _ _).drew).mono ?_
              rintro e' w10 ⟨rfl, B10⟩
              refine hK2.out _ _ trivial (fun hS => ?_)
              clear hK2 K2
              try simp only [Act.put, List.setIfInBounds_toArray, List.set_cons_zero, List.set_cons_succ]
              have HB10 : Hid (Below B W1 w10) := HB9.out.trans (((Below.refl _ _).drew.trans B10).mono HZ9.out)
              clear B10
              refine wpAnyH_take' 6 (some 126) (.bool true) rfl rfl (by kernel_rfl) (by kernel_rfl) (by kernel_rfl) (fun _ _ _ h => h) (Or.inl ⟨by rfl, fun w' hS => by go_simp⟩) hS ?_
              simp only [Act.put, List.setIfInBounds_toArray, List.set_cons_zero, List.set_cons_succ]
              refine wpAnyH_take' 7 (some 127) undef rfl rfl (by kernel_rfl) (by kernel_rfl) (by kernel_rfl) (fun _ _ _ h => h) (Or.inr ⟨by rfl, rfl⟩) hS ?_
              simp only [Act.put, List.setIfInBounds_toArray, List.set_cons_zero, List.set_cons_succ]
              refine wpAnyH_take' 8 (some 128) undef rfl rfl (by kernel_rfl) (by kernel_rfl) (by kernel_rfl) (fun _ _ _ h => h) (Or.inr ⟨by rfl, rfl⟩) hS ?_
              simp only [Act.put, List.setIfInBounds_toArray, List.set_cons_zero, List.set_cons_succ]
              refine wpAnyH_take' 9 (some 129) undef rfl rfl (by kernel_rfl) (by kernel_rfl) (by kernel_rfl) (fun _ _ _ h => h) (Or.inr ⟨by rfl, rfl⟩) hS ?_
              simp only [Act.put, List.setIfInBounds_toArray, List.set_cons_zero, List.set_cons_succ]
              refine wpAnyH_take' 10 (some 130) undef rfl rfl (by kernel_rfl) (by kernel_rfl) (by kernel_rfl) (fun _ _ _ h => h) (Or.inr ⟨by rfl, rfl⟩) hS ?_
              simp only [Act.put, List.setIfInBounds_toArray, List.set_cons_zero, List.set_cons_succ]
              refine wpAnyH_take' 11 (some 131) undef rfl rfl (by kernel_rfl) (by kernel_rfl) (by kernel_rfl) (fun _ _ _ h => h) (Or.inr ⟨by rfl, rfl⟩) hS ?_
              simp only [Act.put, List.setIfInBounds_toArray, List.set_cons_zero, List.set_cons_succ]
              refine wpAnyH_take' 12 (some 132) undef rfl rfl (by kernel_rfl) (by kernel_rfl) (by kernel_rfl) (fun _ _ _ h => h) (Or.inr ⟨by rfl, rfl⟩) hS ?_
              simp only [Act.put, List.setIfInBounds_toArray, List.set_cons_zero, List.set_cons_succ]
              refine wpAnyH_take' 13 (some 133) undef rfl rfl (by kernel_rfl) (by kernel_rfl) (by kernel_rfl) (fun _ _ _ h => h) (Or.inr ⟨by rfl, rfl⟩) hS ?_
              simp only [Act.put, List.setIfInBounds_toArray, List.set_cons_zero, List.set_cons_succ]
              refine wpAnyH_take' 14 (some 134) undef rfl rfl (by kernel_rfl) (by kernel_rfl) (by kernel_rfl) (fun _ _ _ h => h) (Or.inr ⟨by rfl, rfl⟩) hS ?_
              simp only [Act.put, List.setIfInBounds_toArray, List.set_cons_zero, List.set_cons_succ]
              refine wpAnyH_take' 15 (some 135) undef rfl rfl (by kernel_rfl) (by kernel_rfl) (by kernel_rfl) (fun _ _ _ h => h) (Or.inr ⟨by rfl, rfl⟩) hS ?_
              simp only [Act.put, List.setIfInBounds_toArray, List.set_cons_zero, List.set_cons_succ]
              refine wpAnyH_take' 16 (some 136) undef rfl rfl (by kernel_rfl) (by kernel_rfl) (by kernel_rfl) (fun _ _ _ h => h) (Or.inr ⟨by rfl, rfl⟩) hS ?_
              simp only [Act.put, List.setIfInBounds_toArray, List.set_cons_zero, List.set_cons_succ]
              refine wpAnyH_take' 17 (some 137) undef rfl rfl (by kernel_rfl) (by kernel_rfl) (by kernel_rfl) (fun _ _ _ h => h) (Or.inr ⟨by rfl, rfl⟩) hS ?_
              simp only [Act.put, List.setIfInBounds_toArray, List.set_cons_zero, List.set_cons_succ]
              refine wpAnyH_take' 18 (some 138) undef rfl rfl (by kernel_rfl) (by kernel_rfl) (by kernel_rfl) (fun _ _ _ h => h) (Or.inr ⟨by rfl, rfl⟩) hS ?_
              simp only [Act.put, List.setIfInBounds_toArray, List.set_cons_zero, List.set_cons_succ]
              refine wpAnyH_take' 19 (some 139) undef rfl rfl (by kernel_rfl) (by kernel_rfl) (by kernel_rfl) (fun _ _ _ h => h) (Or.inr ⟨by rfl, rfl⟩) hS ?_
              simp only [Act.put, List.setIfInBounds_toArray, List.set_cons_zero, List.set_cons_succ]
              refine wpAnyH_take' 20 (some 140) undef rfl rfl (by kernel_rfl) (by kernel_rfl) (by kernel_rfl) (fun _ _ _ h => h) (Or.inr ⟨by rfl, rfl⟩) hS ?_
              simp only [Act.put, List.setIfInBounds_toArray, List.set_cons_zero, List.set_cons_succ]
              refine wpAnyH_take' 21 (some 141) undef rfl rfl (by kernel_rfl) (by kernel_rfl) (by kernel_rfl) (fun _ _ _ h => h) (Or.inr ⟨by rfl, rfl⟩) hS ?_
              simp only [Act.put, List.setIfInBounds_toArray, List.set_cons_zero, List.set_cons_succ]
              refine wpAnyH_take' 22 (some 142) undef rfl rfl (by kernel_rfl) (by kernel_rfl) (by kernel_rfl) (fun _ _ _ h => h) (Or.inr ⟨by rfl, rfl⟩) hS ?_
              simp only [Act.put, List.setIfInBounds_toArray, List.set_cons_zero, List.set_cons_succ]
              refine wpAnyH_take' 23 (some 143) undef rfl rfl (by kernel_rfl) (by kernel_rfl) (by kernel_rfl) (fun _ _ _ h => h) (Or.inr ⟨by rfl, rfl⟩) hS ?_
              simp only [Act.put, List.setIfInBounds_toArray, List.set_cons_zero, List.set_cons_succ]
              refine wpAnyH_take' 24 (some 144) (.bool true) rfl rfl (by kernel_rfl) (by kernel_rfl) (by kernel_rfl) (fun _ _ _ h => h) (Or.inl ⟨by rfl, fun w' hS => by go_simp⟩) hS ?_
              simp only [Act.put, List.setIfInBounds_toArray, List.set_cons_zero, List.set_cons_succ]
              refine wpAnyH_take' 25 (some 145) (.bool true) rfl rfl (by kernel_rfl) (by kernel_rfl) (by kernel_rfl) (fun _ _ _ h => h) (Or.inl ⟨by rfl, fun w' hS => by go_simp⟩) hS ?_
              simp only [Act.put, List.setIfInBounds_toArray, List.set_cons_zero, List.set_cons_succ]
              refine wpAnyH_take' 26 (some 4) (.bool true) rfl rfl (by kernel_rfl) (by kernel_rfl) (by kernel_rfl) (fun _ _ _ h => h) (Or.inl ⟨by rfl, fun w' hS => by go_simp⟩) hS ?_
              simp only [Act.put, List.setIfInBounds_toArray, List.set_cons_zero, List.set_cons_succ]
              refine wpAnyH_done (by kernel_rfl) ?_ _
              clear hS
              go_wp2
              go_ret
              exact ⟨rfl, HB01.out.trans (HB10.out.mono HZ01.out)⟩
            · cases hal
end Go.Proofs.Ytnganmekiloigaa
