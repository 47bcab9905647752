/- The document's Fork. -/
import Derived.Test.YtjgdcdeekpeenaaRk
namespace Go.Proofs.Ytjgdcdeekpeenaa
open Go.RowKit Go.Shelf
set_option maxRecDepth 100000
theorem put_self (R : Rf) (i : Nat) : R.put i { R.l i with keys := (R.l i).keys } = R := by
  have : upd R.l i { R.l i with keys := (R.l i).keys } = R.l := by
    funext j
    by_cases c : j = i
    · subst c; simp [upd]
    · simp [upd, c]
  unfold Rf.put
  rw [this]
set_option maxHeartbeats 2000000 in
theorem rfork21 {w : World} {r : Nat} {K : Nat → Value} {D : Value} {R : Rf} (h : RM w r K D R) (hl : ∀ i, i < 4 → (R.l i).keys.length ≤ 1000) (hd : R.done.length ≤ 50000) : Calls Try.prog 21 #[.pointer (some ⟨r, 0, none⟩)] w fun e w' => ∃ r' K' D', e = .returned (.pointer (some ⟨r', 0, none⟩)) ∧ RM w' r' K' D' R ∧ w.heap.size ≤ r' ∧ Below w.heap.size w w' := by
  have hM1 : RM (w.alloc (.cells #[.int .i64 R.clock, .int .i64 R.high, .bool (R.l 0).op, .int .i64 (R.l 0).since, K 0, .bool (R.l 1).op, .int .i64 (R.l 1).since, K 1, .bool (R.l 2).op, .int .i64 (R.l 2).since, K 2, .bool (R.l 3).op, .int .i64 (R.l 3).since, K 3, D] 75)) w.heap.size K D R :=
    ⟨blk_new w (rgL R.clock R.high R.l K D) 75, fun i hi => (h.keys i hi).below (al _ _), h.done.below (al _ _)⟩
  have B1 := al w (.cells #[.int .i64 R.clock, .int .i64 R.high, .bool (R.l 0).op, .int .i64 (R.l 0).since, K 0, .bool (R.l 1).op, .int .i64 (R.l 1).since, K 1, .bool (R.l 2).op, .int .i64 (R.l 2).since, K 2, .bool (R.l 3).op, .int .i64 (R.l 3).since, K 3, D] 75)
  have e0 : w.cell? ⟨r, 0, none⟩ = some (.int .i64 R.clock) := h.blk.cell 0
  have e1 : w.cell? ⟨r, 1, none⟩ = some (.int .i64 R.high) := h.blk.cell 1
  have e2 : w.cell? ⟨r, 2, none⟩ = some (.bool (R.l 0).op) := h.blk.cell 2
  have e3 : w.cell? ⟨r, 3, none⟩ = some (.int .i64 (R.l 0).since) := h.blk.cell 3
  have e4 : w.cell? ⟨r, 4, none⟩ = some (K 0) := h.blk.cell 4
  have e5 : w.cell? ⟨r, 5, none⟩ = some (.bool (R.l 1).op) := h.blk.cell 5
  have e6 : w.cell? ⟨r, 6, none⟩ = some (.int .i64 (R.l 1).since) := h.blk.cell 6
  have e7 : w.cell? ⟨r, 7, none⟩ = some (K 1) := h.blk.cell 7
  have e8 : w.cell? ⟨r, 8, none⟩ = some (.bool (R.l 2).op) := h.blk.cell 8
  have e9 : w.cell? ⟨r, 9, none⟩ = some (.int .i64 (R.l 2).since) := h.blk.cell 9
  have e10 : w.cell? ⟨r, 10, none⟩ = some (K 2) := h.blk.cell 10
  have e11 : w.cell? ⟨r, 11, none⟩ = some (.bool (R.l 3).op) := h.blk.cell 11
  have e12 : w.cell? ⟨r, 12, none⟩ = some (.int .i64 (R.l 3).since) := h.blk.cell 12
  have e13 : w.cell? ⟨r, 13, none⟩ = some (K 3) := h.blk.cell 13
  have e14 : w.cell? ⟨r, 14, none⟩ = some D := h.blk.cell 14
  have HA : Hid (∀ W i, i < 4 → Below w.heap.size w W → ∃ pk nk ck pu nu cu w', (W.alloc (.cells #[] 9)).cell? ⟨r, 2 + i * 3 + 2, none⟩ = some (.slice pk nk ck) ∧ (Builtin.append_ #[43, 43] 43 #[.slice (some ⟨W.heap.size, 0, none⟩) 0 0, .slice pk nk ck]).run Try.prog (W.alloc (.cells #[] 9)) = .ok (.slice pu nu cu) w' ∧ Hid (LV ET w' (.slice pu nu cu) (R.l i).keys) ∧ Hid (Below W.heap.size W w')) := fun W i hi b => by
    have hA := al W (.cells #[] 9)
    have hU : RU ET W.heap.size (W.alloc (.cells #[] 9)) (.slice (some ⟨W.heap.size, 0, none⟩) 0 0) [] := .inl ⟨rfl, _, rfl, Nat.le_refl _, by simp⟩
    have hh := (h.below b).below hA
    have hli := hl i hi
    obtain ⟨u, w', h1, h2, h3⟩ := run_app hU (hh.keys i hi) (by simp; omega) hA.size
    obtain ⟨pk, ck, hpk⟩ := (h.keys i hi).form
    have h4 := h2.read
    rw [List.nil_append] at h4
    obtain ⟨pu, cu, hpu⟩ := h4.form
    subst hpu
    have hc := (hh.at hi).2.2
    rw [hpk] at hc h1
    exact ⟨pk, _, ck, pu, _, cu, w', hc, h1, h4, hA.trans (grown_below hU h3 hA.size)⟩
  have HD : Hid (∀ W, Below w.heap.size w W → ∃ pk nk ck pu nu cu w', (W.alloc (.cells #[] 84)).cell? ⟨r, 14, none⟩ = some (.slice pk nk ck) ∧ (Builtin.append_ #[73, 73] 73 #[.slice (some ⟨W.heap.size, 0, none⟩) 0 0, .slice pk nk ck]).run Try.prog (W.alloc (.cells #[] 84)) = .ok (.slice pu nu cu) w' ∧ Hid (LV ED w' (.slice pu nu cu) R.done) ∧ Hid (Below W.heap.size W w')) := fun W b => by
    have hA := al W (.cells #[] 84)
    have hU : RU ED W.heap.size (W.alloc (.cells #[] 84)) (.slice (some ⟨W.heap.size, 0, none⟩) 0 0) [] := .inl ⟨rfl, _, rfl, Nat.le_refl _, by simp⟩
    have hh := (h.below b).below hA
    obtain ⟨u, w', h1, h2, h3⟩ := run_app hU hh.done (by simp; omega) hA.size
    obtain ⟨pk, ck, hpk⟩ := h.done.form
    have h4 := h2.read
    rw [List.nil_append] at h4
    obtain ⟨pu, cu, hpu⟩ := h4.form
    subst hpu
    have hc : (W.alloc (.cells #[] 84)).cell? ⟨r, 14, none⟩ = some D := hh.blk.cell 14
    rw [hpk] at hc h1
    exact ⟨pk, _, ck, pu, _, cu, w', hc, h1, h4, hA.trans (grown_below hU h3 hA.size)⟩
  have hrl := h.blk.lt
  obtain ⟨p0, x0, hK0⟩ := (h.keys 0 (by decide)).form
  obtain ⟨p1, x1, hK1⟩ := (h.keys 1 (by decide)).form
  obtain ⟨p2, x2, hK2⟩ := (h.keys 2 (by decide)).form
  obtain ⟨p3, x3, hK3⟩ := (h.keys 3 (by decide)).form
  obtain ⟨pd, xd, hD0⟩ := h.done.form
  subst hD0
  clear h hl hd
  rw [hK0, hK1, hK2, hK3] at hM1 B1
  rw [hK0] at e4
  rw [hK1] at e7
  rw [hK2] at e10
  rw [hK3] at e13
  clear hK0 hK1 hK2 hK3
  generalize (R.l 0).keys.length = n0 at *
  generalize (R.l 1).keys.length = n1 at *
  generalize (R.l 2).keys.length = n2 at *
  generalize (R.l 3).keys.length = n3 at *
  generalize R.done.length = nd at *
  have HM1 : Hid _ := hM1
  have HB1 : Hid _ := B1
  clear hM1 B1
  go_enter Try.func21, Try.ntmps21
  go_upto_region 4 with fail
  generalize w.alloc _ = w1 at *
  go_wp2_with fail
  go_loopw [4] (fun f4 wr => ∃ (i : Nat) (K' : Nat → Value) (D' : Value), f4 = .int .i64 (i : Int) ∧ Hid (i ≤ 4) ∧ Hid (RM wr w.heap.size K' D' R) ∧ Hid (Below w.heap.size w wr)) (fun f4 _ => ((4 : Int) - intOf f4).toNat)
  case atStart => exact ⟨0, K, _, rfl, by show _ ≤ _; omega, HM1.out, HB1.out⟩
  case round =>
    obtain ⟨i, K', D', rfl, hi, hM, hB⟩ := hrel
    by_cases hi4 : i < 4
    · have h1 : (0 : Int) ≤ (i : Int) := by omega
      have h2 : (i : Int) < 4 := by omega
      obtain ⟨pk, nk, ck, pu, nu, cu, w5, hc, hrun, hv, hB5⟩ := HA.out wr i hi4 hB.out
      have HM5 : Hid (RM w5 w.heap.size K' D' R) := hM.out.below hB5.out
      have d1 := (HM5.out.at hi4).2.2
      have z1 := HM5.out.blk.frozen (2 + i * 3 + 2)
      have HN : Hid (LR w.heap.size R w5 (w5.setCell ⟨w.heap.size, 2 + i * 3 + 2, none⟩ (.slice pu nu cu))) := by
        have := HM5.out.setKeys hi4 (.slice pu nu cu) hv.out
        rw [put_self] at this
        exact this
      go_wp2_with (at_builtin; refine wpList_append_run rfl (.tmp 15) (.tmp 22) 43 rfl _ _ rfl rfl _ _ hrun ?_)
      obtain ⟨⟨K2, D2, hM2⟩, hK2⟩ := HN.out
      exact ⟨⟨i + 1, K2, D2, by simp, by show _ ≤ _; omega, hM2, (bmore hB.out hB5.out).trans (hK2.below (bmore hB.out hB5.out).size (fun x hx e => by omega))⟩, by simp [intOf]; omega⟩
    · have h2 : ¬ (i : Int) < 4 := by omega
      obtain ⟨pk, nk, ck, pu, nu, cu, w5, hc, hrun, hv, hB5⟩ := HD.out wr hB.out
      have HM5 : Hid (RM w5 w.heap.size K' D' R) := hM.out.below hB5.out
      have d1 : w5.cell? ⟨w.heap.size, 14, none⟩ = some D' := HM5.out.blk.cell 14
      have z1 := HM5.out.blk.frozen 14
      have HN : Hid (RM (w5.setCell ⟨w.heap.size, 14, none⟩ (.slice pu nu cu)) w.heap.size K' (.slice pu nu cu) R ∧ Keep (fun q => q = w.heap.size) w5 (w5.setCell ⟨w.heap.size, 14, none⟩ (.slice pu nu cu))) := HM5.out.setD (.slice pu nu cu) hv.out
      go_wp2_with (at_builtin; refine wpList_append_run rfl (.tmp 27) (.tmp 31) 73 rfl _ _ rfl rfl _ _ hrun ?_)
      go_ret
      obtain ⟨hM2, hK2⟩ := HN.out
      exact ⟨w.heap.size, rfl, ⟨K', _, hM2⟩, Nat.le_refl _, (bmore hB.out hB5.out).trans (hK2.below (bmore hB.out hB5.out).size (fun x hx e => by omega))⟩
end Go.Proofs.Ytjgdcdeekpeenaa
