/- placeOf. -/
import Derived.Test.YtgglhicpfjihlaaPt
namespace Go.Proofs.Ytgglhicpfjihlaa
open Go.RowKit Go.Shelf
set_option maxRecDepth 100000

set_option maxHeartbeats 8000000 in
theorem placeOf47 {W : World} {pl pr : Option Addr} {l r : T} (s : St) (hl : TR W pl l) (hr : TR W pr r) (hs : (T.node l s r).size ≤ 1000) :
    Calls Try.prog 47 #[.pointer pl, SV s, .pointer pr] W fun e w' => ∃ b, e = .returned (.pointer (some ⟨b, 0, none⟩)) ∧ TR w' (some ⟨b, 0, none⟩) (.node l s r) ∧ Below W.heap.size W w' := by
  obtain ⟨sf, st, si⟩ := s
  have b1 := blk_new W [.int .i64 sf, .int .i64 st, .int .i64 si] 68
  have hB : Below W.heap.size W (W.alloc (.cells #[.int .i64 sf, .int .i64 st, .int .i64 si] 68)) := al _ _
  have hl1 := hl.below hB
  have hr1 := hr.below hB
  have HH : Hid ((T.node l ⟨sf, st, si⟩ r).ht = 1 + max l.ht r.ht ∧ (T.node l ⟨sf, st, si⟩ r).rc = max (max st l.rc) r.rc) := ⟨rfl, rfl⟩
  have hw1 : IntKind.i64.wrap (1 + (l.ht : Int)) = 1 + (l.ht : Int) := by
    have := l.ht_size; have := r.ht_size; simp only [T.size] at hs
    exact (IntWalk.i64_left _).trans (IntWalk.wrap64_in _ (by omega))
  have hw2 : IntKind.i64.wrap (1 + (r.ht : Int)) = 1 + (r.ht : Int) := by
    have := l.ht_size; have := r.ht_size; simp only [T.size] at hs
    exact (IntWalk.i64_left _).trans (IntWalk.wrap64_in _ (by omega))
  have hv1 : wrap64 (1 + (l.ht : Int)) = 1 + (l.ht : Int) := (IntWalk.i64_left _).symm.trans hw1
  have hv2 : wrap64 (1 + (r.ht : Int)) = 1 + (r.ht : Int) := (IntWalk.i64_left _).symm.trans hw2
  go_enter Try.func47, Try.ntmps47
  go_wp2_with fail
  change Blk (W.alloc (.cells #[.int .i64 sf, .int .i64 st, .int .i64 si] 68)) _ _ _ at b1
  generalize hg : W.heap.size = g at *
  generalize W.alloc (.cells #[.int .i64 sf, .int .i64 st, .int .i64 si] 68) = W0 at *
  have k1 := tall38 (W := W0.drew) (TR.below (Below.refl _ _).drew hl1)
  have k2 := tall38 (W := W0.drew) (TR.below (Below.refl _ _).drew hr1)
  have k3 := end53 (W := W0.drew) (TR.below (Below.refl _ _).drew hl1)
  have k4 := end53 (W := W0.drew) (TR.below (Below.refl _ _).drew hr1)
  have hS0 : W0.drew.cell? ⟨g, 0, none⟩ = some (.int .i64 sf) ∧ W0.drew.cell? ⟨g, 1, none⟩ = some (.int .i64 st) ∧ W0.drew.cell? ⟨g, 2, none⟩ = some (.int .i64 si) := ⟨b1.cell 0, b1.cell 1, b1.cell 2⟩
  have HS1 : Hid (∀ o, (W0.drew.alloc o).cell? ⟨g, 0, none⟩ = some (.int .i64 sf) ∧ (W0.drew.alloc o).cell? ⟨g, 1, none⟩ = some (.int .i64 st) ∧ (W0.drew.alloc o).cell? ⟨g, 2, none⟩ = some (.int .i64 si)) := fun o => by
    have b2 : Blk (W0.drew.alloc o) g _ _ := Blk.below (W := W0.drew) b1 (al _ _)
    exact ⟨b2.cell 0, b2.cell 1, b2.cell 2⟩
  have HL : Hid (TR W0 pl l ∧ TR W0 pr r) := ⟨hl1, hr1⟩
  have HG : Hid _ := hg
  have HB : Hid _ := hB
  clear hl hr hl1 hr1 b1 hg hB
  generalize hx : l.ht = x at *
  generalize hy : r.ht = y at *
  generalize hz : l.rc = z at *
  generalize hv : r.rc = v at *
  have HX : Hid (l.ht = x ∧ r.ht = y ∧ l.rc = z ∧ r.rc = v) := ⟨hx, hy, hz, hv⟩
  clear hx hy hz hv
  have HN : Hid (∀ {o}, Below W0.heap.size W0 (W0.alloc o).drew) := fun {o} => (bal (Below.refl _ _) o).drew
  have hm : (y : Int) > (x : Int) ∨ ¬ ((y : Int) > (x : Int)) := Decidable.em _
  have hn : (z > st ∧ (v > z ∨ ¬ (v > z))) ∨ (¬ (z > st) ∧ (v > st ∨ ¬ (v > st))) := by omega
  rcases hm with h1 | h1 <;> rcases hn with ⟨h2, h3 | h3⟩ | ⟨h2, h3 | h3⟩
  · go_region_held3 (fun W => W.cell? ⟨g, 0, none⟩ = some (.int .i64 sf) ∧ W.cell? ⟨g, 1, none⟩ = some (.int .i64 st) ∧ W.cell? ⟨g, 2, none⟩ = some (.int .i64 si)) (first | exact hS0 | exact HS1.out _) (first
      | (go_at_call 38; (with_reducible refine k1.mono ?_); clear k1; rintro e w1 ⟨rfl, rfl⟩)
      | (go_at_call 38; (with_reducible refine k2.mono ?_); clear k2; rintro e w1 ⟨rfl, rfl⟩)
      | (go_at_call 53; (with_reducible refine k3.mono ?_); clear k3; rintro e w1 ⟨rfl, rfl⟩)
      | (go_at_call 53; (with_reducible refine k4.mono ?_); clear k4; rintro e w1 ⟨rfl, rfl⟩))
    all_goals (
      go_wp2
      go_ret
      refine ⟨_, rfl, ?_, ?_⟩
      · obtain ⟨e1, e2⟩ := HH.out
        refine TR.node (pl := pl) (pr := pr) ?_ (HL.out.1.below HN.out) (HL.out.2.below HN.out)
        have a1 : ((T.node l ⟨sf, st, si⟩ r).ht : Int) = (1 + (y : Int)) := by rw [e1]; omega
        have a2 : (T.node l ⟨sf, st, si⟩ r).rc = v := by rw [e2]; omega
        rw [show nodeC ⟨sf, st, si⟩ pl pr (T.node l ⟨sf, st, si⟩ r).ht (T.node l ⟨sf, st, si⟩ r).rc = [.int .i64 sf, .int .i64 st, .int .i64 si, .pointer pl, .pointer pr, .int .i64 (1 + (y : Int)), .int .i64 v] by simp only [nodeC, a1, a2]]
        exact blk_new W0 _ 70
      · rw [HG.out]
        exact HB.out.trans (HN.out.mono (by have := HB.out.size; rw [HG.out] at this; exact this)))
  · go_region_held3 (fun W => W.cell? ⟨g, 0, none⟩ = some (.int .i64 sf) ∧ W.cell? ⟨g, 1, none⟩ = some (.int .i64 st) ∧ W.cell? ⟨g, 2, none⟩ = some (.int .i64 si)) (first | exact hS0 | exact HS1.out _) (first
      | (go_at_call 38; (with_reducible refine k1.mono ?_); clear k1; rintro e w1 ⟨rfl, rfl⟩)
      | (go_at_call 38; (with_reducible refine k2.mono ?_); clear k2; rintro e w1 ⟨rfl, rfl⟩)
      | (go_at_call 53; (with_reducible refine k3.mono ?_); clear k3; rintro e w1 ⟨rfl, rfl⟩)
      | (go_at_call 53; (with_reducible refine k4.mono ?_); clear k4; rintro e w1 ⟨rfl, rfl⟩))
    all_goals (
      go_wp2
      go_ret
      refine ⟨_, rfl, ?_, ?_⟩
      · obtain ⟨e1, e2⟩ := HH.out
        refine TR.node (pl := pl) (pr := pr) ?_ (HL.out.1.below HN.out) (HL.out.2.below HN.out)
        have a1 : ((T.node l ⟨sf, st, si⟩ r).ht : Int) = (1 + (y : Int)) := by rw [e1]; omega
        have a2 : (T.node l ⟨sf, st, si⟩ r).rc = z := by rw [e2]; omega
        rw [show nodeC ⟨sf, st, si⟩ pl pr (T.node l ⟨sf, st, si⟩ r).ht (T.node l ⟨sf, st, si⟩ r).rc = [.int .i64 sf, .int .i64 st, .int .i64 si, .pointer pl, .pointer pr, .int .i64 (1 + (y : Int)), .int .i64 z] by simp only [nodeC, a1, a2]]
        exact blk_new W0 _ 70
      · rw [HG.out]
        exact HB.out.trans (HN.out.mono (by have := HB.out.size; rw [HG.out] at this; exact this)))
  · go_region_held3 (fun W => W.cell? ⟨g, 0, none⟩ = some (.int .i64 sf) ∧ W.cell? ⟨g, 1, none⟩ = some (.int .i64 st) ∧ W.cell? ⟨g, 2, none⟩ = some (.int .i64 si)) (first | exact hS0 | exact HS1.out _) (first
      | (go_at_call 38; (with_reducible refine k1.mono ?_); clear k1; rintro e w1 ⟨rfl, rfl⟩)
      | (go_at_call 38; (with_reducible refine k2.mono ?_); clear k2; rintro e w1 ⟨rfl, rfl⟩)
      | (go_at_call 53; (with_reducible refine k3.mono ?_); clear k3; rintro e w1 ⟨rfl, rfl⟩)
      | (go_at_call 53; (with_reducible refine k4.mono ?_); clear k4; rintro e w1 ⟨rfl, rfl⟩))
    all_goals (
      go_wp2
      go_ret
      refine ⟨_, rfl, ?_, ?_⟩
      · obtain ⟨e1, e2⟩ := HH.out
        refine TR.node (pl := pl) (pr := pr) ?_ (HL.out.1.below HN.out) (HL.out.2.below HN.out)
        have a1 : ((T.node l ⟨sf, st, si⟩ r).ht : Int) = (1 + (y : Int)) := by rw [e1]; omega
        have a2 : (T.node l ⟨sf, st, si⟩ r).rc = v := by rw [e2]; omega
        rw [show nodeC ⟨sf, st, si⟩ pl pr (T.node l ⟨sf, st, si⟩ r).ht (T.node l ⟨sf, st, si⟩ r).rc = [.int .i64 sf, .int .i64 st, .int .i64 si, .pointer pl, .pointer pr, .int .i64 (1 + (y : Int)), .int .i64 v] by simp only [nodeC, a1, a2]]
        exact blk_new W0 _ 70
      · rw [HG.out]
        exact HB.out.trans (HN.out.mono (by have := HB.out.size; rw [HG.out] at this; exact this)))
  · go_region_held3 (fun W => W.cell? ⟨g, 0, none⟩ = some (.int .i64 sf) ∧ W.cell? ⟨g, 1, none⟩ = some (.int .i64 st) ∧ W.cell? ⟨g, 2, none⟩ = some (.int .i64 si)) (first | exact hS0 | exact HS1.out _) (first
      | (go_at_call 38; (with_reducible refine k1.mono ?_); clear k1; rintro e w1 ⟨rfl, rfl⟩)
      | (go_at_call 38; (with_reducible refine k2.mono ?_); clear k2; rintro e w1 ⟨rfl, rfl⟩)
      | (go_at_call 53; (with_reducible refine k3.mono ?_); clear k3; rintro e w1 ⟨rfl, rfl⟩)
      | (go_at_call 53; (with_reducible refine k4.mono ?_); clear k4; rintro e w1 ⟨rfl, rfl⟩))
    all_goals (
      go_wp2
      go_ret
      refine ⟨_, rfl, ?_, ?_⟩
      · obtain ⟨e1, e2⟩ := HH.out
        refine TR.node (pl := pl) (pr := pr) ?_ (HL.out.1.below HN.out) (HL.out.2.below HN.out)
        have a1 : ((T.node l ⟨sf, st, si⟩ r).ht : Int) = (1 + (y : Int)) := by rw [e1]; omega
        have a2 : (T.node l ⟨sf, st, si⟩ r).rc = st := by rw [e2]; omega
        rw [show nodeC ⟨sf, st, si⟩ pl pr (T.node l ⟨sf, st, si⟩ r).ht (T.node l ⟨sf, st, si⟩ r).rc = [.int .i64 sf, .int .i64 st, .int .i64 si, .pointer pl, .pointer pr, .int .i64 (1 + (y : Int)), .int .i64 st] by simp only [nodeC, a1, a2]]
        exact blk_new W0 _ 70
      · rw [HG.out]
        exact HB.out.trans (HN.out.mono (by have := HB.out.size; rw [HG.out] at this; exact this)))
  · go_region_held3 (fun W => W.cell? ⟨g, 0, none⟩ = some (.int .i64 sf) ∧ W.cell? ⟨g, 1, none⟩ = some (.int .i64 st) ∧ W.cell? ⟨g, 2, none⟩ = some (.int .i64 si)) (first | exact hS0 | exact HS1.out _) (first
      | (go_at_call 38; (with_reducible refine k1.mono ?_); clear k1; rintro e w1 ⟨rfl, rfl⟩)
      | (go_at_call 38; (with_reducible refine k2.mono ?_); clear k2; rintro e w1 ⟨rfl, rfl⟩)
      | (go_at_call 53; (with_reducible refine k3.mono ?_); clear k3; rintro e w1 ⟨rfl, rfl⟩)
      | (go_at_call 53; (with_reducible refine k4.mono ?_); clear k4; rintro e w1 ⟨rfl, rfl⟩))
    all_goals (
      go_wp2
      go_ret
      refine ⟨_, rfl, ?_, ?_⟩
      · obtain ⟨e1, e2⟩ := HH.out
        refine TR.node (pl := pl) (pr := pr) ?_ (HL.out.1.below HN.out) (HL.out.2.below HN.out)
        have a1 : ((T.node l ⟨sf, st, si⟩ r).ht : Int) = (1 + (x : Int)) := by rw [e1]; omega
        have a2 : (T.node l ⟨sf, st, si⟩ r).rc = v := by rw [e2]; omega
        rw [show nodeC ⟨sf, st, si⟩ pl pr (T.node l ⟨sf, st, si⟩ r).ht (T.node l ⟨sf, st, si⟩ r).rc = [.int .i64 sf, .int .i64 st, .int .i64 si, .pointer pl, .pointer pr, .int .i64 (1 + (x : Int)), .int .i64 v] by simp only [nodeC, a1, a2]]
        exact blk_new W0 _ 70
      · rw [HG.out]
        exact HB.out.trans (HN.out.mono (by have := HB.out.size; rw [HG.out] at this; exact this)))
  · go_region_held3 (fun W => W.cell? ⟨g, 0, none⟩ = some (.int .i64 sf) ∧ W.cell? ⟨g, 1, none⟩ = some (.int .i64 st) ∧ W.cell? ⟨g, 2, none⟩ = some (.int .i64 si)) (first | exact hS0 | exact HS1.out _) (first
      | (go_at_call 38; (with_reducible refine k1.mono ?_); clear k1; rintro e w1 ⟨rfl, rfl⟩)
      | (go_at_call 38; (with_reducible refine k2.mono ?_); clear k2; rintro e w1 ⟨rfl, rfl⟩)
      | (go_at_call 53; (with_reducible refine k3.mono ?_); clear k3; rintro e w1 ⟨rfl, rfl⟩)
      | (go_at_call 53; (with_reducible refine k4.mono ?_); clear k4; rintro e w1 ⟨rfl, rfl⟩))
    all_goals (
      go_wp2
      go_ret
      refine ⟨_, rfl, ?_, ?_⟩
      · obtain ⟨e1, e2⟩ := HH.out
        refine TR.node (pl := pl) (pr := pr) ?_ (HL.out.1.below HN.out) (HL.out.2.below HN.out)
        have a1 : ((T.node l ⟨sf, st, si⟩ r).ht : Int) = (1 + (x : Int)) := by rw [e1]; omega
        have a2 : (T.node l ⟨sf, st, si⟩ r).rc = z := by rw [e2]; omega
        rw [show nodeC ⟨sf, st, si⟩ pl pr (T.node l ⟨sf, st, si⟩ r).ht (T.node l ⟨sf, st, si⟩ r).rc = [.int .i64 sf, .int .i64 st, .int .i64 si, .pointer pl, .pointer pr, .int .i64 (1 + (x : Int)), .int .i64 z] by simp only [nodeC, a1, a2]]
        exact blk_new W0 _ 70
      · rw [HG.out]
        exact HB.out.trans (HN.out.mono (by have := HB.out.size; rw [HG.out] at this; exact this)))
  · go_region_held3 (fun W => W.cell? ⟨g, 0, none⟩ = some (.int .i64 sf) ∧ W.cell? ⟨g, 1, none⟩ = some (.int .i64 st) ∧ W.cell? ⟨g, 2, none⟩ = some (.int .i64 si)) (first | exact hS0 | exact HS1.out _) (first
      | (go_at_call 38; (with_reducible refine k1.mono ?_); clear k1; rintro e w1 ⟨rfl, rfl⟩)
      | (go_at_call 38; (with_reducible refine k2.mono ?_); clear k2; rintro e w1 ⟨rfl, rfl⟩)
      | (go_at_call 53; (with_reducible refine k3.mono ?_); clear k3; rintro e w1 ⟨rfl, rfl⟩)
      | (go_at_call 53; (with_reducible refine k4.mono ?_); clear k4; rintro e w1 ⟨rfl, rfl⟩))
    all_goals (
      go_wp2
      go_ret
      refine ⟨_, rfl, ?_, ?_⟩
      · obtain ⟨e1, e2⟩ := HH.out
        refine TR.node (pl := pl) (pr := pr) ?_ (HL.out.1.below HN.out) (HL.out.2.below HN.out)
        have a1 : ((T.node l ⟨sf, st, si⟩ r).ht : Int) = (1 + (x : Int)) := by rw [e1]; omega
        have a2 : (T.node l ⟨sf, st, si⟩ r).rc = v := by rw [e2]; omega
        rw [show nodeC ⟨sf, st, si⟩ pl pr (T.node l ⟨sf, st, si⟩ r).ht (T.node l ⟨sf, st, si⟩ r).rc = [.int .i64 sf, .int .i64 st, .int .i64 si, .pointer pl, .pointer pr, .int .i64 (1 + (x : Int)), .int .i64 v] by simp only [nodeC, a1, a2]]
        exact blk_new W0 _ 70
      · rw [HG.out]
        exact HB.out.trans (HN.out.mono (by have := HB.out.size; rw [HG.out] at this; exact this)))
  · go_region_held3 (fun W => W.cell? ⟨g, 0, none⟩ = some (.int .i64 sf) ∧ W.cell? ⟨g, 1, none⟩ = some (.int .i64 st) ∧ W.cell? ⟨g, 2, none⟩ = some (.int .i64 si)) (first | exact hS0 | exact HS1.out _) (first
      | (go_at_call 38; (with_reducible refine k1.mono ?_); clear k1; rintro e w1 ⟨rfl, rfl⟩)
      | (go_at_call 38; (with_reducible refine k2.mono ?_); clear k2; rintro e w1 ⟨rfl, rfl⟩)
      | (go_at_call 53; (with_reducible refine k3.mono ?_); clear k3; rintro e w1 ⟨rfl, rfl⟩)
      | (go_at_call 53; (with_reducible refine k4.mono ?_); clear k4; rintro e w1 ⟨rfl, rfl⟩))
    all_goals (
      go_wp2
      go_ret
      refine ⟨_, rfl, ?_, ?_⟩
      · obtain ⟨e1, e2⟩ := HH.out
        refine TR.node (pl := pl) (pr := pr) ?_ (HL.out.1.below HN.out) (HL.out.2.below HN.out)
        have a1 : ((T.node l ⟨sf, st, si⟩ r).ht : Int) = (1 + (x : Int)) := by rw [e1]; omega
        have a2 : (T.node l ⟨sf, st, si⟩ r).rc = st := by rw [e2]; omega
        rw [show nodeC ⟨sf, st, si⟩ pl pr (T.node l ⟨sf, st, si⟩ r).ht (T.node l ⟨sf, st, si⟩ r).rc = [.int .i64 sf, .int .i64 st, .int .i64 si, .pointer pl, .pointer pr, .int .i64 (1 + (x : Int)), .int .i64 st] by simp only [nodeC, a1, a2]]
        exact blk_new W0 _ 70
      · rw [HG.out]
        exact HB.out.trans (HN.out.mono (by have := HB.out.size; rw [HG.out] at this; exact this)))
end Go.Proofs.Ytgglhicpfjihlaa
