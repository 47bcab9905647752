/- tall, end, lean, compare, placeOf. -/
import Derived.Test.YtgglhicpfjihlaaTr
namespace Go.Proofs.Ytgglhicpfjihlaa
open Go.RowKit Go.Shelf
set_option maxRecDepth 100000

set_option maxHeartbeats 400000 in
theorem tall38 {W : World} {p : Option Addr} {t : T} (h : TR W p t) : Calls Try.prog 38 #[.pointer p] W fun e w' => e = .returned (.int .i64 (t.ht : Int)) ∧ w' = W := by
  cases t with
  | nil =>
    obtain rfl : p = none := h
    go_enter Try.func38, Try.ntmps38
    go_wp2
    go_ret
    exact ⟨rfl, rfl⟩
  | node l s r =>
    obtain ⟨b, pl, pr, rfl, hb, h0, hl, hr⟩ := h
    have c5 := h0.cell 5
    simp only [List.getElem?_cons_succ, List.getElem?_cons_zero] at c5
    generalize (T.node l s r).ht = x at *
    go_enter Try.func38, Try.ntmps38
    go_wp2
    go_ret
    exact ⟨rfl, rfl⟩
set_option maxHeartbeats 400000 in
theorem end53 {W : World} {p : Option Addr} {t : T} (h : TR W p t) : Calls Try.prog 53 #[.pointer p] W fun e w' => e = .returned (.int .i64 t.rc) ∧ w' = W := by
  cases t with
  | nil =>
    obtain rfl : p = none := h
    go_enter Try.func53, Try.ntmps53
    go_wp2
    go_ret
    exact ⟨rfl, rfl⟩
  | node l s r =>
    obtain ⟨b, pl, pr, rfl, hb, h0, hl, hr⟩ := h
    have c5 := h0.cell 6
    simp only [List.getElem?_cons_succ, List.getElem?_cons_zero] at c5
    generalize (T.node l s r).rc = x at *
    go_enter Try.func53, Try.ntmps53
    go_wp2
    go_ret
    exact ⟨rfl, rfl⟩
set_option maxHeartbeats 400000 in
theorem lean48 {W : World} {p : Option Addr} {t : T} (h : TR W p t) (hn : t ≠ .nil) (hs : t.size ≤ 1000) : Calls Try.prog 48 #[.pointer p] W fun e w' => e = .returned (.int .i64 t.lean) ∧ Below W.heap.size W w' := by
  cases t with
  | nil => exact (hn rfl).elim
  | node l s r =>
    obtain ⟨b, pl, pr, rfl, hb, h0, hl, hr⟩ := h
    have c3 := h0.cell 3
    have c4 := h0.cell 4
    simp only [List.getElem?_cons_succ, List.getElem?_cons_zero] at c3 c4
    have k1 := tall38 (W := W.drew) (TR.below (Below.refl _ _).drew hl)
    have k2 := tall38 (W := W.drew) (TR.below (Below.refl _ _).drew hr)
    have hw : wrap64 ((l.ht : Int) - (r.ht : Int)) = (l.ht : Int) - (r.ht : Int) := IntWalk.wrap64_in _ (by have := l.ht_size; have := r.ht_size; simp only [T.size] at hs; omega)
    have hw2 : IntKind.i64.wrap ((l.ht : Int) - (r.ht : Int)) = (l.ht : Int) - (r.ht : Int) := (IntWalk.i64_left _).trans hw
    have HE : Hid ((T.node l s r).lean = (l.ht : Int) - (r.ht : Int)) := rfl
    rw [HE.out]
    have hS : W.drew.cell? ⟨b, 3, none⟩ = some (.pointer pl) ∧ W.drew.cell? ⟨b, 4, none⟩ = some (.pointer pr) := ⟨c3, c4⟩
    generalize l.ht = x at *
    generalize r.ht = y at *
    clear hl hr h0 c3 c4 HE
    go_enter Try.func48, Try.ntmps48
    go_wp2_with fail
    go_region_held3 (fun W' => W'.cell? ⟨b, 3, none⟩ = some (.pointer pl) ∧ W'.cell? ⟨b, 4, none⟩ = some (.pointer pr)) (exact hS) (first
      | (go_at_call 38; (with_reducible refine k1.mono ?_); clear k1; rintro e w1 ⟨rfl, rfl⟩)
      | (go_at_call 38; (with_reducible refine k2.mono ?_); rintro e w1 ⟨rfl, rfl⟩))
    go_wp2
    go_ret
    exact ⟨rfl, (Below.refl _ _).drew⟩

theorem cmp55 (x y : Int) (w : World) : Calls Try.prog 55 #[.int .i64 x, .int .i64 y] w fun e w' => e = .returned (.int .i64 (ci x y)) ∧ w = w' := by
  by_cases h1 : x < y
  · have hr : ci x y = -1 := by simp [ci, h1]
    rw [hr]
    go_enter Try.func55, Try.ntmps55
    go_wp2
    go_ret
    exact ⟨rfl, rfl⟩
  · by_cases h2 : y < x
    · have hr : ci x y = 1 := by simp [ci, h1]; omega
      rw [hr]
      go_enter Try.func55, Try.ntmps55
      go_wp2
      go_ret
      exact ⟨rfl, rfl⟩
    · have hr : ci x y = 0 := by simp [ci]; omega
      rw [hr]
      go_enter Try.func55, Try.ntmps55
      go_wp2
      go_ret
      exact ⟨rfl, rfl⟩

set_option maxHeartbeats 400000 in
theorem or54 (x y z : Int) (g c : Nat) (w : World) (h0 : w.cell? ⟨g, 0, none⟩ = some (.int .i64 x)) (h1 : w.cell? ⟨g, 1, none⟩ = some (.int .i64 y)) (h2 : w.cell? ⟨g, 2, none⟩ = some (.int .i64 z)) :
    Calls Try.prog 54 #[.slice (some ⟨g, 0, none⟩) 3 c] w fun e w' => e = .returned (.int .i64 (if x ≠ 0 then x else if y ≠ 0 then y else z)) ∧ w = w' := by
  by_cases hx : x = 0
  · subst hx
    by_cases hy : y = 0
    · subst hy
      by_cases hz : z = 0
      · subst hz
        go_enter Try.func54, Try.ntmps54
        go_wp2
        refine wp_loop_rounds 4 ?_
        rw [rounds_succ]
        go_wp2
        rw [rounds_succ]
        go_wp2
        rw [rounds_succ]
        go_wp2
        rw [rounds_succ]
        go_wp2
        go_ret
        exact ⟨rfl, rfl⟩
      · have hz' : (z != 0) = true := by simpa using hz
        go_enter Try.func54, Try.ntmps54
        go_wp2
        refine wp_loop_rounds 3 ?_
        rw [rounds_succ]
        go_wp2
        rw [rounds_succ]
        go_wp2
        rw [rounds_succ]
        go_wp2
        go_ret
        exact ⟨rfl, rfl⟩
    · have hy' : (y != 0) = true := by simpa using hy
      rw [if_neg (by simp), if_pos hy]
      go_enter Try.func54, Try.ntmps54
      go_wp2
      refine wp_loop_rounds 2 ?_
      rw [rounds_succ]
      go_wp2
      rw [rounds_succ]
      go_wp2
      go_ret
      exact ⟨rfl, rfl⟩
  · have hx' : (x != 0) = true := by simpa using hx
    rw [if_pos hx]
    go_enter Try.func54, Try.ntmps54
    go_wp2
    refine wp_loop_rounds 1 ?_
    rw [rounds_succ]
    go_wp2
    go_ret
    exact ⟨rfl, rfl⟩

theorem or54q (x y z q : Int) (hq : Hid ((if x ≠ 0 then x else if y ≠ 0 then y else z) = q)) (g c : Nat) (w : World) (h0 : w.cell? ⟨g, 0, none⟩ = some (.int .i64 x)) (h1 : w.cell? ⟨g, 1, none⟩ = some (.int .i64 y)) (h2 : w.cell? ⟨g, 2, none⟩ = some (.int .i64 z)) :
    Calls Try.prog 54 #[.slice (some ⟨g, 0, none⟩) 3 c] w fun e w' => e = .returned (.int .i64 q) ∧ w = w' := hq.out ▸ or54 x y z g c w h0 h1 h2

set_option maxHeartbeats 400000 in
theorem compare49 (a b : St) (w : World) : Calls Try.prog 49 #[SV a, SV b] w fun e w' => e = .returned (.int .i64 (cs a b)) ∧ Below w.heap.size w w' := by
  obtain ⟨af, at', ai⟩ := a
  obtain ⟨bf, bt, bi⟩ := b
  have HE : Hid (cs ⟨af, at', ai⟩ ⟨bf, bt, bi⟩ = if ci af bf ≠ 0 then ci af bf else if ci at' bt ≠ 0 then ci at' bt else ci ai bi) := rfl
  rw [HE.out]
  clear HE
  have k1 := cmp55 af bf
  have k2 := cmp55 at' bt
  have k3 := cmp55 ai bi
  generalize ci af bf = x at *
  generalize ci at' bt = y at *
  generalize ci ai bi = z at *
  generalize hq : (if x ≠ 0 then x else if y ≠ 0 then y else z) = q at *
  have HQ : Hid _ := hq
  clear hq
  go_enter Try.func49, Try.ntmps49
  go_wp2_with fail
  have b1 := ((blk_new w [.int .i64 af, .int .i64 at', .int .i64 ai] 68).below (al _ (.cells #[.int .i64 bf, .int .i64 bt, .int .i64 bi] 68)))
  have b2 := blk_at (w.alloc (.cells #[.int .i64 af, .int .i64 at', .int .i64 ai] 68)) [.int .i64 bf, .int .i64 bt, .int .i64 bi] 68 (g := w.heap.size + 1) (by simp)
  have hB : Below w.heap.size w ((w.alloc (.cells #[.int .i64 af, .int .i64 at', .int .i64 ai] 68)).alloc (.cells #[.int .i64 bf, .int .i64 bt, .int .i64 bi] 68)) := bmore (al _ _) (al _ _)
  change Blk ((w.alloc (.cells #[.int .i64 af, .int .i64 at', .int .i64 ai] 68)).alloc (.cells #[.int .i64 bf, .int .i64 bt, .int .i64 bi] 68)) _ _ _ at b1 b2
  generalize (w.alloc (.cells #[.int .i64 af, .int .i64 at', .int .i64 ai] 68)).alloc (.cells #[.int .i64 bf, .int .i64 bt, .int .i64 bi] 68) = W0 at *
  have HB : Hid _ := hB
  clear hB
  have HF : Hid (∀ W, Below W0.heap.size W0 W → W.cell? ⟨w.heap.size, 0, none⟩ = some (.int .i64 af) ∧ W.cell? ⟨w.heap.size, 1, none⟩ = some (.int .i64 at') ∧ W.cell? ⟨w.heap.size, 2, none⟩ = some (.int .i64 ai) ∧ W.cell? ⟨w.heap.size + 1, 0, none⟩ = some (.int .i64 bf) ∧ W.cell? ⟨w.heap.size + 1, 1, none⟩ = some (.int .i64 bt) ∧ W.cell? ⟨w.heap.size + 1, 2, none⟩ = some (.int .i64 bi)) := fun W h =>
    ⟨(b1.below h).cell 0, (b1.below h).cell 1, (b1.below h).cell 2, (b2.below h).cell 0, (b2.below h).cell 1, (b2.below h).cell 2⟩
  have hS0 := HF.out W0.drew (Below.refl _ _).drew
  have HN : Hid (∀ o, Below W0.heap.size W0 (W0.alloc o).drew) := fun o => (bal (Below.refl _ _) o).drew
  have HG : Hid (∀ v0 v1 v2 : Int, Blk (W0.alloc (.cells #[.int .i64 v0, .int .i64 v1, .int .i64 v2] 3)).drew W0.heap.size [.int .i64 v0, .int .i64 v1, .int .i64 v2] 3) := fun v0 v1 v2 => blk_new W0 [.int .i64 v0, .int .i64 v1, .int .i64 v2] 3
  clear b1 b2
  have k4 := or54q x y z q HQ W0.heap.size 3 (W0.alloc (.cells #[.int .i64 x, .int .i64 y, .int .i64 z] 3)).drew ((HG.out x y z).cell 0) ((HG.out x y z).cell 1) ((HG.out x y z).cell 2)
  go_region_held3 (fun W => W.cell? ⟨w.heap.size, 0, none⟩ = some (.int .i64 af) ∧ W.cell? ⟨w.heap.size, 1, none⟩ = some (.int .i64 at') ∧ W.cell? ⟨w.heap.size, 2, none⟩ = some (.int .i64 ai) ∧ W.cell? ⟨w.heap.size + 1, 0, none⟩ = some (.int .i64 bf) ∧ W.cell? ⟨w.heap.size + 1, 1, none⟩ = some (.int .i64 bt) ∧ W.cell? ⟨w.heap.size + 1, 2, none⟩ = some (.int .i64 bi)) (first | exact hS0 | exact HF.out _ (HN.out _)) (first
      | (go_at_call 55; (with_reducible refine (k1 _).mono ?_); clear k1; rintro e w1 ⟨rfl, rfl⟩)
      | (go_at_call 55; (with_reducible refine (k2 _).mono ?_); clear k2; rintro e w1 ⟨rfl, rfl⟩)
      | (go_at_call 55; (with_reducible refine (k3 _).mono ?_); clear k3; rintro e w1 ⟨rfl, rfl⟩)
      | (go_at_call 54; (with_reducible refine k4.mono ?_); clear k4; rintro e w1 ⟨rfl, rfl⟩))
  go_wp2
  go_ret
  exact ⟨rfl, bmore HB.out (HN.out _)⟩
end Go.Proofs.Ytgglhicpfjihlaa
