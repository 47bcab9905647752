/- A deed on both. -/
import Derived.Test.YtjgdcdeekpeenaaRm
import Derived.Test.YtjgdcdeekpeenaaAr
namespace Go.Proofs.Ytjgdcdeekpeenaa
open Go.RowKit Go.Shelf
set_option maxRecDepth 100000
abbrev ddV (x : Dd) : Value := .agg #[.int .i64 x.kind, .int .i64 x.id, .string x.key, .int .i64 x.n]
def DPost (w : World) (B m wm r n : Nat) (e : Ending) (w' : World) : Prop := e = .returned (.bool true) ∧ ∃ s' k' M' R', Bo w' B m wm s' k' M' r R' (n + 1) ∧ Below B w w'
theorem Bo.mono {w : World} {B m wm : Nat} {s k : Nat → Nat} {M : Mg} {r : Nat} {R : Rf} {n n' : Nat} (h : Bo w B m wm s k M r R n) (hn : n ≤ n') : Bo w B m wm s k M r R n' := ⟨h.mm, h.rm, h.rel.mono hn, h.inv.mono hn, h.hr, h.hB⟩
theorem DPost.done {w w0 w' : World} {B m wm r n : Nat} {s k : Nat → Nat} {M : Mg} {R : Rf} (h0 : Below B w w0) (h : Bo w' B m wm s k M r R (n + 1) ∧ Below B w0 w') : DPost w B m wm r n (.returned (.bool true)) w' := ⟨rfl, s, k, M, R, h.1, h0.trans h.2⟩
set_option maxHeartbeats 1000000 in
theorem do22_0 {w : World} {B m wm r n : Nat} {s k : Nat → Nat} {M : Mg} {R : Rf} (h : Bo w B m wm s k M r R n) (_hn : n ≤ 99) (x : Dd) (hk : x.kind = 0) (_hx : x.key.size ≤ maxLen) : Calls Try.prog 22 #[.pointer (some ⟨m, 0, none⟩), .pointer (some ⟨r, 0, none⟩), ddV x] w (DPost w B m wm r n) := by
  obtain ⟨kd, id, ky, nn⟩ := x
  simp only at hk
  subst hk
  have HB : Hid _ := h
  clear h
  go_enter Try.func22, Try.ntmps22
  go_upto_region 1 with fail
  have hbx : Blk (w.alloc (.cells #[.int .i64 0, .int .i64 id, .string ky, .int .i64 nn] 32)) w.heap.size [.int .i64 0, .int .i64 id, .string ky, .int .i64 nn] 32 := blk_new w _ 32
  have HB0 : Hid (Bo (w.alloc (.cells #[.int .i64 0, .int .i64 id, .string ky, .int .i64 nn] 32)) B m wm s k M r R n) := HB.out.below (al _ _)
  have HW0 : Hid (Below B w (w.alloc (.cells #[.int .i64 0, .int .i64 id, .string ky, .int .i64 nn] 32))) := (al _ _).mono HB.out.hB
  generalize w.alloc (.cells #[.int .i64 0, .int .i64 id, .string ky, .int .i64 nn] 32) = w0 at *
  have HC : Hid (∀ W, Blk W w.heap.size [.int .i64 0, .int .i64 id, .string ky, .int .i64 nn] 32 → W.cell? ⟨w.heap.size, 0, none⟩ = some (.int .i64 0) ∧ W.cell? ⟨w.heap.size, 1, none⟩ = some (.int .i64 id) ∧ W.cell? ⟨w.heap.size, 2, none⟩ = some (.string ky) ∧ W.cell? ⟨w.heap.size, 3, none⟩ = some (.int .i64 nn)) := fun W q => ⟨q.cell 0, q.cell 1, q.cell 2, q.cell 3⟩
  have HBX : Hid (Blk w0 w.heap.size [.int .i64 0, .int .i64 id, .string ky, .int .i64 nn] 32) := hbx
  clear hbx HB
  generalize w.heap.size = g at *
  obtain ⟨c0, c1, c2, c3⟩ := HC.out _ HBX.out
  have k13 := begin13 HB0.out.mm HB0.out.hB id
  have K41 : Hid (∀ W K D, RM W r K D R → Calls Try.prog 41 #[.pointer (some ⟨r, 0, none⟩), .int .i64 id] W fun e w' => e = .returned (.tuple #[.int .i64 (bgnR M id), .int .i64 (errB M id)]) ∧ LR r (R.bgn id) W w') := fun W K D h => rbegin41' h HB0.out.rel id
  generalize bgnR M id = n1 at *
  generalize errB M id = n2 at *
  go_wp2_with (first
    | (go_at_call 13; (with_reducible refine k13.mono ?_); rintro e w1 ⟨rfl, s1, k1, hL1⟩; have hq1 := hL1.2.box g _ 32 (by decide) HBX.out; obtain ⟨d0, d1, d2, d3⟩ := HC.out _ hq1; obtain ⟨K1, D1, hR1⟩ := HB0.out.mid hL1; have k41 := K41.out _ _ _ hR1; have HL1 : Hid _ := hL1; clear hL1 hR1 hq1)
    | (go_at_call 41; (with_reducible refine k41.mono ?_); rintro e w2 ⟨rfl, hL2⟩))
  go_ret
  exact DPost.done HW0.out (HB0.out.two HL1.out hL2 (HB0.out.rel.bgn id) (HB0.out.inv.bgn id))
set_option maxHeartbeats 1000000 in
theorem do22_1 {w : World} {B m wm r n : Nat} {s k : Nat → Nat} {M : Mg} {R : Rf} (h : Bo w B m wm s k M r R n) (hn : n ≤ 99) (x : Dd) (hk : x.kind = 1) (hx : x.key.size ≤ maxLen) : Calls Try.prog 22 #[.pointer (some ⟨m, 0, none⟩), .pointer (some ⟨r, 0, none⟩), ddV x] w (DPost w B m wm r n) := by
  obtain ⟨kd, id, ky, nn⟩ := x
  simp only at hk hx
  subst hk
  have HB : Hid _ := h
  clear h
  go_enter Try.func22, Try.ntmps22
  go_upto_region 1 with fail
  have hbx : Blk (w.alloc (.cells #[.int .i64 1, .int .i64 id, .string ky, .int .i64 nn] 32)) w.heap.size [.int .i64 1, .int .i64 id, .string ky, .int .i64 nn] 32 := blk_new w _ 32
  have HB0 : Hid (Bo (w.alloc (.cells #[.int .i64 1, .int .i64 id, .string ky, .int .i64 nn] 32)) B m wm s k M r R n) := HB.out.below (al _ _)
  have HW0 : Hid (Below B w (w.alloc (.cells #[.int .i64 1, .int .i64 id, .string ky, .int .i64 nn] 32))) := (al _ _).mono HB.out.hB
  generalize w.alloc (.cells #[.int .i64 1, .int .i64 id, .string ky, .int .i64 nn] 32) = w0 at *
  have HC : Hid (∀ W, Blk W w.heap.size [.int .i64 1, .int .i64 id, .string ky, .int .i64 nn] 32 → W.cell? ⟨w.heap.size, 0, none⟩ = some (.int .i64 1) ∧ W.cell? ⟨w.heap.size, 1, none⟩ = some (.int .i64 id) ∧ W.cell? ⟨w.heap.size, 2, none⟩ = some (.string ky) ∧ W.cell? ⟨w.heap.size, 3, none⟩ = some (.int .i64 nn)) := fun W q => ⟨q.cell 0, q.cell 1, q.cell 2, q.cell 3⟩
  have HBX : Hid (Blk w0 w.heap.size [.int .i64 1, .int .i64 id, .string ky, .int .i64 nn] 32) := hbx
  clear hbx HB
  generalize w.heap.size = g at *
  obtain ⟨c0, c1, c2, c3⟩ := HC.out _ HBX.out
  go_upto_region 7 with fail
  have B0 : Below w0.heap.size w0 w0.drew := (Below.refl _ _).drew
  have HBd : Hid (Bo w0.drew B m wm s k M r R n) := HB0.out.below B0
  have HXd : Hid (Blk w0.drew g [.int .i64 1, .int .i64 id, .string ky, .int .i64 nn] 32) := Blk.below HBX.out B0
  have HWd : Hid (Below B w w0.drew) := HW0.out.trans (B0.mono HB0.out.hB)
  have hSd := HC.out _ HXd.out
  clear c0 c1 c2 c3 HB0 HBX HW0
  have k15 : Calls Try.prog 15 #[.pointer (some ⟨m, 0, none⟩), .int .i64 id, .string ky] w0.drew fun e w' => e = .returned (.int .i64 (errM M id)) ∧ Lft B ⟨m, wm, s, k⟩ (M.wrt id (bs ky)) w0.drew w' := by
    have := write15 HBd.out.mm HBd.out.hB id (by have := HBd.out.inv.sn id; omega) ky hx
    exact this
  have K42 : Hid (∀ W K D, RM W r K D R → Calls Try.prog 42 #[.pointer (some ⟨r, 0, none⟩), .int .i64 id, .string ky] W fun e w' => e = .returned (.int .i64 (errM M id)) ∧ ∃ R', Rel (M.wrt id (bs ky)) R' (n + 1) ∧ LR r R' W w') := fun W K D h => rwrite42' h HBd.out.rel (by omega) id ky
  generalize errM M id = n2 at *
  go_region_held3 (fun W => W.cell? ⟨g, 0, none⟩ = some (.int .i64 1) ∧ W.cell? ⟨g, 1, none⟩ = some (.int .i64 id) ∧ W.cell? ⟨g, 2, none⟩ = some (.string ky) ∧ W.cell? ⟨g, 3, none⟩ = some (.int .i64 nn)) (first | exact hSd | exact hS1 | exact hS2) (first
    | (go_at_call 15; (with_reducible refine k15.mono ?_); rintro e w1 ⟨rfl, hL1⟩; have HL1 : Hid _ := hL1; have HX1 : Hid (Blk w1 g [.int .i64 1, .int .i64 id, .string ky, .int .i64 nn] 32) := hL1.2.box g _ 32 (by decide) HXd.out; have hS1 := HC.out _ HX1.out; obtain ⟨K1, D1, hR1⟩ := HBd.out.mid hL1; have k42 := K42.out _ _ _ hR1; have hRB := hR1.blk; clear hL1 hR1)
    | (go_at_call 42; (with_reducible refine k42.mono ?_); rintro e w2 ⟨rfl, R2, hrel, hL2⟩; have HL2 : Hid _ := hL2; have HX2 : Hid (Blk w2 g [.int .i64 1, .int .i64 id, .string ky, .int .i64 nn] 32) := Blk.keep HX1.out hL2.2 (fun e => blk_ne HX1.out hRB (by decide) e); have hS2 := HC.out _ HX2.out; clear hL2))
  go_wp2_with fail
  go_ret
  exact DPost.done HWd.out (HBd.out.two HL1.out HL2.out hrel (HBd.out.inv.wrt id _))
set_option maxHeartbeats 1000000 in
theorem do22_3 {w : World} {B m wm r n : Nat} {s k : Nat → Nat} {M : Mg} {R : Rf} (h : Bo w B m wm s k M r R n) (_hn : n ≤ 99) (x : Dd) (hk : x.kind = 3) (_hx : x.key.size ≤ maxLen) : Calls Try.prog 22 #[.pointer (some ⟨m, 0, none⟩), .pointer (some ⟨r, 0, none⟩), ddV x] w (DPost w B m wm r n) := by
  obtain ⟨kd, id, ky, nn⟩ := x
  simp only at hk
  subst hk
  have HB : Hid _ := h
  clear h
  go_enter Try.func22, Try.ntmps22
  go_upto_region 1 with fail
  have hbx : Blk (w.alloc (.cells #[.int .i64 3, .int .i64 id, .string ky, .int .i64 nn] 32)) w.heap.size [.int .i64 3, .int .i64 id, .string ky, .int .i64 nn] 32 := blk_new w _ 32
  have HB0 : Hid (Bo (w.alloc (.cells #[.int .i64 3, .int .i64 id, .string ky, .int .i64 nn] 32)) B m wm s k M r R n) := HB.out.below (al _ _)
  have HW0 : Hid (Below B w (w.alloc (.cells #[.int .i64 3, .int .i64 id, .string ky, .int .i64 nn] 32))) := (al _ _).mono HB.out.hB
  generalize w.alloc (.cells #[.int .i64 3, .int .i64 id, .string ky, .int .i64 nn] 32) = w0 at *
  have HC : Hid (∀ W, Blk W w.heap.size [.int .i64 3, .int .i64 id, .string ky, .int .i64 nn] 32 → W.cell? ⟨w.heap.size, 0, none⟩ = some (.int .i64 3) ∧ W.cell? ⟨w.heap.size, 1, none⟩ = some (.int .i64 id) ∧ W.cell? ⟨w.heap.size, 2, none⟩ = some (.string ky) ∧ W.cell? ⟨w.heap.size, 3, none⟩ = some (.int .i64 nn)) := fun W q => ⟨q.cell 0, q.cell 1, q.cell 2, q.cell 3⟩
  have HBX : Hid (Blk w0 w.heap.size [.int .i64 3, .int .i64 id, .string ky, .int .i64 nn] 32) := hbx
  clear hbx HB
  generalize w.heap.size = g at *
  obtain ⟨c0, c1, c2, c3⟩ := HC.out _ HBX.out
  go_upto_region 15 with fail
  have B0 : Below w0.heap.size w0 w0.drew := (Below.refl _ _).drew
  have HBd : Hid (Bo w0.drew B m wm s k M r R n) := HB0.out.below B0
  have HXd : Hid (Blk w0.drew g [.int .i64 3, .int .i64 id, .string ky, .int .i64 nn] 32) := Blk.below HBX.out B0
  have HWd : Hid (Below B w w0.drew) := HW0.out.trans (B0.mono HB0.out.hB)
  have hSd := HC.out _ HXd.out
  clear c0 c1 c2 c3 HB0 HBX HW0
  have k17 : Calls Try.prog 17 #[.pointer (some ⟨m, 0, none⟩), .int .i64 id] w0.drew fun e w' => e = .returned (.int .i64 (errM M id)) ∧ Lft B ⟨m, wm, s, k⟩ (M.fin id) w0.drew w' := by
    have := end17 HBd.out.mm HBd.out.hB id
    exact this
  have K44 : Hid (∀ W K D, RM W r K D R → Calls Try.prog 44 #[.pointer (some ⟨r, 0, none⟩), .int .i64 id] W fun e w' => e = .returned (.int .i64 (errM M id)) ∧ LR r (R.fin id) W w') := fun W K D h => rend44' h HBd.out.rel id
  generalize errM M id = n2 at *
  go_region_held3 (fun W => W.cell? ⟨g, 0, none⟩ = some (.int .i64 3) ∧ W.cell? ⟨g, 1, none⟩ = some (.int .i64 id) ∧ W.cell? ⟨g, 2, none⟩ = some (.string ky) ∧ W.cell? ⟨g, 3, none⟩ = some (.int .i64 nn)) (first | exact hSd | exact hS1 | exact hS2) (first
    | (go_at_call 17; (with_reducible refine k17.mono ?_); rintro e w1 ⟨rfl, hL1⟩; have HL1 : Hid _ := hL1; have HX1 : Hid (Blk w1 g [.int .i64 3, .int .i64 id, .string ky, .int .i64 nn] 32) := hL1.2.box g _ 32 (by decide) HXd.out; have hS1 := HC.out _ HX1.out; obtain ⟨K1, D1, hR1⟩ := HBd.out.mid hL1; have k44 := K44.out _ _ _ hR1; have hRB := hR1.blk; clear hL1 hR1)
    | (go_at_call 44; (with_reducible refine k44.mono ?_); rintro e w2 ⟨rfl, hL2⟩; have HL2 : Hid _ := hL2; have HX2 : Hid (Blk w2 g [.int .i64 3, .int .i64 id, .string ky, .int .i64 nn] 32) := Blk.keep HX1.out hL2.2 (fun e => blk_ne HX1.out hRB (by decide) e); have hS2 := HC.out _ HX2.out; clear hL2))
  go_wp2_with fail
  go_ret
  exact DPost.done HWd.out (HBd.out.two HL1.out HL2.out (HBd.out.rel.fin id) (HBd.out.inv.fin id))
set_option maxHeartbeats 1000000 in
theorem do22_4 {w : World} {B m wm r n : Nat} {s k : Nat → Nat} {M : Mg} {R : Rf} (h : Bo w B m wm s k M r R n) (_hn : n ≤ 99) (x : Dd) (hk : x.kind = 4) (_hx : x.key.size ≤ maxLen) : Calls Try.prog 22 #[.pointer (some ⟨m, 0, none⟩), .pointer (some ⟨r, 0, none⟩), ddV x] w (DPost w B m wm r n) := by
  obtain ⟨kd, id, ky, nn⟩ := x
  simp only at hk
  subst hk
  have HB : Hid _ := h
  clear h
  go_enter Try.func22, Try.ntmps22
  go_upto_region 1 with fail
  have hbx : Blk (w.alloc (.cells #[.int .i64 4, .int .i64 id, .string ky, .int .i64 nn] 32)) w.heap.size [.int .i64 4, .int .i64 id, .string ky, .int .i64 nn] 32 := blk_new w _ 32
  have HB0 : Hid (Bo (w.alloc (.cells #[.int .i64 4, .int .i64 id, .string ky, .int .i64 nn] 32)) B m wm s k M r R n) := HB.out.below (al _ _)
  have HW0 : Hid (Below B w (w.alloc (.cells #[.int .i64 4, .int .i64 id, .string ky, .int .i64 nn] 32))) := (al _ _).mono HB.out.hB
  generalize w.alloc (.cells #[.int .i64 4, .int .i64 id, .string ky, .int .i64 nn] 32) = w0 at *
  have HC : Hid (∀ W, Blk W w.heap.size [.int .i64 4, .int .i64 id, .string ky, .int .i64 nn] 32 → W.cell? ⟨w.heap.size, 0, none⟩ = some (.int .i64 4) ∧ W.cell? ⟨w.heap.size, 1, none⟩ = some (.int .i64 id) ∧ W.cell? ⟨w.heap.size, 2, none⟩ = some (.string ky) ∧ W.cell? ⟨w.heap.size, 3, none⟩ = some (.int .i64 nn)) := fun W q => ⟨q.cell 0, q.cell 1, q.cell 2, q.cell 3⟩
  have HBX : Hid (Blk w0 w.heap.size [.int .i64 4, .int .i64 id, .string ky, .int .i64 nn] 32) := hbx
  clear hbx HB
  generalize w.heap.size = g at *
  obtain ⟨c0, c1, c2, c3⟩ := HC.out _ HBX.out
  have k18 : Calls Try.prog 18 #[.pointer (some ⟨m, 0, none⟩), .int .i64 nn] w0 fun e w' => e = .returned (.tuple #[]) ∧ Lft B ⟨m, wm, s, k⟩ (M.tick nn) w0 w' := by
    have := tick18 HB0.out.mm HB0.out.inv.fit nn
    exact this
  have K45 : Hid (∀ W K D, RM W r K D R → Calls Try.prog 45 #[.pointer (some ⟨r, 0, none⟩), .int .i64 nn] W fun e w' => e = .returned (.tuple #[]) ∧ LR r (R.tick nn) W w') := fun W K D h => rtick45 h (by rw [HB0.out.rel.clock]; exact HB0.out.inv.fit.c0) (by rw [HB0.out.rel.clock]; exact HB0.out.inv.fit.c1) nn
  go_wp2_with (first
    | (go_at_call 18; (with_reducible refine k18.mono ?_); rintro e w1 ⟨rfl, hL1⟩; have hq1 := hL1.2.box g _ 32 (by decide) HBX.out; obtain ⟨d0, d1, d2, d3⟩ := HC.out _ hq1; obtain ⟨K1, D1, hR1⟩ := HB0.out.mid hL1; have k45 := K45.out _ _ _ hR1; have HL1 : Hid _ := hL1; clear hL1 hR1 hq1)
    | (go_at_call 45; (with_reducible refine k45.mono ?_); rintro e w2 ⟨rfl, hL2⟩))
  go_ret
  exact DPost.done HW0.out (HB0.out.two HL1.out hL2 (HB0.out.rel.tick nn) (HB0.out.inv.tick nn))
set_option maxHeartbeats 1000000 in
theorem do22_z {w : World} {B m wm r n : Nat} {s k : Nat → Nat} {M : Mg} {R : Rf} (h : Bo w B m wm s k M r R n) (_hn : n ≤ 99) (x : Dd) (hk : x.kind ≠ 0 ∧ x.kind ≠ 1 ∧ x.kind ≠ 2 ∧ x.kind ≠ 3 ∧ x.kind ≠ 4) (_hx : x.key.size ≤ maxLen) : Calls Try.prog 22 #[.pointer (some ⟨m, 0, none⟩), .pointer (some ⟨r, 0, none⟩), ddV x] w (DPost w B m wm r n) := by
  obtain ⟨kd, id, ky, nn⟩ := x
  simp only at hk
  obtain ⟨p0, p1, p2, p3, p4⟩ := hk
  have HB : Hid _ := h
  clear h
  go_enter Try.func22, Try.ntmps22
  go_upto_region 1 with fail
  have hbx : Blk (w.alloc (.cells #[.int .i64 kd, .int .i64 id, .string ky, .int .i64 nn] 32)) w.heap.size [.int .i64 kd, .int .i64 id, .string ky, .int .i64 nn] 32 := blk_new w _ 32
  have HB0 : Hid (Bo (w.alloc (.cells #[.int .i64 kd, .int .i64 id, .string ky, .int .i64 nn] 32)) B m wm s k M r R n) := HB.out.below (al _ _)
  have HW0 : Hid (Below B w (w.alloc (.cells #[.int .i64 kd, .int .i64 id, .string ky, .int .i64 nn] 32))) := (al _ _).mono HB.out.hB
  generalize w.alloc (.cells #[.int .i64 kd, .int .i64 id, .string ky, .int .i64 nn] 32) = w0 at *
  have HC : Hid (∀ W, Blk W w.heap.size [.int .i64 kd, .int .i64 id, .string ky, .int .i64 nn] 32 → W.cell? ⟨w.heap.size, 0, none⟩ = some (.int .i64 kd) ∧ W.cell? ⟨w.heap.size, 1, none⟩ = some (.int .i64 id) ∧ W.cell? ⟨w.heap.size, 2, none⟩ = some (.string ky) ∧ W.cell? ⟨w.heap.size, 3, none⟩ = some (.int .i64 nn)) := fun W q => ⟨q.cell 0, q.cell 1, q.cell 2, q.cell 3⟩
  have HBX : Hid (Blk w0 w.heap.size [.int .i64 kd, .int .i64 id, .string ky, .int .i64 nn] 32) := hbx
  clear hbx HB
  generalize w.heap.size = g at *
  obtain ⟨c0, c1, c2, c3⟩ := HC.out _ HBX.out
  go_wp2_with fail
  go_ret
  exact DPost.done HW0.out ⟨HB0.out.mono (by omega), Below.refl _ _⟩
set_option maxHeartbeats 1000000 in
theorem do22_2 {w : World} {B m wm r n : Nat} {s k : Nat → Nat} {M : Mg} {R : Rf} (h : Bo w B m wm s k M r R n) (hn : n ≤ 99) (x : Dd) (hk : x.kind = 2) (_hx : x.key.size ≤ maxLen) : Calls Try.prog 22 #[.pointer (some ⟨m, 0, none⟩), .pointer (some ⟨r, 0, none⟩), ddV x] w (DPost w B m wm r n) := by
  obtain ⟨kd, id, ky, nn⟩ := x
  simp only at hk
  subst hk
  have HB : Hid _ := h
  clear h
  go_enter Try.func22, Try.ntmps22
  go_upto_region 1 with fail
  have hbx : Blk (w.alloc (.cells #[.int .i64 2, .int .i64 id, .string ky, .int .i64 nn] 32)) w.heap.size [.int .i64 2, .int .i64 id, .string ky, .int .i64 nn] 32 := blk_new w _ 32
  have HB0 : Hid (Bo (w.alloc (.cells #[.int .i64 2, .int .i64 id, .string ky, .int .i64 nn] 32)) B m wm s k M r R n) := HB.out.below (al _ _)
  have HW0 : Hid (Below B w (w.alloc (.cells #[.int .i64 2, .int .i64 id, .string ky, .int .i64 nn] 32))) := (al _ _).mono HB.out.hB
  generalize w.alloc (.cells #[.int .i64 2, .int .i64 id, .string ky, .int .i64 nn] 32) = w0 at *
  have HC : Hid (∀ W, Blk W w.heap.size [.int .i64 2, .int .i64 id, .string ky, .int .i64 nn] 32 → W.cell? ⟨w.heap.size, 0, none⟩ = some (.int .i64 2) ∧ W.cell? ⟨w.heap.size, 1, none⟩ = some (.int .i64 id) ∧ W.cell? ⟨w.heap.size, 2, none⟩ = some (.string ky) ∧ W.cell? ⟨w.heap.size, 3, none⟩ = some (.int .i64 nn)) := fun W q => ⟨q.cell 0, q.cell 1, q.cell 2, q.cell 3⟩
  have HBX : Hid (Blk w0 w.heap.size [.int .i64 2, .int .i64 id, .string ky, .int .i64 nn] 32) := hbx
  clear hbx HB
  generalize w.heap.size = g at *
  obtain ⟨c0, c1, c2, c3⟩ := HC.out _ HBX.out
  go_upto_region 9 with fail
  have B0 : Below w0.heap.size w0 w0.drew := (Below.refl _ _).drew
  have HBd : Hid (Bo w0.drew B m wm s k M r R n) := HB0.out.below B0
  have HXd : Hid (Blk w0.drew g [.int .i64 2, .int .i64 id, .string ky, .int .i64 nn] 32) := Blk.below HBX.out B0
  have HWd : Hid (Below B w w0.drew) := HW0.out.trans (B0.mono HB0.out.hB)
  have hSd := HC.out _ HXd.out
  clear c0 c1 c2 c3 HB0 HBX HW0
  have k25 : Calls Try.prog 25 #[.pointer (some ⟨m, 0, none⟩), .int .i64 id] w0.drew fun e w' => e = .returned (.int .i64 (errC M id)) ∧ Below w0.drew.heap.size w0.drew w' := by
    have := test25 HBd.out.mm id
    exact this
  have K31 : Hid (∀ W K D, RM W r K D R → Calls Try.prog 31 #[.pointer (some ⟨r, 0, none⟩), .int .i64 id] W fun e w' => e = .returned (.int .i64 (errC M id)) ∧ Below W.heap.size W w') := fun W K D h => rtest31' h HBd.out.rel HBd.out.inv (by omega) id
  have K16 : Hid (∀ W, Bo W B m wm s k M r R n → Calls Try.prog 16 #[.pointer (some ⟨m, 0, none⟩), .int .i64 id] W fun e w' => e = .returned (.tuple #[.int .i64 (cmtR M id), .int .i64 (errC M id)]) ∧ ∃ l, Hid (errC M id = 0 → Noted M.wr l (M.sn id).keys (hiC M)) ∧ Lft B ⟨m, wm, s, k⟩ (M.cmt id l) W w') := fun W h => by
    have := commit16 h.mm h.hB h.inv.fit id (by have h1 := h.inv.sn id; have h2 := h.inv.wr; omega)
    exact this
  have K43 : Hid (∀ W K D, RM W r K D R → Calls Try.prog 43 #[.pointer (some ⟨r, 0, none⟩), .int .i64 id] W fun e w' => e = .returned (.tuple #[.int .i64 (cmtR M id), .int .i64 (errC M id)]) ∧ ∃ R', Hid (∀ l, (errC M id = 0 → Noted M.wr l (M.sn id).keys (hiC M)) → Rel (M.cmt id l) R' (n + 1)) ∧ LR r R' W w') := fun W K D h => rcommit43' h HBd.out.rel HBd.out.inv (by omega) id
  have HI : Hid (∀ l, (errC M id = 0 → Noted M.wr l (M.sn id).keys (hiC M)) → Inv (M.cmt id l) (n + 1)) := fun l hl => HBd.out.inv.cmt (by omega) id l hl
  generalize errC M id = n2 at *
  generalize cmtR M id = n1 at *
  go_region_held3 (fun W => W.cell? ⟨g, 0, none⟩ = some (.int .i64 2) ∧ W.cell? ⟨g, 1, none⟩ = some (.int .i64 id) ∧ W.cell? ⟨g, 2, none⟩ = some (.string ky) ∧ W.cell? ⟨g, 3, none⟩ = some (.int .i64 nn)) (first | exact hSd | exact hS1 | exact hS2) (first
    | (go_at_call 25; (with_reducible refine k25.mono ?_); rintro e w1 ⟨rfl, hL1⟩; have HB1 : Hid (Bo w1 B m wm s k M r R n) := HBd.out.below hL1; have HX1 : Hid (Blk w1 g [.int .i64 2, .int .i64 id, .string ky, .int .i64 nn] 32) := Blk.below HXd.out hL1; have HW1 : Hid (Below B w w1) := HWd.out.trans (hL1.mono HBd.out.hB); have hS1 := HC.out _ HX1.out; obtain ⟨K1, D1, hR1⟩ := HB1.out.rm; have k31 := K31.out _ _ _ hR1; clear hR1 hL1)
    | (go_at_call 31; (with_reducible refine k31.mono ?_); rintro e w2 ⟨rfl, hL2⟩; have HB2 : Hid (Bo w2 B m wm s k M r R n) := HB1.out.below hL2; have HX2 : Hid (Blk w2 g [.int .i64 2, .int .i64 id, .string ky, .int .i64 nn] 32) := Blk.below HX1.out hL2; have HW2 : Hid (Below B w w2) := HW1.out.trans (hL2.mono HB1.out.hB); have hS2 := HC.out _ HX2.out; have k16 := K16.out _ HB2.out; clear hL2))
  obtain ⟨e0, e1, e2, e3⟩ := HC.out _ HX2.out
  clear hS1 hSd hS2
  go_wp2_with (first
    | (go_at_call 16; (with_reducible refine k16.mono ?_); rintro e w3 ⟨rfl, l, hl, hL3⟩; have HL3 : Hid _ := hL3; have hq3 := hL3.2.box g _ 32 (by decide) HX2.out; obtain ⟨d0, d1, d2, d3⟩ := HC.out _ hq3; obtain ⟨K3, D3, hR3⟩ := HB2.out.mid hL3; have k43 := K43.out _ _ _ hR3; clear hL3 hR3 hq3)
    | (go_at_call 43; (with_reducible refine k43.mono ?_); rintro e w4 ⟨rfl, R4, hrel, hL4⟩))
  go_ret
  exact DPost.done HW2.out (HB2.out.two HL3.out hL4 (hrel.out l hl.out) (HI.out l hl.out))
theorem do22 {w : World} {B m wm r n : Nat} {s k : Nat → Nat} {M : Mg} {R : Rf} (h : Bo w B m wm s k M r R n) (hn : n ≤ 99) (x : Dd) (hx : x.key.size ≤ maxLen) : Calls Try.prog 22 #[.pointer (some ⟨m, 0, none⟩), .pointer (some ⟨r, 0, none⟩), ddV x] w (DPost w B m wm r n) := by
  by_cases c0 : x.kind = 0
  · exact do22_0 h hn x c0 hx
  by_cases c1 : x.kind = 1
  · exact do22_1 h hn x c1 hx
  by_cases c2 : x.kind = 2
  · exact do22_2 h hn x c2 hx
  by_cases c3 : x.kind = 3
  · exact do22_3 h hn x c3 hx
  by_cases c4 : x.kind = 4
  · exact do22_4 h hn x c4 hx
  exact do22_z h hn x ⟨c0, c1, c2, c3, c4⟩ hx
end Go.Proofs.Ytjgdcdeekpeenaa
