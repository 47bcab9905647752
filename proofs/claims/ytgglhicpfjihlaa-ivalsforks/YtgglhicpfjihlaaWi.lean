/- with. -/
import Derived.Test.YtgglhicpfjihlaaHw
namespace Go.Proofs.Ytgglhicpfjihlaa
open Go.RowKit Go.Shelf
set_option maxRecDepth 100000

set_option maxHeartbeats 2000000 in
theorem with42 (s : St) : ∀ (t : T) {W : World} {p : Option Addr}, TS W p t → t.size ≤ 900 →
    Calls Try.prog 42 #[.pointer p, SV s] W fun e w' => ∃ q, e = .returned (.pointer q) ∧ TS w' q (t.ins s) ∧ Below W.heap.size W w' := by
  intro t
  induction t with
  | nil =>
    intro W p h _
    obtain rfl : p = none := h.tr
    have k1 := place47 (W := W.alloc (.cells #[.int .i64 s.f, .int .i64 s.t, .int .i64 s.i] 68)) (pl := none) (pr := none) (l := .nil) (r := .nil) s ⟨rfl⟩ ⟨rfl⟩ (by simp [T.size])
    have HW : Hid (Below W.heap.size W (W.alloc (.cells #[.int .i64 s.f, .int .i64 s.t, .int .i64 s.i] 68))) := al _ _
    go_enter Try.func42, Try.ntmps42
    go_wp2_with (go_at_call 47; (with_reducible refine k1.mono ?_); rintro e w1 ⟨q, rfl, t1, B1⟩)
    go_ret
    exact ⟨_, rfl, t1, bmore HW.out B1⟩
  | node l x r ihl ihr =>
    intro W p h hs
    have hk := compare49 s x
    have b0 := blk_new W [.int .i64 s.f, .int .i64 s.t, .int .i64 s.i] 68
    have HW : Hid (Below W.heap.size W (W.alloc (.cells #[.int .i64 s.f, .int .i64 s.t, .int .i64 s.i] 68))) := al _ _
    have hh := h.below HW.out
    change Blk (W.alloc (.cells #[.int .i64 s.f, .int .i64 s.t, .int .i64 s.i] 68)) _ _ _ at b0
    have HE : Hid (T.ins (.node l x r) s = if cs s x < 0 then T.bal (.node (l.ins s) x r) else T.bal (.node l x (r.ins s))) := rfl
    go_enter Try.func42, Try.ntmps42
    obtain ⟨g, pl, pr, rfl, _, h0, hl, hr⟩ := hh.tr
    replace hl : TS _ pl l := ⟨hl⟩
    replace hr : TS _ pr r := ⟨hr⟩
    go_wp2_with fail
    generalize hG : W.heap.size = G at *
    have HG : Hid _ := hG
    clear hG
    generalize W.alloc (.cells #[.int .i64 s.f, .int .i64 s.t, .int .i64 s.i] 68) = W0 at *
    have HS : Hid (∀ W', Below W0.heap.size W0 W' → W'.cell? ⟨G, 0, none⟩ = some (.int .i64 s.f) ∧ W'.cell? ⟨G, 1, none⟩ = some (.int .i64 s.t) ∧ W'.cell? ⟨G, 2, none⟩ = some (.int .i64 s.i) ∧ W'.cell? ⟨g, 0, none⟩ = some (.int .i64 x.f) ∧ W'.cell? ⟨g, 1, none⟩ = some (.int .i64 x.t) ∧ W'.cell? ⟨g, 2, none⟩ = some (.int .i64 x.i) ∧ W'.cell? ⟨g, 3, none⟩ = some (.pointer pl) ∧ W'.cell? ⟨g, 4, none⟩ = some (.pointer pr)) := fun W' k =>
      ⟨(b0.below k).cell 0, (b0.below k).cell 1, (b0.below k).cell 2, (h0.below k).cell 0, (h0.below k).cell 1, (h0.below k).cell 2, (h0.below k).cell 3, (h0.below k).cell 4⟩
    have HL : Hid (∀ W', Below W0.heap.size W0 W' → TS W' pl l ∧ TS W' pr r) := fun W' k => ⟨hl.below k, hr.below k⟩
    have HI1 : Hid (∀ W', Below W0.heap.size W0 W' → Calls Try.prog 42 #[.pointer pl, SV s] W' fun e w' => ∃ q, e = .returned (.pointer q) ∧ TS w' q (l.ins s) ∧ Below W'.heap.size W' w') := fun W' k => ihl (hl.below k) (by simp only [T.size] at hs; omega)
    have HI2 : Hid (∀ W', Below W0.heap.size W0 W' → Calls Try.prog 42 #[.pointer pr, SV s] W' fun e w' => ∃ q, e = .returned (.pointer q) ∧ TS w' q (r.ins s) ∧ Below W'.heap.size W' w') := fun W' k => ihr (hr.below k) (by simp only [T.size] at hs; omega)
    have HP1 : Hid (∀ W' q, TS W' q (l.ins s) → Below W0.heap.size W0 W' → Calls Try.prog 47 #[.pointer q, SV x, .pointer pr] W' fun e w' => ∃ b', e = .returned (.pointer (some ⟨b', 0, none⟩)) ∧ TS w' (some ⟨b', 0, none⟩) (.node (l.ins s) x r) ∧ Below W'.heap.size W' w') := fun W' q hq k => place47 x hq (hr.below k) (by have := l.size_ins s; simp only [T.size] at hs ⊢; omega)
    have HP2 : Hid (∀ W' q, TS W' q (r.ins s) → Below W0.heap.size W0 W' → Calls Try.prog 47 #[.pointer pl, SV x, .pointer q] W' fun e w' => ∃ b', e = .returned (.pointer (some ⟨b', 0, none⟩)) ∧ TS w' (some ⟨b', 0, none⟩) (.node l x (r.ins s)) ∧ Below W'.heap.size W' w') := fun W' q hq k => place47 x (hl.below k) hq (by have := r.size_ins s; simp only [T.size] at hs ⊢; omega)
    have HB1 : Hid (∀ W' q, TS W' q (.node (l.ins s) x r) → Calls Try.prog 51 #[.pointer q] W' fun e w' => ∃ q, e = .returned (.pointer q) ∧ TS w' q (T.bal (.node (l.ins s) x r)) ∧ Below W'.heap.size W' w') := fun W' q hq => bal51 hq (by have := l.size_ins s; simp only [T.size] at hs ⊢; omega)
    have HB2 : Hid (∀ W' q, TS W' q (.node l x (r.ins s)) → Calls Try.prog 51 #[.pointer q] W' fun e w' => ∃ q, e = .returned (.pointer q) ∧ TS w' q (T.bal (.node l x (r.ins s))) ∧ Below W'.heap.size W' w') := fun W' q hq => bal51 hq (by have := r.size_ins s; simp only [T.size] at hs ⊢; omega)
    have K0 : Below W0.heap.size W0 W0.drew := (Below.refl _ _).drew
    have hS0 := HS.out _ K0
    clear ihl ihr hl hr h0 b0 h hh
    go_region_held3 (fun W' => W'.cell? ⟨G, 0, none⟩ = some (.int .i64 s.f) ∧ W'.cell? ⟨G, 1, none⟩ = some (.int .i64 s.t) ∧ W'.cell? ⟨G, 2, none⟩ = some (.int .i64 s.i) ∧ W'.cell? ⟨g, 0, none⟩ = some (.int .i64 x.f) ∧ W'.cell? ⟨g, 1, none⟩ = some (.int .i64 x.t) ∧ W'.cell? ⟨g, 2, none⟩ = some (.int .i64 x.i) ∧ W'.cell? ⟨g, 3, none⟩ = some (.pointer pl) ∧ W'.cell? ⟨g, 4, none⟩ = some (.pointer pr)) (first | exact hS0 | exact HS.out _ K1) (first
        | (go_at_call 49; (with_reducible refine (hk _).mono ?_); rintro e w1 ⟨rfl, B1⟩; have K1 := bmore K0 B1))
    clear hS0
    generalize cs s x = z at *
    by_cases h1 : z < 0
    · have HR : Hid (T.ins (.node l x r) s = T.bal (.node (l.ins s) x r)) := by rw [show T.ins (.node l x r) s = _ from HE.out, if_pos h1]; rfl
      go_wp2_with fail
      have K2 := K1.drew
      have hS0 := HS.out _ K2
      go_region_held3 (fun W' => W'.cell? ⟨G, 0, none⟩ = some (.int .i64 s.f) ∧ W'.cell? ⟨G, 1, none⟩ = some (.int .i64 s.t) ∧ W'.cell? ⟨G, 2, none⟩ = some (.int .i64 s.i) ∧ W'.cell? ⟨g, 0, none⟩ = some (.int .i64 x.f) ∧ W'.cell? ⟨g, 1, none⟩ = some (.int .i64 x.t) ∧ W'.cell? ⟨g, 2, none⟩ = some (.int .i64 x.i) ∧ W'.cell? ⟨g, 3, none⟩ = some (.pointer pl) ∧ W'.cell? ⟨g, 4, none⟩ = some (.pointer pr)) (first | exact hS0 | exact HS.out _ K3 | exact HS.out _ K4 | exact HS.out _ K5) (first
        | (go_at_call 42; (with_reducible refine (HI1.out _ K2).mono ?_); rintro e w3 ⟨q3, rfl, t3, B3⟩; have K3 := bmore K2 B3; have T3 : Hid _ := t3; clear t3)
        | (go_at_call 47; (with_reducible refine (HP1.out _ _ T3.out K3).mono ?_); rintro e w4 ⟨q4, rfl, t4, B4⟩; have K4 := bmore K3 B4; have T4 : Hid _ := t4; clear t4)
        | (go_at_call 51; (with_reducible refine (HB1.out _ _ T4.out).mono ?_); rintro e w5 ⟨q5, rfl, t5, B5⟩; have K5 := bmore K4 B5; have T5 : Hid _ := t5; clear t5))
      all_goals (
        go_wp2
        go_ret
        exact ⟨_, rfl, by rw [HR.out]; exact T5.out, by rw [HG.out]; exact HW.out.trans (K5.mono (by have := HW.out.size; rw [HG.out] at this; exact this))⟩)
    · have HR : Hid (T.ins (.node l x r) s = T.bal (.node l x (r.ins s))) := by rw [show T.ins (.node l x r) s = _ from HE.out, if_neg h1]; rfl
      go_wp2_with fail
      have K2 := K1.drew
      have hS0 := HS.out _ K2
      go_region_held3 (fun W' => W'.cell? ⟨G, 0, none⟩ = some (.int .i64 s.f) ∧ W'.cell? ⟨G, 1, none⟩ = some (.int .i64 s.t) ∧ W'.cell? ⟨G, 2, none⟩ = some (.int .i64 s.i) ∧ W'.cell? ⟨g, 0, none⟩ = some (.int .i64 x.f) ∧ W'.cell? ⟨g, 1, none⟩ = some (.int .i64 x.t) ∧ W'.cell? ⟨g, 2, none⟩ = some (.int .i64 x.i) ∧ W'.cell? ⟨g, 3, none⟩ = some (.pointer pl) ∧ W'.cell? ⟨g, 4, none⟩ = some (.pointer pr)) (first | exact hS0 | exact HS.out _ K3 | exact HS.out _ K4 | exact HS.out _ K5) (first
        | (go_at_call 42; (with_reducible refine (HI2.out _ K2).mono ?_); rintro e w3 ⟨q3, rfl, t3, B3⟩; have K3 := bmore K2 B3; have T3 : Hid _ := t3; clear t3)
        | (go_at_call 47; (with_reducible refine (HP2.out _ _ T3.out K3).mono ?_); rintro e w4 ⟨q4, rfl, t4, B4⟩; have K4 := bmore K3 B4; have T4 : Hid _ := t4; clear t4)
        | (go_at_call 51; (with_reducible refine (HB2.out _ _ T4.out).mono ?_); rintro e w5 ⟨q5, rfl, t5, B5⟩; have K5 := bmore K4 B5; have T5 : Hid _ := t5; clear t5))
      all_goals (
        go_wp2
        go_ret
        exact ⟨_, rfl, by rw [HR.out]; exact T5.out, by rw [HG.out]; exact HW.out.trans (K5.mono (by have := HW.out.size; rw [HG.out] at this; exact this))⟩)
end Go.Proofs.Ytgglhicpfjihlaa
