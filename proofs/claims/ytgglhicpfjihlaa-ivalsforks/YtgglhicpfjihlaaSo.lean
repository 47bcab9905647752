/- sound. -/
import Derived.Test.YtgglhicpfjihlaaSe
import Derived.Test.YtgglhicpfjihlaaAv
import Derived.Test.YtgglhicpfjihlaaPq
namespace Go.Proofs.Ytgglhicpfjihlaa
open Go.RowKit Go.Shelf
set_option maxRecDepth 100000

theorem leanS' {W : World} {p : Option Addr} {t : T} (h : TS W p t) (hn : t ≠ .nil) (hs : t.size ≤ 1000) : Calls Try.prog 48 #[.pointer p] W fun e w' => e = .returned (.int .i64 t.lean) ∧ Below W.heap.size W w' := lean48 h.tr hn hs
theorem cells7 {W : World} {b : Nat} {s : St} {pl pr : Option Addr} {h : Nat} {m : Int} (hb : Blk W b (nodeC s pl pr h m) 70) :
    W.cell? ⟨b, 0, none⟩ = some (.int .i64 s.f) ∧ W.cell? ⟨b, 1, none⟩ = some (.int .i64 s.t) ∧ W.cell? ⟨b, 2, none⟩ = some (.int .i64 s.i) ∧ W.cell? ⟨b, 3, none⟩ = some (.pointer pl) ∧ W.cell? ⟨b, 4, none⟩ = some (.pointer pr) ∧ W.cell? ⟨b, 5, none⟩ = some (.int .i64 (h : Int)) ∧ W.cell? ⟨b, 6, none⟩ = some (.int .i64 m) :=
  ⟨hb.cell 0, hb.cell 1, hb.cell 2, hb.cell 3, hb.cell 4, hb.cell 5, hb.cell 6⟩
/-- Every stretch has points. -/
def T.pts (t : T) : Prop := ∀ s ∈ t.inord, s.f < s.t

set_option maxHeartbeats 2000000 in
theorem sound35 : ∀ (t : T) {W : World} {p : Option Addr}, TS W p t → t.avl → t.pts → t.size ≤ 1000 →
    Calls Try.prog 35 #[.pointer p] W fun e w' => e = .returned (.bool true) ∧ Below W.heap.size W w' := by
  intro t
  induction t with
  | nil =>
    intro W p h _ _ _
    obtain rfl : p = none := h.tr
    go_enter Try.func35, Try.ntmps35
    go_wp2
    go_ret
    exact ⟨rfl, Below.refl _ _⟩
  | node l s r ihl ihr =>
    intro W p h hav hpt hs
    obtain ⟨g, pl, pr, rfl, _, h0, hl, hr⟩ := h.tr
    replace hl : TS W pl l := ⟨hl⟩
    replace hr : TS W pr r := ⟨hr⟩
    obtain ⟨hal, har, hd1, hd2⟩ := hav
    have hft : s.f < s.t := hpt s (by simp [T.inord])
    have hpl : l.pts := fun x hx => hpt x (by simp [T.inord, hx])
    have hpr : r.pts := fun x hx => hpt x (by simp [T.inord, hx])
    have hsl : l.size ≤ 1000 := by simp only [T.size] at hs; omega
    have hsr : r.size ≤ 1000 := by simp only [T.size] at hs; omega
    have K0 : Below W.heap.size W W.drew := (Below.refl _ _).drew
    have HS : Hid (∀ W', Below W.heap.size W W' → W'.cell? ⟨g, 0, none⟩ = some (.int .i64 s.f) ∧ W'.cell? ⟨g, 1, none⟩ = some (.int .i64 s.t) ∧ W'.cell? ⟨g, 2, none⟩ = some (.int .i64 s.i) ∧ W'.cell? ⟨g, 3, none⟩ = some (.pointer pl) ∧ W'.cell? ⟨g, 4, none⟩ = some (.pointer pr) ∧ W'.cell? ⟨g, 5, none⟩ = some (.int .i64 ((T.node l s r).ht : Int)) ∧ W'.cell? ⟨g, 6, none⟩ = some (.int .i64 (T.node l s r).rc)) := fun W' k => cells7 (h0.below k)
    have k47 := placeOf47x (W := W.drew) s (hl.below K0).tr (hr.below K0).tr hs
    have HH : Hid (∀ W', Below W.heap.size W W' → TS W' (some ⟨g, 0, none⟩) (.node l s r)) := fun W' k => h.below k
    have HI1 : Hid (∀ W', Below W.heap.size W W' → Calls Try.prog 35 #[.pointer pl] W' fun e w' => e = .returned (.bool true) ∧ Below W'.heap.size W' w') := fun W' k => ihl (hl.below k) hal hpl hsl
    have HI2 : Hid (∀ W', Below W.heap.size W W' → Calls Try.prog 35 #[.pointer pr] W' fun e w' => e = .returned (.bool true) ∧ Below W'.heap.size W' w') := fun W' k => ihr (hr.below k) har hpr hsr
    have hlean : (T.node l s r).lean = (l.ht : Int) - r.ht := rfl
    have HL : Hid (∀ W', Below W.heap.size W W' → Calls Try.prog 48 #[.pointer (some ⟨g, 0, none⟩)] W' fun e w' => e = .returned (.int .i64 ((l.ht : Int) - r.ht)) ∧ Below W'.heap.size W' w') := fun W' k => leanS' (h.below k) (by simp) hs
    have hz : -1 ≤ (l.ht : Int) - r.ht ∧ (l.ht : Int) - r.ht ≤ 1 := by omega
    have hS0 := HS.out _ K0
    generalize (T.node l s r).ht = hh at *
    generalize (T.node l s r).rc = mm at *
    have heq := fun w => eql70 s.f s.t s.i (hh : Int) mm pl pr w
    generalize hzz : (l.ht : Int) - r.ht = z at *
    have hn1 : IntKind.i64.wrap (-z) = -z := (IntWalk.i64_left _).trans (IntWalk.wrap64_in _ (by omega))
    have hn2 : wrap64 (-z) = -z := IntWalk.wrap64_in _ (by omega)
    clear hlean hzz ihl ihr hl hr h0 h hal har hd1 hd2 hpt hpl hpr hsl hsr hs
    go_enter Try.func35, Try.ntmps35
    go_wp2_with fail
    go_region_held3 (fun W' => W'.cell? ⟨g, 0, none⟩ = some (.int .i64 s.f) ∧ W'.cell? ⟨g, 1, none⟩ = some (.int .i64 s.t) ∧ W'.cell? ⟨g, 2, none⟩ = some (.int .i64 s.i) ∧ W'.cell? ⟨g, 3, none⟩ = some (.pointer pl) ∧ W'.cell? ⟨g, 4, none⟩ = some (.pointer pr) ∧ W'.cell? ⟨g, 5, none⟩ = some (.int .i64 (hh : Int)) ∧ W'.cell? ⟨g, 6, none⟩ = some (.int .i64 mm)) (first | exact hS0 | exact HS.out _ K1) (first
      | (go_at_call 47; (with_reducible refine k47.mono ?_); clear k47; rintro e w1 ⟨q, rfl, hq, B1⟩; have K1 := bmore K0 B1; have HQ : Hid _ := hq; clear hq))
    clear hS0
    go_wp2_with fail
    have K2 := K1.drew
    have HQS : Hid (∀ W', Below w1.heap.size w1 W' → W'.cell? ⟨q, 0, none⟩ = some (.int .i64 s.f) ∧ W'.cell? ⟨q, 1, none⟩ = some (.int .i64 s.t) ∧ W'.cell? ⟨q, 2, none⟩ = some (.int .i64 s.i) ∧ W'.cell? ⟨q, 3, none⟩ = some (.pointer pl) ∧ W'.cell? ⟨q, 4, none⟩ = some (.pointer pr) ∧ W'.cell? ⟨q, 5, none⟩ = some (.int .i64 (hh : Int)) ∧ W'.cell? ⟨q, 6, none⟩ = some (.int .i64 mm)) := fun W' k => cells7 (Blk.below HQ.out k)
    have HB2 : Hid (Below w1.heap.size w1 w1.drew) := (Below.refl _ _).drew
    have HSS : Hid (∀ W', Below w1.drew.heap.size w1.drew W' → W'.cell? ⟨g, 0, none⟩ = some (.int .i64 s.f) ∧ W'.cell? ⟨g, 1, none⟩ = some (.int .i64 s.t) ∧ W'.cell? ⟨g, 2, none⟩ = some (.int .i64 s.i) ∧ W'.cell? ⟨g, 3, none⟩ = some (.pointer pl) ∧ W'.cell? ⟨g, 4, none⟩ = some (.pointer pr) ∧ W'.cell? ⟨g, 5, none⟩ = some (.int .i64 (hh : Int)) ∧ W'.cell? ⟨g, 6, none⟩ = some (.int .i64 mm) ∧ W'.cell? ⟨q, 0, none⟩ = some (.int .i64 s.f) ∧ W'.cell? ⟨q, 1, none⟩ = some (.int .i64 s.t) ∧ W'.cell? ⟨q, 2, none⟩ = some (.int .i64 s.i) ∧ W'.cell? ⟨q, 3, none⟩ = some (.pointer pl) ∧ W'.cell? ⟨q, 4, none⟩ = some (.pointer pr) ∧ W'.cell? ⟨q, 5, none⟩ = some (.int .i64 (hh : Int)) ∧ W'.cell? ⟨q, 6, none⟩ = some (.int .i64 mm)) := fun W' k => by
      obtain ⟨a0, a1, a2, a3, a4, a5, a6⟩ := HS.out _ (bmore K2 k)
      exact ⟨a0, a1, a2, a3, a4, a5, a6, HQS.out _ (bmore HB2.out k)⟩
    have hS1 := HSS.out _ (Below.refl _ _)
    rcases Decidable.em (-z > z) with hm | hm
    · have hc1 : -z ≤ 1 := by omega
      have hc2 : decide (-z ≤ 1) = true := by simpa using hc1
      have hc3 : -1 ≤ z := by omega
      have hc4 : decide (-1 ≤ z) = true := by simpa using hc3
      have hc5 : z < -z := hm
      have hc6 : decide (z < -z) = true := by simpa using hc5
      go_region_held3 (fun W' => W'.cell? ⟨g, 0, none⟩ = some (.int .i64 s.f) ∧ W'.cell? ⟨g, 1, none⟩ = some (.int .i64 s.t) ∧ W'.cell? ⟨g, 2, none⟩ = some (.int .i64 s.i) ∧ W'.cell? ⟨g, 3, none⟩ = some (.pointer pl) ∧ W'.cell? ⟨g, 4, none⟩ = some (.pointer pr) ∧ W'.cell? ⟨g, 5, none⟩ = some (.int .i64 (hh : Int)) ∧ W'.cell? ⟨g, 6, none⟩ = some (.int .i64 mm) ∧ W'.cell? ⟨q, 0, none⟩ = some (.int .i64 s.f) ∧ W'.cell? ⟨q, 1, none⟩ = some (.int .i64 s.t) ∧ W'.cell? ⟨q, 2, none⟩ = some (.int .i64 s.i) ∧ W'.cell? ⟨q, 3, none⟩ = some (.pointer pl) ∧ W'.cell? ⟨q, 4, none⟩ = some (.pointer pr) ∧ W'.cell? ⟨q, 5, none⟩ = some (.int .i64 (hh : Int)) ∧ W'.cell? ⟨q, 6, none⟩ = some (.int .i64 mm)) (first | exact hS1 | exact HSS.out _ K3 | exact HSS.out _ K4 | exact HSS.out _ K5 | exact HSS.out _ K6) (first
        | (go_at_call 48; (with_reducible refine (HL.out _ K2).mono ?_); rintro e w3 ⟨rfl, B3⟩; have K3 := B3; have KA := bmore K2 B3)
        | (go_at_call 48; (with_reducible refine (HL.out _ KA).mono ?_); rintro e w4 ⟨rfl, B4⟩; have K4 := bmore K3 B4; have KB := bmore KA B4)
        | (go_at_call 35; (with_reducible refine (HI1.out _ KB).mono ?_); rintro e w5 ⟨rfl, B5⟩; have K5 := bmore K4 B5; have KC := bmore KB B5)
        | (go_at_call 35; (with_reducible refine (HI2.out _ KC).mono ?_); rintro e w6 ⟨rfl, B6⟩; have K6 := bmore K5 B6; have KD := bmore KC B6))
      all_goals (
        go_wp2
        go_ret
        exact ⟨rfl, KD⟩)
    · have hc1 : z ≤ 1 := by omega
      have hc2 : decide (z ≤ 1) = true := by simpa using hc1
      have hc5 : ¬ z < -z := hm
      have hc6 : decide (z < -z) = false := by simpa using hc5
      have hc7 : (if z < -z then -z else z) = z := if_neg hm
      have hc8 : -z ≤ z := by omega
      go_region_held3 (fun W' => W'.cell? ⟨g, 0, none⟩ = some (.int .i64 s.f) ∧ W'.cell? ⟨g, 1, none⟩ = some (.int .i64 s.t) ∧ W'.cell? ⟨g, 2, none⟩ = some (.int .i64 s.i) ∧ W'.cell? ⟨g, 3, none⟩ = some (.pointer pl) ∧ W'.cell? ⟨g, 4, none⟩ = some (.pointer pr) ∧ W'.cell? ⟨g, 5, none⟩ = some (.int .i64 (hh : Int)) ∧ W'.cell? ⟨g, 6, none⟩ = some (.int .i64 mm) ∧ W'.cell? ⟨q, 0, none⟩ = some (.int .i64 s.f) ∧ W'.cell? ⟨q, 1, none⟩ = some (.int .i64 s.t) ∧ W'.cell? ⟨q, 2, none⟩ = some (.int .i64 s.i) ∧ W'.cell? ⟨q, 3, none⟩ = some (.pointer pl) ∧ W'.cell? ⟨q, 4, none⟩ = some (.pointer pr) ∧ W'.cell? ⟨q, 5, none⟩ = some (.int .i64 (hh : Int)) ∧ W'.cell? ⟨q, 6, none⟩ = some (.int .i64 mm)) (first | exact hS1 | exact HSS.out _ K3 | exact HSS.out _ K4 | exact HSS.out _ K5 | exact HSS.out _ K6) (first
        | (go_at_call 48; (with_reducible refine (HL.out _ K2).mono ?_); rintro e w3 ⟨rfl, B3⟩; have K3 := B3; have KA := bmore K2 B3)
        | (go_at_call 48; (with_reducible refine (HL.out _ KA).mono ?_); rintro e w4 ⟨rfl, B4⟩; have K4 := bmore K3 B4; have KB := bmore KA B4)
        | (go_at_call 35; (with_reducible refine (HI1.out _ KB).mono ?_); rintro e w5 ⟨rfl, B5⟩; have K5 := bmore K4 B5; have KC := bmore KB B5)
        | (go_at_call 35; (with_reducible refine (HI2.out _ KC).mono ?_); rintro e w6 ⟨rfl, B6⟩; have K6 := bmore K5 B6; have KD := bmore KC B6))
      all_goals (
        go_wp2
        go_ret
        exact ⟨rfl, KD⟩)
end Go.Proofs.Ytgglhicpfjihlaa
