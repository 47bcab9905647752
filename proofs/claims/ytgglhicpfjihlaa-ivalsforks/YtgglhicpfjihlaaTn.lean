/- The turns. -/
import Derived.Test.YtgglhicpfjihlaaPo
namespace Go.Proofs.Ytgglhicpfjihlaa
open Go.RowKit Go.Shelf
set_option maxRecDepth 100000

/-- The tree t lies at p. -/
structure TS (W : World) (p : Option Addr) (t : T) : Prop where
  tr : TR W p t
theorem TS.below {A B : World} (h : Below A.heap.size A B) {t : T} {p : Option Addr} (ht : TS A p t) : TS B p t := ⟨TR.below h ht.tr⟩
theorem place47 {W : World} {pl pr : Option Addr} {l r : T} (s : St) (hl : TS W pl l) (hr : TS W pr r) (hs : (T.node l s r).size ≤ 1000) :
    Calls Try.prog 47 #[.pointer pl, SV s, .pointer pr] W fun e w' => ∃ b, e = .returned (.pointer (some ⟨b, 0, none⟩)) ∧ TS w' (some ⟨b, 0, none⟩) (.node l s r) ∧ Below W.heap.size W w' :=
  (placeOf47 s hl.tr hr.tr hs).mono (by rintro e w' ⟨b, h1, h2, h3⟩; exact ⟨b, h1, ⟨h2⟩, h3⟩)
theorem stay57 (p : Option Addr) (W : World) : Calls Try.prog 57 #[.pointer p] W fun e w' => e = .returned (.pointer p) ∧ W = w' := by
  go_enter Try.func57, Try.ntmps57
  go_wp2
  go_ret
  exact ⟨rfl, rfl⟩
/-- The cells of a place. -/
theorem node_cells {W : World} {b : Nat} {s : St} {pl pr : Option Addr} {h : Nat} {m : Int} (hb : Blk W b (nodeC s pl pr h m) 70) :
    W.cell? ⟨b, 0, none⟩ = some (.int .i64 s.f) ∧ W.cell? ⟨b, 1, none⟩ = some (.int .i64 s.t) ∧ W.cell? ⟨b, 2, none⟩ = some (.int .i64 s.i) ∧ W.cell? ⟨b, 3, none⟩ = some (.pointer pl) ∧ W.cell? ⟨b, 4, none⟩ = some (.pointer pr) :=
  ⟨hb.cell 0, hb.cell 1, hb.cell 2, hb.cell 3, hb.cell 4⟩
set_option maxHeartbeats 2000000 in
theorem turnR59 {W : World} {p : Option Addr} {a b c : T} {x y : St} (h : TS W p (T.node (T.node a x b) y c)) (hs : (T.node a x (T.node b y c)).size ≤ 1000) :
    Calls Try.prog 59 #[.pointer p] W fun e w' => ∃ q, e = .returned (.pointer (some ⟨q, 0, none⟩)) ∧ TS w' (some ⟨q, 0, none⟩) (T.node a x (T.node b y c)) ∧ Below W.heap.size W w' := by
  obtain ⟨g, pl, pc, rfl, _, h0, ⟨k, pa, pb, rfl, _, h1, ha, hb⟩, hc⟩ := h.tr
  replace ha : TS W pa a := ⟨ha⟩
  replace hb : TS W pb b := ⟨hb⟩
  replace hc : TS W pc c := ⟨hc⟩
  have HS : Hid (∀ W', Below W.heap.size W W' → W'.cell? ⟨g, 0, none⟩ = some (.int .i64 y.f) ∧ W'.cell? ⟨g, 1, none⟩ = some (.int .i64 y.t) ∧ W'.cell? ⟨g, 2, none⟩ = some (.int .i64 y.i) ∧ W'.cell? ⟨g, 3, none⟩ = some (.pointer (some ⟨k, 0, none⟩)) ∧ W'.cell? ⟨g, 4, none⟩ = some (.pointer pc) ∧ W'.cell? ⟨k, 0, none⟩ = some (.int .i64 x.f) ∧ W'.cell? ⟨k, 1, none⟩ = some (.int .i64 x.t) ∧ W'.cell? ⟨k, 2, none⟩ = some (.int .i64 x.i) ∧ W'.cell? ⟨k, 3, none⟩ = some (.pointer pa) ∧ W'.cell? ⟨k, 4, none⟩ = some (.pointer pb)) := fun W' h => by
    obtain ⟨a0, a1, a2, a3, a4⟩ := node_cells (h0.below h)
    obtain ⟨b0, b1, b2, b3, b4⟩ := node_cells (h1.below h)
    exact ⟨a0, a1, a2, a3, a4, b0, b1, b2, b3, b4⟩
  have K0 : Below W.heap.size W W.drew := (Below.refl _ _).drew
  have hS0 := HS.out _ K0
  obtain ⟨c0, c1, c2, c3, c4, d0, d1, d2, d3, d4⟩ := HS.out _ (Below.refl _ _)
  have sz : (T.node b y c).size ≤ 1000 := by simp only [T.size] at hs ⊢; omega
  have k1 := place47 (W := W.drew) y (TS.below K0 hb) (TS.below K0 hc) sz
  have HK : Hid (∀ W' q, TS W' (some ⟨q, 0, none⟩) (T.node b y c) → Below W.heap.size W W' → Calls Try.prog 47 #[.pointer pa, SV x, .pointer (some ⟨q, 0, none⟩)] W' fun e w' => ∃ b', e = .returned (.pointer (some ⟨b', 0, none⟩)) ∧ TS w' (some ⟨b', 0, none⟩) (T.node a x (T.node b y c)) ∧ Below W'.heap.size W' w') := fun W' q hq hB => place47 x (TS.below hB ha) hq hs
  clear ha hb hc h0 h1 hs sz
  go_enter Try.func59, Try.ntmps59
  go_wp2_with fail
  go_region_held3 (fun W' => W'.cell? ⟨g, 0, none⟩ = some (.int .i64 y.f) ∧ W'.cell? ⟨g, 1, none⟩ = some (.int .i64 y.t) ∧ W'.cell? ⟨g, 2, none⟩ = some (.int .i64 y.i) ∧ W'.cell? ⟨g, 3, none⟩ = some (.pointer (some ⟨k, 0, none⟩)) ∧ W'.cell? ⟨g, 4, none⟩ = some (.pointer pc) ∧ W'.cell? ⟨k, 0, none⟩ = some (.int .i64 x.f) ∧ W'.cell? ⟨k, 1, none⟩ = some (.int .i64 x.t) ∧ W'.cell? ⟨k, 2, none⟩ = some (.int .i64 x.i) ∧ W'.cell? ⟨k, 3, none⟩ = some (.pointer pa) ∧ W'.cell? ⟨k, 4, none⟩ = some (.pointer pb)) (first | exact hS0 | exact HS.out _ K1 | exact HS.out _ K2) (first
    | (go_at_call 47; (with_reducible refine k1.mono ?_); clear k1; rintro e w1 ⟨q1, rfl, t1, B1⟩; have K1 := bmore K0 B1; have T1 : Hid _ := t1; clear t1)
    | (go_at_call 47; (with_reducible refine (HK.out _ _ T1.out K1).mono ?_); rintro e w2 ⟨q2, rfl, t2, B2⟩; have K2 := bmore K1 B2; have T2 : Hid _ := t2; clear t2))
  all_goals (
    go_wp2
    go_ret
    exact ⟨_, rfl, T2.out, K2⟩)
set_option maxHeartbeats 2000000 in
theorem turnL61 {W : World} {p : Option Addr} {a b c : T} {x y : St} (h : TS W p (T.node a x (T.node b y c))) (hs : (T.node (T.node a x b) y c).size ≤ 1000) :
    Calls Try.prog 61 #[.pointer p] W fun e w' => ∃ q, e = .returned (.pointer (some ⟨q, 0, none⟩)) ∧ TS w' (some ⟨q, 0, none⟩) (T.node (T.node a x b) y c) ∧ Below W.heap.size W w' := by
  obtain ⟨g, pa, pr, rfl, _, h0, ha, ⟨k, pb, pc, rfl, _, h1, hb, hc⟩⟩ := h.tr
  replace ha : TS W pa a := ⟨ha⟩
  replace hb : TS W pb b := ⟨hb⟩
  replace hc : TS W pc c := ⟨hc⟩
  have HS : Hid (∀ W', Below W.heap.size W W' → W'.cell? ⟨g, 0, none⟩ = some (.int .i64 x.f) ∧ W'.cell? ⟨g, 1, none⟩ = some (.int .i64 x.t) ∧ W'.cell? ⟨g, 2, none⟩ = some (.int .i64 x.i) ∧ W'.cell? ⟨g, 3, none⟩ = some (.pointer pa) ∧ W'.cell? ⟨g, 4, none⟩ = some (.pointer (some ⟨k, 0, none⟩)) ∧ W'.cell? ⟨k, 0, none⟩ = some (.int .i64 y.f) ∧ W'.cell? ⟨k, 1, none⟩ = some (.int .i64 y.t) ∧ W'.cell? ⟨k, 2, none⟩ = some (.int .i64 y.i) ∧ W'.cell? ⟨k, 3, none⟩ = some (.pointer pb) ∧ W'.cell? ⟨k, 4, none⟩ = some (.pointer pc)) := fun W' h => by
    obtain ⟨a0, a1, a2, a3, a4⟩ := node_cells (h0.below h)
    obtain ⟨b0, b1, b2, b3, b4⟩ := node_cells (h1.below h)
    exact ⟨a0, a1, a2, a3, a4, b0, b1, b2, b3, b4⟩
  have K0 : Below W.heap.size W W.drew := (Below.refl _ _).drew
  have hS0 := HS.out _ K0
  obtain ⟨c0, c1, c2, c3, c4, d0, d1, d2, d3, d4⟩ := HS.out _ (Below.refl _ _)
  have sz : (T.node a x b).size ≤ 1000 := by simp only [T.size] at hs ⊢; omega
  have k1 := place47 (W := W.drew) x (TS.below K0 ha) (TS.below K0 hb) sz
  have HK : Hid (∀ W' q, TS W' (some ⟨q, 0, none⟩) (T.node a x b) → Below W.heap.size W W' → Calls Try.prog 47 #[.pointer (some ⟨q, 0, none⟩), SV y, .pointer pc] W' fun e w' => ∃ b', e = .returned (.pointer (some ⟨b', 0, none⟩)) ∧ TS w' (some ⟨b', 0, none⟩) (T.node (T.node a x b) y c) ∧ Below W'.heap.size W' w') := fun W' q hq hB => place47 y hq (TS.below hB hc) hs
  clear ha hb hc h0 h1 hs sz
  go_enter Try.func61, Try.ntmps61
  go_wp2_with fail
  go_region_held3 (fun W' => W'.cell? ⟨g, 0, none⟩ = some (.int .i64 x.f) ∧ W'.cell? ⟨g, 1, none⟩ = some (.int .i64 x.t) ∧ W'.cell? ⟨g, 2, none⟩ = some (.int .i64 x.i) ∧ W'.cell? ⟨g, 3, none⟩ = some (.pointer pa) ∧ W'.cell? ⟨g, 4, none⟩ = some (.pointer (some ⟨k, 0, none⟩)) ∧ W'.cell? ⟨k, 0, none⟩ = some (.int .i64 y.f) ∧ W'.cell? ⟨k, 1, none⟩ = some (.int .i64 y.t) ∧ W'.cell? ⟨k, 2, none⟩ = some (.int .i64 y.i) ∧ W'.cell? ⟨k, 3, none⟩ = some (.pointer pb) ∧ W'.cell? ⟨k, 4, none⟩ = some (.pointer pc)) (first | exact hS0 | exact HS.out _ K1 | exact HS.out _ K2) (first
    | (go_at_call 47; (with_reducible refine k1.mono ?_); clear k1; rintro e w1 ⟨q1, rfl, t1, B1⟩; have K1 := bmore K0 B1; have T1 : Hid _ := t1; clear t1)
    | (go_at_call 47; (with_reducible refine (HK.out _ _ T1.out K1).mono ?_); rintro e w2 ⟨q2, rfl, t2, B2⟩; have K2 := bmore K1 B2; have T2 : Hid _ := t2; clear t2))
  all_goals (
    go_wp2
    go_ret
    exact ⟨_, rfl, T2.out, K2⟩)
set_option maxHeartbeats 2000000 in
theorem turnRR58 {W : World} {p : Option Addr} {a b c d : T} {x y z : St} (h : TS W p (T.node (T.node a x (T.node b y c)) z d)) (hs : (T.node (T.node a x b) y (T.node c z d)).size ≤ 1000) :
    Calls Try.prog 58 #[.pointer p] W fun e w' => ∃ q, e = .returned (.pointer (some ⟨q, 0, none⟩)) ∧ TS w' (some ⟨q, 0, none⟩) (T.node (T.node a x b) y (T.node c z d)) ∧ Below W.heap.size W w' := by
  obtain ⟨g, pl, pr, rfl, _, h0, hl, hr⟩ := h.tr
  replace hl : TS W pl _ := ⟨hl⟩
  replace hr : TS W pr _ := ⟨hr⟩
  have HS : Hid (∀ W', Below W.heap.size W W' → W'.cell? ⟨g, 0, none⟩ = some (.int .i64 z.f) ∧ W'.cell? ⟨g, 1, none⟩ = some (.int .i64 z.t) ∧ W'.cell? ⟨g, 2, none⟩ = some (.int .i64 z.i) ∧ W'.cell? ⟨g, 3, none⟩ = some (.pointer pl) ∧ W'.cell? ⟨g, 4, none⟩ = some (.pointer pr)) := fun W' h => node_cells (h0.below h)
  have K0 : Below W.heap.size W W.drew := (Below.refl _ _).drew
  have hS0 := HS.out _ K0
  obtain ⟨c0, c1, c2, c3, c4⟩ := HS.out _ (Below.refl _ _)
  have k1 := turnL61 (W := W.drew) (TS.below K0 hl) (by simp only [T.size] at hs ⊢; omega)
  have HK : Hid (∀ W' q, TS W' (some ⟨q, 0, none⟩) (T.node (T.node a x b) y c) → Below W.heap.size W W' → Calls Try.prog 47 #[.pointer (some ⟨q, 0, none⟩), SV z, .pointer pr] W' fun e w' => ∃ b', e = .returned (.pointer (some ⟨b', 0, none⟩)) ∧ TS w' (some ⟨b', 0, none⟩) (T.node (T.node (T.node a x b) y c) z d) ∧ Below W'.heap.size W' w') := fun W' q hq hB => place47 z hq (TS.below hB hr) (by simp only [T.size] at hs ⊢; omega)
  have HT : Hid (∀ W' q, TS W' (some ⟨q, 0, none⟩) (T.node (T.node (T.node a x b) y c) z d) → Calls Try.prog 59 #[.pointer (some ⟨q, 0, none⟩)] W' fun e w' => ∃ b', e = .returned (.pointer (some ⟨b', 0, none⟩)) ∧ TS w' (some ⟨b', 0, none⟩) (T.node (T.node a x b) y (T.node c z d)) ∧ Below W'.heap.size W' w') := fun W' q hq => turnR59 hq (by simp only [T.size] at hs ⊢; omega)
  clear hl hr h0 hs
  go_enter Try.func58, Try.ntmps58
  go_wp2_with fail
  go_region_held3 (fun W' => W'.cell? ⟨g, 0, none⟩ = some (.int .i64 z.f) ∧ W'.cell? ⟨g, 1, none⟩ = some (.int .i64 z.t) ∧ W'.cell? ⟨g, 2, none⟩ = some (.int .i64 z.i) ∧ W'.cell? ⟨g, 3, none⟩ = some (.pointer pl) ∧ W'.cell? ⟨g, 4, none⟩ = some (.pointer pr)) (first | exact hS0 | exact HS.out _ K1 | exact HS.out _ K2 | exact HS.out _ K3) (first
    | (go_at_call 61; (with_reducible refine k1.mono ?_); clear k1; rintro e w1 ⟨q1, rfl, t1, B1⟩; have K1 := bmore K0 B1; have T1 : Hid _ := t1; clear t1)
    | (go_at_call 47; (with_reducible refine (HK.out _ _ T1.out K1).mono ?_); rintro e w2 ⟨q2, rfl, t2, B2⟩; have K2 := bmore K1 B2; have T2 : Hid _ := t2; clear t2)
    | (go_at_call 59; (with_reducible refine (HT.out _ _ T2.out).mono ?_); rintro e w3 ⟨q3, rfl, t3, B3⟩; have K3 := bmore K2 B3; have T3 : Hid _ := t3; clear t3))
  all_goals (
    go_wp2
    go_ret
    exact ⟨_, rfl, T3.out, K3⟩)
set_option maxHeartbeats 2000000 in
theorem turnLL60 {W : World} {p : Option Addr} {a b c d : T} {x y z : St} (h : TS W p (T.node a x (T.node (T.node b y c) z d))) (hs : (T.node (T.node a x b) y (T.node c z d)).size ≤ 1000) :
    Calls Try.prog 60 #[.pointer p] W fun e w' => ∃ q, e = .returned (.pointer (some ⟨q, 0, none⟩)) ∧ TS w' (some ⟨q, 0, none⟩) (T.node (T.node a x b) y (T.node c z d)) ∧ Below W.heap.size W w' := by
  obtain ⟨g, pl, pr, rfl, _, h0, hl, hr⟩ := h.tr
  replace hl : TS W pl _ := ⟨hl⟩
  replace hr : TS W pr _ := ⟨hr⟩
  have HS : Hid (∀ W', Below W.heap.size W W' → W'.cell? ⟨g, 0, none⟩ = some (.int .i64 x.f) ∧ W'.cell? ⟨g, 1, none⟩ = some (.int .i64 x.t) ∧ W'.cell? ⟨g, 2, none⟩ = some (.int .i64 x.i) ∧ W'.cell? ⟨g, 3, none⟩ = some (.pointer pl) ∧ W'.cell? ⟨g, 4, none⟩ = some (.pointer pr)) := fun W' h => node_cells (h0.below h)
  have K0 : Below W.heap.size W W.drew := (Below.refl _ _).drew
  have hS0 := HS.out _ K0
  obtain ⟨c0, c1, c2, c3, c4⟩ := HS.out _ (Below.refl _ _)
  have k1 := turnR59 (W := W.drew) (TS.below K0 hr) (by simp only [T.size] at hs ⊢; omega)
  have HK : Hid (∀ W' q, TS W' (some ⟨q, 0, none⟩) (T.node b y (T.node c z d)) → Below W.heap.size W W' → Calls Try.prog 47 #[.pointer pl, SV x, .pointer (some ⟨q, 0, none⟩)] W' fun e w' => ∃ b', e = .returned (.pointer (some ⟨b', 0, none⟩)) ∧ TS w' (some ⟨b', 0, none⟩) (T.node a x (T.node b y (T.node c z d))) ∧ Below W'.heap.size W' w') := fun W' q hq hB => place47 x (TS.below hB hl) hq (by simp only [T.size] at hs ⊢; omega)
  have HT : Hid (∀ W' q, TS W' (some ⟨q, 0, none⟩) (T.node a x (T.node b y (T.node c z d))) → Calls Try.prog 61 #[.pointer (some ⟨q, 0, none⟩)] W' fun e w' => ∃ b', e = .returned (.pointer (some ⟨b', 0, none⟩)) ∧ TS w' (some ⟨b', 0, none⟩) (T.node (T.node a x b) y (T.node c z d)) ∧ Below W'.heap.size W' w') := fun W' q hq => turnL61 hq (by simp only [T.size] at hs ⊢; omega)
  clear hl hr h0 hs
  go_enter Try.func60, Try.ntmps60
  go_wp2_with fail
  go_region_held3 (fun W' => W'.cell? ⟨g, 0, none⟩ = some (.int .i64 x.f) ∧ W'.cell? ⟨g, 1, none⟩ = some (.int .i64 x.t) ∧ W'.cell? ⟨g, 2, none⟩ = some (.int .i64 x.i) ∧ W'.cell? ⟨g, 3, none⟩ = some (.pointer pl) ∧ W'.cell? ⟨g, 4, none⟩ = some (.pointer pr)) (first | exact hS0 | exact HS.out _ K1 | exact HS.out _ K2 | exact HS.out _ K3) (first
    | (go_at_call 59; (with_reducible refine k1.mono ?_); clear k1; rintro e w1 ⟨q1, rfl, t1, B1⟩; have K1 := bmore K0 B1; have T1 : Hid _ := t1; clear t1)
    | (go_at_call 47; (with_reducible refine (HK.out _ _ T1.out K1).mono ?_); rintro e w2 ⟨q2, rfl, t2, B2⟩; have K2 := bmore K1 B2; have T2 : Hid _ := t2; clear t2)
    | (go_at_call 61; (with_reducible refine (HT.out _ _ T2.out).mono ?_); rintro e w3 ⟨q3, rfl, t3, B3⟩; have K3 := bmore K2 B3; have T3 : Hid _ := t3; clear t3))
  all_goals (
    go_wp2
    go_ret
    exact ⟨_, rfl, T3.out, K3⟩)
end Go.Proofs.Ytgglhicpfjihlaa
