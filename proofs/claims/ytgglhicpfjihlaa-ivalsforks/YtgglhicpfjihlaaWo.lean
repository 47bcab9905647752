/- leftmost, without. -/
import Derived.Test.YtgglhicpfjihlaaWi
import Derived.Test.YtgglhicpfjihlaaRm
namespace Go.Proofs.Ytgglhicpfjihlaa
open Go.RowKit Go.Shelf
set_option maxRecDepth 100000

theorem results_cell3 {fn : Func} {tt : Tmp} {tmps : Array Value} {w : World} {b : Nat} {s : St} (h : fn.results = #[.cell tt 68]) (ht : tmps.getD tt undef = .pointer (some ⟨b, 0, none⟩)) (hb : Blk w b [.int .i64 s.f, .int .i64 s.t, .int .i64 s.i] 68) : (results fn tmps).run Try.prog w = .ok (SV s) w := by
  exact results_cell_row h tmps w b 68 _ (0, 0) _ ht hb Try.underlying68 rfl (by kernel_rfl)

set_option maxHeartbeats 1000000 in
theorem leftmost52 {W : World} {p : Option Addr} {t : T} (h : TS W p t) (hn : t ≠ .nil) : Calls Try.prog 52 #[.pointer p] W fun e w' => e = .returned (SV t.lm) ∧ Below W.heap.size W w' := by
  have b0 := blk_new W [.int .i64 0, .int .i64 0, .int .i64 0] 68
  have kA := al W (.cells #[.int .i64 0, .int .i64 0, .int .i64 0] 68)
  have hh := h.below kA
  go_enter Try.func52, Try.ntmps52
  go_wp2_with fail
  change Blk (W.alloc (.cells #[.int .i64 0, .int .i64 0, .int .i64 0] 68)) _ _ _ at b0
  generalize W.alloc (.cells #[.int .i64 0, .int .i64 0, .int .i64 0] 68) = W0 at *
  have HH : Hid _ := hh
  have HK : Hid _ := kA
  have Hb : Hid _ := b0
  have Hn : Hid _ := hn
  clear hh kA b0 h hn
  go_loopw [0] (fun p wr => ∃ q t', p = .pointer q ∧ Hid (W0 = wr ∧ TS W0 q t' ∧ t' ≠ .nil ∧ t'.lm = t.lm)) (fun p wr => (@Classical.epsilon T ⟨.nil⟩ (fun t' => ∃ q', p = .pointer q' ∧ TS wr q' t')).size)
  case atStart => exact ⟨p, t, rfl, rfl, HH.out, Hn.out, rfl⟩
  case round =>
    obtain ⟨q, t', rfl, hr⟩ := hrel
    obtain ⟨hw, ht, hne, hl⟩ := hr.out
    subst hw
    have HM : Hid _ := eps_tree ht
    cases t' with
    | nil => exact (hne rfl).elim
    | node l x r =>
      obtain ⟨g, pl, pr, rfl, _, h0, htl, htr⟩ := ht.tr
      have c3 := h0.cell 3
      have d0 := h0.cell 0
      have d1 := h0.cell 1
      have d2 := h0.cell 2
      simp only [List.getElem?_cons_zero, List.getElem?_cons_succ] at c3 d0 d1 d2
      cases l with
      | nil =>
        obtain rfl : pl = none := htl
        have HL : Hid (t.lm = x) := by show _ = _; rw [← hl]; rfl
        have e0 := Blk.cell Hb.out 0
        have e1 := Blk.cell Hb.out 1
        have e2 := Blk.cell Hb.out 2
        have f0 := Blk.frozen Hb.out 0
        have f1 := Blk.frozen Hb.out 1
        have f2 := Blk.frozen Hb.out 2
        simp only [List.getElem?_cons_zero, List.getElem?_cons_succ] at e0 e1 e2
        clear ht hne hl hr h0 htr
        go_wp2
        have hb3 := ((Blk.set (o := 0) Hb.out (.int .i64 x.f)).set (o := 1) (.int .i64 x.t)).set (o := 2) (.int .i64 x.i)
        refine bodyPost_ret (results_cell3 (b := W.heap.size) (s := x) rfl rfl hb3) rfl ?_
        refine ⟨by rw [HL.out], ?_⟩
        have ks : Keep (fun k => k = W.heap.size) W _ := (((Keep.of (F := fun k => k = W.heap.size) HK.out).set (p := ⟨W.heap.size, 0, none⟩) (.inr rfl) (.int .i64 x.f)).set (p := ⟨W.heap.size, 1, none⟩) (.inr rfl) (.int .i64 x.t)).set (p := ⟨W.heap.size, 2, none⟩) (.inr rfl) (.int .i64 x.i)
        exact ks.below (Nat.le_refl _) (fun i hi e => by omega)
      | node a y c =>
        have htl' : TS W0 pl (.node a y c) := ⟨htl⟩
        obtain ⟨gl, _, _, rfl, _⟩ := htl
        have HR : Hid (TS W0 (some ⟨gl, 0, none⟩) (.node a y c) ∧ (T.node a y c).lm = t.lm) := ⟨htl', by rw [← hl]; rfl⟩
        clear ht hne hl hr h0 htr htl'
        go_wp2
        go_roundw
        case rel => exact ⟨_, _, rfl, by simp, HR.out.1, by simp, HR.out.2⟩
        case measure => rw [eps_tree HR.out.1, show _ = _ from HM.out]; simp only [T.size]; omega

set_option maxHeartbeats 2000000 in
theorem without43 : ∀ (t : T) (s : St) {W : World} {p : Option Addr}, TS W p t → Sorted t.inord → s ∈ t.inord → t.size ≤ 900 →
    Calls Try.prog 43 #[.pointer p, SV s] W fun e w' => ∃ q, e = .returned (.pointer q) ∧ TS w' q (t.rem s) ∧ Below W.heap.size W w' := by
  intro t
  induction t with
  | nil =>
    intro s W p h _ hm _
    simp [T.inord] at hm
  | node l x r ihl ihr =>
    intro s W p h hso hm hs
    have hso' := hso
    have hm' := hm
    unfold Sorted at hso'
    simp only [T.inord] at hso'
    rw [List.pairwise_append, List.pairwise_cons] at hso'
    obtain ⟨o1, ⟨o2, o3⟩, o4⟩ := hso'
    simp only [T.inord, List.mem_append, List.mem_cons] at hm'
    have ml : cs s x < 0 → s ∈ l.inord := fun c => by
      rw [cs_lt] at c
      rcases hm' with h | rfl | h
      · exact h
      · exact (lt_irr _ c).elim
      · exact (lt_irr _ (lt_trans' c (o2 s h))).elim
    have mr : 0 < cs s x → s ∈ r.inord := fun c => by
      rw [cs_gt] at c
      rcases hm' with h | rfl | h
      · exact (lt_irr _ (lt_trans' c (o4 s h x (by simp)))).elim
      · exact (lt_irr _ c).elim
      · exact h
    have zl : l.size ≤ 900 := by simp only [T.size] at hs; omega
    have zr : r.size ≤ 900 := by simp only [T.size] at hs; omega
    have hk := compare49 s x
    have b0 := blk_new W [.int .i64 s.f, .int .i64 s.t, .int .i64 s.i] 68
    have HW : Hid (Below W.heap.size W (W.alloc (.cells #[.int .i64 s.f, .int .i64 s.t, .int .i64 s.i] 68))) := al _ _
    have hh := h.below HW.out
    change Blk (W.alloc (.cells #[.int .i64 s.f, .int .i64 s.t, .int .i64 s.i] 68)) _ _ _ at b0
    have HE : Hid (T.rem (.node l x r) s = if cs s x < 0 then T.bal (.node (l.rem s) x r) else if cs s x > 0 then T.bal (.node l x (r.rem s)) else T.joinT l r (r.rem r.lm)) := rfl
    go_enter Try.func43, Try.ntmps43
    obtain ⟨g, pl, pr, rfl, _, h0, hl, hr⟩ := hh.tr
    replace hl : TS _ pl l := ⟨hl⟩
    replace hr : TS _ pr r := ⟨hr⟩
    go_wp2_with fail
    generalize hG : W.heap.size = G at *
    have HG : Hid _ := hG
    clear hG
    generalize W.alloc (.cells #[.int .i64 s.f, .int .i64 s.t, .int .i64 s.i] 68) = W0 at *
    have HS : Hid (∀ W', Below W0.heap.size W0 W' → W'.cell? ⟨G, 0, none⟩ = some (.int .i64 s.f) ∧ W'.cell? ⟨G, 1, none⟩ = some (.int .i64 s.t) ∧ W'.cell? ⟨G, 2, none⟩ = some (.int .i64 s.i) ∧ W'.cell? ⟨g, 0, none⟩ = some (.int .i64 x.f) ∧ W'.cell? ⟨g, 1, none⟩ = some (.int .i64 x.t) ∧ W'.cell? ⟨g, 2, none⟩ = some (.int .i64 x.i) ∧ W'.cell? ⟨g, 3, none⟩ = some (.pointer pl) ∧ W'.cell? ⟨g, 4, none⟩ = some (.pointer pr)) := fun W' k =>
      ⟨(b0.below k).cell 0, (b0.below k).cell 1, (b0.below k).cell 2, (h0.below k).cell 0, (h0.below k).cell 1, (h0.below k).cell 2, (h0.below k).cell 3, (h0.below k).cell 4⟩
    have HL : Hid (∀ W', Below W0.heap.size W0 W' → TS W' pl l ∧ TS W' pr r) := fun W' k => ⟨hl.below k, hr.below k⟩
    have HI1 : Hid (cs s x < 0 → ∀ W', Below W0.heap.size W0 W' → Calls Try.prog 43 #[.pointer pl, SV s] W' fun e w' => ∃ q, e = .returned (.pointer q) ∧ TS w' q (l.rem s) ∧ Below W'.heap.size W' w') := fun c W' k => ihl s (hl.below k) o1 (ml c) zl
    have HI2 : Hid (0 < cs s x → ∀ W', Below W0.heap.size W0 W' → Calls Try.prog 43 #[.pointer pr, SV s] W' fun e w' => ∃ q, e = .returned (.pointer q) ∧ TS w' q (r.rem s) ∧ Below W'.heap.size W' w') := fun c W' k => ihr s (hr.below k) o3 (mr c) zr
    have HP1 : Hid (cs s x < 0 → ∀ W' q, TS W' q (l.rem s) → Below W0.heap.size W0 W' → Calls Try.prog 47 #[.pointer q, SV x, .pointer pr] W' fun e w' => ∃ b', e = .returned (.pointer (some ⟨b', 0, none⟩)) ∧ TS w' (some ⟨b', 0, none⟩) (.node (l.rem s) x r) ∧ Below W'.heap.size W' w') := fun c W' q hq k => place47 x hq (hr.below k) (by have := size_rem o1 (ml c); simp only [T.size] at hs ⊢; omega)
    have HP2 : Hid (0 < cs s x → ∀ W' q, TS W' q (r.rem s) → Below W0.heap.size W0 W' → Calls Try.prog 47 #[.pointer pl, SV x, .pointer q] W' fun e w' => ∃ b', e = .returned (.pointer (some ⟨b', 0, none⟩)) ∧ TS w' (some ⟨b', 0, none⟩) (.node l x (r.rem s)) ∧ Below W'.heap.size W' w') := fun c W' q hq k => place47 x (hl.below k) hq (by have := size_rem o3 (mr c); simp only [T.size] at hs ⊢; omega)
    have HB1 : Hid (cs s x < 0 → ∀ W' q, TS W' q (.node (l.rem s) x r) → Calls Try.prog 51 #[.pointer q] W' fun e w' => ∃ q, e = .returned (.pointer q) ∧ TS w' q (T.bal (.node (l.rem s) x r)) ∧ Below W'.heap.size W' w') := fun c W' q hq => bal51 hq (by have := size_rem o1 (ml c); simp only [T.size] at hs ⊢; omega)
    have HB2 : Hid (0 < cs s x → ∀ W' q, TS W' q (.node l x (r.rem s)) → Calls Try.prog 51 #[.pointer q] W' fun e w' => ∃ q, e = .returned (.pointer q) ∧ TS w' q (T.bal (.node l x (r.rem s))) ∧ Below W'.heap.size W' w') := fun c W' q hq => bal51 hq (by have := size_rem o3 (mr c); simp only [T.size] at hs ⊢; omega)
    have lmm : r ≠ .nil → r.lm ∈ r.inord := fun hn => by
      cases r with
      | nil => exact (hn rfl).elim
      | node d e g => obtain ⟨tl, h⟩ := T.lm_head d e g; rw [h]; simp
    have HI3 : Hid (r ≠ .nil → ∀ W', Below W0.heap.size W0 W' → Calls Try.prog 43 #[.pointer pr, SV r.lm] W' fun e w' => ∃ q, e = .returned (.pointer q) ∧ TS w' q (r.rem r.lm) ∧ Below W'.heap.size W' w') := fun c W' k => ihr r.lm (hr.below k) o3 (lmm c) zr
    have HM3 : Hid (r ≠ .nil → ∀ W', Below W0.heap.size W0 W' → Calls Try.prog 52 #[.pointer pr] W' fun e w' => e = .returned (SV r.lm) ∧ Below W'.heap.size W' w') := fun c W' k => leftmost52 (hr.below k) c
    have HP3 : Hid (r ≠ .nil → ∀ W' q, TS W' q (r.rem r.lm) → Below W0.heap.size W0 W' → Calls Try.prog 47 #[.pointer pl, SV r.lm, .pointer q] W' fun e w' => ∃ b', e = .returned (.pointer (some ⟨b', 0, none⟩)) ∧ TS w' (some ⟨b', 0, none⟩) (.node l r.lm (r.rem r.lm)) ∧ Below W'.heap.size W' w') := fun c W' q hq k => place47 r.lm (hl.below k) hq (by have := size_rem o3 (lmm c); simp only [T.size] at hs ⊢; omega)
    have HB3 : Hid (r ≠ .nil → ∀ W' q, TS W' q (.node l r.lm (r.rem r.lm)) → Calls Try.prog 51 #[.pointer q] W' fun e w' => ∃ q, e = .returned (.pointer q) ∧ TS w' q (T.bal (.node l r.lm (r.rem r.lm))) ∧ Below W'.heap.size W' w') := fun c W' q hq => bal51 hq (by have := size_rem o3 (lmm c); simp only [T.size] at hs ⊢; omega)
    have K0 : Below W0.heap.size W0 W0.drew := (Below.refl _ _).drew
    have hS0 := HS.out _ K0
    clear ihl ihr hl hr h0 b0 h hh hso hm hm' o1 o2 o3 o4 ml mr zl zr lmm
    go_region_held3 (fun W' => W'.cell? ⟨G, 0, none⟩ = some (.int .i64 s.f) ∧ W'.cell? ⟨G, 1, none⟩ = some (.int .i64 s.t) ∧ W'.cell? ⟨G, 2, none⟩ = some (.int .i64 s.i) ∧ W'.cell? ⟨g, 0, none⟩ = some (.int .i64 x.f) ∧ W'.cell? ⟨g, 1, none⟩ = some (.int .i64 x.t) ∧ W'.cell? ⟨g, 2, none⟩ = some (.int .i64 x.i) ∧ W'.cell? ⟨g, 3, none⟩ = some (.pointer pl) ∧ W'.cell? ⟨g, 4, none⟩ = some (.pointer pr)) (first | exact hS0 | exact HS.out _ K1) (first
        | (go_at_call 49; (with_reducible refine (hk _).mono ?_); rintro e w1 ⟨rfl, B1⟩; have K1 := bmore K0 B1))
    clear hS0 hk
    obtain ⟨z, hz⟩ : ∃ z, cs s x = z := ⟨_, rfl⟩
    rw [hz] at HI1 HI2 HP1 HP2 HB1 HB2 HE ⊢
    clear hz
    by_cases h1 : z < 0
    · have HR : Hid (T.rem (.node l x r) s = T.bal (.node (l.rem s) x r)) := by rw [show T.rem (.node l x r) s = _ from HE.out, if_pos h1]; rfl
      have J1 : Hid _ := HI1.out h1
      have J2 : Hid _ := HP1.out h1
      have J3 : Hid _ := HB1.out h1
      clear HI1 HI2 HP1 HP2 HB1 HB2 HI3 HM3 HP3 HB3 HE
      go_wp2_with fail
      have K2 := K1.drew
      have hS0 := HS.out _ K2
      go_region_held3 (fun W' => W'.cell? ⟨G, 0, none⟩ = some (.int .i64 s.f) ∧ W'.cell? ⟨G, 1, none⟩ = some (.int .i64 s.t) ∧ W'.cell? ⟨G, 2, none⟩ = some (.int .i64 s.i) ∧ W'.cell? ⟨g, 0, none⟩ = some (.int .i64 x.f) ∧ W'.cell? ⟨g, 1, none⟩ = some (.int .i64 x.t) ∧ W'.cell? ⟨g, 2, none⟩ = some (.int .i64 x.i) ∧ W'.cell? ⟨g, 3, none⟩ = some (.pointer pl) ∧ W'.cell? ⟨g, 4, none⟩ = some (.pointer pr)) (first | exact hS0 | exact HS.out _ K3 | exact HS.out _ K4 | exact HS.out _ K5) (first
        | (go_at_call 43; (with_reducible refine (J1.out _ K2).mono ?_); rintro e w3 ⟨q3, rfl, t3, B3⟩; have K3 := bmore K2 B3; have T3 : Hid _ := t3; clear t3)
        | (go_at_call 47; (with_reducible refine (J2.out _ _ T3.out K3).mono ?_); rintro e w4 ⟨q4, rfl, t4, B4⟩; have K4 := bmore K3 B4; have T4 : Hid _ := t4; clear t4)
        | (go_at_call 51; (with_reducible refine (J3.out _ _ T4.out).mono ?_); rintro e w5 ⟨q5, rfl, t5, B5⟩; have K5 := bmore K4 B5; have T5 : Hid _ := t5; clear t5))
      all_goals (
        go_wp2
        go_ret
        exact ⟨_, rfl, by rw [HR.out]; exact T5.out, by rw [HG.out]; exact HW.out.trans (K5.mono (by have := HW.out.size; rw [HG.out] at this; exact this))⟩)
    · by_cases h2 : 0 < z
      · have HR : Hid (T.rem (.node l x r) s = T.bal (.node l x (r.rem s))) := by rw [show T.rem (.node l x r) s = _ from HE.out, if_neg h1, if_pos h2]; rfl
        have J1 : Hid _ := HI2.out h2
        have J2 : Hid _ := HP2.out h2
        have J3 : Hid _ := HB2.out h2
        clear HI1 HI2 HP1 HP2 HB1 HB2 HI3 HM3 HP3 HB3 HE
        go_wp2_with fail
        have K2 := K1.drew
        have hS0 := HS.out _ K2
        go_region_held3 (fun W' => W'.cell? ⟨G, 0, none⟩ = some (.int .i64 s.f) ∧ W'.cell? ⟨G, 1, none⟩ = some (.int .i64 s.t) ∧ W'.cell? ⟨G, 2, none⟩ = some (.int .i64 s.i) ∧ W'.cell? ⟨g, 0, none⟩ = some (.int .i64 x.f) ∧ W'.cell? ⟨g, 1, none⟩ = some (.int .i64 x.t) ∧ W'.cell? ⟨g, 2, none⟩ = some (.int .i64 x.i) ∧ W'.cell? ⟨g, 3, none⟩ = some (.pointer pl) ∧ W'.cell? ⟨g, 4, none⟩ = some (.pointer pr)) (first | exact hS0 | exact HS.out _ K3 | exact HS.out _ K4 | exact HS.out _ K5) (first
          | (go_at_call 43; (with_reducible refine (J1.out _ K2).mono ?_); rintro e w3 ⟨q3, rfl, t3, B3⟩; have K3 := bmore K2 B3; have T3 : Hid _ := t3; clear t3)
          | (go_at_call 47; (with_reducible refine (J2.out _ _ T3.out K3).mono ?_); rintro e w4 ⟨q4, rfl, t4, B4⟩; have K4 := bmore K3 B4; have T4 : Hid _ := t4; clear t4)
          | (go_at_call 51; (with_reducible refine (J3.out _ _ T4.out).mono ?_); rintro e w5 ⟨q5, rfl, t5, B5⟩; have K5 := bmore K4 B5; have T5 : Hid _ := t5; clear t5))
        all_goals (
          go_wp2
          go_ret
          exact ⟨_, rfl, by rw [HR.out]; exact T5.out, by rw [HG.out]; exact HW.out.trans (K5.mono (by have := HW.out.size; rw [HG.out] at this; exact this))⟩)
      · have HR0 : Hid (T.rem (.node l x r) s = T.joinT l r (r.rem r.lm)) := by rw [show T.rem (.node l x r) s = _ from HE.out, if_neg h1, if_neg h2]; rfl
        have hfin : ∀ W', Below W0.heap.size W0 W' → Below W.heap.size W W' := fun W' k => by rw [HG.out]; exact HW.out.trans (k.mono (by have := HW.out.size; rw [HG.out] at this; exact this))
        have Hfin : Hid _ := hfin
        clear HI1 HI2 HP1 HP2 HB1 HB2 HE hfin
        obtain ⟨_, _, _, _, _, _, c3, c4⟩ := HS.out _ K1
        obtain ⟨tl, tr⟩ := HL.out _ K1
        cases l with
        | nil =>
          obtain rfl : pl = none := tl.tr
          have HT : Hid _ := tr
          clear tl tr
          go_wp2
          go_ret
          exact ⟨_, rfl, by rw [HR0.out]; exact HT.out, Hfin.out _ K1⟩
        | node a b c =>
          have tl' := tl
          obtain ⟨gl, _, _, rfl, _⟩ := tl'.tr
          cases r with
          | nil =>
            obtain rfl : pr = none := tr.tr
            have HT : Hid _ := tl
            clear tl tl' tr
            go_wp2
            go_ret
            exact ⟨_, rfl, by rw [HR0.out]; exact HT.out, Hfin.out _ K1⟩
          | node d e f =>
            obtain ⟨gr, _, _, rfl, _⟩ := tr.tr
            have hnn : T.node d e f ≠ .nil := by simp
            have J0 : Hid _ := HM3.out hnn
            have J1 : Hid _ := HI3.out hnn
            have J2 : Hid _ := HP3.out hnn
            have J3 : Hid _ := HB3.out hnn
            have HR : Hid (T.rem (.node (.node a b c) x (.node d e f)) s = T.bal (.node (.node a b c) (T.node d e f).lm ((T.node d e f).rem (T.node d e f).lm))) := HR0.out
            clear HI3 HM3 HP3 HB3 HR0 tl tl' tr hnn
            generalize (T.node d e f).lm = m at *
            go_wp2_with (go_at_call 52; (with_reducible refine (J0.out _ K1).mono ?_); rintro e w2 ⟨rfl, B2⟩; have KA := bmore K1 B2; have HKA : Hid _ := KA)
            have b6 := blk_new w2 [.int .i64 m.f, .int .i64 m.t, .int .i64 m.i] 68
            change Blk (w2.alloc (.cells #[.int .i64 m.f, .int .i64 m.t, .int .i64 m.i] 68)) _ _ _ at b6
            have KB := bal KA (.cells #[.int .i64 m.f, .int .i64 m.t, .int .i64 m.i] 68)
            generalize w2.heap.size = G2 at *
            generalize w2.alloc (.cells #[.int .i64 m.f, .int .i64 m.t, .int .i64 m.i] 68) = W3 at *
            have HS2 : Hid (∀ W', Below W3.heap.size W3 W' → W'.cell? ⟨G2, 0, none⟩ = some (.int .i64 m.f) ∧ W'.cell? ⟨G2, 1, none⟩ = some (.int .i64 m.t) ∧ W'.cell? ⟨G2, 2, none⟩ = some (.int .i64 m.i) ∧ W'.cell? ⟨g, 3, none⟩ = some (.pointer (some ⟨gl, 0, none⟩)) ∧ W'.cell? ⟨g, 4, none⟩ = some (.pointer (some ⟨gr, 0, none⟩))) := fun W' k => by
              obtain ⟨_, _, _, _, _, _, c3, c4⟩ := HS.out _ (bmore KB k)
              exact ⟨(b6.below k).cell 0, (b6.below k).cell 1, (b6.below k).cell 2, c3, c4⟩
            have L2 : Below W3.heap.size W3 W3.drew := (Below.refl _ _).drew
            have K2 := bmore KB L2
            have hS0 := HS2.out _ L2
            clear b6
            go_region_held3 (fun W' => W'.cell? ⟨G2, 0, none⟩ = some (.int .i64 m.f) ∧ W'.cell? ⟨G2, 1, none⟩ = some (.int .i64 m.t) ∧ W'.cell? ⟨G2, 2, none⟩ = some (.int .i64 m.i) ∧ W'.cell? ⟨g, 3, none⟩ = some (.pointer (some ⟨gl, 0, none⟩)) ∧ W'.cell? ⟨g, 4, none⟩ = some (.pointer (some ⟨gr, 0, none⟩))) (first | exact hS0 | exact HS2.out _ L3 | exact HS2.out _ L4 | exact HS2.out _ L5) (first
              | (go_at_call 43; (with_reducible refine (J1.out _ K2).mono ?_); rintro e w3 ⟨q3, rfl, t3, B3⟩; have K3 := bmore K2 B3; have L3 := bmore L2 B3; have T3 : Hid _ := t3; clear t3)
              | (go_at_call 47; (with_reducible refine (J2.out _ _ T3.out K3).mono ?_); rintro e w4 ⟨q4, rfl, t4, B4⟩; have K4 := bmore K3 B4; have L4 := bmore L3 B4; have T4 : Hid _ := t4; clear t4)
              | (go_at_call 51; (with_reducible refine (J3.out _ _ T4.out).mono ?_); rintro e w5 ⟨q5, rfl, t5, B5⟩; have K5 := bmore K4 B5; have L5 := bmore L4 B5; have T5 : Hid _ := t5; clear t5))
            all_goals (
              go_wp2
              go_ret
              exact ⟨_, rfl, by rw [HR.out]; exact T5.out, Hfin.out _ K5⟩)
end Go.Proofs.Ytgglhicpfjihlaa
