/- Both at once: a deed. -/
import Derived.Test.YtgglhicpfjihlaaRx
import Derived.Test.YtgglhicpfjihlaaAt
import Derived.Test.YtgglhicpfjihlaaRe
namespace Go.Proofs.Ytgglhicpfjihlaa
open Go.RowKit Go.Shelf
set_option maxRecDepth 100000
theorem PT.otherR {n x : Nat} {A B : World} {l : List Value} (hx : Blk A x l 61) (h : Keep (fun k => k = x) A B) : ∀ {t : T} {p : Option Addr}, PT n A p t → PT n B p t
  | .nil, _, ht => ht
  | .node _ _ _, _, ⟨b, pl, pr, hp, hb, h0, hl, hr⟩ => ⟨b, pl, pr, hp, hb, h0.keep h (fun e => by subst e; unfold Blk at h0 hx; rw [h0] at hx; simp at hx), PT.otherR hx h hl, PT.otherR hx h hr⟩
theorem IV.other {A B : World} {x r : Nat} {p : Option Addr} {t : T} {l : List Value} (h : IV A x p t) (hr : Blk A r l 61) (k : Keep (fun i => i = r) A B) : IV B x p t :=
  ⟨h.blk.keep k (fun e => by subst e; have := h.blk; unfold Blk at this hr; rw [this] at hr; simp at hr), ⟨(PT.otherR hr k h.ts.tr).mono k.size⟩⟩
theorem LV.other {A B : World} {x : Nat} {v p c : Value} {L : List St} (h : LV A v L) (hx : Blk A x [p, c] 58) (k : Keep (fun i => i = x) A B) : LV B v L := by
  obtain ⟨a, c', rfl, h⟩ := h
  refine ⟨a, c', rfl, fun h0 => ?_⟩
  obtain ⟨g, o, rfl, hg, hc⟩ := h h0
  have hne : ¬ g = x := by
    rintro rfl
    obtain ⟨s, hs⟩ : ∃ s, L[0]? = some s := ⟨_, List.getElem?_eq_getElem h0⟩
    have h2 := (hc 0 s hs).2.2
    rw [hx.cell, Nat.zero_mul, Nat.add_zero, List.getElem?_eq_none (by simp)] at h2
    cases h2
  exact ⟨g, o, rfl, Nat.lt_of_lt_of_le hg k.size, fun i s hs => ⟨(k.cell hg hne).trans (hc i s hs).1, (k.cell hg hne).trans (hc i s hs).2.1, (k.cell hg hne).trans (hc i s hs).2.2⟩⟩
theorem RI.other {A B : World} {x r : Nat} {a : Option Addr} {c : Nat} {L : List St} {p n : Value} (h : RI A r a c L) (hx : Blk A x [p, n] 58) (k : Keep (fun i => i = x) A B) : RI B r a c L :=
  ⟨h.blk.keep k (fun e => by subst e; have := h.blk; unfold Blk at this hx; rw [this] at hx; simp at hx), h.lv.other hx k, h.cap⟩
/-- The program's and the document's, with the same stretches, from the block B on. -/
structure Two (W : World) (B x r : Nat) (t : T) : Prop where
  iv : ∃ q, IV W x q t
  ri : ∃ a c, RI W r a c t.inord
  inv : Inv t
  bx : B ≤ x
  br : B ≤ r
theorem Two.below {W W' : World} {B x r : Nat} {t : T} (h : Two W B x r t) (k : Below W.heap.size W W') : Two W' B x r t :=
  ⟨h.iv.imp fun _ i => i.below k, h.ri.imp fun _ i => i.imp fun _ i => i.below k, h.inv, h.bx, h.br⟩
def TPost (W : World) (B x r : Nat) (t : T) (w' : World) : Prop := (∃ t', Two w' B x r t' ∧ t'.size ≤ t.size + 1) ∧ Keep (fun k => k = x ∨ k = r) W w'
theorem has_not {t : T} {s : St} (h : s ∉ t.inord) : t.has s = false := by
  cases hh : t.has s with
  | false => rfl
  | true => exact (h (has_mem _ _ hh)).elim
set_option maxHeartbeats 2000000 in
theorem do_add {W : World} {x r : Nat} {s : St} {b : Int} {M M' : World → Prop} (hx : x < W.heap.size) (hr : r < W.heap.size)
    (h1 : Hid (∀ W1, Below W.heap.size W W1 → Calls Try.prog 25 #[.pointer (some ⟨x, 0, none⟩), .agg #[.int .i64 s.f, .int .i64 s.t], .int .i64 s.i] W1 fun e w' => e = .returned (.int .i64 b) ∧ Keep (fun k => k = x) W1 w' ∧ Hid (M w')))
    (h2 : Hid (∀ w1, Keep (fun k => k = x) W w1 → M w1 → Calls Try.prog 33 #[.pointer (some ⟨r, 0, none⟩), .agg #[.int .i64 s.f, .int .i64 s.t], .int .i64 s.i] w1 fun e w' => e = .returned (.int .i64 b) ∧ Keep (fun k => k = r) w1 w' ∧ Hid (M' w'))) :
    Calls Try.prog 13 #[.pointer (some ⟨x, 0, none⟩), .pointer (some ⟨r, 0, none⟩), .agg #[.int .i64 0, .int .i64 s.f, .int .i64 s.t, .int .i64 s.i]] W fun e w' => e = .returned (.bool true) ∧ Keep (fun k => k = x ∨ k = r) W w' ∧ M' w' := by
  have hA := al W (.cells #[.int .i64 0, .int .i64 s.f, .int .i64 s.t, .int .i64 s.i] 36)
  have b0 := blk_new W [.int .i64 0, .int .i64 s.f, .int .i64 s.t, .int .i64 s.i] 36
  change Blk (W.alloc (.cells #[.int .i64 0, .int .i64 s.f, .int .i64 s.t, .int .i64 s.i] 36)) _ _ _ at b0
  have HX : Hid (x < W.heap.size ∧ r < W.heap.size) := ⟨hx, hr⟩
  have HA : Hid _ := hA
  have HS : Hid (∀ w', Keep (fun k => k = x ∨ k = r) (W.alloc (.cells #[.int .i64 0, .int .i64 s.f, .int .i64 s.t, .int .i64 s.i] 36)) w' → w'.cell? ⟨W.heap.size, 1, none⟩ = some (.int .i64 s.f) ∧ w'.cell? ⟨W.heap.size, 2, none⟩ = some (.int .i64 s.t) ∧ w'.cell? ⟨W.heap.size, 3, none⟩ = some (.int .i64 s.i)) := fun w' k => by
    have hb := b0.keep k (fun e => by rcases e with e | e <;> omega)
    exact ⟨hb.cell 1, hb.cell 2, hb.cell 3⟩
  have c0 := b0.cell 0
  simp only [List.getElem?_cons_zero] at c0
  clear hA b0 hx hr
  go_enter Try.func13, Try.ntmps13
  go_wp2_with fail
  generalize W.alloc (.cells #[.int .i64 0, .int .i64 s.f, .int .i64 s.t, .int .i64 s.i] 36) = W1 at *
  have K0 : Below W1.heap.size W1 W1.drew := (Below.refl _ _).drew
  have hS0 := HS.out _ (Keep.of K0)
  clear c0
  go_region_held3 (fun w' => w'.cell? ⟨W.heap.size, 1, none⟩ = some (.int .i64 s.f) ∧ w'.cell? ⟨W.heap.size, 2, none⟩ = some (.int .i64 s.t) ∧ w'.cell? ⟨W.heap.size, 3, none⟩ = some (.int .i64 s.i)) (first | exact hS0 | exact HS.out _ G2 | exact HS.out _ G1) (first
    | (go_at_call 25; (with_reducible refine (h1.out _ (bmore HA.out K0)).mono ?_); rintro e w1 ⟨rfl, K1, hM⟩; have G1 : Keep (fun k => k = x ∨ k = r) W1 w1 := (Keep.of K0).trans (K1.mono (G := fun k => k = x ∨ k = r) (fun _ _ h => .inl h)) (fun _ _ h => h))
    | (go_at_call 33; (with_reducible refine (h2.out _ ((Keep.of (F := fun k => k = x) (bmore HA.out K0)).trans K1 (fun _ _ h => h)) hM.out).mono ?_); rintro e w2 ⟨rfl, K2, hM'⟩; have G2 : Keep (fun k => k = x ∨ k = r) W1 w2 := G1.trans (K2.mono (G := fun k => k = x ∨ k = r) (fun _ _ h => .inr h)) (fun _ _ h => h)))
  all_goals (
    go_wp2_with fail
    go_ret
    exact ⟨by simp, (Keep.of (F := fun k => k = x ∨ k = r) HA.out).trans G2 (fun _ _ h => h), hM'.out⟩)
set_option maxHeartbeats 2000000 in
theorem do_rem {W : World} {x r : Nat} {s : St} {b : Bool} {M M' : World → Prop} (hx : x < W.heap.size) (hr : r < W.heap.size)
    (h1 : Hid (∀ W1, Below W.heap.size W W1 → Calls Try.prog 26 #[.pointer (some ⟨x, 0, none⟩), .agg #[.int .i64 s.f, .int .i64 s.t], .int .i64 s.i] W1 fun e w' => e = .returned (.bool b) ∧ Keep (fun k => k = x) W1 w' ∧ Hid (M w')))
    (h2 : Hid (∀ w1, Keep (fun k => k = x) W w1 → M w1 → Calls Try.prog 34 #[.pointer (some ⟨r, 0, none⟩), .agg #[.int .i64 s.f, .int .i64 s.t], .int .i64 s.i] w1 fun e w' => e = .returned (.bool b) ∧ Keep (fun k => k = r) w1 w' ∧ Hid (M' w'))) :
    Calls Try.prog 13 #[.pointer (some ⟨x, 0, none⟩), .pointer (some ⟨r, 0, none⟩), .agg #[.int .i64 1, .int .i64 s.f, .int .i64 s.t, .int .i64 s.i]] W fun e w' => e = .returned (.bool true) ∧ Keep (fun k => k = x ∨ k = r) W w' ∧ M' w' := by
  have hA := al W (.cells #[.int .i64 1, .int .i64 s.f, .int .i64 s.t, .int .i64 s.i] 36)
  have b0 := blk_new W [.int .i64 1, .int .i64 s.f, .int .i64 s.t, .int .i64 s.i] 36
  change Blk (W.alloc (.cells #[.int .i64 1, .int .i64 s.f, .int .i64 s.t, .int .i64 s.i] 36)) _ _ _ at b0
  have HX : Hid (x < W.heap.size ∧ r < W.heap.size) := ⟨hx, hr⟩
  have HA : Hid _ := hA
  have HS : Hid (∀ w', Keep (fun k => k = x ∨ k = r) (W.alloc (.cells #[.int .i64 1, .int .i64 s.f, .int .i64 s.t, .int .i64 s.i] 36)) w' → w'.cell? ⟨W.heap.size, 1, none⟩ = some (.int .i64 s.f) ∧ w'.cell? ⟨W.heap.size, 2, none⟩ = some (.int .i64 s.t) ∧ w'.cell? ⟨W.heap.size, 3, none⟩ = some (.int .i64 s.i)) := fun w' k => by
    have hb := b0.keep k (fun e => by rcases e with e | e <;> omega)
    exact ⟨hb.cell 1, hb.cell 2, hb.cell 3⟩
  have c0 := b0.cell 0
  simp only [List.getElem?_cons_zero] at c0
  clear hA b0 hx hr
  go_enter Try.func13, Try.ntmps13
  go_wp2_with fail
  generalize W.alloc (.cells #[.int .i64 1, .int .i64 s.f, .int .i64 s.t, .int .i64 s.i] 36) = W1 at *
  have K0 : Below W1.heap.size W1 W1.drew := (Below.refl _ _).drew
  have hS0 := HS.out _ (Keep.of K0)
  clear c0
  go_region_held3 (fun w' => w'.cell? ⟨W.heap.size, 1, none⟩ = some (.int .i64 s.f) ∧ w'.cell? ⟨W.heap.size, 2, none⟩ = some (.int .i64 s.t) ∧ w'.cell? ⟨W.heap.size, 3, none⟩ = some (.int .i64 s.i)) (first | exact hS0 | exact HS.out _ G2 | exact HS.out _ G1) (first
    | (go_at_call 26; (with_reducible refine (h1.out _ (bmore HA.out K0)).mono ?_); rintro e w1 ⟨rfl, K1, hM⟩; have G1 : Keep (fun k => k = x ∨ k = r) W1 w1 := (Keep.of K0).trans (K1.mono (G := fun k => k = x ∨ k = r) (fun _ _ h => .inl h)) (fun _ _ h => h))
    | (go_at_call 34; (with_reducible refine (h2.out _ ((Keep.of (F := fun k => k = x) (bmore HA.out K0)).trans K1 (fun _ _ h => h)) hM.out).mono ?_); rintro e w2 ⟨rfl, K2, hM'⟩; have G2 : Keep (fun k => k = x ∨ k = r) W1 w2 := G1.trans (K2.mono (G := fun k => k = x ∨ k = r) (fun _ _ h => .inr h)) (fun _ _ h => h)))
  all_goals (
    go_wp2_with fail
    go_ret
    exact ⟨by simp, (Keep.of (F := fun k => k = x ∨ k = r) HA.out).trans G2 (fun _ _ h => h), hM'.out⟩)
theorem do_none {W : World} {v v' : Value} {n f t i : Int} (h0 : n ≠ 0) (h1 : n ≠ 1) : Calls Try.prog 13 #[v, v', .agg #[.int .i64 n, .int .i64 f, .int .i64 t, .int .i64 i]] W fun e w' => e = .returned (.bool true) ∧ Below W.heap.size W w' := by
  go_enter Try.func13, Try.ntmps13
  go_wp2
  go_ret
  exact ⟨rfl, al _ _⟩
theorem do13 {W : World} {B x r : Nat} {t : T} (h : Two W B x r t) (hz : t.size ≤ 800) (n : Int) (s : St) (hf : least ≤ s.f ∧ s.f ≤ most) : Calls Try.prog 13 #[.pointer (some ⟨x, 0, none⟩), .pointer (some ⟨r, 0, none⟩), .agg #[.int .i64 n, .int .i64 s.f, .int .i64 s.t, .int .i64 s.i]] W fun e w' => e = .returned (.bool true) ∧ TPost W B x r t w' := by
  have hlen : t.inord.length ≤ 1000 := by rw [T.inord_length]; omega
  have hxl : x < W.heap.size := by obtain ⟨q, iq⟩ := h.iv; exact iq.blk.lt
  have hrl : r < W.heap.size := by obtain ⟨a, c, ir⟩ := h.ri; exact ir.blk.lt
  have same : ∀ w', Below W.heap.size W w' → TPost W B x r t w' := fun w' k => ⟨⟨t, h.below k, Nat.le_succ _⟩, Keep.of k⟩
  by_cases n0 : n = 0
  · subst n0
    by_cases hft : s.f < s.t
    · by_cases hm : s ∈ t.inord
      · refine (do_add (b := 6) (M := Below W.heap.size W) (M' := Below W.heap.size W) hxl hrl (fun W1 k => ?_) (fun w1 _ k => ?_)).mono (fun e w' ⟨he, _, k⟩ => ⟨he, same w' k⟩)
        · obtain ⟨q, iq⟩ := h.iv
          exact (add25_there s hft (iq.below k) (mem_has _ _ h.inv.so hm)).mono (fun e w' ⟨he, b⟩ => ⟨he, Keep.of b, bmore k b⟩)
        · obtain ⟨a, c, ir⟩ := h.ri
          exact (radd33_there s (ir.below k) hlen hft hm).mono (fun e w' ⟨he, b⟩ => ⟨he, Keep.of b, bmore k b⟩)
      · refine (do_add (b := 0) (M := fun w => ∃ q, IV w x q (t.ins s)) (M' := fun w => Two w B x r (t.ins s)) hxl hrl (fun W1 k => ?_) (fun w1 k hM => ?_)).mono (fun e w' ⟨he, k, hT⟩ => ⟨he, ⟨_, hT, by rw [T.size_ins]; exact Nat.le_refl _⟩, k⟩)
        · obtain ⟨q, iq⟩ := h.iv
          exact (add25_yes s hft (iq.below k) (has_not hm) (by omega)).mono (fun e w' ⟨he, hi, hk⟩ => ⟨he, hk, hi⟩)
        · obtain ⟨q, iq⟩ := hM
          obtain ⟨q0, iq0⟩ := h.iv
          obtain ⟨a, c, ir⟩ := h.ri
          have ir1 := ir.other iq0.blk k
          refine (radd33_yes s ir1 hlen hft hm).mono (fun e w' ⟨he, hi, hk⟩ => ⟨he, hk, ?_⟩)
          obtain ⟨a', c', hi⟩ := hi
          rw [← ins_laid h.inv.so hm] at hi
          exact ⟨⟨q, iq.other ir1.blk hk⟩, ⟨a', c', hi⟩, h.inv.ins hft hm hf (by omega), h.bx, h.br⟩
    · refine (do_add (b := 10) (M := Below W.heap.size W) (M' := Below W.heap.size W) hxl hrl (fun W1 k => ?_) (fun w1 _ k => ?_)).mono (fun e w' ⟨he, _, k⟩ => ⟨he, same w' k⟩)
      · exact (add25_no s.f s.t s.i (by omega)).mono (fun e w' ⟨he, b⟩ => ⟨he, Keep.of b, bmore k b⟩)
      · exact (radd33_span s.f s.t s.i (by omega)).mono (fun e w' ⟨he, b⟩ => ⟨he, Keep.of b, bmore k b⟩)
  · by_cases n1 : n = 1
    · subst n1
      by_cases hm : s ∈ t.inord
      · refine (do_rem (b := true) (M := fun w => ∃ q, IV w x q (t.rem s)) (M' := fun w => Two w B x r (t.rem s)) hxl hrl (fun W1 k => ?_) (fun w1 k hM => ?_)).mono (fun e w' ⟨he, k, hT⟩ => ⟨he, ⟨_, hT, by have := size_rem h.inv.so hm; omega⟩, k⟩)
        · obtain ⟨q, iq⟩ := h.iv
          exact (remove26_yes s (iq.below k) h.inv.so hm (by omega)).mono (fun e w' ⟨he, hi, hk⟩ => ⟨he, hk, hi⟩)
        · obtain ⟨q, iq⟩ := hM
          obtain ⟨q0, iq0⟩ := h.iv
          obtain ⟨a, c, ir⟩ := h.ri
          have ir1 := ir.other iq0.blk k
          refine (rremove34_yes s ir1 hlen hm).mono (fun e w' ⟨he, hi, hk⟩ => ⟨he, hk, ?_⟩)
          obtain ⟨a', c', hi⟩ := hi
          rw [← inord_rem t s h.inv.so hm] at hi
          exact ⟨⟨q, iq.other ir1.blk hk⟩, ⟨a', c', hi⟩, h.inv.rem hm, h.bx, h.br⟩
      · refine (do_rem (b := false) (M := Below W.heap.size W) (M' := Below W.heap.size W) hxl hrl (fun W1 k => ?_) (fun w1 _ k => ?_)).mono (fun e w' ⟨he, _, k⟩ => ⟨he, same w' k⟩)
        · obtain ⟨q, iq⟩ := h.iv
          exact (remove26_no s (iq.below k) (has_not hm)).mono (fun e w' ⟨he, b⟩ => ⟨he, Keep.of b, bmore k b⟩)
        · obtain ⟨a, c, ir⟩ := h.ri
          exact (rremove34_no s (ir.below k) hlen hm).mono (fun e w' ⟨he, b⟩ => ⟨he, Keep.of b, bmore k b⟩)
    · exact (do_none n0 n1).mono (fun e w' ⟨he, b⟩ => ⟨he, same w' b⟩)
end Go.Proofs.Ytgglhicpfjihlaa
