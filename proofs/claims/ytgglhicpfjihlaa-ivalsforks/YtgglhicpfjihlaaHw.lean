/- has, with. -/
import Derived.Test.YtgglhicpfjihlaaBa
import Derived.Test.YtgglhicpfjihlaaAv
namespace Go.Proofs.Ytgglhicpfjihlaa
open Go.RowKit Go.Shelf
set_option maxRecDepth 100000

def T.has : T → St → Bool
  | .nil, _ => false
  | .node l x r, s => if cs s x < 0 then l.has s else if cs s x > 0 then r.has s else true

theorem PT.uniq {n m : Nat} {W : World} : ∀ {t t' : T} {p : Option Addr}, PT n W p t → PT m W p t' → t = t'
  | .nil, .nil, _, _, _ => rfl
  | .nil, .node _ _ _, _, h, ⟨_, _, _, e, _⟩ => by rw [show _ = none from h] at e; cases e
  | .node _ _ _, .nil, _, ⟨_, _, _, e, _⟩, h => by rw [show _ = none from h] at e; cases e
  | .node l s r, .node l' s' r', _, ⟨b, pl, pr, e, _, hb, hl, hr⟩, ⟨b', pl', pr', e', _, hb', hl', hr'⟩ => by
    rw [e] at e'
    obtain rfl : b = b' := by simpa using e'
    unfold Blk at hb hb'
    rw [hb] at hb'
    simp at hb'
    obtain ⟨h1, h2, h3, h4, h5, _⟩ := hb'
    subst h4 h5
    rw [st_ext h1 h2 h3, PT.uniq hl hl', PT.uniq hr hr']

/-- The tree at a pointer. -/
theorem eps_tree {W : World} {q : Option Addr} {t : T} (h : TS W q t) : @Classical.epsilon T ⟨.nil⟩ (fun t' => ∃ q', Value.pointer q = .pointer q' ∧ TS W q' t') = t := by
  have := @Classical.epsilon_spec T (fun t' => ∃ q', Value.pointer q = .pointer q' ∧ TS W q' t') ⟨t, q, rfl, h⟩
  obtain ⟨q', e, h'⟩ := this
  obtain rfl : q = q' := by simpa using e
  exact PT.uniq h'.tr h.tr

set_option maxHeartbeats 1000000 in
theorem has41 {W : World} {p : Option Addr} {t : T} (s : St) (h : TS W p t) : Calls Try.prog 41 #[.pointer p, SV s] W fun e w' => e = .returned (.bool (t.has s)) ∧ Below W.heap.size W w' := by
  have hk := fun x => compare49 s x
  have HB : Hid (∀ W', Below W.heap.size W W' → Below W.heap.size W W') := fun _ h => h
  have b0 := blk_new W [.int .i64 s.f, .int .i64 s.t, .int .i64 s.i] 68
  have HF : Hid (∀ W', Below (W.alloc (.cells #[.int .i64 s.f, .int .i64 s.t, .int .i64 s.i] 68)).heap.size (W.alloc (.cells #[.int .i64 s.f, .int .i64 s.t, .int .i64 s.i] 68)) W' → W'.cell? ⟨W.heap.size, 0, none⟩ = some (.int .i64 s.f) ∧ W'.cell? ⟨W.heap.size, 1, none⟩ = some (.int .i64 s.t) ∧ W'.cell? ⟨W.heap.size, 2, none⟩ = some (.int .i64 s.i)) := fun W' h => ⟨(b0.below h).cell 0, (b0.below h).cell 1, (b0.below h).cell 2⟩
  have HH : Hid (TS (W.alloc (.cells #[.int .i64 s.f, .int .i64 s.t, .int .i64 s.i] 68)) p t) := h.below (al _ _)
  have HW : Hid (Below W.heap.size W (W.alloc (.cells #[.int .i64 s.f, .int .i64 s.t, .int .i64 s.i] 68))) := al _ _
  clear b0 h HB
  go_enter Try.func41, Try.ntmps41
  go_wp2_with fail
  generalize W.alloc (.cells #[.int .i64 s.f, .int .i64 s.t, .int .i64 s.i] 68) = W0 at *
  go_loopw [0] (fun p wr => ∃ q t', p = .pointer q ∧ TS wr q t' ∧ Hid (t'.has s = t.has s) ∧ Below W0.heap.size W0 wr) (fun p wr => (@Classical.epsilon T ⟨.nil⟩ (fun t' => ∃ q', p = .pointer q' ∧ TS wr q' t')).size)
  case atStart => exact ⟨p, t, rfl, HH.out, rfl, Below.refl _ _⟩
  case round =>
    obtain ⟨q, t', rfl, ht, HE, hB⟩ := hrel
    have HBB : Hid _ := hB
    cases t' with
    | nil =>
      obtain rfl : q = none := ht.tr
      have HR : Hid (t.has s = false) := HE.out.symm
      go_wp2_with fail
      go_ret
      exact ⟨by rw [HR.out]; rfl, bmore HW.out HBB.out⟩
    | node l x r =>
      obtain ⟨g, pl, pr, rfl, _, h0, hl, hr⟩ := ht.tr
      have K0 : Below wr.heap.size wr wr.drew := (Below.refl _ _).drew
      have HM := eps_tree ht
      have hL := fun W' (k : Below wr.heap.size wr W') => TS.below k (⟨hl⟩ : TS wr pl l)
      have hR := fun W' (k : Below wr.heap.size wr W') => TS.below k (⟨hr⟩ : TS wr pr r)
      have HL : Hid _ := hL
      have HRr : Hid _ := hR
      have HS : Hid (∀ W', Below wr.heap.size wr W' → W'.cell? ⟨W.heap.size, 0, none⟩ = some (.int .i64 s.f) ∧ W'.cell? ⟨W.heap.size, 1, none⟩ = some (.int .i64 s.t) ∧ W'.cell? ⟨W.heap.size, 2, none⟩ = some (.int .i64 s.i) ∧ W'.cell? ⟨g, 0, none⟩ = some (.int .i64 x.f) ∧ W'.cell? ⟨g, 1, none⟩ = some (.int .i64 x.t) ∧ W'.cell? ⟨g, 2, none⟩ = some (.int .i64 x.i)) := fun W' k => by
        obtain ⟨a0, a1, a2⟩ := HF.out _ (bmore HBB.out k)
        exact ⟨a0, a1, a2, (h0.below k).cell 0, (h0.below k).cell 1, (h0.below k).cell 2⟩
      have HC : Hid (∀ W', Below wr.heap.size wr W' → W'.cell? ⟨g, 3, none⟩ = some (.pointer pl) ∧ W'.cell? ⟨g, 4, none⟩ = some (.pointer pr)) := fun W' k => ⟨(h0.below k).cell 3, (h0.below k).cell 4⟩
      have hS0 := HS.out _ K0
      have HMM : Hid _ := HM
      clear hl hr h0 ht hL hR hB HM
      go_wp2_with fail
      go_region_held3 (fun W' => W'.cell? ⟨W.heap.size, 0, none⟩ = some (.int .i64 s.f) ∧ W'.cell? ⟨W.heap.size, 1, none⟩ = some (.int .i64 s.t) ∧ W'.cell? ⟨W.heap.size, 2, none⟩ = some (.int .i64 s.i) ∧ W'.cell? ⟨g, 0, none⟩ = some (.int .i64 x.f) ∧ W'.cell? ⟨g, 1, none⟩ = some (.int .i64 x.t) ∧ W'.cell? ⟨g, 2, none⟩ = some (.int .i64 x.i)) (first | exact hS0 | exact HS.out _ K1) (first
        | (go_at_call 49; (with_reducible refine (hk x _).mono ?_); rintro e w1 ⟨rfl, B1⟩; have K1 := bmore K0 B1))
      obtain ⟨c3, c4⟩ := HC.out _ K1
      have hEE : T.has (.node l x r) s = if cs s x < 0 then l.has s else if cs s x > 0 then r.has s else true := rfl
      have HEE : Hid _ := hEE
      clear hEE
      generalize cs s x = z at *
      by_cases h1 : z < 0
      · have HE2 : Hid (l.has s = t.has s) := by rw [← HE.out]; show l.has s = T.has (.node l x r) s; rw [HEE.out, if_pos h1]
        go_wp2
        go_roundw
        case rel => exact ⟨pl, l, rfl, HL.out _ K1, HE2, bmore HBB.out K1⟩
        case measure => rw [eps_tree (HL.out _ K1), HMM.out]; simp only [T.size]; omega
      · by_cases h2 : z > 0
        · have HE2 : Hid (r.has s = t.has s) := by rw [← HE.out]; show r.has s = T.has (.node l x r) s; rw [HEE.out, if_neg h1, if_pos h2]
          go_wp2
          go_roundw
          case rel => exact ⟨pr, r, rfl, HRr.out _ K1, HE2, bmore HBB.out K1⟩
          case measure => rw [eps_tree (HRr.out _ K1), HMM.out]; simp only [T.size]; omega
        · have HE2 : Hid (t.has s = true) := by rw [← HE.out]; show T.has (.node l x r) s = true; rw [HEE.out, if_neg h1, if_neg h2]
          go_wp2
          go_ret
          exact ⟨by rw [HE2.out]; rfl, bmore HW.out (bmore HBB.out K1)⟩
end Go.Proofs.Ytgglhicpfjihlaa
