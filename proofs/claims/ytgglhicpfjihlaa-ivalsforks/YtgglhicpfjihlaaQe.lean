/- Nearest. -/
import Derived.Test.YtgglhicpfjihlaaQd
namespace Go.Proofs.Ytgglhicpfjihlaa
open Go.RowKit Go.Shelf
set_option maxRecDepth 100000
def T.nr (p : Int) : T → Option St → Option St
  | .nil, acc => acc
  | .node l s r, acc => if s.f < p then T.nr p r acc else T.nr p l (some s)
theorem nr_eq (p : Int) : ∀ (t : T) (acc : Option St), Sorted t.inord → t.nr p acc = (near p t.inord).or acc
  | .nil, acc, _ => by simp [T.nr, T.inord, near]
  | .node l s r, acc, h => by
    have hs : (T.node l s r).inord = l.inord ++ s :: r.inord := rfl
    rw [hs] at h ⊢
    unfold Sorted at h
    rw [List.pairwise_append, List.pairwise_cons] at h
    obtain ⟨h1, ⟨h2, h3⟩, h4⟩ := h
    unfold T.nr
    unfold near
    rw [List.find?_append, List.find?_cons]
    by_cases hp : s.f < p
    · rw [if_pos hp]
      have hl : l.inord.find? (fun s => decide (p ≤ s.f)) = none := by
        rw [List.find?_eq_none]
        intro x hx
        have := lt_f (h4 x hx s (by simp))
        simp
        omega
      rw [hl, nr_eq p r acc h3, show decide (p ≤ s.f) = false by simp; omega]
      rfl
    · rw [if_neg hp, nr_eq p l _ h1, show decide (p ≤ s.f) = true by simp; omega]
      unfold near
      cases List.find? (fun s => decide (p ≤ s.f)) l.inord <;> rfl
def NV (wr : World) (v : Value) (acc : Option St) : Prop := (acc = none ∧ v = .pointer none) ∨ ∃ g s, acc = some s ∧ v = .pointer (some ⟨g, 0, none⟩) ∧ g < wr.heap.size ∧ wr.cell? ⟨g, 0, none⟩ = some (.int .i64 s.f) ∧ wr.cell? ⟨g, 1, none⟩ = some (.int .i64 s.t)
theorem NV.below {w w' : World} {v : Value} {acc : Option St} (h : NV w v acc) (k : Below w.heap.size w w') : NV w' v acc := by
  rcases h with h | ⟨g, s, h1, h2, h3, h4, h5⟩
  · exact .inl h
  · exact .inr ⟨g, s, h1, h2, Nat.lt_of_lt_of_le h3 k.size, (k.cell (p := ⟨g, _, none⟩) h3).trans h4, (k.cell (p := ⟨g, _, none⟩) h3).trans h5⟩
set_option maxHeartbeats 1000000 in
theorem nearest24 {W : World} {x : Nat} {p : Option Addr} {t : T} (h : IV W x p t) (hi : Inv t) (a : Int) : Calls Try.prog 24 #[.pointer (some ⟨x, 0, none⟩), .int .i64 a] W fun e w' => e = .returned (nearV (near a t.inord)) ∧ Below W.heap.size W w' := by
  have hA := al W (.cells #[.int .i64 0, .int .i64 0] 24)
  have b0 := blk_new W [.int .i64 0, .int .i64 0] 24
  change Blk (W.alloc (.cells #[.int .i64 0, .int .i64 0] 24)) _ _ _ at b0
  have k37 := root37 (h.blk.below hA)
  have HH : Hid (TS (W.alloc (.cells #[.int .i64 0, .int .i64 0] 24)) p t) := h.ts.below hA
  have HE : Hid (t.nr a none = near a t.inord) := by show _ = _; rw [nr_eq a t none hi.so]; cases near a t.inord <;> rfl
  have HA : Hid _ := hA
  have Hb0 : Hid _ := b0
  clear hA b0 h hi
  go_enter Try.func24, Try.ntmps24
  go_wp2_with (go_at_call 37; (with_reducible refine k37.mono ?_); rintro e w1 ⟨rfl, rfl⟩)
  clear k37
  generalize W.alloc (.cells #[.int .i64 0, .int .i64 0] 24) = W0 at *
  go_loopw [6, 7] (fun fn fp wr => ∃ q t' acc, fp = .pointer q ∧ Hid (TS wr q t') ∧ Hid (NV wr fn acc) ∧ Hid (t'.nr a acc = t.nr a none) ∧ Hid (Below W0.heap.size W0 wr)) (fun _ fp wr => (@Classical.epsilon T ⟨.nil⟩ (fun t' => ∃ q', fp = .pointer q' ∧ TS wr q' t')).size)
  case atStart => exact ⟨p, t, none, rfl, HH.out, .inl ⟨rfl, rfl⟩, rfl, Below.refl _ _⟩
  case round =>
    obtain ⟨q, t', acc, rfl, ht, hN, hE, hB⟩ := hrel
    cases t' with
    | nil =>
      obtain rfl : q = none := ht.out.tr
      have HF : Hid (near a t.inord = acc) := HE.out.symm.trans hE.out.symm
      have hb := Blk.below Hb0.out hB.out
      have e0 := hb.cell 0
      have e1 := hb.cell 1
      have f0 := hb.frozen 0
      have f1 := hb.frozen 1
      simp only [List.getElem?_cons_zero, List.getElem?_cons_succ] at e0 e1
      have Hb : Hid _ := hb
      clear hb
      rcases hN.out with ⟨rfl, rfl⟩ | ⟨g, s, rfl, rfl, _, c0, c1⟩
      · clear hN
        go_wp2
        refine bodyPost_ret (results_span (b := W.heap.size) rfl rfl rfl (set_two Hb.out)) rfl ?_
        exact ⟨by rw [HF.out]; rfl, below_two (bmore HA.out hB.out) (Nat.le_refl _) _ _⟩
      · clear hN
        go_wp2
        refine bodyPost_ret (results_span (b := W.heap.size) rfl rfl rfl (set_two Hb.out)) rfl ?_
        exact ⟨by rw [HF.out]; rfl, below_two (bmore HA.out hB.out) (Nat.le_refl _) _ _⟩
    | node l s r =>
      obtain ⟨g, pl, pr, rfl, hgl, h0, hl, hr⟩ := ht.out.tr
      have HM : Hid _ := eps_tree ht.out
      have c0 := h0.cell 0
      have c1 := h0.cell 1
      have c3 := h0.cell 3
      have c4 := h0.cell 4
      simp only [List.getElem?_cons_zero, List.getElem?_cons_succ] at c0 c1 c3 c4
      have HL : Hid (TS wr pl l) := ⟨hl⟩
      have HR : Hid (TS wr pr r) := ⟨hr⟩
      have HG : Hid (g < wr.heap.size) := hgl
      clear hl hr h0 ht hgl
      by_cases hp : s.f < a
      · have hE2 : Hid (r.nr a acc = t.nr a none) := by show _ = _; rw [← hE.out]; simp [T.nr, hp]
        go_wp2
        go_roundw
        case rel => exact ⟨pr, r, acc, rfl, HR.out, hN.out, hE2.out, hB.out⟩
        case measure => rw [eps_tree HR.out, HM.out]; simp only [T.size]; omega
      · have hE2 : Hid (l.nr a (some s) = t.nr a none) := by show _ = _; rw [← hE.out]; simp [T.nr, hp]
        have HN2 : Hid (NV wr (.pointer (some ⟨g, 0, none⟩)) (some s)) := .inr ⟨g, s, rfl, rfl, HG.out, c0, c1⟩
        go_wp2_with fail
        go_big_quiet (fail)
        have K8 : Below wr.heap.size wr (wr.drewN nq) := ⟨rfl, rfl, rfl, Nat.le_refl _, fun _ _ => rfl⟩
        have HL8 := TS.below K8 HL.out
        go_wp2_with fail
        go_roundw
        case rel => exact ⟨pl, l, some s, rfl, HL8, NV.below HN2.out K8, hE2.out, bmore hB.out K8⟩
        case measure => rw [eps_tree HL8, HM.out]; simp only [T.size]; omega
end Go.Proofs.Ytgglhicpfjihlaa
