/- filled. -/
import Derived.Test.YtgimjjlkniplnaaJo
namespace Go.Proofs.Ytgimjjlkniplnaa
open Go.RowKit Go.Shelf
set_option maxRecDepth 100000
attribute [local go_sem] ta64_64 ta72_64 ta72_72 ta64_72 tb64_64 tb72_72
/-- Kids that hold these pairs, as many as were, or one less. -/
def NPost (w : World) (h n : Nat) (kv : List Pr) (e : Ending) (w' : World) : Prop := ∃ a c n', ∃ ks' : List Kd, e = .returned (.slice a n' c) ∧ ks'.length = n' ∧ LV EK w' (.slice a n' c) (ks'.map (·.1)) ∧ flat ks' = kv ∧ Kids w' h ks' ∧ n ≤ n' + 1 ∧ n' ≤ n ∧ Below w.heap.size w w'
/-- Kids of which one may have one less. -/
structure Nearly (w : World) (h : Nat) (ks : List Kd) (i : Nat) (y : Kd) (m : Nat) : Prop where
  at_ : ks[i]? = some y
  part : Part w h m y.1 y.2
  lo : 3 ≤ m
  hi : m ≤ 8
  others : ∀ (t : Nat) (x : Kd), ks[t]? = some x → t ≠ i → ∃ m, 4 ≤ m ∧ m ≤ 8 ∧ Part w h m x.1 x.2
theorem Nearly.below {w w' : World} {h i m : Nat} {ks : List Kd} {y : Kd} (k : Nearly w h ks i y m) (b : Below w.heap.size w w') : Nearly w' h ks i y m :=
  ⟨k.at_, k.part.below b, k.lo, k.hi, fun t x ht hti => by obtain ⟨m, q1, q2, q3⟩ := k.others t x ht hti; exact ⟨m, q1, q2, q3.below b⟩⟩
theorem Nearly.kids {w : World} {h i m : Nat} {ks : List Kd} {y : Kd} (k : Nearly w h ks i y m) (hm : 4 ≤ m) : Kids w h ks := fun x hx => by
  obtain ⟨t, ht⟩ := List.getElem?_of_mem hx
  by_cases hti : t = i
  · subst hti
    rw [k.at_] at ht
    cases ht
    exact ⟨m, hm, k.hi, k.part⟩
  · exact k.others t x ht hti
theorem flat_cut2 {ks : List Kd} {j : Nat} {x y : Kd} (hx : ks[j]? = some x) (hy : ks[j + 1]? = some y) : flat ks = flat (ks.take j) ++ (x.2 ++ y.2) ++ flat (ks.drop (j + 2)) := by
  conv => lhs; rw [← List.take_append_drop (j + 2) ks]
  rw [flat_app, flat_take hy, flat_take hx]
  simp [List.append_assoc]
set_option maxHeartbeats 1000000 in
theorem filled56 {w : World} {h n i m : Nat} {a : Option Addr} {c : Nat} {ks : List Kd} {y : Kd} (hl : LV EK w (.slice a n c) (ks.map (·.1))) (e0 : ks.length = n) (hk : Nearly w h ks i y m) (h2 : 2 ≤ n) (h9 : n ≤ 9) (hf : (flat ks).length ≤ 900) : Calls Try.prog 56 #[.slice a n c, .int .i64 (i : Int)] w (NPost w h n (flat ks)) := by
  have hi := (List.getElem?_eq_some_iff.1 hk.at_).1
  have l0 : (0 : Int) ≤ (i : Int) := by omega
  have l1 : (i : Int) < (n : Int) := by omega
  have hmt := meth_size hk.part
  have HM : Hid (Meth "regesta/tree.size" y.1 w fun v w' => v = .int .i64 (m : Int) ∧ Below w.heap.size w w') := hmt
  by_cases hm : 4 ≤ m
  · have HR : Hid (∀ W, Below w.heap.size w W → NPost w h n (flat ks) (.returned (.slice a n c)) W) := fun W hW => ⟨a, c, n, ks, rfl, e0, hl.below hW, rfl, (hk.kids hm).below hW, by omega, by omega, hW⟩
    obtain ⟨g, o, rfl, d0⟩ := EK.cell hl (i := i) (x := y.1) (by rw [List.getElem?_map, hk.at_]; rfl)
    have hm' : (4 : Int) ≤ (m : Int) := by omega
    clear hl e0 hk hmt hf hi
    go_enter Try.func56, Try.ntmps56
    go_wp2_with (with_reducible refine upon_meth HM.out ?_; rintro v1 w1 ⟨rfl, hB1⟩)
    go_ret
    exact HR.out _ hB1
  · have hm3 : Hid (m = 3) := by show _ = _; have := hk.lo; omega
    have hm' : ¬ (4 : Int) ≤ (m : Int) := by omega
    obtain ⟨j, hj⟩ : ∃ j, j = min i (n - 2) := ⟨_, rfl⟩
    have hjn : j + 1 < n := by omega
    have hjc : i = j ∨ i = j + 1 := by omega
    have hmin : min (i : Int) ((n : Int) - 2) = (j : Int) := by omega
    have hw0 : wrap64 ((n : Int) - 2) = (n : Int) - 2 := IntWalk.wrap64_in _ (by omega)
    obtain ⟨x0, hx0⟩ : ∃ x, ks[j]? = some x := ⟨_, List.getElem?_eq_getElem (by omega)⟩
    obtain ⟨x1, hx1⟩ : ∃ x, ks[j + 1]? = some x := ⟨_, List.getElem?_eq_getElem (by omega)⟩
    have hc2 := flat_cut2 hx0 hx1
    have hsum : ∃ ma mb, Part w h ma x0.1 x0.2 ∧ Part w h mb x1.1 x1.2 ∧ 4 ≤ ma + mb ∧ ma + mb ≤ 16 := by
      rcases hjc with rfl | rfl
      · have e := hk.at_
        rw [hx0] at e
        cases e
        obtain ⟨m1, q1, q2, q3⟩ := hk.others (i + 1) x1 hx1 (by omega)
        exact ⟨m, m1, hk.part, q3, by omega, by have := hm3.out; omega⟩
      · have e := hk.at_
        rw [hx1] at e
        cases e
        obtain ⟨m1, q1, q2, q3⟩ := hk.others j x0 hx0 (by omega)
        exact ⟨m1, m, q3, hk.part, by omega, by have := hm3.out; omega⟩
    obtain ⟨ma, mb, p0, p1, s0, s1⟩ := hsum
    have hlen2 : x0.2.length + x1.2.length ≤ 900 := by have := congrArg List.length hc2; simp at this; omega
    have HK67 : Hid (∀ W, Below w.heap.size w W → Calls Try.prog 67 #[.iface x0.1.1 x0.1.2, .iface x1.1.1 x1.1.2] W (SList W h (x0.2 ++ x1.2))) := fun W hW =>
      (joined67 (p0.below hW) (p1.below hW) s1 (by omega)).mono fun _ _ q => q.list s0
    have HK55 : Hid (∀ (W : World) (a2 : Option Addr) (c2 n2 : Nat) (ps : List Kd), Below w.heap.size w W → ps.length = n2 → LV EK W (.slice a2 n2 c2) (ps.map (·.1)) → flat ps = x0.2 ++ x1.2 → Kids W h ps → 1 ≤ n2 → n2 ≤ 2 → Calls Try.prog 55 #[.slice a n c, .int .i64 (j : Int), .int .i64 ((j : Int) + 2), .slice a2 n2 c2] W (fun e w' => ∃ v', e = .returned v' ∧ Hid (Below W.heap.size W w') ∧ Hid (NPost w h n (flat ks) (.returned v') w'))) := fun W a2 c2 n2 ps hW e1 hv hfp hkp hn1 hn2 => by
      have hlm : (ks.map (·.1)).length = n := by rw [List.length_map, e0]
      have := spliced55 (hl.below hW) hv (i := j) (j := j + 2) (by omega) (by omega) (by rw [hlm, List.length_map]; omega)
      rw [← List.map_take, ← List.map_drop, ← List.map_append, ← List.map_append] at this
      rw [show ((j + 2 : Nat) : Int) = (j : Int) + 2 by omega] at this
      refine this.mono fun e w' q => ?_
      obtain ⟨v', rfl, hv', hB'⟩ := q
      have hK : Kids w' h (ks.take j ++ ps ++ ks.drop (j + 2)) := by
        have hb : Below w.heap.size w w' := bmore hW hB'
        refine Kids.app (Kids.app (fun x hx => ?_) (hkp.below hB')) (fun x hx => ?_)
        · obtain ⟨t, ht⟩ := List.getElem?_of_mem hx
          rw [List.getElem?_take] at ht
          split at ht
          · exact ((hk.below hb).others t x ht (by omega))
          · cases ht
        · obtain ⟨t, ht⟩ := List.getElem?_of_mem hx
          rw [List.getElem?_drop] at ht
          exact ((hk.below hb).others _ x ht (by omega))
      have hlen : (ks.take j ++ ps ++ ks.drop (j + 2)).length = n - 2 + n2 := by simp; omega
      obtain ⟨a3, c3, rfl⟩ := hv'.form
      refine ⟨_, rfl, hB', a3, c3, n - 2 + n2, ks.take j ++ ps ++ ks.drop (j + 2), ?_, hlen, ?_, ?_, hK, by omega, by omega, bmore hW hB'⟩
      · rw [List.length_map, hlen]
      · rw [List.length_map, hlen] at hv'
        exact hv'
      · rw [flat_app, flat_app, hfp, ← hc2]
    obtain ⟨g, o, rfl, d0⟩ := EK.cell hl (i := i) (x := y.1) (by rw [List.getElem?_map, hk.at_]; rfl)
    obtain ⟨g', o', hgo, d1⟩ := EK.cell hl (i := j) (x := x0.1) (by rw [List.getElem?_map, hx0]; rfl)
    cases hgo
    obtain ⟨g', o', hgo, d2⟩ := EK.cell hl (i := j + 1) (x := x1.1) (by rw [List.getElem?_map, hx1]; rfl)
    cases hgo
    have HD1 : Hid (w.cell? ⟨g, o + j, none⟩ = some (.iface x0.1.1 x0.1.2)) := d1
    have HD2 : Hid (w.cell? ⟨g, o + (j + 1), none⟩ = some (.iface x1.1.1 x1.1.2)) := d2
    have hw1 : IntKind.i64.wrap ((j : Int) + 1) = (j : Int) + 1 := (IntWalk.i64_left _).trans (IntWalk.wrap64_in _ (by omega))
    have hw2 : IntKind.i64.wrap ((j : Int) + 2) = (j : Int) + 2 := (IntWalk.i64_left _).trans (IntWalk.wrap64_in _ (by omega))
    have j0 : (0 : Int) ≤ (j : Int) := by omega
    have j1 : (j : Int) < (n : Int) := by omega
    have j2 : (0 : Int) ≤ (j : Int) + 1 := by omega
    have j3 : (j : Int) + 1 < (n : Int) := by omega
    generalize hR : flat ks = R at *
    generalize x0.2 ++ x1.2 = R2 at *
    clear hl e0 hk hmt hf hi hj hjc hx0 hx1 hc2 p0 p1 hlen2 d1 d2 hR
    go_enter Try.func56, Try.ntmps56
    go_wp2_with ((with_reducible refine upon_meth HM.out ?_); rintro v1 w1 ⟨rfl, hB1⟩; have HB1 : Hid (Below w.heap.size w w1) := hB1; clear hB1)
    have HS : Hid (∀ W, Below w1.heap.size w1 W → W.cell? ⟨g, o + j, none⟩ = some (.iface x0.1.1 x0.1.2) ∧ W.cell? ⟨g, o + (j + 1), none⟩ = some (.iface x1.1.1 x1.1.2)) := fun W hW => by
      have hb := bmore HB1.out hW
      exact ⟨(hb.cell (p := ⟨g, o + j, none⟩) (World.block_lt_of_cell? w _ HD1.out)).trans HD1.out, (hb.cell (p := ⟨g, o + (j + 1), none⟩) (World.block_lt_of_cell? w _ HD2.out)).trans HD2.out⟩
    have hS0 := HS.out w1.drew (Below.refl _ _).drew
    have k67 := HK67.out w1.drew HB1.out.drew
    go_region_held3 (fun W => W.cell? ⟨g, o + j, none⟩ = some (.iface x0.1.1 x0.1.2) ∧ W.cell? ⟨g, o + (j + 1), none⟩ = some (.iface x1.1.1 x1.1.2)) (first | exact hS0 | exact HS.out _ HBb.out | exact HS.out _ HBa.out) (first
      | (go_at_call 67; (with_reducible refine k67.mono ?_); rintro e w2 ⟨a2, c2, n2, ps, rfl, e1, hv2, hf2, hk2, l2, l3, hB3⟩; have HBa : Hid (Below w1.heap.size w1 w2) := bmore (Below.refl _ _).drew hB3; have k55 := HK55.out w2 a2 c2 n2 ps (bmore HB1.out HBa.out) e1 hv2 hf2 hk2 l2 l3; clear e1 hv2 hf2 hk2 hB3 k67)
      | (go_at_call 55; (with_reducible refine k55.mono ?_); rintro e w3 ⟨v3, rfl, hB4, hS3⟩; have HBb : Hid (Below w1.heap.size w1 w3) := bmore HBa.out hB4.out; clear hB4 k55))
    go_wp2
    go_ret
    exact hS3.out
end Go.Proofs.Ytgimjjlkniplnaa
