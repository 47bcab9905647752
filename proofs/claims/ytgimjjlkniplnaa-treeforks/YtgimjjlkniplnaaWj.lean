/- with, of any part. -/
import Derived.Test.YtgimjjlkniplnaaWi
namespace Go.Proofs.Ytgimjjlkniplnaa
open Go.RowKit Go.Shelf
set_option maxRecDepth 100000
attribute [local go_sem] ta64_64 ta72_64 ta72_72 ta64_72 tb64_64 tb72_72
theorem mid_put {ks : List Kd} {p : Pr} {i : Nat} {y : Kd} (ht : Tow ks p.1 i y) : put (flat ks) p = flat (ks.take i) ++ put y.2 p ++ flat (ks.drop (i + 1)) := by
  conv => lhs; rw [flat_cut ht.at_]
  exact ht.mid.put
theorem Kids.app {w : World} {h : Nat} {A B : List Kd} (ha : Kids w h A) (hb : Kids w h B) : Kids w h (A ++ B) := fun x hx => (List.mem_append.1 hx).elim (ha x) (hb x)
theorem Kids.take {w : World} {h : Nat} {A : List Kd} (ha : Kids w h A) (i : Nat) : Kids w h (A.take i) := fun x hx => ha x (List.mem_of_mem_take hx)
theorem Kids.drop {w : World} {h : Nat} {A : List Kd} (ha : Kids w h A) (i : Nat) : Kids w h (A.drop i) := fun x hx => ha x (List.mem_of_mem_drop hx)
set_option maxHeartbeats 1000000 in
theorem with43 {p : Pr} : ∀ {h n : Nat} {w : World} {x : Bx} {kv : List Pr}, Part w h n x kv → Srt kv → kv.length ≤ 900 → n ≤ 8 → Calls Try.prog 43 #[.iface x.1 x.2, .agg #[.string p.1, .string p.2]] w (SPost w h n (put kv p))
  | 0, n, w, x, kv, hp, hs, _, h8 => with43_leaf hp hs h8
  | h + 1, n, w, x, kv, hp, hs, hn, h8 => by
    obtain ⟨a, c, ks, rfl, h2, h3, h4, h5, h6⟩ := hp.inner
    subst h5
    have hks : ks.length ≤ (flat ks).length := flat_len fun y hy => h6.pos hy
    have hpl := put_ge hs p
    obtain ⟨y, ht⟩ := tow_i (k := p.1) h6 hs (by omega)
    have hmp := mid_put ht
    generalize hs0 : fst (flat ks) = s at *
    generalize hk0 : (flat ks).length = kl at *
    have hB : Below w.heap.size w ((w.alloc (.cells #[.string p.1, .string p.2] 33)).alloc (.cells #[.slice a n c, .string s, .int .i64 (kl : Int)] 72)) := bal (al _ _) _
    have hbp : Blk ((w.alloc (.cells #[.string p.1, .string p.2] 33)).alloc (.cells #[.slice a n c, .string s, .int .i64 (kl : Int)] 72)) w.heap.size [.string p.1, .string p.2] 33 := (blk_new w [.string p.1, .string p.2] 33).below (al _ _)
    have hbn : Blk ((w.alloc (.cells #[.string p.1, .string p.2] 33)).alloc (.cells #[.slice a n c, .string s, .int .i64 (kl : Int)] 72)) (w.heap.size + 1) [.slice a n c, .string s, .int .i64 (kl : Int)] 72 := blk_at (w.alloc (.cells #[.string p.1, .string p.2] 33)) [.slice a n c, .string s, .int .i64 (kl : Int)] 72 (by simp)
    have k49 := toward49 (k := p.1) (s := s) (t := (kl : Int)) (h2.below hB) (h6.below hB) hs (by omega) (by omega)
    unfold TPost at k49
    generalize towI ks p.1 = i at *
    have hi := (List.getElem?_eq_some_iff.1 ht.at_).1
    obtain ⟨m, q1, q2, q3⟩ := h6 y (List.mem_of_getElem? ht.at_)
    have hyl : y.2.length ≤ kl := by rw [← hk0, flat_cut ht.at_]; simp; omega
    obtain ⟨g, o, rfl, d0⟩ := EK.cell h2 (i := i) (x := y.1) (by rw [List.getElem?_map, ht.at_]; rfl)
    have HK43 : Hid (∀ W, Below w.heap.size w W → Calls Try.prog 43 #[.iface y.1.1 y.1.2, .agg #[.string p.1, .string p.2]] W (SList W h (put y.2 p))) := fun W hW =>
      (with43 (p := p) (q3.below hW) (kid_srt hs (List.mem_of_getElem? ht.at_)) (by omega) q2).mono fun _ _ q => q.list q1
    have HK55 : Hid (∀ (W : World) (a2 : Option Addr) (c2 n2 : Nat) (ps : List Kd), Below w.heap.size w W → ps.length = n2 → LV EK W (.slice a2 n2 c2) (ps.map (·.1)) → n2 ≤ 2 → Calls Try.prog 55 #[.slice (some ⟨g, o, none⟩) n c, .int .i64 (i : Int), .int .i64 ((i : Int) + 1), .slice a2 n2 c2] W (CPost EK W ((ks.take i ++ ps ++ ks.drop (i + 1)).map (·.1)))) := fun W a2 c2 n2 ps hW e1 hv hn2 => by
      have := spliced55 (h2.below hW) hv (i := i) (j := i + 1) (by omega) (by rw [List.length_map]; omega) (by rw [List.length_map, List.length_map]; omega)
      rw [← List.map_take, ← List.map_drop, ← List.map_append, ← List.map_append] at this
      simpa using this
    have HK54 : Hid (∀ (W : World) (v : Value) (ps : List Kd), Below w.heap.size w W → LV EK W v ((ks.take i ++ ps ++ ks.drop (i + 1)).map (·.1)) → flat ps = put y.2 p → Kids W h ps → 1 ≤ ps.length → ps.length ≤ 2 → Calls Try.prog 54 #[v] W (fun e w' => ∃ v', e = .returned v' ∧ Hid (SPost W (h + 1) n (put (flat ks) p) (.returned v') w'))) := fun W v ps hW hv hf hk l1 l2 => by
      have hf2 : flat (ks.take i ++ ps ++ ks.drop (i + 1)) = put (flat ks) p := by rw [flat_app, flat_app, hf, hmp]
      have hlen : (ks.take i ++ ps ++ ks.drop (i + 1)).length = n - 1 + ps.length := by simp; omega
      have hk2 : Kids W h (ks.take i ++ ps ++ ks.drop (i + 1)) := Kids.app (Kids.app ((h6.below hW).take i) hk) ((h6.below hW).drop (i + 1))
      have := inners54 hv hk2 (by omega) (by omega) (by rw [hf2]; omega)
      rw [hf2] at this
      refine this.mono fun e w' q => ?_
      obtain ⟨v', e1, e2⟩ := q
      exact ⟨v', e1, SPost.mono (show SPost W (h + 1) _ (put (flat ks) p) (.returned v') w' from ⟨v', rfl, e2⟩) (by omega)⟩
    have l0 : (0 : Int) ≤ (i : Int) := by omega
    have l1 : (i : Int) < (n : Int) := by omega
    have hw1 : IntKind.i64.wrap ((i : Int) + 1) = (i : Int) + 1 := (IntWalk.i64_left _).trans (IntWalk.wrap64_in _ (by omega))
    have hw2 : wrap64 ((i : Int) + 1) = (i : Int) + 1 := IntWalk.wrap64_in _ (by omega)
    have HB : Hid (Below w.heap.size w ((w.alloc (.cells #[.string p.1, .string p.2] 33)).alloc (.cells #[.slice (some ⟨g, o, none⟩) n c, .string s, .int .i64 (kl : Int)] 72))) := hB
    have HP : Hid (Blk ((w.alloc (.cells #[.string p.1, .string p.2] 33)).alloc (.cells #[.slice (some ⟨g, o, none⟩) n c, .string s, .int .i64 (kl : Int)] 72)) w.heap.size [.string p.1, .string p.2] 33) := hbp
    have HN : Hid (Blk ((w.alloc (.cells #[.string p.1, .string p.2] 33)).alloc (.cells #[.slice (some ⟨g, o, none⟩) n c, .string s, .int .i64 (kl : Int)] 72)) (w.heap.size + 1) [.slice (some ⟨g, o, none⟩) n c, .string s, .int .i64 (kl : Int)] 72) := hbn
    have HD : Hid (w.cell? ⟨g, o + i, none⟩ = some (.iface y.1.1 y.1.2)) := d0
    generalize hR : put (flat ks) p = R at *
    generalize hYY : put y.2 p = Y at *
    clear h2 h3 h6 hp hs hB hbp hbn hks hs0 hk0 d0 q3 ht hmp hpl hR hYY
    go_enter Try.func43, Try.ntmps43
    go_wp2_with (go_at_call 49; (with_reducible refine k49.mono ?_); rintro e w1 ⟨rfl, hB1⟩; have hB2 : Hid (Below w.heap.size w w1) := bmore HB.out hB1; obtain ⟨e0, e1, -, -⟩ := Blk.c2 (HP.out.below hB1); obtain ⟨m0, m1, m2, -, -, -⟩ := Blk.c3 (HN.out.below hB1); have d0 := (hB2.out.cell (p := ⟨g, o + i, none⟩) (World.block_lt_of_cell? w _ HD.out)).trans HD.out; clear hB1 k49)
    have HS : Hid (∀ W, Below w1.heap.size w1 W → W.cell? ⟨w.heap.size, 0, none⟩ = some (.string p.1) ∧ W.cell? ⟨w.heap.size, 1, none⟩ = some (.string p.2) ∧ W.cell? ⟨w.heap.size + 1, 0, none⟩ = some (.slice (some ⟨g, o, none⟩) n c) ∧ W.cell? ⟨g, o + i, none⟩ = some (.iface y.1.1 y.1.2)) := fun W hW =>
      ⟨(hW.cell (p := ⟨w.heap.size, 0, none⟩) (World.block_lt_of_cell? w1 _ e0)).trans e0, (hW.cell (p := ⟨w.heap.size, 1, none⟩) (World.block_lt_of_cell? w1 _ e1)).trans e1, (hW.cell (p := ⟨w.heap.size + 1, 0, none⟩) (World.block_lt_of_cell? w1 _ m0)).trans m0, (hW.cell (p := ⟨g, o + i, none⟩) (World.block_lt_of_cell? w1 _ d0)).trans d0⟩
    have hS0 := HS.out w1.drew (Below.refl _ _).drew
    have k43 := HK43.out w1.drew hB2.out.drew
    clear e0 e1 m0 m1 m2 d0 HP HN HD
    go_region_held3 (fun W => W.cell? ⟨w.heap.size, 0, none⟩ = some (.string p.1) ∧ W.cell? ⟨w.heap.size, 1, none⟩ = some (.string p.2) ∧ W.cell? ⟨w.heap.size + 1, 0, none⟩ = some (.slice (some ⟨g, o, none⟩) n c) ∧ W.cell? ⟨g, o + i, none⟩ = some (.iface y.1.1 y.1.2)) (first | exact hS0 | exact HS.out _ HBc.out | exact HS.out _ HBb.out | exact HS.out _ HBa.out) (first
      | (go_at_call 43; (with_reducible refine k43.mono ?_); rintro e w2 ⟨a2, c2, n2, ps, rfl, e1, hv2, hf2, hk2, l2, l3, hB3⟩; have HBa : Hid (Below w1.heap.size w1 w2) := bmore (Below.refl _ _).drew hB3; have k55 := HK55.out w2 a2 c2 n2 ps (bmore hB2.out HBa.out) e1 hv2 l3; have Hps : Hid (flat ps = Y ∧ Kids w2 h ps ∧ 1 ≤ ps.length ∧ ps.length ≤ 2) := ⟨hf2, hk2, by rw [e1]; exact l2, by rw [e1]; exact l3⟩; clear e1 hv2 hf2 hk2 hB3 k43)
      | (go_at_call 55; (with_reducible refine k55.mono ?_); rintro e w3 ⟨v3, rfl, hv3, hB4⟩; have HBb : Hid (Below w1.heap.size w1 w3) := bmore HBa.out hB4; have k54 := HK54.out w3 v3 ps (bmore hB2.out HBb.out) hv3 Hps.out.1 (Hps.out.2.1.below hB4) Hps.out.2.2.1 Hps.out.2.2.2; clear hv3 hB4 k55)
      | (go_at_call 54; (with_reducible refine k54.mono ?_); rintro e w4 ⟨v4, rfl, hS4⟩; have HBc : Hid (Below w1.heap.size w1 w4) := bmore HBb.out (by obtain ⟨_, _, hb, _⟩ := hS4.out; exact hb); have HS4 : Hid (SPost w (h + 1) n R (.returned v4) w4) := SPost.base hS4.out (bmore hB2.out HBb.out); clear hS4 k54))
    go_wp2
    go_ret
    exact HS4.out
end Go.Proofs.Ytgimjjlkniplnaa
