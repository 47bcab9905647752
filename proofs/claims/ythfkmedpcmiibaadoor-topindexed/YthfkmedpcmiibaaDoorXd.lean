/- with. · with, of any part. · joined, filled. · filled. · without, lowered. · The tree: New, Put, Floor, Get, Delete, Len, Height, Count, Fork. · Floor, Get, Delete, Len, Height, Count, Fork. · Delete, Len, Height, Count, Fork. -/
import Derived.Test.YthfkmedpcmiibaaDoorXc
/-! ### with. -/
namespace Go.Proofs.YthfkmedpcmiibaaDoor.T
open Go.RowKit Go.Shelf
set_option maxRecDepth 100000
attribute [local go_sem] ta64_64 ta72_64 ta72_72 ta64_72 tb64_64 tb72_72
theorem SPost.mono {w w' : World} {h lo lo' : Nat} {kv : List Pr} {e : Ending} (k : SPost w h lo kv e w') (hl : lo' ≤ lo) : SPost w h lo' kv e w' := by
  obtain ⟨v, h1, h2, h3⟩ := k
  refine ⟨v, h1, h2, h3.imp ?_ id⟩
  rintro ⟨p, n, q1, q2, q3, q4, q5⟩
  exact ⟨p, n, q1, q2, q3, by omega, q5⟩
/-- The parts as a list. -/
def SList (w : World) (h : Nat) (kv : List Pr) (e : Ending) (w' : World) : Prop := ∃ a c n, ∃ ps : List Kd, e = .returned (.slice a n c) ∧ ps.length = n ∧ LV EK w' (.slice a n c) (ps.map (·.1)) ∧ flat ps = kv ∧ Kids w' h ps ∧ 1 ≤ n ∧ n ≤ 2 ∧ Below w.heap.size w w'
theorem SPost.list {w w' : World} {h lo : Nat} {kv : List Pr} {e : Ending} (k : SPost w h lo kv e w') (hl : 4 ≤ lo) : SList w h kv e w' := by
  obtain ⟨v, rfl, h2, h3⟩ := k
  rcases h3 with ⟨p, n, q1, q2, q3, q4, q5⟩ | ⟨p, q, m, n, q1, q2, q3, q4, q5, q6, q7, q8⟩
  · obtain ⟨a, c, rfl⟩ := q1.form
    refine ⟨a, c, 1, [p], rfl, rfl, q1, by simp [flat, q2], ?_, by omega, by omega, h2⟩
    intro x hx
    simp at hx
    subst hx
    exact ⟨n, by omega, q5, q3⟩
  · obtain ⟨a, c, rfl⟩ := q1.form
    refine ⟨a, c, 2, [p, q], rfl, rfl, q1, by simp [flat, q2], ?_, by omega, by omega, h2⟩
    intro x hx
    simp at hx
    rcases hx with rfl | rfl
    · exact ⟨m, q5, q6, q3⟩
    · exact ⟨n, q7, q8, q4⟩
theorem lv_one {w : World} (p : Pr) : LV EP (w.alloc (.cells #[.string p.1, .string p.2] 42)) (.slice (some ⟨w.heap.size, 0, none⟩) 1 1) [p] := lv_blk EP (L := [p]) (blk_new w [.string p.1, .string p.2] 42) 1 (by simp)
theorem put_found {kv : List Pr} {i : Nat} {p : Pr} (hs : Srt kv) (ha : At kv p.1 i) (hf : found kv p.1 i = true) : kv.take i ++ [p] ++ kv.drop (i + 1) = put kv p := by
  obtain ⟨q, hq, hk⟩ := is_found hf
  unfold put
  rw [(cut_lo ha).1, (cut_found hs hq hk ha).1]
  simp
theorem put_none {kv : List Pr} {i : Nat} {p : Pr} (hs : Srt kv) (ha : At kv p.1 i) (hf : found kv p.1 i = false) : kv.take i ++ [p] ++ kv.drop i = put kv p := by
  unfold put
  rw [(cut_lo ha).1, (cut_none ha (not_found hf) hs).1]
  simp
theorem put_ge {kv : List Pr} (hs : Srt kv) (p : Pr) : kv.length ≤ (put kv p).length ∧ (put kv p).length ≤ kv.length + 1 := by
  have := put_len hs p
  have : (has kv p.1).toNat ≤ 1 := Bool.toNat_le _
  omega
set_option maxHeartbeats 1000000 in
theorem with43_leaf {p : Pr} {n : Nat} {w : World} {x : Bx} {kv : List Pr} (hp : Part w 0 n x kv) (hs : Srt kv) (hn : n ≤ 8) : Calls Tryd.prog 17 #[.iface x.1 x.2, .agg #[.string p.1, .string p.2]] w (SPost w 0 n (put kv p)) := by
  obtain ⟨a, c, rfl, hl, hln⟩ := hp.leaf
  have hB := al w (.cells #[.string p.1, .string p.2] 42)
  have k48 := place48 (k := p.1) (hl.below hB) hs (by omega)
  have HB : Hid _ := hB
  have hbk := blk_new w [.string p.1, .string p.2] 42
  have HC : Hid (∀ (w1 : World) (i : Nat), i ≤ kv.length → At kv p.1 i → Below (w.alloc (.cells #[.string p.1, .string p.2] 42)).heap.size (w.alloc (.cells #[.string p.1, .string p.2] 42)) w1 →
      (w1.cell? ⟨w.heap.size, 0, none⟩ = some (.string p.1) ∧ w1.cell? ⟨w.heap.size, 1, none⟩ = some (.string p.2)) ∧ wrap64 ((i : Int) + 1) = (i : Int) + 1 ∧ Hid (Below w.heap.size w w1) ∧
      ((found kv p.1 i = true ∧ Calls Tryd.prog 33 #[.slice a n c, .int .i64 (i : Int), .int .i64 ((i : Int) + 1), .slice (some ⟨w1.heap.size, 0, none⟩) 1 1] (w1.alloc (.cells #[.string p.1, .string p.2] 42)) (CPost EP (w1.alloc (.cells #[.string p.1, .string p.2] 42)) (put kv p))) ∨
       (found kv p.1 i = false ∧ Calls Tryd.prog 33 #[.slice a n c, .int .i64 (i : Int), .int .i64 (i : Int), .slice (some ⟨w1.heap.size, 0, none⟩) 1 1] (w1.alloc (.cells #[.string p.1, .string p.2] 42)) (CPost EP (w1.alloc (.cells #[.string p.1, .string p.2] 42)) (put kv p))))) := fun w1 i hi ha hB1 => by
    have hB2 : Below w.heap.size w w1 := bmore HB.out hB1
    have hl1 := hl.below (bmore hB2 (al w1 (.cells #[.string p.1, .string p.2] 42)))
    obtain ⟨e0, e1, _, _⟩ := Blk.c2 (hbk.below hB1)
    refine ⟨⟨e0, e1⟩, IntWalk.wrap64_in _ (by omega), hB2, ?_⟩
    cases hf : found kv p.1 i with
    | true =>
      obtain ⟨q, hq, _⟩ := is_found hf
      have hlt := (List.getElem?_eq_some_iff.1 hq).1
      have := spliced53 hl1 (lv_one p) (i := i) (j := i + 1) (by omega) (by omega) (by simp; omega)
      rw [put_found hs ha hf, hln] at this
      exact .inl ⟨rfl, by simpa using this⟩
    | false =>
      have := spliced53 hl1 (lv_one p) (i := i) (j := i) (by omega) hi (by simp; omega)
      rw [put_none hs ha hf, hln] at this
      exact .inr ⟨rfl, this⟩
  have HL : Hid ((put kv p).length ≤ 9 ∧ n ≤ (put kv p).length) := by have := put_ge hs p; show _ ∧ _; omega
  rw [hln] at k48
  rw [hln]
  clear hl hp hs hB hbk hln
  go_enter Tryd.func17, Tryd.ntmps17
  go_wp2_with (first
    | (go_at_call 31; (with_reducible refine k48.mono ?_); rintro e w1 ⟨i, hi, ha, rfl, hB1⟩; obtain ⟨⟨e0, e1⟩, hw, HB2, hcase⟩ := HC.out w1 i hi ha hB1; clear hi ha hB1 k48; rcases hcase with ⟨hf, k53⟩ | ⟨hf, k53⟩)
    | (go_at_call 33; (with_reducible refine k53.mono ?_); rintro e w2 ⟨v2, rfl, hv2, hB3⟩; have k52 := leaves52 hv2 (by have := HL.out; omega); have HB3 : Hid (Below w.heap.size w w2) := bmore (bmore HB2.out (al _ _)) hB3; clear hB3 k53)
    | (go_at_call 32; (with_reducible refine k52.mono ?_); rintro e w3 hS; obtain ⟨v3, hv3, hS3⟩ : ∃ v3, e = .returned v3 ∧ Hid (SPost w 0 n (put kv p) (.returned v3) w3) := (by obtain ⟨v3, hq, hr⟩ := hS; exact ⟨v3, hq, (SPost.mono (SPost.base (show SPost w2 0 _ (put kv p) (.returned v3) w3 from ⟨v3, rfl, hr⟩) HB3.out) HL.out.2)⟩); subst hv3; clear hS))
  all_goals
    go_ret
    exact hS3.out
end Go.Proofs.YthfkmedpcmiibaaDoor.T
/-! ### with, of any part. -/
namespace Go.Proofs.YthfkmedpcmiibaaDoor.T
open Go.RowKit Go.Shelf
set_option maxRecDepth 100000
attribute [local go_sem] ta64_64 ta72_64 ta72_72 ta64_72 tb64_64 tb72_72
theorem mid_put {ks : List Kd} {p : Pr} {i : Nat} {y : Kd} (ht : Tow ks p.1 i y) : put (flat ks) p = flat (ks.take i) ++ put y.2 p ++ flat (ks.drop (i + 1)) := by
  conv => lhs; rw [flat_cut ht.at_]
  exact ht.mid.put
theorem Kids.app {w : World} {h : Nat} {A B : List Kd} (ha : Kids w h A) (hb : Kids w h B) : Kids w h (A ++ B) := fun x hx => (List.mem_append.1 hx).elim (ha x) (hb x)
theorem Kids.take {w : World} {h : Nat} {A : List Kd} (ha : Kids w h A) (i : Nat) : Kids w h (A.take i) := fun x hx => ha x (List.mem_of_mem_take hx)
theorem Kids.drop {w : World} {h : Nat} {A : List Kd} (ha : Kids w h A) (i : Nat) : Kids w h (A.drop i) := fun x hx => ha x (List.mem_of_mem_drop hx)
set_option maxHeartbeats 1000000 in
theorem with43 {p : Pr} : ∀ {h n : Nat} {w : World} {x : Bx} {kv : List Pr}, Part w h n x kv → Srt kv → kv.length ≤ 900 → n ≤ 8 → Calls Tryd.prog 17 #[.iface x.1 x.2, .agg #[.string p.1, .string p.2]] w (SPost w h n (put kv p))
  | 0, n, w, x, kv, hp, hs, _, h8 => with43_leaf hp hs h8
  | h + 1, n, w, x, kv, hp, hs, hn, h8 => by
    obtain ⟨a, c, ks, rfl, h2, h3, h4, h5, h6⟩ := hp.inner
    subst h5
    have hks : ks.length ≤ (flat ks).length := flat_len fun y hy => h6.pos hy
    have hpl := put_ge hs p
    obtain ⟨y, ht⟩ := tow_i (k := p.1) h6 hs (by omega)
    have hmp := mid_put ht
    generalize hs0 : fst (flat ks) = s at *
    generalize hk0 : (flat ks).length = kl at *
    have hB : Below w.heap.size w ((w.alloc (.cells #[.string p.1, .string p.2] 42)).alloc (.cells #[.slice a n c, .string s, .int .i64 (kl : Int)] 63)) := bal (al _ _) _
    have hbp : Blk ((w.alloc (.cells #[.string p.1, .string p.2] 42)).alloc (.cells #[.slice a n c, .string s, .int .i64 (kl : Int)] 63)) w.heap.size [.string p.1, .string p.2] 42 := (blk_new w [.string p.1, .string p.2] 42).below (al _ _)
    have hbn : Blk ((w.alloc (.cells #[.string p.1, .string p.2] 42)).alloc (.cells #[.slice a n c, .string s, .int .i64 (kl : Int)] 63)) (w.heap.size + 1) [.slice a n c, .string s, .int .i64 (kl : Int)] 63 := blk_at (w.alloc (.cells #[.string p.1, .string p.2] 42)) [.slice a n c, .string s, .int .i64 (kl : Int)] 63 (by simp)
    have k49 := toward49 (k := p.1) (s := s) (t := (kl : Int)) (h2.below hB) (h6.below hB) hs (by omega) (by omega)
    unfold TPost at k49
    generalize towI ks p.1 = i at *
    have hi := (List.getElem?_eq_some_iff.1 ht.at_).1
    obtain ⟨m, q1, q2, q3⟩ := h6 y (List.mem_of_getElem? ht.at_)
    have hyl : y.2.length ≤ kl := by rw [← hk0, flat_cut ht.at_]; simp; omega
    obtain ⟨g, o, rfl, d0⟩ := EK.cell h2 (i := i) (x := y.1) (by rw [List.getElem?_map, ht.at_]; rfl)
    have HK43 : Hid (∀ W, Below w.heap.size w W → Calls Tryd.prog 17 #[.iface y.1.1 y.1.2, .agg #[.string p.1, .string p.2]] W (SList W h (put y.2 p))) := fun W hW =>
      (with43 (p := p) (q3.below hW) (kid_srt hs (List.mem_of_getElem? ht.at_)) (by omega) q2).mono fun _ _ q => q.list q1
    have HK55 : Hid (∀ (W : World) (a2 : Option Addr) (c2 n2 : Nat) (ps : List Kd), Below w.heap.size w W → ps.length = n2 → LV EK W (.slice a2 n2 c2) (ps.map (·.1)) → n2 ≤ 2 → Calls Tryd.prog 36 #[.slice (some ⟨g, o, none⟩) n c, .int .i64 (i : Int), .int .i64 ((i : Int) + 1), .slice a2 n2 c2] W (CPost EK W ((ks.take i ++ ps ++ ks.drop (i + 1)).map (·.1)))) := fun W a2 c2 n2 ps hW e1 hv hn2 => by
      have := spliced55 (h2.below hW) hv (i := i) (j := i + 1) (by omega) (by rw [List.length_map]; omega) (by rw [List.length_map, List.length_map]; omega)
      rw [← List.map_take, ← List.map_drop, ← List.map_append, ← List.map_append] at this
      simpa using this
    have HK54 : Hid (∀ (W : World) (v : Value) (ps : List Kd), Below w.heap.size w W → LV EK W v ((ks.take i ++ ps ++ ks.drop (i + 1)).map (·.1)) → flat ps = put y.2 p → Kids W h ps → 1 ≤ ps.length → ps.length ≤ 2 → Calls Tryd.prog 35 #[v] W (fun e w' => ∃ v', e = .returned v' ∧ Hid (SPost W (h + 1) n (put (flat ks) p) (.returned v') w'))) := fun W v ps hW hv hf hk l1 l2 => by
      have hf2 : flat (ks.take i ++ ps ++ ks.drop (i + 1)) = put (flat ks) p := by rw [flat_app, flat_app, hf, hmp]
      have hlen : (ks.take i ++ ps ++ ks.drop (i + 1)).length = n - 1 + ps.length := by simp; omega
      have hk2 : Kids W h (ks.take i ++ ps ++ ks.drop (i + 1)) := Kids.app (Kids.app ((h6.below hW).take i) hk) ((h6.below hW).drop (i + 1))
      have := inners54 hv hk2 (by omega) (by omega) (by rw [hf2]; omega)
      rw [hf2] at this
      refine this.mono fun e w' q => ?_
      obtain ⟨v', e1, e2⟩ := q
      exact ⟨v', e1, SPost.mono (show SPost W (h + 1) _ (put (flat ks) p) (.returned v') w' from ⟨v', rfl, e2⟩) (by omega)⟩
    have l0 : (0 : Int) ≤ (i : Int) := by omega
    have l1 : (i : Int) < (n : Int) := by omega
    have hw1 : IntKind.i64.wrap ((i : Int) + 1) = (i : Int) + 1 := (IntWalk.i64_left _).trans (IntWalk.wrap64_in _ (by omega))
    have hw2 : wrap64 ((i : Int) + 1) = (i : Int) + 1 := IntWalk.wrap64_in _ (by omega)
    have HB : Hid (Below w.heap.size w ((w.alloc (.cells #[.string p.1, .string p.2] 42)).alloc (.cells #[.slice (some ⟨g, o, none⟩) n c, .string s, .int .i64 (kl : Int)] 63))) := hB
    have HP : Hid (Blk ((w.alloc (.cells #[.string p.1, .string p.2] 42)).alloc (.cells #[.slice (some ⟨g, o, none⟩) n c, .string s, .int .i64 (kl : Int)] 63)) w.heap.size [.string p.1, .string p.2] 42) := hbp
    have HN : Hid (Blk ((w.alloc (.cells #[.string p.1, .string p.2] 42)).alloc (.cells #[.slice (some ⟨g, o, none⟩) n c, .string s, .int .i64 (kl : Int)] 63)) (w.heap.size + 1) [.slice (some ⟨g, o, none⟩) n c, .string s, .int .i64 (kl : Int)] 63) := hbn
    have HD : Hid (w.cell? ⟨g, o + i, none⟩ = some (.iface y.1.1 y.1.2)) := d0
    generalize hR : put (flat ks) p = R at *
    generalize hYY : put y.2 p = Y at *
    clear h2 h3 h6 hp hs hB hbp hbn hks hs0 hk0 d0 q3 ht hmp hpl hR hYY
    go_enter Tryd.func17, Tryd.ntmps17
    go_wp2_with (go_at_call 34; (with_reducible refine k49.mono ?_); rintro e w1 ⟨rfl, hB1⟩; have hB2 : Hid (Below w.heap.size w w1) := bmore HB.out hB1; obtain ⟨e0, e1, -, -⟩ := Blk.c2 (HP.out.below hB1); obtain ⟨m0, m1, m2, -, -, -⟩ := Blk.c3 (HN.out.below hB1); have d0 := (hB2.out.cell (p := ⟨g, o + i, none⟩) (World.block_lt_of_cell? w _ HD.out)).trans HD.out; clear hB1 k49)
    have HS : Hid (∀ W, Below w1.heap.size w1 W → W.cell? ⟨w.heap.size, 0, none⟩ = some (.string p.1) ∧ W.cell? ⟨w.heap.size, 1, none⟩ = some (.string p.2) ∧ W.cell? ⟨w.heap.size + 1, 0, none⟩ = some (.slice (some ⟨g, o, none⟩) n c) ∧ W.cell? ⟨g, o + i, none⟩ = some (.iface y.1.1 y.1.2)) := fun W hW =>
      ⟨(hW.cell (p := ⟨w.heap.size, 0, none⟩) (World.block_lt_of_cell? w1 _ e0)).trans e0, (hW.cell (p := ⟨w.heap.size, 1, none⟩) (World.block_lt_of_cell? w1 _ e1)).trans e1, (hW.cell (p := ⟨w.heap.size + 1, 0, none⟩) (World.block_lt_of_cell? w1 _ m0)).trans m0, (hW.cell (p := ⟨g, o + i, none⟩) (World.block_lt_of_cell? w1 _ d0)).trans d0⟩
    have hS0 := HS.out w1.drew (Below.refl _ _).drew
    have k43 := HK43.out w1.drew hB2.out.drew
    clear e0 e1 m0 m1 m2 d0 HP HN HD
    go_region_held3 (fun W => W.cell? ⟨w.heap.size, 0, none⟩ = some (.string p.1) ∧ W.cell? ⟨w.heap.size, 1, none⟩ = some (.string p.2) ∧ W.cell? ⟨w.heap.size + 1, 0, none⟩ = some (.slice (some ⟨g, o, none⟩) n c) ∧ W.cell? ⟨g, o + i, none⟩ = some (.iface y.1.1 y.1.2)) (first | exact hS0 | exact HS.out _ HBc.out | exact HS.out _ HBb.out | exact HS.out _ HBa.out) (first
      | (go_at_call 17; (with_reducible refine k43.mono ?_); rintro e w2 ⟨a2, c2, n2, ps, rfl, e1, hv2, hf2, hk2, l2, l3, hB3⟩; have HBa : Hid (Below w1.heap.size w1 w2) := bmore (Below.refl _ _).drew hB3; have k55 := HK55.out w2 a2 c2 n2 ps (bmore hB2.out HBa.out) e1 hv2 l3; have Hps : Hid (flat ps = Y ∧ Kids w2 h ps ∧ 1 ≤ ps.length ∧ ps.length ≤ 2) := ⟨hf2, hk2, by rw [e1]; exact l2, by rw [e1]; exact l3⟩; clear e1 hv2 hf2 hk2 hB3 k43)
      | (go_at_call 36; (with_reducible refine k55.mono ?_); rintro e w3 ⟨v3, rfl, hv3, hB4⟩; have HBb : Hid (Below w1.heap.size w1 w3) := bmore HBa.out hB4; have k54 := HK54.out w3 v3 ps (bmore hB2.out HBb.out) hv3 Hps.out.1 (Hps.out.2.1.below hB4) Hps.out.2.2.1 Hps.out.2.2.2; clear hv3 hB4 k55)
      | (go_at_call 35; (with_reducible refine k54.mono ?_); rintro e w4 ⟨v4, rfl, hS4⟩; have HBc : Hid (Below w1.heap.size w1 w4) := bmore HBb.out (by obtain ⟨_, _, hb, _⟩ := hS4.out; exact hb); have HS4 : Hid (SPost w (h + 1) n R (.returned v4) w4) := SPost.base hS4.out (bmore hB2.out HBb.out); clear hS4 k54))
    go_wp2
    go_ret
    exact HS4.out
end Go.Proofs.YthfkmedpcmiibaaDoor.T
/-! ### joined, filled. -/
namespace Go.Proofs.YthfkmedpcmiibaaDoor.T
open Go.RowKit Go.Shelf
set_option maxRecDepth 100000
attribute [local go_sem] ta64_64 ta72_64 ta72_72 ta64_72 tb64_64 tb72_72
theorem fld72 (a : Option Addr) (n c : Nat) (s : ByteArray) (t : Int) (w : World) : Sem.run Tryd.prog (Instr.field 63 (.agg #[.slice a n c, .string s, .int .i64 t]) 0) w = .ok (.slice a n c) w := by kernel_rfl
attribute [local go_sem] fld72
theorem lv_el {w : World} {v : Value} {L : List Pr} (h : LV EP w v L) : LV EL w v L := h
theorem lv_ep {w : World} {v : Value} {L : List Pr} (h : LV EL w v L) : LV EP w v L := h
theorem ls2d {α : Type} {E : Ety α} {w : World} {x y : Value} {A B : List α} (hx : LV E w x A) (hy : LV E w y B) (t : TypeId) : Ls E (w.alloc (.cells #[x, y] t)).drew w.heap.size [(x, A), (y, B)] := (ls2 hx hy t).below (Below.refl _ _).drew
end Go.Proofs.YthfkmedpcmiibaaDoor.T
/-! ### filled. -/
namespace Go.Proofs.YthfkmedpcmiibaaDoor.T
open Go.RowKit Go.Shelf
set_option maxRecDepth 100000
attribute [local go_sem] ta64_64 ta72_64 ta72_72 ta64_72 tb64_64 tb72_72
/-- Kids that hold these pairs, as many as were, or one less. -/
def NPost (w : World) (h n : Nat) (kv : List Pr) (e : Ending) (w' : World) : Prop := ∃ a c n', ∃ ks' : List Kd, e = .returned (.slice a n' c) ∧ ks'.length = n' ∧ LV EK w' (.slice a n' c) (ks'.map (·.1)) ∧ flat ks' = kv ∧ Kids w' h ks' ∧ n ≤ n' + 1 ∧ n' ≤ n ∧ Below w.heap.size w w'
/-- Kids of which one may have one less. -/
structure Nearly (w : World) (h : Nat) (ks : List Kd) (i : Nat) (y : Kd) (m : Nat) : Prop where
  at_ : ks[i]? = some y
  part : Part w h m y.1 y.2
  lo : 3 ≤ m
  hi : m ≤ 8
  others : ∀ (t : Nat) (x : Kd), ks[t]? = some x → t ≠ i → ∃ m, 4 ≤ m ∧ m ≤ 8 ∧ Part w h m x.1 x.2
theorem Nearly.below {w w' : World} {h i m : Nat} {ks : List Kd} {y : Kd} (k : Nearly w h ks i y m) (b : Below w.heap.size w w') : Nearly w' h ks i y m :=
  ⟨k.at_, k.part.below b, k.lo, k.hi, fun t x ht hti => by obtain ⟨m, q1, q2, q3⟩ := k.others t x ht hti; exact ⟨m, q1, q2, q3.below b⟩⟩
theorem Nearly.kids {w : World} {h i m : Nat} {ks : List Kd} {y : Kd} (k : Nearly w h ks i y m) (hm : 4 ≤ m) : Kids w h ks := fun x hx => by
  obtain ⟨t, ht⟩ := List.getElem?_of_mem hx
  by_cases hti : t = i
  · subst hti
    rw [k.at_] at ht
    cases ht
    exact ⟨m, hm, k.hi, k.part⟩
  · exact k.others t x ht hti
theorem flat_cut2 {ks : List Kd} {j : Nat} {x y : Kd} (hx : ks[j]? = some x) (hy : ks[j + 1]? = some y) : flat ks = flat (ks.take j) ++ (x.2 ++ y.2) ++ flat (ks.drop (j + 2)) := by
  conv => lhs; rw [← List.take_append_drop (j + 2) ks]
  rw [flat_app, flat_take hy, flat_take hx]
  simp [List.append_assoc]
end Go.Proofs.YthfkmedpcmiibaaDoor.T
/-! ### without, lowered. -/
namespace Go.Proofs.YthfkmedpcmiibaaDoor.T
open Go.RowKit Go.Shelf
set_option maxRecDepth 100000
attribute [local go_sem] ta64_64 ta72_64 ta72_72 ta64_72 tb64_64 tb72_72
/-- A part with these pairs, with as many of its own as there were, or one less. -/
def RPost (w : World) (h n : Nat) (kv : List Pr) (e : Ending) (w' : World) : Prop := ∃ x n', e = .returned (.iface x.1 x.2) ∧ Part w' h n' x kv ∧ n ≤ n' + 1 ∧ n' ≤ n ∧ Below w.heap.size w w'
theorem has_found {kv : List Pr} {i : Nat} {k : ByteArray} (hs : Srt kv) (ha : At kv k i) (hh : has kv k = true) : found kv k i = true := by
  cases hf : found kv k i
  · have := (cut_none ha (not_found hf) hs).2.2
    rw [hh] at this; cases this
  · rfl
theorem del_found {kv : List Pr} {i : Nat} {k : ByteArray} (hs : Srt kv) (ha : At kv k i) (hf : found kv k i = true) : kv.take i ++ [] ++ kv.drop (i + 1) = del kv k := by
  obtain ⟨q, hq, hk⟩ := is_found hf
  unfold del
  rw [(cut_lo ha).1, (cut_found hs hq hk ha).1]
  simp
theorem mid_del {ks : List Kd} {k : ByteArray} {i : Nat} {y : Kd} (ht : Tow ks k i y) : del (flat ks) k = flat (ks.take i) ++ del y.2 k ++ flat (ks.drop (i + 1)) := by
  conv => lhs; rw [flat_cut ht.at_]
  exact ht.mid.del
theorem mid_has {ks : List Kd} {k : ByteArray} {i : Nat} {y : Kd} (ht : Tow ks k i y) : has (flat ks) k = has y.2 k := by
  conv => lhs; rw [flat_cut ht.at_]
  exact ht.mid.has
theorem lv_bx {w : World} (x : Bx) : LV EK (w.alloc (.cells #[.iface x.1 x.2] 49)) (.slice (some ⟨w.heap.size, 0, none⟩) 1 1) [x] := lv_blk EK (L := [x]) (blk_new w [.iface x.1 x.2] 49) 1 (by simp)
end Go.Proofs.YthfkmedpcmiibaaDoor.T
/-! ### The tree: New, Put, Floor, Get, Delete, Len, Height, Count, Fork. -/
namespace Go.Proofs.YthfkmedpcmiibaaDoor.T
open Go.RowKit Go.Shelf
set_option maxRecDepth 100000
attribute [local go_sem] ta64_64 ta72_64 ta72_72 ta64_72 tb64_64 tb72_72
/-- A root may be so. -/
def Rt (h n : Nat) : Prop := n ≤ 8 ∧ (0 < h → 2 ≤ n)
def LPost (w : World) (kv : List Pr) (e : Ending) (w' : World) : Prop := ∃ x h n, e = .returned (.iface x.1 x.2) ∧ Part w' h n x kv ∧ Rt h n ∧ Below w.heap.size w w'
/-- A change of a tree's own block leaves parts as they are. -/
theorem Part.keep {w w' : World} (hk : ∀ (g : Nat) (l : List Value) (t : TypeId), t = 42 ∨ t = 49 → Blk w g l t → Blk w' g l t) : ∀ {h n : Nat} {x : Bx} {kv : List Pr}, Part w h n x kv → Part w' h n x kv
  | 0, _, _, _, ⟨h1, h2, h3⟩ => ⟨h1, h2.keep fun g l q => hk g l 42 (.inl rfl) q, h3⟩
  | _ + 1, _, _, _, ⟨sl, ks, h1, h2, h3, h4, h5, h6⟩ => ⟨sl, ks, h1, h2.keep fun g l q => hk g l 49 (.inr rfl) q, h3, h4, h5, fun k hk' => by obtain ⟨m, q1, q2, q3⟩ := h6 k hk'; exact ⟨m, q1, q2, q3.keep hk⟩⟩
theorem Blk.ne {w : World} {g b : Nat} {l l' : List Value} {t t' : TypeId} (h : Blk w g l t) (k : Blk w b l' t') (ht : t ≠ t') : g ≠ b := fun e => by
  subst e
  unfold Blk at h k
  rw [h] at k
  simp at k
  exact ht k.2
/-- The tree at t holds these pairs. -/
structure TT (w : World) (t : Nat) (kv : List Pr) : Prop where
  ex : ∃ h n x, Blk w t [.iface x.1 x.2] 51 ∧ Part w h n x kv ∧ Rt h n
  srt : Srt kv
  few : kv.length ≤ 800
  key : ∀ p ∈ kv, p.1.size ≤ 64
theorem TT.keep {w w' : World} {t : Nat} {kv : List Pr} (h : TT w t kv) (hk : ∀ (g : Nat) (l : List Value) (ty : TypeId), ty = 42 ∨ ty = 49 ∨ ty = 51 ∧ g = t → Blk w g l ty → Blk w' g l ty) : TT w' t kv := by
  obtain ⟨hh, n, x, h1, h2, h3⟩ := h.ex
  exact ⟨⟨hh, n, x, hk t _ 51 (.inr (.inr ⟨rfl, rfl⟩)) h1, h2.keep (fun g l ty hty q => hk g l ty (hty.elim .inl (fun e => .inr (.inl e))) q), h3⟩, h.srt, h.few, h.key⟩
theorem TT.below {w w' : World} {t : Nat} {kv : List Pr} (h : TT w t kv) (b : Below w.heap.size w w') : TT w' t kv := h.keep fun _ _ _ _ q => q.below b
/-- What a deed on the tree at t leaves. -/
def Did (w : World) (t : Nat) (kv : List Pr) (w' : World) : Prop := TT w' t kv ∧ Keep (fun b => b = t) w w'
theorem did_set {w w1 : World} {t h n : Nat} {x x0 : Bx} {kv : List Pr} (hb : Below w.heap.size w w1) (hblk : Blk w1 t [.iface x0.1 x0.2] 51) (hp : Part w1 h n x kv) (hr : Rt h n) (hs : Srt kv) (hf : kv.length ≤ 800) (hk : ∀ p ∈ kv, p.1.size ≤ 64) : Did w t kv (w1.setCell ⟨t, 0, none⟩ (.iface x.1 x.2)) := by
  refine ⟨⟨⟨h, n, x, hblk.set (o := 0) _, hp.keep fun g l ty hty q => q.other ?_ _, hr⟩, hs, hf, hk⟩, Keep.set (F := fun b => b = t) (p := ⟨t, 0, none⟩) (Keep.of hb) (.inr rfl) _⟩
  exact Blk.ne q hblk (by rcases hty with rfl | rfl <;> decide)
def NewPost (w : World) (e : Ending) (w' : World) : Prop := ∃ t, e = .returned (.pointer (some ⟨t, 0, none⟩)) ∧ w.heap.size ≤ t ∧ TT w' t [] ∧ Below w.heap.size w w'
theorem new21 (w : World) : Calls Tryd.prog 4 #[] w (NewPost w) := by
  have hb := blk_new w [.iface 47 (.slice none 0 0)] 51
  have HR : Hid (NewPost w (.returned (.pointer (some ⟨w.heap.size, 0, none⟩))) (w.alloc (.cells #[.iface 47 (.slice none 0 0)] 51))) := ⟨w.heap.size, rfl, Nat.le_refl _, ⟨⟨0, 0, (47, .slice none 0 0), hb, leaf_of (LV.nil EP _ none 0), by omega, by omega⟩, List.Pairwise.nil, by simp, by simp⟩, al _ _⟩
  clear hb
  go_enter Tryd.func4, Tryd.ntmps4
  go_wp2
  go_ret
  exact HR.out
theorem top35 {w : World} {t : Nat} {v : Value} {ty : TypeId} (hb : Blk w t [v] ty) : Calls Tryd.prog 20 #[.pointer (some ⟨t, 0, none⟩)] w fun e w' => e = .returned v ∧ w = w' := by
  have c0 := hb.cell 0
  simp only [List.getElem?_cons_zero] at c0
  clear hb
  go_enter Tryd.func20, Tryd.ntmps20
  go_wp2
  go_ret
  exact ⟨rfl, rfl⟩
theorem top35_nil (w : World) : Calls Tryd.prog 20 #[.pointer none] w fun e w' => e = .returned (.iface 47 (.slice none 0 0)) ∧ w = w' := by
  go_enter Tryd.func20, Tryd.ntmps20
  go_wp2
  go_ret
  exact ⟨rfl, rfl⟩
set_option maxHeartbeats 1000000 in
theorem put31 {w : World} {t : Nat} {kv : List Pr} (ht : TT w t kv) (p : Pr) (hk : p.1.size ≤ 64) (hf : kv.length ≤ 799) : Calls Tryd.prog 7 #[.pointer (some ⟨t, 0, none⟩), .string p.1, .string p.2] w fun e w' => e = .returned (.int .i64 0) ∧ Did w t (put kv p) w' := by
  obtain ⟨h, n, x, hb, hp, hr⟩ := ht.ex
  have k43 := with43 (p := p) hp ht.srt (by omega) hr.1
  have hpl := put_ge ht.srt p
  have HX : Hid (Srt (put kv p) ∧ (put kv p).length ≤ 800 ∧ ∀ q ∈ put kv p, q.1.size ≤ 64) := by
    refine ⟨ht.srt.put p, by omega, fun q hq => ?_⟩
    rcases List.mem_append.1 hq with hq | hq
    · exact ht.key q (List.mem_filter.1 hq).1
    · rcases List.mem_cons.1 hq with rfl | hq
      · exact hk
      · exact ht.key q (List.mem_filter.1 hq).1
  have c0 := hb.cell 0
  simp only [List.getElem?_cons_zero] at c0
  have HBk : Hid (Blk w t [.iface x.1 x.2] 51) := hb
  have hks : ¬ ((64 : Int) < (p.1.size : Int)) := by omega
  have HR : Hid (Rt h n) := hr
  clear ht hp hb hr
  have HC : Hid (∀ (v1 : Value) (w1 : World), SPost w h n (put kv p) (.returned v1) w1 → (w1.cell? ⟨t, 0, none⟩ = some (.iface x.1 x.2) ∧ w1.frozen? ⟨t, 0, none⟩ = false) ∧
      ((∃ g o c, ∃ y : Bx, v1 = .slice (some ⟨g, o, none⟩) 1 c ∧ w1.cell? ⟨g, o, none⟩ = some (.iface y.1 y.2) ∧ Hid (Did w t (put kv p) (w1.setCell ⟨t, 0, none⟩ (.iface y.1 y.2)))) ∨
       (∃ a c, v1 = .slice a 2 c ∧ Calls Tryd.prog 18 #[.slice a 2 c] w1 (fun e w' => ∃ (s5 : ByteArray) (t5 : Int), e = .returned (.agg #[.slice a 2 c, .string s5, .int .i64 t5]) ∧ (∀ o : Obj, (w'.alloc o).cell? ⟨t, 0, none⟩ = some (.iface x.1 x.2) ∧ (w'.alloc o).frozen? ⟨t, 0, none⟩ = false) ∧ Hid (∀ o : Obj, Did w t (put kv p) ((w'.alloc o).setCell ⟨t, 0, none⟩ (.iface 63 (.agg #[.slice a 2 c, .string s5, .int .i64 t5])))))))) := fun v1 w1 hS => by
    obtain ⟨v, he, hB, hcase⟩ := hS
    cases he
    have hbk := HBk.out.below hB
    refine ⟨⟨hbk.cell 0, hbk.frozen 0⟩, ?_⟩
    rcases hcase with ⟨y, m, hv, e2, hpy, l0, l1⟩ | ⟨y, z, m, m2, hv, e2, hpy, hpz, l0, l1, l2, l3⟩
    · obtain ⟨a, c, rfl⟩ := hv.form
      obtain ⟨g, o, rfl, d0⟩ := EK.cell hv (i := 0) (x := y.1) rfl
      rw [e2] at hpy
      exact .inl ⟨g, o, c, y.1, rfl, d0, did_set hB hbk hpy ⟨l1, fun q => by have := HR.out.2 q; omega⟩ HX.out.1 HX.out.2.1 HX.out.2.2⟩
    · obtain ⟨a, c, rfl⟩ := hv.form
      refine .inr ⟨a, c, rfl, ?_⟩
      have hkd : Kids w1 h [y, z] := fun q hq => by
        simp at hq
        rcases hq with rfl | rfl
        · exact ⟨m, l0, l1, hpy⟩
        · exact ⟨m2, l2, l3, hpz⟩
      have hfl : flat [y, z] = put kv p := by simp [flat, e2]
      refine (innerOf44 (ks := [y, z]) hv (fun q hq => by obtain ⟨m, q1, _, q3⟩ := hkd q hq; exact ⟨h, m, by omega, q3⟩) (by rw [hfl]; omega) (by simp) (by simp)).mono fun e w' q => ?_
      obtain ⟨rfl, hB'⟩ := q
      have hin := inner_of (h := h) (ks := [y, z]) (by simp) (hv.below hB') (hkd.below hB')
      refine ⟨_, _, rfl, fun o => ⟨((hbk.below hB').below (al w' o)).cell 0, ((hbk.below hB').below (al w' o)).frozen 0⟩, fun o => ?_⟩
      refine did_set (x := (63, _)) (h := h + 1) (n := 2) (bmore hB (bmore hB' (al w' o))) ((hbk.below hB').below (al w' o)) ?_ ⟨by omega, by omega⟩ HX.out.1 HX.out.2.1 HX.out.2.2
      rw [hfl] at hin ⊢
      exact hin.below (al w' o)
  clear HBk HR HX hpl
  go_enter Tryd.func7, Tryd.ntmps7
  go_wp2_with (first
    | (go_at_call 17; (with_reducible refine k43.mono ?_); rintro e w1 hS; obtain ⟨v1, rfl⟩ : ∃ v1, e = .returned v1 := (by obtain ⟨v1, q, _⟩ := hS; exact ⟨v1, q⟩); obtain ⟨⟨c1, f1⟩, hcase⟩ := HC.out v1 w1 hS; clear hS k43; rcases hcase with ⟨g, o, c, y, rfl, d0, HD⟩ | ⟨a, c, rfl, k44⟩)
    | (go_at_call 18; (with_reducible refine k44.mono ?_); rintro e w2 ⟨s5, t5, rfl, hcf, HD⟩; obtain ⟨c2, f2⟩ := hcf (.cells #[.iface 63 (.agg #[.slice a 2 c, .string s5, .int .i64 t5])] 49)))
  · go_ret
    exact ⟨rfl, HD.out⟩
  · go_ret
    exact ⟨rfl, HD.out _⟩
end Go.Proofs.YthfkmedpcmiibaaDoor.T
/-! ### Floor, Get, Delete, Len, Height, Count, Fork. -/
namespace Go.Proofs.YthfkmedpcmiibaaDoor.T
open Go.RowKit Go.Shelf
set_option maxRecDepth 100000
attribute [local go_sem] ta64_64 ta72_64 ta72_72 ta64_72 tb64_64 tb72_72
set_option maxHeartbeats 400000 in
theorem floor14 {w : World} {t : Nat} {kv : List Pr} (ht : TT w t kv) (k : ByteArray) : Calls Tryd.prog 16 #[.pointer (some ⟨t, 0, none⟩), .string k] w (FPost w (floorP kv k)) := by
  obtain ⟨h, n, x, hb, hp, hr⟩ := ht.ex
  have hB := al w (.cells #[.string ⟨#[]⟩, .string ⟨#[]⟩] 42)
  have k35 := top35 (hb.below hB)
  have k36 := floor36 (k := k) (hp.below hB) ht.srt (by have := ht.few; omega)
  have hbk := blk_new w [.string ⟨#[]⟩, .string ⟨#[]⟩] 42
  have HBk : Hid (Blk (w.alloc (.cells #[.string ⟨#[]⟩, .string ⟨#[]⟩] 42)) w.heap.size [.string ⟨#[]⟩, .string ⟨#[]⟩] 42) := hbk
  have HB : Hid _ := hB
  unfold FPost at k36
  generalize hP : floorP kv k = P at *
  clear ht hp hb hr hB hbk hP
  go_enter Tryd.func16, Tryd.ntmps16
  go_wp2_with (first
    | (go_at_call 20; (with_reducible refine k35.mono ?_); rintro e w1 ⟨rfl, rfl⟩)
    | (go_at_call 30; (with_reducible refine k36.mono ?_); rintro e w2 ⟨rfl, hB2⟩; obtain ⟨e0, e1, f0, f1⟩ := Blk.c2 (HBk.out.below hB2); have HB2 : Hid _ := hB2; clear hB2))
  exact bodyPost_ret (results_cell2 rfl _ _ _ w.heap.size [.string (P.getD noP).1, .string (P.getD noP).2] 42 (Blk.set (o := 1) (Blk.set (o := 0) (HBk.out.below HB2.out) _) _) rfl _ Tryd.underlying42 rfl (by kernel_rfl)) rfl ⟨rfl, bset (bset (bmore HB.out HB2.out) (Nat.le_refl _) _) (Nat.le_refl _) _⟩
/-- What a key has. -/
def getP (kv : List Pr) (k : ByteArray) : Option ByteArray := (floorP kv k).bind fun p => if p.1 = k then some p.2 else none
def GetPost (w : World) (o : Option ByteArray) (e : Ending) (w' : World) : Prop := e = .returned (.tuple #[.string (o.getD ⟨#[]⟩), .bool o.isSome]) ∧ Below w.heap.size w w'
set_option maxHeartbeats 400000 in
theorem get10 {w : World} {t : Nat} {kv : List Pr} (ht : TT w t kv) (k : ByteArray) : Calls Tryd.prog 6 #[.pointer (some ⟨t, 0, none⟩), .string k] w (GetPost w (getP kv k)) := by
  have k14 := floor14 ht k
  unfold FPost at k14
  have HG : Hid (getP kv k = (floorP kv k).bind fun p => if p.1 = k then some p.2 else none) := rfl
  generalize floorP kv k = P at *
  cases P with
  | none =>
    have HG2 : Hid (getP kv k = none) := HG.out
    clear HG
    go_enter Tryd.func6, Tryd.ntmps6
    go_wp2_with (go_at_call 16; (with_reducible refine k14.mono ?_); rintro e w1 ⟨rfl, hB1⟩)
    go_ret2
    exact ⟨by rw [HG2.out]; rfl, bmore hB1 (al _ _)⟩
  | some p =>
    by_cases hpk : p.1 = k
    · have HG2 : Hid (getP kv k = some p.2) := by show _ = _; rw [HG.out]; simp [hpk]
      have hne : (p.1.toList != k.toList) = false := by rw [hpk]; simp
      have hne2 : (p.1.toList == k.toList) = true := by rw [hpk]; simp
      clear HG hpk
      go_enter Tryd.func6, Tryd.ntmps6
      go_wp2_with (go_at_call 16; (with_reducible refine k14.mono ?_); rintro e w1 ⟨rfl, hB1⟩)
      go_ret2
      exact ⟨by rw [HG2.out]; rfl, bmore hB1 (al _ _)⟩
    · have HG2 : Hid (getP kv k = none) := by show _ = _; rw [HG.out]; simp [hpk]
      have hne2 : (p.1.toList == k.toList) = false := by rw [eq_str]; simpa using hpk
      clear HG hpk
      go_enter Tryd.func6, Tryd.ntmps6
      go_wp2_with (go_at_call 16; (with_reducible refine k14.mono ?_); rintro e w1 ⟨rfl, hB1⟩)
      go_ret2
      exact ⟨by rw [HG2.out]; rfl, bmore hB1 (al _ _)⟩
end Go.Proofs.YthfkmedpcmiibaaDoor.T
/-! ### Delete, Len, Height, Count, Fork. -/
namespace Go.Proofs.YthfkmedpcmiibaaDoor.T
open Go.RowKit Go.Shelf
set_option maxRecDepth 100000
attribute [local go_sem] ta64_64 ta72_64 ta72_72 ta64_72 tb64_64 tb72_72
theorem exists_at : ∀ {kv : List Pr} (k : ByteArray), Srt kv → ∃ i, At kv k i
  | [], k, _ => ⟨0, fun j p h => by cases h⟩
  | a :: l, k, hs => by
    obtain ⟨ha, hl⟩ := List.pairwise_cons.1 hs
    obtain ⟨i, hi⟩ := exists_at k hl
    cases hz : lt a.1 k with
    | true =>
      refine ⟨i + 1, fun j p hj => ?_⟩
      cases j with
      | zero => cases hj; rw [hz]; simp
      | succ j => rw [hi j p (by simpa using hj)]; omega
    | false =>
      refine ⟨0, fun j p hj => ⟨fun hl2 => ?_, fun h => by omega⟩⟩
      cases j with
      | zero => cases hj; rw [hz] at hl2; cases hl2
      | succ j =>
        have := lt_trans (ha p (List.mem_of_getElem? (by simpa using hj))) hl2
        rw [hz] at this; cases this
theorem get_has {kv : List Pr} (hs : Srt kv) (k : ByteArray) : (getP kv k).isSome = has kv k := by
  obtain ⟨i, hi⟩ := exists_at k hs
  cases hf : found kv k i with
  | true =>
    obtain ⟨p, hp, hpk⟩ := is_found hf
    rw [(cut_found hs hp hpk hi).2.2]
    unfold getP
    rw [floor_found hs hi hp hf]
    simp [hpk]
  | false =>
    rw [(cut_none hi (not_found hf) hs).2.2]
    unfold getP
    rw [floor_none hs hi hf]
    cases hq : (kv.take i).getLast? with
    | none => rfl
    | some p =>
      have hm := List.mem_of_mem_take (List.mem_of_getLast? hq)
      have hlt : lt p.1 k = true := by
        have h2 : p ∈ kv.take i := List.mem_of_getLast? hq
        rw [← (cut_lo hi).1] at h2
        exact (List.mem_filter.1 h2).2
      simp [lt_ne hlt]
theorem len26 {w : World} {t : Nat} {kv : List Pr} (ht : TT w t kv) : Calls Tryd.prog 12 #[.pointer (some ⟨t, 0, none⟩)] w fun e w' => e = .returned (.int .i64 (kv.length : Int)) ∧ Below w.heap.size w w' := by
  obtain ⟨h, n, x, hb, hp, hr⟩ := ht.ex
  have k35 := top35 hb
  have HM : Hid (Meth "regesta/tree.count" x w fun v w' => v = .int .i64 (kv.length : Int) ∧ Below w.heap.size w w') := meth_count hp
  generalize kv.length = kl at *
  clear ht hb hp hr
  go_enter Tryd.func12, Tryd.ntmps12
  go_wp2_with (first
    | (go_at_call 20; (with_reducible refine k35.mono ?_); rintro e w1 ⟨rfl, rfl⟩)
    | ((with_reducible refine upon_meth HM.out ?_); rintro v1 w1 ⟨rfl, hB1⟩))
  go_ret
  exact ⟨rfl, hB1⟩
theorem len26_nil (w : World) : Calls Tryd.prog 12 #[.pointer none] w fun e w' => e = .returned (.int .i64 0) ∧ Below w.heap.size w w' := by
  have k35 := top35_nil w
  have hm := m_count64
  have k89 := count89 none 0 0 w
  go_enter Tryd.func12, Tryd.ntmps12
  go_wp2_with (first
    | (go_at_call 20; (with_reducible refine k35.mono ?_); rintro e w1 ⟨rfl, rfl⟩)
    | (go_at_call 92; (with_reducible refine k89.mono ?_); rintro e w1 ⟨rfl, rfl⟩))
  go_ret
  exact ⟨rfl, Below.refl _ _⟩
/-- How high the tree may be. -/
theorem Part.high {w : World} : ∀ {h n : Nat} {x : Bx} {kv : List Pr}, Part w h n x kv → n * 2 ^ h ≤ kv.length
  | 0, _, _, _, hp => by obtain ⟨_, _, h3⟩ := hp; omega
  | h + 1, n, x, kv, hp => by
    obtain ⟨a, c, ks, rfl, h2, h3, h4, h5, h6⟩ := hp.inner
    subst h5 h3
    have : ∀ l : List Kd, (∀ k ∈ l, k ∈ ks) → l.length * 2 ^ (h + 1) ≤ (flat l).length := by
      intro l
      induction l with
      | nil => intro _; simp
      | cons y l ih =>
        intro hl
        have h7 := ih (fun k hk => hl k (by simp [hk]))
        obtain ⟨m, q1, q2, q3⟩ := h6 y (hl y (by simp))
        have h8 := Part.high q3
        have h9 : 2 ^ (h + 1) ≤ m * 2 ^ h := by rw [Nat.pow_succ, Nat.mul_comm]; exact Nat.mul_le_mul_right _ (by omega)
        rw [show flat (y :: l) = y.2 ++ flat l by simp [flat], List.length_append, List.length_cons, Nat.add_mul]
        omega
    exact this ks (fun _ q => q)
theorem pow_le (h : Nat) : h ≤ 2 ^ h := Nat.le_of_lt Nat.lt_two_pow_self
def HtPost (w : World) (kv : List Pr) (e : Ending) (w' : World) : Prop := ∃ m : Nat, e = .returned (.int .i64 (m : Int)) ∧ (kv = [] ↔ m = 0) ∧ (kv ≠ [] → 2 ^ (m - 1) ≤ kv.length) ∧ m ≤ 900 ∧ Below w.heap.size w w'
def FkPost (w : World) (kv : List Pr) (e : Ending) (w' : World) : Prop := ∃ t, e = .returned (.pointer (some ⟨t, 0, none⟩)) ∧ w.heap.size ≤ t ∧ TT w' t kv ∧ Below w.heap.size w w'
end Go.Proofs.YthfkmedpcmiibaaDoor.T
