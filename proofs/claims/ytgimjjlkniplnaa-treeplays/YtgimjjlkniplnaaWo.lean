/- without, lowered. -/
import Derived.Test.YtgimjjlkniplnaaFi
namespace Go.Proofs.Ytgimjjlkniplnaa
open Go.RowKit Go.Shelf
set_option maxRecDepth 100000
attribute [local go_sem] ta64_64 ta72_64 ta72_72 ta64_72 tb64_64 tb72_72
/-- A part with these pairs, with as many of its own as there were, or one less. -/
def RPost (w : World) (h n : Nat) (kv : List Pr) (e : Ending) (w' : World) : Prop := ∃ x n', e = .returned (.iface x.1 x.2) ∧ Part w' h n' x kv ∧ n ≤ n' + 1 ∧ n' ≤ n ∧ Below w.heap.size w w'
theorem has_found {kv : List Pr} {i : Nat} {k : ByteArray} (hs : Srt kv) (ha : At kv k i) (hh : has kv k = true) : found kv k i = true := by
  cases hf : found kv k i
  · have := (cut_none ha (not_found hf) hs).2.2
    rw [hh] at this; cases this
  · rfl
theorem del_found {kv : List Pr} {i : Nat} {k : ByteArray} (hs : Srt kv) (ha : At kv k i) (hf : found kv k i = true) : kv.take i ++ [] ++ kv.drop (i + 1) = del kv k := by
  obtain ⟨q, hq, hk⟩ := is_found hf
  unfold del
  rw [(cut_lo ha).1, (cut_found hs hq hk ha).1]
  simp
set_option maxHeartbeats 1000000 in
theorem without46_leaf {k : ByteArray} {n : Nat} {w : World} {x : Bx} {kv : List Pr} (hp : Part w 0 n x kv) (hs : Srt kv) (hn : n ≤ 8) (hh : has kv k = true) : Calls Try.prog 46 #[.iface x.1 x.2, .string k] w (RPost w 0 n (del kv k)) := by
  obtain ⟨a, c, rfl, hl, hln⟩ := hp.leaf
  have k48 := place48 (k := k) hl hs (by omega)
  have HC : Hid (∀ (w1 : World) (i : Nat), i ≤ kv.length → At kv k i → Below w.heap.size w w1 →
      wrap64 ((i : Int) + 1) = (i : Int) + 1 ∧ Calls Try.prog 53 #[.slice a n c, .int .i64 (i : Int), .int .i64 ((i : Int) + 1), .slice none 0 0] w1 (CPost EP w (del kv k))) := fun w1 i hi ha hB1 => by
    refine ⟨IntWalk.wrap64_in _ (by omega), ?_⟩
    have hf := has_found hs ha hh
    obtain ⟨q, hq, _⟩ := is_found hf
    have hlt := (List.getElem?_eq_some_iff.1 hq).1
    have := (spliced53 (hl.below hB1) (LV.nil EP w1 none 0) (i := i) (j := i + 1) (by omega) (by omega) (by simp; omega)).mono fun _ _ q => CPost.base (w := w) q hB1
    rw [del_found hs ha hf, hln] at this
    simpa using this
  have HR : Hid (∀ (v : Value) (w' : World), LV EP w' v (del kv k) → Below w.heap.size w w' → RPost w 0 n (del kv k) (.returned (.iface 64 v)) w') := fun v w' hv hB => by
    have := del_len hs hh
    exact ⟨(64, v), (del kv k).length, rfl, leaf_of hv, by omega, by omega, hB⟩
  rw [hln] at k48
  rw [hln]
  clear hl hp hs hln hh
  go_enter Try.func46, Try.ntmps46
  go_wp2_with (first
    | (go_at_call 48; (with_reducible refine k48.mono ?_); rintro e w1 ⟨i, hi, ha, rfl, hB1⟩; obtain ⟨hw, k53⟩ := HC.out w1 i hi ha hB1; clear hi ha hB1 k48)
    | (go_at_call 53; (with_reducible refine k53.mono ?_); rintro e w2 ⟨v2, rfl, hv2, hB3⟩))
  go_ret
  exact HR.out _ _ hv2 hB3
theorem mid_del {ks : List Kd} {k : ByteArray} {i : Nat} {y : Kd} (ht : Tow ks k i y) : del (flat ks) k = flat (ks.take i) ++ del y.2 k ++ flat (ks.drop (i + 1)) := by
  conv => lhs; rw [flat_cut ht.at_]
  exact ht.mid.del
theorem mid_has {ks : List Kd} {k : ByteArray} {i : Nat} {y : Kd} (ht : Tow ks k i y) : has (flat ks) k = has y.2 k := by
  conv => lhs; rw [flat_cut ht.at_]
  exact ht.mid.has
theorem lv_bx {w : World} (x : Bx) : LV EK (w.alloc (.cells #[.iface x.1 x.2] 60)) (.slice (some ⟨w.heap.size, 0, none⟩) 1 1) [x] := lv_blk EK (L := [x]) (blk_new w [.iface x.1 x.2] 60) 1 (by simp)
set_option maxHeartbeats 1000000 in
theorem without46 {k : ByteArray} : ∀ {h n : Nat} {w : World} {x : Bx} {kv : List Pr}, Part w h n x kv → Srt kv → kv.length ≤ 900 → n ≤ 8 → (0 < h → 2 ≤ n) → has kv k = true → Calls Try.prog 46 #[.iface x.1 x.2, .string k] w (RPost w h n (del kv k))
  | 0, n, w, x, kv, hp, hs, _, h8, _, hh => without46_leaf hp hs h8 hh
  | h + 1, n, w, x, kv, hp, hs, hn, h8, hn2, hh => by
    obtain ⟨a, c, ks, rfl, h2, h3, h4, h5, h6⟩ := hp.inner
    have hn2 := hn2 (by omega)
    subst h5
    have hks : ks.length ≤ (flat ks).length := flat_len fun y hy => h6.pos hy
    have hdl := del_len hs hh
    obtain ⟨y, ht⟩ := tow_i (k := k) h6 hs (by omega)
    have hmp := mid_del ht
    have hmh : has y.2 k = true := by rw [← mid_has ht]; exact hh
    generalize hs0 : fst (flat ks) = s at *
    generalize hk0 : (flat ks).length = kl at *
    have hB : Below w.heap.size w (w.alloc (.cells #[.slice a n c, .string s, .int .i64 (kl : Int)] 72)) := al _ _
    have hbn : Blk (w.alloc (.cells #[.slice a n c, .string s, .int .i64 (kl : Int)] 72)) w.heap.size [.slice a n c, .string s, .int .i64 (kl : Int)] 72 := blk_new w [.slice a n c, .string s, .int .i64 (kl : Int)] 72
    have k49 := toward49 (k := k) (s := s) (t := (kl : Int)) (h2.below hB) (h6.below hB) hs (by omega) (by omega)
    unfold TPost at k49
    generalize towI ks k = i at *
    have hi := (List.getElem?_eq_some_iff.1 ht.at_).1
    obtain ⟨m, q1, q2, q3⟩ := h6 y (List.mem_of_getElem? ht.at_)
    have hyl : y.2.length ≤ kl := by rw [← hk0, flat_cut ht.at_]; simp; omega
    obtain ⟨g, o, rfl, d0⟩ := EK.cell h2 (i := i) (x := y.1) (by rw [List.getElem?_map, ht.at_]; rfl)
    have HK46 : Hid (∀ W, Below w.heap.size w W → Calls Try.prog 46 #[.iface y.1.1 y.1.2, .string k] W (RPost W h m (del y.2 k))) := fun W hW =>
      without46 (k := k) (q3.below hW) (kid_srt hs (List.mem_of_getElem? ht.at_)) (by omega) q2 (by omega) hmh
    have HK55 : Hid (∀ (W : World) (x' : Bx), Below w.heap.size w W → Calls Try.prog 55 #[.slice (some ⟨g, o, none⟩) n c, .int .i64 (i : Int), .int .i64 ((i : Int) + 1), .slice (some ⟨W.heap.size, 0, none⟩) 1 1] (W.alloc (.cells #[.iface x'.1 x'.2] 60)) (fun e w' => ∃ a3 c3, e = .returned (.slice a3 n c3) ∧ Hid (LV EK w' (.slice a3 n c3) ((ks.take i ++ [(x', del y.2 k)] ++ ks.drop (i + 1)).map (·.1))) ∧ Hid (Below W.heap.size W w'))) := fun W x' hW => by
      have := spliced55 (h2.below (bmore hW (al W (.cells #[.iface x'.1 x'.2] 60)))) (lv_bx x') (i := i) (j := i + 1) (by omega) (by rw [List.length_map]; omega) (by rw [List.length_map]; simp; omega)
      rw [← List.map_take, ← List.map_drop, show [x'] = [(x', del y.2 k)].map (·.1) from rfl, ← List.map_append, ← List.map_append, show ((i + 1 : Nat) : Int) = (i : Int) + 1 by omega] at this
      refine this.mono fun e w' q => ?_
      obtain ⟨v', rfl, hv', hB'⟩ := q
      obtain ⟨a3, c3, rfl⟩ := hv'.form
      have hlen : ((ks.take i ++ [(x', del y.2 k)] ++ ks.drop (i + 1)).map (·.1)).length = n := by simp; omega
      rw [hlen] at hv' ⊢
      exact ⟨a3, c3, rfl, hv', bmore (al W _) hB'⟩
    have HK56 : Hid (∀ (W : World) (a3 : Option Addr) (c3 : Nat) (x' : Bx) (m' : Nat), Below w.heap.size w W → LV EK W (.slice a3 n c3) ((ks.take i ++ [(x', del y.2 k)] ++ ks.drop (i + 1)).map (·.1)) → Part W h m' x' (del y.2 k) → m ≤ m' + 1 → m' ≤ m → Calls Try.prog 56 #[.slice a3 n c3, .int .i64 (i : Int)] W (NPost W h n (del (flat ks) k))) := fun W a3 c3 x' m' hW hv hpt l1 l2 => by
      have hlen : (ks.take i ++ [(x', del y.2 k)] ++ ks.drop (i + 1)).length = n := by simp; omega
      have hfl : flat (ks.take i ++ [(x', del y.2 k)] ++ ks.drop (i + 1)) = del (flat ks) k := by rw [flat_app, flat_app, hmp]; simp [flat]
      have hli : (ks.take i).length = i := by rw [List.length_take]; omega
      have hN : Nearly W h (ks.take i ++ [(x', del y.2 k)] ++ ks.drop (i + 1)) i (x', del y.2 k) m' := by
        refine ⟨?_, hpt, by omega, by omega, fun t z hz hti => ?_⟩
        · rw [List.append_assoc, List.getElem?_append_right (by omega), hli]
          simp
        · refine (h6.below hW) z ?_
          rw [List.append_assoc] at hz
          by_cases htl : t < i
          · rw [List.getElem?_append_left (by omega)] at hz
            exact List.mem_of_mem_take (List.mem_of_getElem? hz)
          · rw [List.getElem?_append_right (by omega), hli, List.getElem?_append_right (by simp; omega)] at hz
            exact List.mem_of_mem_drop (List.mem_of_getElem? hz)
      have := filled56 hv hlen hN hn2 (by omega) (by rw [hfl]; omega)
      rw [hfl] at this
      exact this
    have HK44 : Hid (∀ (W : World) (a4 : Option Addr) (c4 n4 : Nat) (ks4 : List Kd), Below w.heap.size w W → ks4.length = n4 → LV EK W (.slice a4 n4 c4) (ks4.map (·.1)) → flat ks4 = del (flat ks) k → Kids W h ks4 → n ≤ n4 + 1 → n4 ≤ n → Calls Try.prog 44 #[.slice a4 n4 c4] W (fun e w' => ∃ (s5 : ByteArray) (t5 : Int), e = .returned (.agg #[.slice a4 n4 c4, .string s5, .int .i64 t5]) ∧ Hid (Below W.heap.size W w') ∧ Hid (RPost w (h + 1) n (del (flat ks) k) (.returned (.iface 72 (.agg #[.slice a4 n4 c4, .string s5, .int .i64 t5]))) w'))) := fun W a4 c4 n4 ks4 hW e4 hv hf4 hk4 l1 l2 => by
      refine (innerOf44 hv (fun z hz => by obtain ⟨m, q1, _, q3⟩ := hk4 z hz; exact ⟨h, m, by omega, q3⟩) (by rw [hf4]; omega) (by omega) (by omega)).mono fun e w' q => ?_
      obtain ⟨rfl, hB'⟩ := q
      refine ⟨_, _, rfl, hB', (72, _), n4, rfl, ?_, l1, l2, bmore hW hB'⟩
      have := inner_of (h := h) (by omega) (hv.below hB') (hk4.below hB')
      rw [e4] at this
      rw [hf4] at this ⊢
      exact this
    have l0 : (0 : Int) ≤ (i : Int) := by omega
    have l1 : (i : Int) < (n : Int) := by omega
    have hw1 : IntKind.i64.wrap ((i : Int) + 1) = (i : Int) + 1 := (IntWalk.i64_left _).trans (IntWalk.wrap64_in _ (by omega))
    have hw2 : wrap64 ((i : Int) + 1) = (i : Int) + 1 := IntWalk.wrap64_in _ (by omega)
    have HB : Hid (Below w.heap.size w (w.alloc (.cells #[.slice (some ⟨g, o, none⟩) n c, .string s, .int .i64 (kl : Int)] 72))) := hB
    have HN : Hid (Blk (w.alloc (.cells #[.slice (some ⟨g, o, none⟩) n c, .string s, .int .i64 (kl : Int)] 72)) w.heap.size [.slice (some ⟨g, o, none⟩) n c, .string s, .int .i64 (kl : Int)] 72) := hbn
    have HD : Hid (w.cell? ⟨g, o + i, none⟩ = some (.iface y.1.1 y.1.2)) := d0
    generalize hR : del (flat ks) k = R at *
    generalize hYY : del y.2 k = Y at *
    clear h2 h3 h6 hp hs hB hbn hks hs0 hk0 d0 q3 ht hmp hdl hR hYY hh hmh
    go_enter Try.func46, Try.ntmps46
    go_wp2_with (go_at_call 49; (with_reducible refine k49.mono ?_); rintro e w1 ⟨rfl, hB1⟩; have hB2 : Hid (Below w.heap.size w w1) := bmore HB.out hB1; obtain ⟨m0, m1, m2, -, -, -⟩ := Blk.c3 (HN.out.below hB1); have d0 := (hB2.out.cell (p := ⟨g, o + i, none⟩) (World.block_lt_of_cell? w _ HD.out)).trans HD.out; clear hB1 k49)
    have HS : Hid (∀ W, Below w1.heap.size w1 W → W.cell? ⟨w.heap.size, 0, none⟩ = some (.slice (some ⟨g, o, none⟩) n c) ∧ W.cell? ⟨g, o + i, none⟩ = some (.iface y.1.1 y.1.2)) := fun W hW =>
      ⟨(hW.cell (p := ⟨w.heap.size, 0, none⟩) (World.block_lt_of_cell? w1 _ m0)).trans m0, (hW.cell (p := ⟨g, o + i, none⟩) (World.block_lt_of_cell? w1 _ d0)).trans d0⟩
    have hS0 := HS.out w1.drew (Below.refl _ _).drew
    have k46 := HK46.out w1.drew hB2.out.drew
    clear m0 m1 m2 d0 HN HD
    go_region_held3 (fun W => W.cell? ⟨w.heap.size, 0, none⟩ = some (.slice (some ⟨g, o, none⟩) n c) ∧ W.cell? ⟨g, o + i, none⟩ = some (.iface y.1.1 y.1.2)) (first | exact hS0 | exact HS.out _ HBd.out | exact HS.out _ HBc.out | exact HS.out _ HBb.out | exact HS.out _ HBa.out | exact HS.out _ (bal HBa.out _)) (first
      | (go_at_call 46; (with_reducible refine k46.mono ?_); rintro e w2 ⟨x2, n2, rfl, hp2, l2, l3, hB3⟩; have HBa : Hid (Below w1.heap.size w1 w2) := bmore (Below.refl _ _).drew hB3; have k55 := HK55.out w2 x2 (bmore hB2.out HBa.out); have Hp2 : Hid (Part w2 h n2 x2 Y) := hp2; clear hp2 hB3 k46)
      | (go_at_call 55; (with_reducible refine k55.mono ?_); rintro e w3 ⟨a3, c3, rfl, hv3, hB4⟩; have HBb : Hid (Below w1.heap.size w1 w3) := bmore HBa.out hB4.out; have k56 := HK56.out w3 a3 c3 x2 n2 (bmore hB2.out HBb.out) hv3.out (Hp2.out.below hB4.out) l2 l3; clear hv3 hB4 k55)
      | (go_at_call 56; (with_reducible refine k56.mono ?_); rintro e w4 ⟨a4, c4, n4, ks4, rfl, e4, hv4, hf4, hk4, l4, l5, hB5⟩; have HBc : Hid (Below w1.heap.size w1 w4) := bmore HBb.out hB5; have k44 := HK44.out w4 a4 c4 n4 ks4 (bmore hB2.out HBc.out) e4 hv4 hf4 hk4 l4 l5; clear e4 hv4 hf4 hk4 hB5 k56)
      | (go_at_call 44; (with_reducible refine k44.mono ?_); rintro e w5 ⟨s5, t5, rfl, hB6, hS5⟩; have HBd : Hid (Below w1.heap.size w1 w5) := bmore HBc.out hB6.out; clear hB6 k44))
    go_wp2
    go_ret
    exact hS5.out
end Go.Proofs.Ytgimjjlkniplnaa
