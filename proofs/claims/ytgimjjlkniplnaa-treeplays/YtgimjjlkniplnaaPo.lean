/- levels, ahead, floor. -/
import Derived.Test.YtgimjjlkniplnaaPn
namespace Go.Proofs.Ytgimjjlkniplnaa
open Go.RowKit Go.Shelf
set_option maxRecDepth 100000
attribute [local go_sem] ta64_64 ta72_64 ta72_72 ta64_72 tb64_64 tb72_72
theorem Part.leaf {w : World} {n : Nat} {x : Bx} {kv : List Pr} (h : Part w 0 n x kv) : ∃ a c, x = (64, .slice a kv.length c) ∧ LV EP w (.slice a kv.length c) kv ∧ kv.length = n := by
  obtain ⟨t, y⟩ := x
  obtain ⟨ht, hl, hn⟩ := h
  have ht' : t = 64 := ht
  have hl' : LV EP w y kv := hl
  subst ht'
  obtain ⟨a, c, rfl⟩ := hl'.form
  exact ⟨a, c, rfl, hl', hn⟩
theorem Part.inner {w : World} {h n : Nat} {x : Bx} {kv : List Pr} (hp : Part w (h + 1) n x kv) : ∃ a c ks, x = (72, .agg #[.slice a n c, .string (fst kv), .int .i64 (kv.length : Int)]) ∧ LV EK w (.slice a n c) (ks.map (·.1)) ∧ ks.length = n ∧ 0 < n ∧ kv = flat ks ∧ Kids w h ks := by
  obtain ⟨sl, ks, rfl, h2, h3, h4, h5, h6⟩ := hp
  obtain ⟨a, c, hf⟩ := h2.form
  rw [List.length_map, h3] at hf
  subst hf
  exact ⟨a, c, ks, rfl, h2, h3, h4, h5, h6⟩
theorem leaf_of {w : World} {v : Value} {kv : List Pr} (h : LV EP w v kv) : Part w 0 kv.length (64, v) kv := ⟨rfl, h, rfl⟩
theorem inner_of {w : World} {h : Nat} {v : Value} {ks : List Kd} (h0 : 0 < ks.length) (hl : LV EK w v (ks.map (·.1))) (hk : Kids w h ks) : Part w (h + 1) ks.length (72, .agg #[v, .string (fst (flat ks)), .int .i64 ((flat ks).length : Int)]) (flat ks) := ⟨v, ks, rfl, hl, rfl, h0, rfl, hk⟩
set_option maxHeartbeats 400000 in
theorem levels42 : ∀ {h n : Nat} {w : World} {x : Bx} {kv : List Pr}, Part w h n x kv → h ≤ 100 → Calls Try.prog 42 #[.iface x.1 x.2] w fun e w' => e = .returned (.int .i64 ((h + 1 : Nat) : Int)) ∧ Below w.heap.size w w'
  | 0, n, w, x, kv, hp, hh => by
    obtain ⟨a, c, rfl, -, -⟩ := hp.leaf
    clear hp
    go_enter Try.func42, Try.ntmps42
    go_wp2
    go_ret
    exact ⟨rfl, Below.refl _ _⟩
  | h + 1, n, w, x, kv, hp, hh => by
    obtain ⟨a, c, ks, rfl, h2, h3, h4, -, h6⟩ := hp.inner
    obtain ⟨y, hy⟩ : ∃ y, ks[0]? = some y := ⟨_, List.getElem?_eq_getElem (by omega)⟩
    have hB := al w (.cells #[.slice a n c, .string (fst kv), .int .i64 (kv.length : Int)] 72)
    obtain ⟨g, o, rfl, d0⟩ := EK.cell (h2.below hB) (i := 0) (x := y.1) (by rw [List.getElem?_map, hy]; rfl)
    obtain ⟨m, q1, q2, q3⟩ := h6 y (List.mem_of_getElem? hy)
    have k42 := levels42 (q3.below hB) (by omega)
    have hl0 : (0 : Int) < (n : Int) := by omega
    have HB : Hid _ := hB
    rw [Nat.add_zero] at d0
    generalize fst kv = s at *
    generalize kv.length = kl at *
    clear h2 h3 h6 hB hy q3 hp
    go_enter Try.func42, Try.ntmps42
    go_wp2_with (go_at_call 42; (with_reducible refine k42.mono ?_); rintro e w1 ⟨rfl, hB1⟩)
    go_ret
    exact ⟨by simp; omega, bmore HB.out hB1⟩
set_option maxHeartbeats 1000000 in
theorem ahead37 {k : ByteArray} : ∀ {h n : Nat} {w : World} {x : Bx} {kv : List Pr}, Part w h n x kv → Srt kv → kv.length ≤ 1000 → Calls Try.prog 37 #[.iface x.1 x.2, .string k] w fun e w' => e = .returned (.int .i64 ((lo kv k).length : Int)) ∧ Below w.heap.size w w'
  | 0, n, w, x, kv, hp, hs, hn => by
    obtain ⟨a, c, rfl, hl, -⟩ := hp.leaf
    have k48 := place48 (k := k) hl hs hn
    have HE : Hid (∀ i, i ≤ kv.length → At kv k i → (lo kv k).length = i) := fun i hi ha => by rw [(cut_lo ha).1, List.length_take]; omega
    clear hl hp hs
    go_enter Try.func37, Try.ntmps37
    go_wp2_with (go_at_call 48; (with_reducible refine k48.mono ?_); rintro e w1 ⟨i, hi, ha, rfl, hB⟩; have HI : Hid _ := HE.out i (by assumption) (by assumption); have HB : Hid _ := hB; clear ha hi)
    go_ret
    exact ⟨by rw [HI.out]; rfl, HB.out⟩
  | h + 1, n, w, x, kv, hp, hs, hn => by
    obtain ⟨a, c, ks, rfl, h2, h3, h4, h5, h6⟩ := hp.inner
    subst h5
    have hks : ks.length ≤ (flat ks).length := flat_len fun y hy => h6.pos hy
    have hB := al w (.cells #[.slice a n c, .string (fst (flat ks)), .int .i64 ((flat ks).length : Int)] 72)
    have k49 := toward49 (k := k) (s := fst (flat ks)) (t := ((flat ks).length : Int)) (h2.below hB) (h6.below hB) hs (by omega) (by omega)
    obtain ⟨yy, htt⟩ := tow_i (k := k) h6 hs (by omega)
    have HTT : Hid (Tow ks k (towI ks k) yy) := htt
    have HK : Hid (∀ W, Below w.heap.size w W → ∀ i y, Tow ks k i y → (∃ g o, a = some ⟨g, o, none⟩ ∧ W.cell? ⟨g, o + i, none⟩ = some (.iface y.1.1 y.1.2)) ∧ i < n ∧ (lo (flat ks) k).length = (flat (ks.take i)).length + (lo y.2 k).length ∧ (lo y.2 k).length ≤ 1000 ∧ (flat (ks.take i)).length ≤ 1000 ∧
        Calls Try.prog 50 #[.slice a i c] W (fun e w' => e = .returned (.int .i64 ((flat (ks.take i)).length : Int)) ∧ Below W.heap.size W w') ∧ Calls Try.prog 37 #[.iface y.1.1 y.1.2, .string k] W (fun e w' => e = .returned (.int .i64 ((lo y.2 k).length : Int)) ∧ Below W.heap.size W w')) := fun W hW i y ht => by
      have hi := (List.getElem?_eq_some_iff.1 ht.at_).1
      obtain ⟨m, q1, q2, q3⟩ := h6 y (List.mem_of_getElem? ht.at_)
      have hyl : y.2.length ≤ (flat ks).length := by rw [flat_cut ht.at_]; simp; omega
      have hlo : (lo y.2 k).length ≤ y.2.length := List.length_filter_le _ _
      have hfl := flat_le ks i
      refine ⟨EK.cell (h2.below hW) (by rw [List.getElem?_map, ht.at_]; rfl), by omega, ?_, by omega, by omega, ?_, ahead37 (q3.below hW) (kid_srt hs (List.mem_of_getElem? ht.at_)) (by omega)⟩
      · conv => lhs; rw [flat_cut ht.at_, ht.mid.lo, List.length_append]
      · have hcap := h2.cap.2
        rw [List.length_map] at hcap
        have := h2.take (k := i) (by rw [List.length_map]; omega) c (by omega)
        rw [← List.map_take] at this
        exact counted50 (this.below hW) (fun z hz => by obtain ⟨m, _, _, q3⟩ := h6 z (List.mem_of_mem_take hz); exact ⟨h, m, q3.below hW⟩) (by omega) (by rw [List.length_take]; omega)
    have hcap : n ≤ c := by have := h2.cap.2; rw [List.length_map] at this; omega
    have HB : Hid _ := hB
    have hbk := blk_new w [.slice a n c, .string (fst (flat ks)), .int .i64 ((flat ks).length : Int)] 72
    have HBk : Hid (Blk (w.alloc (.cells #[.slice a n c, .string (fst (flat ks)), .int .i64 ((flat ks).length : Int)] 72)) w.heap.size [.slice a n c, .string (fst (flat ks)), .int .i64 ((flat ks).length : Int)] 72) := hbk
    generalize fst (flat ks) = s at *
    generalize (flat ks).length = kl at *
    clear h2 h3 h6 hB hp hbk hks htt
    go_enter Try.func37, Try.ntmps37
    go_wp2_with (go_at_call 49; (with_reducible refine k49.mono ?_); rintro e w1 ⟨rfl, hB1⟩)
    generalize towI ks k = i at *
    obtain ⟨y, ht⟩ : ∃ y, Tow ks k i y := ⟨yy, HTT.out⟩
    obtain ⟨⟨g, o, rfl, d0⟩, hin, he, hl1, hl2, k50, k37⟩ := HK.out w1 (bmore HB.out hB1) i y ht
    have e0 := (HBk.out.below hB1).cell 0
    simp only [List.getElem?_cons_zero] at e0
    have HKK : Hid (∀ W, Below w1.heap.size w1 W → Calls Try.prog 37 #[.iface y.1.1 y.1.2, .string k] W (fun e w' => e = .returned (.int .i64 ((lo y.2 k).length : Int)) ∧ Below W.heap.size W w')) := fun W hW => (HK.out W (bmore (bmore HB.out hB1) hW) i y ht).2.2.2.2.2.2
    have k50d := (HK.out w1.drew (bmore (bmore HB.out hB1) (Below.refl _ _).drew) i y ht).2.2.2.2.2.1
    have HS : Hid (∀ W, Below w1.heap.size w1 W → W.cell? ⟨w.heap.size, 0, none⟩ = some (.slice (some ⟨g, o, none⟩) n c) ∧ W.cell? ⟨g, o + i, none⟩ = some (.iface y.1.1 y.1.2)) := fun W hW => ⟨(hW.cell (p := ⟨w.heap.size, 0, none⟩) (World.block_lt_of_cell? w1 _ e0)).trans e0, (hW.cell (p := ⟨g, o + i, none⟩) (World.block_lt_of_cell? w1 _ d0)).trans d0⟩
    have hS0 := HS.out w1.drew (Below.refl _ _).drew
    have i0 : (0 : Int) ≤ (i : Int) := by omega
    have i1 : (i : Int) < (n : Int) := by omega
    have i2 : (i : Int) ≤ (c : Int) := by omega
    have HE : Hid _ := he
    have HB1 : Hid _ := hB1
    generalize (flat (ks.take i)).length = fa at *
    generalize (lo y.2 k).length = fb at *
    have hw1 : IntKind.i64.wrap ((fa : Int) + (fb : Int)) = (fa : Int) + (fb : Int) := (IntWalk.i64_left _).trans (IntWalk.wrap64_in _ (by omega))
    clear k50 k37 k49 hB1 e0 d0 he ht
    go_region_held3 (fun W => W.cell? ⟨w.heap.size, 0, none⟩ = some (.slice (some ⟨g, o, none⟩) n c) ∧ W.cell? ⟨g, o + i, none⟩ = some (.iface y.1.1 y.1.2)) (first | exact hS0 | exact HS.out _ HB3.out | exact HS.out _ HB2.out) (first
      | (go_at_call 50; (with_reducible refine k50d.mono ?_); rintro e w2 ⟨rfl, hB2⟩; have HB2 : Hid (Below w1.heap.size w1 w2) := bmore (Below.refl _ _).drew hB2; have k37 := HKK.out w2 HB2.out; clear hB2 k50d)
      | (go_at_call 37; (with_reducible refine k37.mono ?_); rintro e w3 ⟨rfl, hB3⟩; have HB3 : Hid (Below w1.heap.size w1 w3) := bmore HB2.out hB3; clear hB3 k37))
    go_wp2
    go_ret
    exact ⟨by rw [HE.out]; simp, bmore (bmore HB.out HB1.out) HB3.out⟩
end Go.Proofs.Ytgimjjlkniplnaa
