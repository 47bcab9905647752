/- joined, filled. -/
import Derived.Test.YtgimjjlkniplnaaWj
namespace Go.Proofs.Ytgimjjlkniplnaa
open Go.RowKit Go.Shelf
set_option maxRecDepth 100000
attribute [local go_sem] ta64_64 ta72_64 ta72_72 ta64_72 tb64_64 tb72_72
theorem fld72 (a : Option Addr) (n c : Nat) (s : ByteArray) (t : Int) (w : World) : Sem.run Try.prog (Instr.field 72 (.agg #[.slice a n c, .string s, .int .i64 t]) 0) w = .ok (.slice a n c) w := by kernel_rfl
attribute [local go_sem] fld72
theorem lv_el {w : World} {v : Value} {L : List Pr} (h : LV EP w v L) : LV EL w v L := h
theorem lv_ep {w : World} {v : Value} {L : List Pr} (h : LV EL w v L) : LV EP w v L := h
theorem ls2d {α : Type} {E : Ety α} {w : World} {x y : Value} {A B : List α} (hx : LV E w x A) (hy : LV E w y B) (t : TypeId) : Ls E (w.alloc (.cells #[x, y] t)).drew w.heap.size [(x, A), (y, B)] := (ls2 hx hy t).below (Below.refl _ _).drew
set_option maxHeartbeats 1000000 in
theorem joined67 {h ma mb : Nat} {w : World} {x y : Bx} {ka kb : List Pr} (hx : Part w h ma x ka) (hy : Part w h mb y kb) (hN : ma + mb ≤ 16) (hk : ka.length + kb.length ≤ 1000) : Calls Try.prog 67 #[.iface x.1 x.2, .iface y.1 y.2] w (SPost w h (ma + mb) (ka ++ kb)) := by
  cases h with
  | zero =>
    obtain ⟨a, c, rfl, hl, e1⟩ := hx.leaf
    obtain ⟨a2, c2, rfl, hl2, e2⟩ := hy.leaf
    have k71 : Calls Try.prog 71 #[.slice (some ⟨w.heap.size, 0, none⟩) 2 2] (w.alloc (.cells #[.slice a ka.length c, .slice a2 kb.length c2] 64)) (CPost EL w (ka ++ kb)) := by
      have := (concat71 (ls2 (lv_el hl) (lv_el hl2) 64) (by simp) (by simp [cat]; omega)).mono fun _ _ q => CPost.base (w := w) q (al w _)
      simp only [cat, List.flatMap_cons, List.flatMap_nil, List.append_nil] at this
      exact this
    have HK52 : Hid (∀ (W : World) (v : Value), Below w.heap.size w W → LV EL W v (ka ++ kb) → Calls Try.prog 52 #[v] W (fun e w' => ∃ v', e = .returned v' ∧ Hid (SPost w 0 (ma + mb) (ka ++ kb) (.returned v') w'))) := fun W v hW hv => by
      refine (leaves52 (lv_ep hv) (by rw [List.length_append]; omega)).mono fun e w' q => ?_
      rw [List.length_append, e1, e2] at q
      obtain ⟨v', q1, q2⟩ := q
      exact ⟨v', q1, SPost.base (show SPost W 0 _ (ka ++ kb) (.returned v') w' from ⟨v', rfl, q2⟩) hW⟩
    generalize ka ++ kb = R at *
    rw [e1, e2] at k71 ⊢
    clear hl hl2 hx hy e1 e2
    go_enter Try.func67, Try.ntmps67
    go_wp2_with (first
      | (go_at_call 71; (with_reducible refine k71.mono ?_); rintro e w1 ⟨v1, rfl, hv1, hB1⟩; have k52 := HK52.out w1 v1 hB1 hv1; clear hv1)
      | (go_at_call 52; (with_reducible refine k52.mono ?_); rintro e w2 ⟨v2, rfl, hS⟩))
    go_ret
    exact hS.out
  | succ h =>
    obtain ⟨a, c, ks, rfl, h2, h3, h4, h5, h6⟩ := hx.inner
    obtain ⟨a2, c2, ks2, rfl, j2, j3, j4, j5, j6⟩ := hy.inner
    generalize hsx : fst ka = sx at *
    generalize hsy : fst kb = sy at *
    have hB := al w (.cells #[.slice a ma c, .string sx, .int .i64 (ka.length : Int)] 72)
    have k66 : Calls Try.prog 66 #[.slice (some ⟨(w.alloc (.cells #[.slice a ma c, .string sx, .int .i64 (ka.length : Int)] 72)).heap.size, 0, none⟩) 2 2] (((w.alloc (.cells #[.slice a ma c, .string sx, .int .i64 (ka.length : Int)] 72)).alloc (.cells #[.slice a ma c, .slice a2 mb c2] 69)).drew) (CPost EK (w.alloc (.cells #[.slice a ma c, .string sx, .int .i64 (ka.length : Int)] 72)) ((ks ++ ks2).map (·.1))) := by
      have := (concat66 (ls2d (h2.below hB) (j2.below hB) 69) (by simp) (by simp [cat]; omega)).mono fun _ _ q => CPost.base (w := w.alloc (.cells #[.slice a ma c, .string sx, .int .i64 (ka.length : Int)] 72)) q ((al _ _).drew)
      simp only [cat, List.flatMap_cons, List.flatMap_nil, List.append_nil, ← List.map_append] at this
      exact this
    have HK54 : Hid (∀ (W : World) (v : Value), Below w.heap.size w W → LV EK W v ((ks ++ ks2).map (·.1)) → Calls Try.prog 54 #[v] W (fun e w' => ∃ v', e = .returned v' ∧ Hid (Below W.heap.size W w') ∧ Hid (SPost w (h + 1) (ma + mb) (ka ++ kb) (.returned v') w'))) := fun W v hW hv => by
      refine (inners54 hv (Kids.app (h6.below hW) (j6.below hW)) (by rw [List.length_append]; omega) (by rw [List.length_append]; omega) (by rw [flat_app, ← h5, ← j5, List.length_append]; omega)).mono fun e w' q => ?_
      rw [List.length_append, h3, j3, flat_app, ← h5, ← j5] at q
      obtain ⟨v', q1, q2⟩ := q
      exact ⟨v', q1, q2.1, SPost.base (show SPost W (h + 1) _ (ka ++ kb) (.returned v') w' from ⟨v', rfl, q2⟩) hW⟩
    generalize ka ++ kb = R at *
    generalize ka.length = la at *
    generalize kb.length = lb at *
    have hbk := blk_new w [.slice a ma c, .string sx, .int .i64 (la : Int)] 72
    have HBk : Hid (Blk (w.alloc (.cells #[.slice a ma c, .string sx, .int .i64 (la : Int)] 72)) w.heap.size [.slice a ma c, .string sx, .int .i64 (la : Int)] 72) := hbk
    have HB : Hid _ := hB
    clear h2 j2 h3 j3 h5 j5 h6 j6 hx hy hsx hsy hbk hB
    go_enter Try.func67, Try.ntmps67
    go_wp2_with fail
    generalize hW0 : w.alloc (.cells #[.slice a ma c, .string sx, .int .i64 (la : Int)] 72) = W0 at *
    have HS : Hid (∀ W, Below W0.heap.size W0 W → W.cell? ⟨w.heap.size, 0, none⟩ = some (.slice a ma c)) := fun W hW => (HBk.out.below hW).cell 0
    have hS0 := HS.out W0.drew (Below.refl _ _).drew
    have HA : Hid (∀ o : Obj, Below W0.heap.size W0 (W0.alloc o).drew) := fun o => (al W0 o).drew
    have HW0 : Hid (Below w.heap.size w W0) := HB.out
    clear hW0
    go_region_held3 (fun W => W.cell? ⟨w.heap.size, 0, none⟩ = some (.slice a ma c)) (first | exact hS0 | exact HS.out _ (HA.out _) | exact HS.out _ HBb.out | exact HS.out _ HBa.out) (first
      | (go_at_call 66; (with_reducible refine k66.mono ?_); rintro e w1 ⟨v1, rfl, hv1, hB1⟩; have HBa : Hid _ := hB1; have k54 := HK54.out w1 v1 (bmore HW0.out hB1) hv1; clear hv1)
      | (go_at_call 54; (with_reducible refine k54.mono ?_); rintro e w2 ⟨v2, rfl, hB2, hS⟩; have HBb : Hid (Below W0.heap.size W0 w2) := bmore HBa.out hB2.out))
    go_wp2
    go_ret
    exact hS.out
end Go.Proofs.Ytgimjjlkniplnaa
