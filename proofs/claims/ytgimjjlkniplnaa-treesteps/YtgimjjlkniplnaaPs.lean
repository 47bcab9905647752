/- spliced, halved. -/
import Derived.Test.YtgimjjlkniplnaaCc
namespace Go.Proofs.Ytgimjjlkniplnaa
open Go.RowKit Go.Shelf
set_option maxRecDepth 100000
section
variable {α : Type} {E : Ety α} {w w' : World}
theorem ls_of {g : Nat} {ls : List (Lt α)} {t : TypeId} (hb : Blk w g (ls.map (·.1)) t) (h : ∀ x ∈ ls, LV E w x.1 x.2) : Ls E w g ls :=
  ⟨fun i x hx => by rw [hb.cell, List.getElem?_map, hx]; rfl, h⟩
theorem ls3 {x y z : Value} {A B C : List α} (hx : LV E w x A) (hy : LV E w y B) (hz : LV E w z C) (t : TypeId) : Ls E (w.alloc (.cells #[x, y, z] t)).drew w.heap.size [(x, A), (y, B), (z, C)] := by
  have hb : Below w.heap.size w (w.alloc (.cells #[x, y, z] t)).drew := (al w _).drew
  refine ls_of (t := t) (blk_new w [x, y, z] t) ?_
  intro q hq
  simp only [List.mem_cons, List.not_mem_nil, or_false] at hq
  rcases hq with rfl | rfl | rfl
  · exact hx.below hb
  · exact hy.below hb
  · exact hz.below hb
theorem ls2 {x y : Value} {A B : List α} (hx : LV E w x A) (hy : LV E w y B) (t : TypeId) : Ls E (w.alloc (.cells #[x, y] t)) w.heap.size [(x, A), (y, B)] := by
  have hb : Below w.heap.size w (w.alloc (.cells #[x, y] t)) := al w _
  refine ls_of (t := t) (blk_new w [x, y] t) ?_
  intro q hq
  simp only [List.mem_cons, List.not_mem_nil, or_false] at hq
  rcases hq with rfl | rfl
  · exact hx.below hb
  · exact hy.below hb
theorem CPost.base {es : List α} {e : Ending} {w1 : World} (h : CPost E w1 es e w') (hb : Below w.heap.size w w1) : CPost E w es e w' := by
  obtain ⟨v, h1, h2, h3⟩ := h
  exact ⟨v, h1, h2, bmore hb h3⟩
end
set_option maxHeartbeats 400000 in
theorem spliced53 {w : World} {l m : Value} {L M : List Pr} (hl : LV EP w l L) (hm : LV EP w m M) {i j : Nat} (hij : i ≤ j) (hj : j ≤ L.length) (hn : L.length + M.length ≤ 500) : Calls Try.prog 53 #[l, .int .i64 (i : Int), .int .i64 (j : Int), m] w (CPost EP w (L.take i ++ M ++ L.drop j)) := by
  obtain ⟨a, c, rfl⟩ := hl.form
  obtain ⟨a2, c2, rfl⟩ := hm.form
  have hcap := hl.cap.2
  have k64 : Calls Try.prog 64 #[.slice (some ⟨w.heap.size, 0, none⟩) 3 3] (w.alloc (.cells #[.slice a i c, .slice a2 M.length c2, .slice (if c = j then a else Option.map (fun x => x.add (j * 2)) a) (L.length - j) (c - j)] 37)).drew (CPost EP w (L.take i ++ M ++ L.drop j)) := by
    have hS := hl.sliced (k := j) hj
    rw [show j * EP.m = j * 2 by first | rfl | exact Nat.mul_one j] at hS
    have h := (concat64 (ls3 (hl.take (k := i) (by omega) c (by omega)) hm hS 37) (by simp) (by simp [cat]; omega)).mono fun _ _ h => CPost.base (w := w) h ((al w _).drew)
    simp only [cat, List.flatMap_cons, List.flatMap_nil, List.append_nil, ← List.append_assoc] at h
    exact h
  have hN : L.length ≤ 500 := by omega
  generalize L.take i ++ M ++ L.drop j = R at *
  generalize hLn : L.length = n at *
  generalize M.length = n2 at *
  clear hl hm hLn
  have i0 : (0 : Int) ≤ (i : Int) := by omega
  have i1 : (i : Int) ≤ (c : Int) := by omega
  have j0 : (0 : Int) ≤ (j : Int) := by omega
  have j1 : (j : Int) ≤ (n : Int) := by omega
  have j2 : (n : Int) ≤ (c : Int) := by omega
  have HA : Hid (∀ o : Obj, Below w.heap.size w (w.alloc o).drew) := fun o => (al w o).drew
  have hD : Below w.heap.size w w.drew := (Below.refl _ _).drew
  by_cases hcj : c = j
  · subst hcj
    simp only [if_true, Nat.sub_self, show n - c = 0 by omega] at k64
    go_enter Try.func53, Try.ntmps53
    go_wp2_with fail
    go_region_held3 (fun W' : World => Below w.heap.size w W') (first | exact hB1 | exact HA.out _ | exact hD) (first | (go_at_call 64; (with_reducible refine k64.mono ?_); rintro e w1 ⟨v1, rfl, hv1, hB1⟩))
    go_wp2
    go_ret
    exact ⟨_, rfl, hv1, hB1⟩
  · simp only [hcj, if_false] at k64
    go_enter Try.func53, Try.ntmps53
    go_wp2_with fail
    go_region_held3 (fun W' : World => Below w.heap.size w W') (first | exact hB1 | exact HA.out _ | exact hD) (first | (go_at_call 64; (with_reducible refine k64.mono ?_); rintro e w1 ⟨v1, rfl, hv1, hB1⟩))
    go_wp2
    go_ret
    exact ⟨_, rfl, hv1, hB1⟩
set_option maxHeartbeats 400000 in
theorem spliced55 {w : World} {l m : Value} {L M : List Bx} (hl : LV EK w l L) (hm : LV EK w m M) {i j : Nat} (hij : i ≤ j) (hj : j ≤ L.length) (hn : L.length + M.length ≤ 500) : Calls Try.prog 55 #[l, .int .i64 (i : Int), .int .i64 (j : Int), m] w (CPost EK w (L.take i ++ M ++ L.drop j)) := by
  obtain ⟨a, c, rfl⟩ := hl.form
  obtain ⟨a2, c2, rfl⟩ := hm.form
  have hcap := hl.cap.2
  have k64 : Calls Try.prog 66 #[.slice (some ⟨w.heap.size, 0, none⟩) 3 3] (w.alloc (.cells #[.slice a i c, .slice a2 M.length c2, .slice (if c = j then a else Option.map (fun x => x.add (j)) a) (L.length - j) (c - j)] 69)).drew (CPost EK w (L.take i ++ M ++ L.drop j)) := by
    have hS := hl.sliced (k := j) hj
    rw [show j * EK.m = j by first | rfl | exact Nat.mul_one j] at hS
    have h := (concat66 (ls3 (hl.take (k := i) (by omega) c (by omega)) hm hS 69) (by simp) (by simp [cat]; omega)).mono fun _ _ h => CPost.base (w := w) h ((al w _).drew)
    simp only [cat, List.flatMap_cons, List.flatMap_nil, List.append_nil, ← List.append_assoc] at h
    exact h
  have hN : L.length ≤ 500 := by omega
  generalize L.take i ++ M ++ L.drop j = R at *
  generalize hLn : L.length = n at *
  generalize M.length = n2 at *
  clear hl hm hLn
  have i0 : (0 : Int) ≤ (i : Int) := by omega
  have i1 : (i : Int) ≤ (c : Int) := by omega
  have j0 : (0 : Int) ≤ (j : Int) := by omega
  have j1 : (j : Int) ≤ (n : Int) := by omega
  have j2 : (n : Int) ≤ (c : Int) := by omega
  have HA : Hid (∀ o : Obj, Below w.heap.size w (w.alloc o).drew) := fun o => (al w o).drew
  have hD : Below w.heap.size w w.drew := (Below.refl _ _).drew
  by_cases hcj : c = j
  · subst hcj
    simp only [if_true, Nat.sub_self, show n - c = 0 by omega] at k64
    go_enter Try.func55, Try.ntmps55
    go_wp2_with fail
    go_region_held3 (fun W' : World => Below w.heap.size w W') (first | exact hB1 | exact HA.out _ | exact hD) (first | (go_at_call 66; (with_reducible refine k64.mono ?_); rintro e w1 ⟨v1, rfl, hv1, hB1⟩))
    go_wp2
    go_ret
    exact ⟨_, rfl, hv1, hB1⟩
  · simp only [hcj, if_false] at k64
    go_enter Try.func55, Try.ntmps55
    go_wp2_with fail
    go_region_held3 (fun W' : World => Below w.heap.size w W') (first | exact hB1 | exact HA.out _ | exact hD) (first | (go_at_call 66; (with_reducible refine k64.mono ?_); rintro e w1 ⟨v1, rfl, hv1, hB1⟩))
    go_wp2
    go_ret
    exact ⟨_, rfl, hv1, hB1⟩
end Go.Proofs.Ytgimjjlkniplnaa
