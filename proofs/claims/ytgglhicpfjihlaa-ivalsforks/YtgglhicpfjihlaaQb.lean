/- The document's Items, Nearest, Fork; spans that are the same. -/
import Derived.Test.YtgglhicpfjihlaaQa
import Derived.Test.YtgglhicpfjihlaaLh
namespace Go.Proofs.Ytgglhicpfjihlaa
open Go.RowKit Go.Shelf
set_option maxRecDepth 100000
theorem cell_two0 (W : World) (u v : Value) (t : TypeId) : (W.alloc (.cells #[u, v] t)).cell? ⟨W.heap.size, 0, none⟩ = some u := (blk_new W [u, v] t).cell 0
theorem cell_two1 (W : World) (u v : Value) (t : TypeId) : (W.alloc (.cells #[u, v] t)).cell? ⟨W.heap.size, 1, none⟩ = some v := (blk_new W [u, v] t).cell 1
def IPost (W : World) (L : List St) (e : Ending) (w' : World) : Prop := ∃ va vb, e = .returned (.tuple #[va, vb]) ∧ SP w' va L ∧ IR w' vb (L.map (·.i)) ∧ Below W.heap.size W w'
/-- The two slices that grow. -/
structure Gr (W : World) (wr : World) (fa fb : Value) (L : List St) : Prop where
  a : wr.ownsRow W.heap.size 24 2 fa L.length (cells2 L)
  b : wr.ownsRow W.heap.size 3 1 fb L.length (ids L)
  k : Below W.heap.size W wr
theorem Gr.appA {W wr : World} {fa fb : Value} {L : List St} (h : Gr W wr fa fb L) (hl : L.length ≤ 1000) (y : St) (ty : TypeId) (c : Nat) : ∃ v' w', (Builtin.append_ #[45, 45] ty #[fa, .slice (some ⟨wr.heap.size, 0, none⟩) 1 c]).run Try.prog (wr.alloc (.cells #[.int .i64 y.f, .int .i64 y.t] 24)) = .ok v' w' ∧ w'.ownsRow W.heap.size 24 2 v' (L.length + 1) (cells2 (L ++ [y])) ∧ w'.ownsRow W.heap.size 3 1 fb L.length (ids L) ∧ Below W.heap.size W w' := by
  have hal := al wr (.cells #[.int .i64 y.f, .int .i64 y.t] 24)
  have oA := owns_keep' h.a (fun j hj => hal.block j (h.a.lt j hj).2)
  have oB := owns_keep' h.b (fun j hj => hal.block j (h.b.lt j hj).2)
  obtain ⟨v', w', hr, o1, g1, _⟩ := append_span oA (by omega) (Nat.le_trans h.k.size hal.size) ty (c := c) (cell_two0 wr _ _ 24) (cell_two1 wr _ _ 24)
  refine ⟨v', w', hr, by rw [cells2_app]; exact o1, owns_keep' oB (fun j hj => g1.block j (oB.lt j hj).2 (fun e => owns_apart oA oB e.symm hj)), (bmore h.k hal).grown g1 (Nat.le_trans h.k.size hal.size) (fun j e => (oA.lt j e).1)⟩
theorem Gr.appB {W wr : World} {fa fb : Value} {L : List St} {n : Nat} {xs : List Value} (ha : wr.ownsRow W.heap.size 24 2 fa n xs) (hb : wr.ownsRow W.heap.size 3 1 fb L.length (ids L)) (hk : Below W.heap.size W wr) (hl : L.length ≤ 1000) (y : St) (ty : TypeId) (c : Nat) : ∃ v' w', (Builtin.append_ #[41, 41] ty #[fb, .slice (some ⟨wr.heap.size, 0, none⟩) 1 c]).run Try.prog (wr.alloc (.cells #[.int .i64 y.i] 3)) = .ok v' w' ∧ w'.ownsRow W.heap.size 3 1 v' (L.length + 1) (ids (L ++ [y])) ∧ w'.ownsRow W.heap.size 24 2 fa n xs ∧ Below W.heap.size W w' := by
  have hal := al wr (.cells #[.int .i64 y.i] 3)
  have oA := owns_keep' ha (fun j hj => hal.block j (ha.lt j hj).2)
  have oB := owns_keep' hb (fun j hj => hal.block j (hb.lt j hj).2)
  obtain ⟨v', w', hr, o1, g1, _⟩ := append_int oB (by omega) (Nat.le_trans hk.size hal.size) ty (c := c) (cell_one wr _ 3) rfl
  refine ⟨v', w', hr, by rw [show ids (L ++ [y]) = ids L ++ [.int .i64 y.i] by simp [ids]]; exact o1, owns_keep' oA (fun j hj => g1.block j (oA.lt j hj).2 (fun e => owns_apart oA oB hj e.symm)), (bmore hk hal).grown g1 (Nat.le_trans hk.size hal.size) (fun j e => (oB.lt j e).1)⟩
set_option maxHeartbeats 1000000 in
theorem ritems27 {W : World} {r c : Nat} {a : Option Addr} {L : List St} (h : RI W r a c L) (hl : L.length ≤ 1000) : Calls Try.prog 27 #[.pointer (some ⟨r, 0, none⟩)] W (IPost W L) := by
  obtain ⟨N, hN⟩ : ∃ N, L.length = N := ⟨_, rfl⟩
  have HN : Hid _ := hN
  have HR : Hid (RI W r a c L) := h
  rw [hN] at hl
  clear h hN
  go_enter Try.func27, Try.ntmps27
  go_wp2_with fail
  go_loopw [4, 5, 6] (fun fa fb fi wr => ∃ (k : Nat), fi = .int .i64 (k : Int) ∧ Hid (k ≤ N) ∧ Hid (Gr W wr fa fb (L.take k))) (fun _ _ fi _ => ((N : Int) - intOf fi).toNat)
  case atStart => exact ⟨0, rfl, Nat.zero_le _, World.ownsRow_nil _ _ _ _, World.ownsRow_nil _ _ _ _, Below.refl _ _⟩
  case round =>
    obtain ⟨k, rfl, hk, hG⟩ := hrel
    by_cases hkN : k < N
    · have hki : (k : Int) < (N : Int) := by omega
      have hk0 : (0 : Int) ≤ (k : Int) := by omega
      obtain ⟨y, hy⟩ : ∃ y, L[k]? = some y := ⟨_, List.getElem?_eq_getElem (by rw [HN.out]; exact hkN)⟩
      have HTk : Hid (L.take (k + 1) = L.take k ++ [y]) := take_snoc' hy
      have HCC : Hid (∀ w', Below W.heap.size W w' → w'.cell? ⟨r, 0, none⟩ = some (.slice a N c) ∧ ∃ g o, a = some ⟨g, o, none⟩ ∧ w'.cell? ⟨g, o + k * 3, none⟩ = some (.int .i64 y.f) ∧ w'.cell? ⟨g, o + k * 3 + 1, none⟩ = some (.int .i64 y.t) ∧ w'.cell? ⟨g, o + k * 3 + 2, none⟩ = some (.int .i64 y.i)) := fun w' kk => by
        have hr2 := RI.below HR.out kk
        have r0 := hr2.blk.cell 0
        simp only [List.getElem?_cons_zero] at r0
        rw [HN.out] at r0
        exact ⟨r0, hr2.at hy⟩
      have hlen : (L.take k).length ≤ 1000 := Nat.le_trans (List.length_take_le _ _) (by omega)
      obtain ⟨r0, g, o, rfl, d0, d1, d2⟩ := HCC.out _ hG.out.k
      clear hy
      go_wp2_with (first
        | (at_builtin; refine wpList_append_ex rfl (.tmp 20) (.tmp 29) 45 rfl _ _ rfl rfl (hG.out.appA hlen y _ _) ?_; rintro v1 w1 ⟨O1, P1, B1⟩; have HO1 : Hid _ := O1; have HP1 : Hid _ := P1; have HB1 : Hid _ := B1; obtain ⟨r1, g', o', hg', x0, x1, x2⟩ := HCC.out _ B1; (obtain ⟨rfl, rfl⟩ : g = g' ∧ o = o' := by simpa using hg'); clear O1 P1 B1 hg')
        | (at_builtin; refine wpList_append_ex rfl (.tmp 31) (.tmp 40) 41 rfl _ _ rfl rfl (Gr.appB HO1.out HP1.out HB1.out hlen y _ _) ?_; rintro v2 w2 ⟨O2, P2, B2⟩))
      go_roundw
      case rel => exact ⟨k + 1, by simp, by show _ ≤ _; omega, by rw [HTk.out]; exact ⟨by rw [List.length_append]; exact P2, by rw [List.length_append]; exact O2, B2⟩⟩
      case measure => simp only [intOf]; omega
    · have hki : ¬ (k : Int) < (N : Int) := by omega
      have r0 := (RI.below HR.out hG.out.k).blk.cell 0
      simp only [List.getElem?_cons_zero] at r0
      rw [HN.out] at r0
      have HE : Hid (L.take k = L) := by show _ = _; rw [List.take_of_length_le (by rw [HN.out]; omega)]
      rw [HE.out] at hG
      go_wp2
      go_ret2
      exact ⟨_, _, rfl, SP.of_owns hG.out.a, IR.of_owns hG.out.b, hG.out.k⟩
end Go.Proofs.Ytgglhicpfjihlaa
