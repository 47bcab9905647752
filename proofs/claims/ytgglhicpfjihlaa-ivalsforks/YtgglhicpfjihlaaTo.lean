/- Sound, Len, Stab of stretches that lie in order. -/
import Derived.Test.YtgglhicpfjihlaaAd
import Derived.Test.YtgglhicpfjihlaaSo
import Derived.Test.YtgglhicpfjihlaaIo
import Derived.Test.YtgglhicpfjihlaaAw
namespace Go.Proofs.Ytgglhicpfjihlaa
open Go.RowKit Go.Shelf
set_option maxRecDepth 100000

/-- A tree as Add leaves it. -/
structure Inv (t : T) : Prop where
  so : Sorted t.inord
  av : t.avl
  pt : t.pts
  lo : ∀ s ∈ t.inord, least ≤ s.f ∧ s.f ≤ most
  sz : t.size ≤ 900
theorem inv_nil : Inv .nil := ⟨List.Pairwise.nil, trivial, fun s h => by simp [T.inord] at h, fun s h => by simp [T.inord] at h, by simp [T.size]⟩
theorem Inv.ins {t : T} (h : Inv t) {s : St} (hs : s.f < s.t) (hn : s ∉ t.inord) (hb : least ≤ s.f ∧ s.f ≤ most) (hz : t.size ≤ 899) : Inv (t.ins s) :=
  ⟨ins_sorted t s h.so hn, (T.ins_avl t s h.av).1, fun x hx => by rcases List.mem_cons.1 ((ins_perm t s).mem_iff.1 hx) with rfl | hx; exact hs; exact h.pt x hx,
   fun x hx => by rcases List.mem_cons.1 ((ins_perm t s).mem_iff.1 hx) with rfl | hx; exact hb; exact h.lo x hx, by rw [T.size_ins]; omega⟩
theorem Inv.all {t : T} (h : Inv t) : t.meets least most = t.inord := by
  rw [meets_eq t least most h.so, List.filter_eq_self]
  intro s hs
  have := h.lo s hs
  have := h.pt s hs
  simp [met]
  omega

theorem new11 (W : World) : Calls Try.prog 11 #[] W fun e w' => e = .returned (.pointer (some ⟨W.heap.size, 0, none⟩)) ∧ w' = W.alloc (.cells #[.pointer none, .int .i64 0] 58) := by
  go_enter Try.func11, Try.ntmps11
  go_wp2
  go_ret
  exact ⟨rfl, rfl⟩
theorem len16 {W : World} {x : Nat} {p : Option Addr} {t : T} (h : IV W x p t) : Calls Try.prog 16 #[.pointer (some ⟨x, 0, none⟩)] W fun e w' => e = .returned (.int .i64 (t.size : Int)) ∧ W = w' := by
  have c := h.blk.cell 1
  simp only [List.getElem?_cons_zero, List.getElem?_cons_succ] at c
  go_enter Try.func16, Try.ntmps16
  go_wp2
  go_ret
  exact ⟨rfl, rfl⟩
set_option maxHeartbeats 400000 in
theorem sound14 {W : World} {x : Nat} {p : Option Addr} {t : T} (h : IV W x p t) (hi : Inv t) : Calls Try.prog 14 #[.pointer (some ⟨x, 0, none⟩)] W fun e w' => e = .returned (.bool true) ∧ Below W.heap.size W w' := by
  have c := h.blk.cell 0
  simp only [List.getElem?_cons_zero] at c
  have hz := hi.sz
  have k1 := sound35 t h.ts hi.av hi.pt (by omega)
  have HK : Hid (∀ W', Below W.heap.size W W' → Calls Try.prog 36 #[.pointer (some ⟨x, 0, none⟩)] W' fun e w' => e = .returned (.bool true) ∧ Below W'.heap.size W' w') := fun W' k => inOrder36 (h.below k).blk (h.below k).ts (by rw [hi.all]; exact hi.so) (by rw [hi.all, T.inord_length]) (by omega)
  clear h hi hz
  go_enter Try.func14, Try.ntmps14
  go_wp2_with (first
    | (go_at_call 35; (with_reducible refine k1.mono ?_); rintro e w1 ⟨rfl, B1⟩)
    | (go_at_call 36; (with_reducible refine (HK.out _ B1).mono ?_); rintro e w2 ⟨rfl, B2⟩))
  go_ret
  exact ⟨rfl, bmore B1 B2⟩
theorem stab19 {W : World} {x : Nat} {p : Option Addr} {t : T} (h : IV W x p t) (hi : Inv t) (a : Int) (ha : least ≤ a) : Calls Try.prog 19 #[.pointer (some ⟨x, 0, none⟩), .int .i64 a] W fun e w' => ∃ v, e = .returned v ∧ w'.ownsRow W.heap.size 3 1 v (t.inord.filter (met a a)).length (ids (t.inord.filter (met a a))) ∧ Below W.heap.size W w' := by
  have e1 := meets_eq t a a hi.so
  have hl : (t.meets a a).length ≤ 100000 := by
    rw [e1]
    have := List.length_filter_le (met a a) t.inord
    have := hi.sz
    rw [T.inord_length] at *
    omega
  have k1 := numbers39 (n := (t.size : Int)) (f := a) (l := a) h.blk h.ts ha hl
  rw [e1] at k1
  clear h hi e1 hl
  go_enter Try.func19, Try.ntmps19
  go_wp2_with (go_at_call 39; (with_reducible refine k1.mono ?_); rintro e w1 ⟨v, rfl, hv, B1⟩)
  go_ret
  exact ⟨v, rfl, hv, B1⟩
end Go.Proofs.Ytgglhicpfjihlaa
