/- The document's Add, where nothing is laid in; the place where an item is laid in. -/
import Derived.Test.YtgglhicpfjihlaaRq
namespace Go.Proofs.Ytgglhicpfjihlaa
open Go.RowKit Go.Shelf
set_option maxRecDepth 100000
theorem radd33_span {W : World} {r : Nat} (f t i : Int) (h : t ≤ f) : Calls Try.prog 33 #[.pointer (some ⟨r, 0, none⟩), .agg #[.int .i64 f, .int .i64 t], .int .i64 i] W fun e w' => e = .returned (.int .i64 10) ∧ Below W.heap.size W w' := by
  go_enter Try.func33, Try.ntmps33
  go_wp2
  go_ret
  exact ⟨rfl, al _ _⟩
theorem radd33_there {W : World} {r : Nat} {a : Option Addr} {c : Nat} {L : List St} (s : St) (hr : RI W r a c L) (hl : L.length ≤ 1000) (hft : s.f < s.t) (hs : s ∈ L) : Calls Try.prog 33 #[.pointer (some ⟨r, 0, none⟩), .agg #[.int .i64 s.f, .int .i64 s.t], .int .i64 s.i] W fun e w' => e = .returned (.int .i64 6) ∧ Below W.heap.size W w' := by
  have hA := al W (.cells #[.int .i64 s.f, .int .i64 s.t] 24)
  have b0 := blk_new W [.int .i64 s.f, .int .i64 s.t] 24
  change Blk (W.alloc (.cells #[.int .i64 s.f, .int .i64 s.t] 24)) _ _ _ at b0
  have k45 := at45 s (hr.below hA).blk (hr.below hA).lv hl
  obtain ⟨n, hn, hp, he⟩ := place_some 0 hs
  rw [hp, Int.zero_add] at k45
  have c0 := b0.cell 0
  have c1 := b0.cell 1
  have hn0 : (0 : Int) ≤ (n : Int) := by omega
  have hf0 : ¬ s.t ≤ s.f := by omega
  go_enter Try.func33, Try.ntmps33
  go_wp2_with (go_at_call 45; (with_reducible refine k45.mono ?_); rintro e w1 ⟨rfl, B1⟩)
  go_ret
  exact ⟨rfl, bmore hA B1⟩
/-- How many stand before s. -/
def upto (s : St) : List St → Nat
  | [] => 0
  | y :: L => if cs y s < 0 then upto s L + 1 else 0
theorem upto_le (s : St) : ∀ L : List St, upto s L ≤ L.length
  | [] => Nat.le_refl _
  | y :: L => by
    have := upto_le s L
    unfold upto
    split
    · simp; omega
    · simp
/-- A sorted list with one more, laid in where it belongs. -/
theorem laid_sorted {s : St} : ∀ {L : List St}, Sorted L → s ∉ L → Sorted (L.take (upto s L) ++ s :: L.drop (upto s L))
  | [], _, _ => by simp [upto, Sorted]
  | y :: L, h, hs => by
    have h' := h
    unfold Sorted at h
    rw [List.pairwise_cons] at h
    obtain ⟨h1, h2⟩ := h
    have hsL : s ∉ L := fun e => hs (List.mem_cons_of_mem _ e)
    unfold upto
    split
    · rename_i hlt
      have ih := laid_sorted h2 hsL
      simp only [List.take_succ_cons, List.drop_succ_cons, List.cons_append]
      unfold Sorted at ih ⊢
      rw [List.pairwise_cons]
      refine ⟨fun z hz => ?_, ih⟩
      rcases List.mem_append.1 hz with hz | hz
      · exact h1 z (List.mem_of_mem_take hz)
      · rcases List.mem_cons.1 hz with rfl | hz
        · exact (cs_lt _ _).1 hlt
        · exact h1 z (List.mem_of_mem_drop hz)
    · rename_i hge
      have hlt : lt s y := by
        have hn : ¬ lt y s := fun e => hge ((cs_lt _ _).2 e)
        have hne : y ≠ s := fun e => hs (by rw [e]; exact List.mem_cons_self)
        obtain ⟨yf, yt, yi⟩ := y
        obtain ⟨sf, st, si⟩ := s
        unfold lt at hn ⊢
        simp only [ne_eq, St.mk.injEq] at hne hn ⊢
        omega
      simp only [List.take_zero, List.drop_zero, List.nil_append]
      unfold Sorted at h' ⊢
      rw [List.pairwise_cons]
      refine ⟨fun z hz => ?_, h'⟩
      rcases List.mem_cons.1 hz with rfl | hz
      · exact hlt
      · have := h1 z hz
        unfold lt at hlt this ⊢
        omega
theorem laid_perm (s : St) (L : List St) (k : Nat) : (L.take k ++ s :: L.drop k).Perm (s :: L) := by
  refine List.perm_middle.trans ?_
  rw [List.take_append_drop]
end Go.Proofs.Ytgglhicpfjihlaa
