/- The laws WordTells, WordFronts and WordQuotes: in every good world they answer true. -/
import Derived.Test.YtjppkhphdpbnfaaDoorLive
namespace Go.Proofs.YtjppkhphdpbnfaaDoor
open Go.RowKit Go.Lib

theorem cut_size (s : ByteArray) : (str ((bs s).take 300)).size ≤ 300 := by
  rw [str_size, List.length_take]; omega

set_option maxRecDepth 100000 in
set_option maxHeartbeats 4000000 in
theorem tells3 (s0 : ByteArray) (w : World) (hg : Good w) : Calls Tryd.prog 3 #[.string s0] w fun e w' => e = .returned (.bool true) ∧ Below w.heap.size w w' := by
  have hz := cut_size s0
  have c9 := short9 s0
  generalize str ((bs s0).take 300) = s at hz c9
  have k9 : ∀ w1, St w w1 → Calls Tryd.prog 9 #[.string s0] w1 fun e w' => e = .returned (.string s) ∧ St w w' := fun w1 h => keepSame h (c9 w1)
  have k10 : ∀ w1, St w w1 → Calls Tryd.prog 10 #[] w1 fun e w' => e = .returned (.bool true) ∧ St w w' := fun w1 h => live10 h
  obtain ⟨R, hR⟩ : ∃ R, rightR (bs s) = R := ⟨_, rfl⟩
  obtain ⟨N, hN⟩ : ∃ R, nameR (bs s) = R := ⟨_, rfl⟩
  obtain ⟨K, hK⟩ : ∃ R, keyR (bs s) = R := ⟨_, rfl⟩
  obtain ⟨L, hL⟩ : ∃ R, lenR (bs s) = R := ⟨_, rfl⟩
  obtain ⟨F, hF⟩ : ∃ R, str (foldR (bs s)) = R := ⟨_, rfl⟩
  have k11 : ∀ w1, St w w1 → Calls Tryd.prog 11 #[.string s] w1 fun e w' => e = .returned (.bool R) ∧ St w w' := fun w1 h => by rw [← hR]; exact keep h (right11 s w1 (by omega) h.1)
  have k12 : ∀ w1, St w w1 → Calls Tryd.prog 12 #[.string s] w1 fun e w' => e = .returned (.bool R) ∧ St w w' := fun w1 h => by rw [← hR]; exact keep h (right12 s w1 (by omega) h.1)
  have k13 : ∀ w1, St w w1 → Calls Tryd.prog 13 #[.string s] w1 fun e w' => e = .returned (.bool N) ∧ St w w' := fun w1 h => by rw [← hN]; exact keep h (name13 s w1 (by omega))
  have k14 : ∀ w1, St w w1 → Calls Tryd.prog 14 #[.string s] w1 fun e w' => e = .returned (.bool N) ∧ St w w' := fun w1 h => by rw [← hN]; exact keep h (name14 s w1 h.1)
  have k15 : ∀ w1, St w w1 → Calls Tryd.prog 15 #[.string s] w1 fun e w' => e = .returned (.bool K) ∧ St w w' := fun w1 h => by rw [← hK]; exact keep h (key15 s w1 (by omega))
  have k16 : ∀ w1, St w w1 → Calls Tryd.prog 16 #[.string s] w1 fun e w' => e = .returned (.bool K) ∧ St w w' := fun w1 h => by rw [← hK]; exact keep h (key16 s w1 h.1)
  have k17 : ∀ w1, St w w1 → Calls Tryd.prog 17 #[.string s] w1 fun e w' => e = .returned (.int .i64 (L : Int)) ∧ St w w' := fun w1 h => by rw [← hL]; exact keep h (len17 s w1 (by omega))
  have k18 : ∀ w1, St w w1 → Calls Tryd.prog 18 #[.string s] w1 fun e w' => e = .returned (.int .i64 (L : Int)) ∧ St w w' := fun w1 h => by rw [← hL]; exact keep h (len18 s w1 (by omega) h.1)
  have k19 : ∀ w1, St w w1 → Calls Tryd.prog 19 #[.string s] w1 fun e w' => e = .returned (.string F) ∧ St w w' := fun w1 h => by rw [← hF]; exact keep h (fold19 s w1)
  have k20 : ∀ w1, St w w1 → Calls Tryd.prog 20 #[.string s] w1 fun e w' => e = .returned (.string F) ∧ St w w' := fun w1 h => by rw [← hF]; exact keep h (fold20 s w1 (by omega))
  have hst := St.start hg
  clear hg c9 hR hN hK hL hF
  go_enter Tryd.func3, Tryd.ntmps3
  go_wp2_with (first
    | (go_at_call 9; refine (k9 _ hst).mono ?_; rintro e w1 ⟨rfl, hst⟩)
    | (go_at_call 10; refine (k10 _ hst).mono ?_; rintro e w1 ⟨rfl, hst⟩)
    | (go_at_call 11; refine (k11 _ hst).mono ?_; rintro e w1 ⟨rfl, hst⟩)
    | (go_at_call 12; refine (k12 _ hst).mono ?_; rintro e w1 ⟨rfl, hst⟩)
    | (go_at_call 13; refine (k13 _ hst).mono ?_; rintro e w1 ⟨rfl, hst⟩)
    | (go_at_call 14; refine (k14 _ hst).mono ?_; rintro e w1 ⟨rfl, hst⟩)
    | (go_at_call 15; refine (k15 _ hst).mono ?_; rintro e w1 ⟨rfl, hst⟩)
    | (go_at_call 16; refine (k16 _ hst).mono ?_; rintro e w1 ⟨rfl, hst⟩)
    | (go_at_call 17; refine (k17 _ hst).mono ?_; rintro e w1 ⟨rfl, hst⟩)
    | (go_at_call 18; refine (k18 _ hst).mono ?_; rintro e w1 ⟨rfl, hst⟩)
    | (go_at_call 19; refine (k19 _ hst).mono ?_; rintro e w1 ⟨rfl, hst⟩)
    | (go_at_call 20; refine (k20 _ hst).mono ?_; rintro e w1 ⟨rfl, hst⟩))
  go_ret
  exact ⟨rfl, hst.2⟩

set_option maxRecDepth 100000 in
set_option maxHeartbeats 4000000 in
theorem fronts4 (s0 t0 : ByteArray) (n : Int) (w : World) (hg : Good w) : Calls Tryd.prog 4 #[.string s0, .string t0, .int .i64 n] w fun e w' => e = .returned (.bool true) ∧ Below w.heap.size w w' := by
  have hz := cut_size s0
  have c9 := short9 s0
  have d9 := short9 t0
  generalize str ((bs s0).take 300) = s at hz c9
  generalize str ((bs t0).take 300) = t at d9
  have k9 : ∀ w1, St w w1 → Calls Tryd.prog 9 #[.string s0] w1 fun e w' => e = .returned (.string s) ∧ St w w' := fun w1 h => keepSame h (c9 w1)
  have j9 : ∀ w1, St w w1 → Calls Tryd.prog 9 #[.string t0] w1 fun e w' => e = .returned (.string t) ∧ St w w' := fun w1 h => keepSame h (d9 w1)
  have k10 : ∀ w1, St w w1 → Calls Tryd.prog 10 #[] w1 fun e w' => e = .returned (.bool true) ∧ St w w' := fun w1 h => live10 h
  obtain ⟨F, hF⟩ : ∃ R, str (frontR n.toNat (bs s)) = R := ⟨_, rfl⟩
  obtain ⟨C, hC⟩ : ∃ R, Lib.compareBytes (bs s) (bs t) = R := ⟨_, rfl⟩
  have k21 : ∀ w1, St w w1 → Calls Tryd.prog 21 #[.string s, .int .i64 n] w1 fun e w' => e = .returned (.string F) ∧ St w w' := fun w1 h => by rw [← hF]; exact keep h (front21 s n w1 (by omega))
  have k22 : ∀ w1, St w w1 → Calls Tryd.prog 22 #[.string s, .int .i64 n] w1 fun e w' => e = .returned (.string F) ∧ St w w' := fun w1 h => by rw [← hF]; exact keep h (front22 s n w1 (by omega) h.1)
  have k23 : ∀ w1, St w w1 → Calls Tryd.prog 23 #[.string s, .string t] w1 fun e w' => e = .returned (.int .i64 C) ∧ St w w' := fun w1 h => by rw [← hC]; exact keepSame h (cmp23 s t w1)
  have k24 : ∀ w1, St w w1 → Calls Tryd.prog 24 #[.string s, .string t] w1 fun e w' => e = .returned (.int .i64 C) ∧ St w w' := fun w1 h => by rw [← hC]; exact keepSame h (cmp24 s t w1)
  have hst := St.start hg
  clear hg c9 d9 hF hC
  go_enter Tryd.func4, Tryd.ntmps4
  go_wp2_with (first
    | (go_at_call 9; first | (refine (k9 _ hst).mono ?_; rintro e w1 ⟨rfl, hst⟩) | (refine (j9 _ hst).mono ?_; rintro e w1 ⟨rfl, hst⟩))
    | (go_at_call 10; refine (k10 _ hst).mono ?_; rintro e w1 ⟨rfl, hst⟩)
    | (go_at_call 21; refine (k21 _ hst).mono ?_; rintro e w1 ⟨rfl, hst⟩)
    | (go_at_call 22; refine (k22 _ hst).mono ?_; rintro e w1 ⟨rfl, hst⟩)
    | (go_at_call 23; refine (k23 _ hst).mono ?_; rintro e w1 ⟨rfl, hst⟩)
    | (go_at_call 24; refine (k24 _ hst).mono ?_; rintro e w1 ⟨rfl, hst⟩))
  go_ret
  exact ⟨rfl, hst.2⟩

set_option maxRecDepth 100000 in
set_option maxHeartbeats 4000000 in
theorem quotes5 (s0 : ByteArray) (w : World) (hg : Good w) : Calls Tryd.prog 5 #[.string s0] w fun e w' => e = .returned (.bool true) ∧ Below w.heap.size w w' := by
  have hz := cut_size s0
  have c9 := short9 s0
  generalize str ((bs s0).take 300) = s at hz c9
  have k9 : ∀ w1, St w w1 → Calls Tryd.prog 9 #[.string s0] w1 fun e w' => e = .returned (.string s) ∧ St w w' := fun w1 h => keepSame h (c9 w1)
  have k10 : ∀ w1, St w w1 → Calls Tryd.prog 10 #[] w1 fun e w' => e = .returned (.bool true) ∧ St w w' := fun w1 h => live10 h
  obtain ⟨A, hA⟩ : ∃ R, str (quoteR (bs s)).1 = R := ⟨_, rfl⟩
  obtain ⟨E, hE⟩ : ∃ R, (quoteR (bs s)).2 = R := ⟨_, rfl⟩
  obtain ⟨C, hC⟩ : ∃ R, str (unq (bs s)).1 = R := ⟨_, rfl⟩
  obtain ⟨M, hM⟩ : ∃ R, (unq (bs s)).2.1 = R := ⟨_, rfl⟩
  obtain ⟨G, hG⟩ : ∃ R, (unq (bs s)).2.2 = R := ⟨_, rfl⟩
  have k25 : ∀ w1, St w w1 → Calls Tryd.prog 25 #[.string s] w1 fun e w' => e = .returned (.tuple #[.string A, .int .i64 (E : Int)]) ∧ St w w' := fun w1 h => by rw [← hA, ← hE]; exact keep h (quote25 s w1 (by omega) h.1)
  have k26 : ∀ w1, St w w1 → Calls Tryd.prog 26 #[.string s] w1 fun e w' => e = .returned (.tuple #[.string A, .int .i64 (E : Int)]) ∧ St w w' := fun w1 h => by rw [← hA, ← hE]; exact keep h (quote26 s w1 (by omega) h.1)
  have k27 : ∀ w1, St w w1 → Calls Tryd.prog 27 #[.string s] w1 fun e w' => e = .returned (.tuple #[.string C, .int .i64 (M : Int), .int .i64 (G : Int)]) ∧ St w w' := fun w1 h => by rw [← hC, ← hM, ← hG]; exact keep h (unquote27 s w1 (by omega) h.1)
  have k28 : ∀ w1, St w w1 → Calls Tryd.prog 28 #[.string s] w1 fun e w' => e = .returned (.tuple #[.string C, .int .i64 (M : Int), .int .i64 (G : Int)]) ∧ St w w' := fun w1 h => by rw [← hC, ← hM, ← hG]; exact keep h (unquote28 s w1 (by omega) h.1)
  have hst := St.start hg
  clear hg c9 hA hE hC hM hG
  go_enter Tryd.func5, Tryd.ntmps5
  go_wp2_with (first
    | (go_at_call 9; refine (k9 _ hst).mono ?_; rintro e w1 ⟨rfl, hst⟩)
    | (go_at_call 10; refine (k10 _ hst).mono ?_; rintro e w1 ⟨rfl, hst⟩)
    | (go_at_call 25; refine (k25 _ hst).mono ?_; rintro e w1 ⟨rfl, hst⟩)
    | (go_at_call 26; refine (k26 _ hst).mono ?_; rintro e w1 ⟨rfl, hst⟩)
    | (go_at_call 27; refine (k27 _ hst).mono ?_; rintro e w1 ⟨rfl, hst⟩)
    | (go_at_call 28; refine (k28 _ hst).mono ?_; rintro e w1 ⟨rfl, hst⟩))
  go_ret
  exact ⟨rfl, hst.2⟩

end Go.Proofs.YtjppkhphdpbnfaaDoor
