/- The law WordFront: in every good world it answers true. -/
import Derived.Test.YtjppkhphdpbnfaaDoorFront
namespace Go.Proofs.YtjppkhphdpbnfaaDoor
open Go.RowKit Go.Lib

set_option maxRecDepth 100000 in
set_option maxHeartbeats 4000000 in
/-- There are as many runes as were asked for. -/
theorem front7_full (s0 s F X : ByteArray) (N M : Nat) (w : World) (hst : St w w) (hN : N < 256) (hM : N + M ≤ 300) (hFle : (F.size : Int) ≤ (s.size : Int))
    (k9 : ∀ w1, St w w1 → Calls Tryd.prog 9 #[.string s0] w1 fun e w' => e = .returned (.string s) ∧ St w w')
    (k10 : ∀ w1, St w w1 → Calls Tryd.prog 10 #[] w1 fun e w' => e = .returned (.bool true) ∧ St w w')
    (k21 : ∀ w1, St w w1 → Calls Tryd.prog 21 #[.string s, .int .i64 (N : Int)] w1 fun e w' => e = .returned (.string F) ∧ St w w')
    (k17 : ∀ (x : ByteArray) (w1 : World), x = F ∨ x = X ∨ x = s → St w w1 → Calls Tryd.prog 17 #[.string x] w1 fun e w' => e = .returned (.int .i64 (lenR (bs x) : Nat)) ∧ St w w')
    (e1 : lenR (bs F) = N) (e2 : lenR (bs X) = M) (e3 : lenR (bs s) = N + M) (he : s.extract 0 F.size = F) (hX : s.extract F.size s.size = X) :
    Calls Tryd.prog 7 #[.string s0, .int .u8 (N : Int)] w fun e w' => e = .returned (.bool true) ∧ Below w.heap.size w w' := by
  have hadd : (M : Int) + (N : Int) = (N : Int) + (M : Int) := by omega
  go_enter Tryd.func7, Tryd.ntmps7
  go_wp2_with (first
    | (go_at_call 9; refine (k9 _ hst).mono ?_; rintro e w1 ⟨rfl, hst⟩)
    | (go_at_call 10; refine (k10 _ hst).mono ?_; rintro e w1 ⟨rfl, hst⟩)
    | (go_at_call 21; refine (k21 _ hst).mono ?_; rintro e w1 ⟨rfl, hst⟩)
    | (go_at_call 17; refine (k17 _ _ (by simp) hst).mono ?_; rintro e w1 ⟨rfl, hst⟩))
  go_ret
  exact ⟨rfl, hst.2⟩

set_option maxRecDepth 100000 in
set_option maxHeartbeats 4000000 in
/-- There are fewer: it is the whole text. -/
theorem front7_whole (s0 s : ByteArray) (N K : Nat) (w : World) (hst : St w w) (hN : N < 256) (hK : K < N)
    (k9 : ∀ w1, St w w1 → Calls Tryd.prog 9 #[.string s0] w1 fun e w' => e = .returned (.string s) ∧ St w w')
    (k10 : ∀ w1, St w w1 → Calls Tryd.prog 10 #[] w1 fun e w' => e = .returned (.bool true) ∧ St w w')
    (k21 : ∀ w1, St w w1 → Calls Tryd.prog 21 #[.string s, .int .i64 (N : Int)] w1 fun e w' => e = .returned (.string s) ∧ St w w')
    (k17 : ∀ (x : ByteArray) (w1 : World), x = s ∨ x = ByteArray.empty → St w w1 → Calls Tryd.prog 17 #[.string x] w1 fun e w' => e = .returned (.int .i64 (lenR (bs x) : Nat)) ∧ St w w')
    (e4 : lenR (bs ByteArray.empty) = 0) (e3 : lenR (bs s) = K) (he : s.extract 0 s.size = s) :
    Calls Tryd.prog 7 #[.string s0, .int .u8 (N : Int)] w fun e w' => e = .returned (.bool true) ∧ Below w.heap.size w w' := by
  have h1 : (K : Int) ≤ (N : Int) := by omega
  have h2 : ¬ ((K : Int) = (N : Int)) := by omega
  have h3 : ((K : Int) == (N : Int)) = false := by simpa using h2
  go_enter Tryd.func7, Tryd.ntmps7
  go_wp2_with (first
    | (go_at_call 9; refine (k9 _ hst).mono ?_; rintro e w1 ⟨rfl, hst⟩)
    | (go_at_call 10; refine (k10 _ hst).mono ?_; rintro e w1 ⟨rfl, hst⟩)
    | (go_at_call 21; refine (k21 _ hst).mono ?_; rintro e w1 ⟨rfl, hst⟩)
    | (go_at_call 17; refine (k17 _ _ (by simp) hst).mono ?_; rintro e w1 ⟨rfl, hst⟩))
  go_ret
  exact ⟨rfl, hst.2⟩

/-- The first runes of a text as a text, and what is left. -/
theorem front_parts (N : Nat) (s : ByteArray) (hs : s.size ≤ 300) : ∃ F : ByteArray, str (frontR N (bs s)) = F ∧ F.size ≤ s.size ∧ s.extract 0 F.size = F ∧ lenR (bs F) ≤ N ∧ (lenR (bs F) = N ∨ F = s) ∧
    lenR (bs F) + lenR (bs (s.extract F.size s.size)) = lenR (bs s) ∧ lenR (bs s) ≤ 300 := by
  obtain ⟨j, hj, hF, hK, hKN, hsum⟩ := front_facts N (bs s)
  rw [bs_length] at hj
  have hFz : (str ((bs s).take j)).size = j := by rw [str_size, List.length_take, bs_length]; omega
  have hrest : bs (s.extract j s.size) = (bs s).drop j := by
    rw [ext_take, List.take_of_length_le (by rw [bs_length]; exact Nat.le_refl _), bs_str]
  refine ⟨str ((bs s).take j), by rw [hF], by omega, by rw [hFz, ext_take, List.drop_zero], by rw [bs_str]; exact hK, ?_, by rw [hFz, bs_str, hrest]; exact hsum, ?_⟩
  · rcases hKN with h | h
    · left; rw [bs_str]; exact h
    · right; rw [h, List.take_length, str_bs]
  · have := lenR_le _ (bs s) (Nat.le_refl _)
    rw [bs_length] at this
    omega

theorem front7 (s0 : ByteArray) (N : Nat) (hN : N < 256) (w : World) (hg : Good w) : Calls Tryd.prog 7 #[.string s0, .int .u8 (N : Int)] w fun e w' => e = .returned (.bool true) ∧ Below w.heap.size w w' := by
  have hz := cut_size s0
  have c9 := short9 s0
  generalize str ((bs s0).take 300) = s at hz c9
  have k9 : ∀ w1, St w w1 → Calls Tryd.prog 9 #[.string s0] w1 fun e w' => e = .returned (.string s) ∧ St w w' := fun w1 h => keepSame h (c9 w1)
  have k10 : ∀ w1, St w w1 → Calls Tryd.prog 10 #[] w1 fun e w' => e = .returned (.bool true) ∧ St w w' := fun w1 h => live10 h
  obtain ⟨F, h1, h2, h3, h4, h5, h6, h7⟩ := front_parts N s hz
  have k21 : ∀ w1, St w w1 → Calls Tryd.prog 21 #[.string s, .int .i64 (N : Int)] w1 fun e w' => e = .returned (.string F) ∧ St w w' := fun w1 h => by
    have := keep h (front21 s (N : Int) w1 (by omega))
    rw [Int.toNat_natCast] at this
    rw [← h1]; exact this
  have k17 : ∀ (x : ByteArray) (w1 : World), x.size ≤ 300 → St w w1 → Calls Tryd.prog 17 #[.string x] w1 fun e w' => e = .returned (.int .i64 (lenR (bs x) : Nat)) ∧ St w w' := fun x w1 hx h => keep h (len17 x w1 (by omega))
  have hXz : (s.extract F.size s.size).size ≤ 300 := by rw [ByteArray.size_extract]; omega
  by_cases hK : lenR (bs F) = N
  · exact front7_full s0 s F (s.extract F.size s.size) N (lenR (bs (s.extract F.size s.size))) w (St.start hg) hN (by omega) (by omega) k9 k10 k21
      (fun x w1 hx h => k17 x w1 (by rcases hx with rfl | rfl | rfl <;> omega) h) hK rfl (by omega) h3 rfl
  · obtain rfl : F = s := h5.resolve_left hK
    exact front7_whole s0 F N (lenR (bs F)) w (St.start hg) hN (by omega) k9 k10 k21
      (fun x w1 hx h => k17 x w1 (by rcases hx with rfl | rfl <;> first | omega | decide) h) rfl rfl h3

end Go.Proofs.YtjppkhphdpbnfaaDoor
