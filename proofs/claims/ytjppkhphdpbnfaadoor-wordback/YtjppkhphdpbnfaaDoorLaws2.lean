/- The laws WordBack and WordFront: in every good world they answer true. -/
import Derived.Test.YtjppkhphdpbnfaaDoorFront
namespace Go.Proofs.YtjppkhphdpbnfaaDoor
open Go.RowKit Go.Lib

set_option maxRecDepth 100000 in
set_option maxHeartbeats 4000000 in
theorem back6 (s0 t0 : ByteArray) (w : World) (hg : Good w) : Calls Tryd.prog 6 #[.string s0, .string t0] w fun e w' => e = .returned (.bool true) ∧ Below w.heap.size w w' := by
  have hz := cut_size s0
  have hzt := cut_size t0
  have c9 := short9 s0
  have d9 := short9 t0
  generalize str ((bs s0).take 300) = s at hz c9
  generalize str ((bs t0).take 300) = t at d9 hzt
  have k9 : ∀ w1, St w w1 → Calls Tryd.prog 9 #[.string s0] w1 fun e w' => e = .returned (.string s) ∧ St w w' := fun w1 h => keepSame h (c9 w1)
  have j9 : ∀ w1, St w w1 → Calls Tryd.prog 9 #[.string t0] w1 fun e w' => e = .returned (.string t) ∧ St w w' := fun w1 h => keepSame h (d9 w1)
  have k10 : ∀ w1, St w w1 → Calls Tryd.prog 10 #[] w1 fun e w' => e = .returned (.bool true) ∧ St w w' := fun w1 h => live10 h
  have hst := St.start hg
  clear hg c9 d9
  cases hR : rightR (bs s)
  · have k11 : ∀ w1, St w w1 → Calls Tryd.prog 11 #[.string s] w1 fun e w' => e = .returned (.bool false) ∧ St w w' := fun w1 h => by rw [← hR]; exact keep h (right11 s w1 (by omega) h.1)
    have k25 : ∀ w1, St w w1 → Calls Tryd.prog 25 #[.string s] w1 fun e w' => e = .returned (.tuple #[.string ⟨#[]⟩, .int .i64 3]) ∧ St w w' := fun w1 h => by
      have := keep h (quote25 s w1 (by omega) h.1)
      rw [quoteR_no hR] at this
      exact this
    clear hR
    go_enter Tryd.func6, Tryd.ntmps6
    go_wp2_with (first
      | (go_at_call 9; first | (refine (k9 _ hst).mono ?_; rintro e w1 ⟨rfl, hst⟩) | (refine (j9 _ hst).mono ?_; rintro e w1 ⟨rfl, hst⟩))
      | (go_at_call 10; refine (k10 _ hst).mono ?_; rintro e w1 ⟨rfl, hst⟩)
      | (go_at_call 11; refine (k11 _ hst).mono ?_; rintro e w1 ⟨rfl, hst⟩)
      | (go_at_call 25; refine (k25 _ hst).mono ?_; rintro e w1 ⟨rfl, hst⟩))
    go_ret
    exact ⟨rfl, hst.2⟩
  · obtain ⟨q, hq⟩ : ∃ q, str (39 :: dbl (bs s) ++ [39]) = q := ⟨_, rfl⟩
    have hqz : q.size ≤ 602 := by
      have := dbl_le (bs s)
      rw [← hq, str_size, quote_len]
      rw [dbl_length, bs_length] at this
      rw [bs_length]
      omega
    have k25 : ∀ w1, St w w1 → Calls Tryd.prog 25 #[.string s] w1 fun e w' => e = .returned (.tuple #[.string q, .int .i64 0]) ∧ St w w' := fun w1 h => by
      have := keep h (quote25 s w1 (by omega) h.1)
      rw [quoteR_yes hR, hq] at this
      exact this
    have hun : ∀ u : ByteArray, u.size ≤ 400 → (bs u).head? ≠ some 39 → ∀ w1, St w w1 → Calls Tryd.prog 27 #[.string (q ++ u)] w1 fun e w' => e = .returned (.tuple #[.string s, .int .i64 (q.size : Int), .int .i64 0]) ∧ St w w' := fun u hu hh w1 h => by
      have := keep h (unquote27 (q ++ u) w1 (by rw [ByteArray.size_append]; omega) h.1)
      have e1 : bs (q ++ u) = 39 :: dbl (bs s) ++ [39] ++ bs u := by
        rw [← hq, ← str_bs u, str_append, bs_str, bs_str]
      have e2 : (39 :: dbl (bs s) ++ [39]).length = q.size := by rw [← hq, str_size]
      rw [e1, unq_quote hR hh, e2] at this
      rw [str_bs] at this
      exact this
    clear hq
    by_cases h0 : t.size = 0
    · have ht : t = ⟨#[]⟩ := by
        rw [← str_bs t, List.eq_nil_of_length_eq_zero (l := bs t) h0]
      have hz0 : ¬ ((0 : Int) < (t.size : Int)) := by omega
      have k27 := hun t (by omega) (by rw [List.eq_nil_of_length_eq_zero (l := bs t) h0]; simp)
      clear hun hR ht h0
      go_enter Tryd.func6, Tryd.ntmps6
      go_wp2_with (first
        | (go_at_call 9; first | (refine (k9 _ hst).mono ?_; rintro e w1 ⟨rfl, hst⟩) | (refine (j9 _ hst).mono ?_; rintro e w1 ⟨rfl, hst⟩))
        | (go_at_call 10; refine (k10 _ hst).mono ?_; rintro e w1 ⟨rfl, hst⟩)
        | (go_at_call 25; refine (k25 _ hst).mono ?_; rintro e w1 ⟨rfl, hst⟩)
        | (go_at_call 27; refine (k27 _ hst).mono ?_; rintro e w1 ⟨rfl, hst⟩))
      go_ret
      exact ⟨rfl, hst.2⟩
    · have hp0 : 0 < t.size := by omega
      have hz0 : (0 : Int) < (t.size : Int) := by omega
      have hcons := rest_cons hp0
      rw [List.drop_zero] at hcons
      obtain ⟨b, hb⟩ : ∃ b, t[0]'hp0 = b := ⟨_, rfl⟩
      rw [hb] at hcons
      by_cases h39 : b = 39
      · have k27 := hun (⟨#[32]⟩ ++ t) (by rw [ByteArray.size_append]; show 1 + t.size ≤ 400; omega) (by
          rw [show (⟨#[32]⟩ : ByteArray) = str [32] from rfl, ← str_bs t, str_append, bs_str]; simp)
        subst h39
        clear hun hR h0 hcons
        go_enter Tryd.func6, Tryd.ntmps6
        go_wp2_with (first
          | (go_at_call 9; first | (refine (k9 _ hst).mono ?_; rintro e w1 ⟨rfl, hst⟩) | (refine (j9 _ hst).mono ?_; rintro e w1 ⟨rfl, hst⟩))
          | (go_at_call 10; refine (k10 _ hst).mono ?_; rintro e w1 ⟨rfl, hst⟩)
          | (go_at_call 25; refine (k25 _ hst).mono ?_; rintro e w1 ⟨rfl, hst⟩)
          | (go_at_call 27; refine (k27 _ hst).mono ?_; rintro e w1 ⟨rfl, hst⟩))
        go_ret
        exact ⟨rfl, hst.2⟩
      · have hne : ((b.toNat : Int) == 39) = false := by
          rw [beq_eq_false_iff_ne]
          intro e
          exact h39 (UInt8.toNat_inj.1 (by show b.toNat = 39; omega))
        have k27 := hun t (by omega) (by rw [hcons]; simpa using h39)
        clear hun hR h0 hcons
        go_enter Tryd.func6, Tryd.ntmps6
        go_wp2_with (first
          | (go_at_call 9; first | (refine (k9 _ hst).mono ?_; rintro e w1 ⟨rfl, hst⟩) | (refine (j9 _ hst).mono ?_; rintro e w1 ⟨rfl, hst⟩))
          | (go_at_call 10; refine (k10 _ hst).mono ?_; rintro e w1 ⟨rfl, hst⟩)
          | (go_at_call 25; refine (k25 _ hst).mono ?_; rintro e w1 ⟨rfl, hst⟩)
          | (go_at_call 27; refine (k27 _ hst).mono ?_; rintro e w1 ⟨rfl, hst⟩))
        go_ret
        exact ⟨rfl, hst.2⟩

end Go.Proofs.YtjppkhphdpbnfaaDoor
