/- The reference's Same; the law LexTokens. -/
import Derived.Test.YthebpkcnhghofaaDoorLr4
import Derived.Test.YthebpkcnhghofaaDoorLc
import Derived.BigQuiet
namespace Go.Proofs.YthebpkcnhghofaaDoor
open Go.RowKit Go.Lib Go.Joins
set_option maxRecDepth 100000

set_option maxHeartbeats 8000000 in
theorem rsame12 {B B' : Nat} {v v' : Value} {ts : List Tk} {w : World} (h : TRow B v ts w) (h' : TRow B' v' ts w) (hl : ts.length ≤ 1000) :
    Calls Tryd.prog 12 #[v, v'] w fun e w' => e = .returned (.bool true) ∧ Below w.heap.size w w' := by
  obtain ⟨a, c, rfl, hat⟩ := trow_at h
  obtain ⟨a', c', rfl, hat'⟩ := trow_at h'
  obtain ⟨N, hN⟩ : ∃ N, ts.length = N := ⟨_, rfl⟩
  have HNN : Hid (ts.length = N) := hN
  have HA : Hid (∀ (i : Nat) (x : Tk), ts[i]? = some x → ∃ g, a = some ⟨g, 0, none⟩ ∧ g < w.heap.size ∧ TkAt w g i x) := hat
  have HA' : Hid (∀ (i : Nat) (x : Tk), ts[i]? = some x → ∃ g, a' = some ⟨g, 0, none⟩ ∧ g < w.heap.size ∧ TkAt w g i x) := hat'
  rw [hN] at hl ⊢
  clear hat hat' h h' hN
  go_enter Tryd.func12, Tryd.ntmps12
  go_wp2
  go_loopw [5] (fun p wr => ∃ m : Nat, m ≤ N ∧ p = .int .i64 (m : Int) ∧ Below w.heap.size w wr) (fun p _ => N - (RowKit.intOf p).toNat)
  case atStart => exact ⟨0, by omega, rfl, Below.refl _ _⟩
  case round =>
    obtain ⟨m, hm, rfl, hB⟩ := hrel
    by_cases hlt : m < N
    · have hlt1 : (m : Int) < (N : Int) := by omega
      have hlt0 : (0 : Int) ≤ (m : Int) := by omega
      obtain ⟨x, hx⟩ : ∃ x, ts[m]? = some x := ⟨_, List.getElem?_eq_getElem (by rw [HNN.out]; exact hlt)⟩
      obtain ⟨g, rfl, hgl, h1⟩ := HA.out m x hx
      obtain ⟨g', rfl, hgl', h2⟩ := HA'.out m x hx
      obtain ⟨c0, c1, c2, c3⟩ := h1.below hB hgl
      obtain ⟨d0, d1, d2, d3⟩ := h2.below hB hgl'
      clear h1 h2 hx
      generalize str x.t = t at *
      generalize x.n = n at *
      go_wp2_with fail
      go_big_quiet (fail)
      go_wp2_with fail
      exact ⟨⟨m + 1, by omega, by first | rfl | simp, hB.trans ⟨rfl, rfl, rfl, Nat.le_refl _, fun _ _ => rfl⟩⟩, by simp [RowKit.intOf]; omega⟩
    · have hlt1 : ¬ (m : Int) < (N : Int) := by omega
      go_wp2
      go_ret
      exact ⟨rfl, hB⟩

set_option maxHeartbeats 4000000 in
theorem tokensLaw3 (s0 : ByteArray) (w : World) (hg : Good w) :
    Calls Tryd.prog 3 #[.string s0] w fun e w' => e = .returned (.bool true) ∧ Below w.heap.size w w' := by
  have c9 : ∀ w1, Calls Tryd.prog 9 #[.string s0] w1 fun e w' => e = .returned (.string (str ((bs s0).take 410))) ∧ w1 = w' := fun w1 => (short9 s0 w1).mono fun e w' h => ⟨h.1, h.2.symm⟩
  obtain ⟨s, hs⟩ : ∃ s, str ((bs s0).take 410) = s := ⟨_, rfl⟩
  have hsz : s.size ≤ 410 := by rw [← hs, str_size, List.length_take]; omega
  rw [hs] at c9
  clear hs
  have c8 := tokens8 s w (by omega) hg
  have HC10 : Hid (∀ w1, Below w.heap.size w w1 → Calls Tryd.prog 10 #[.string s] w1 fun e w' => ∃ v, e = .returned (.tuple #[v, .int .i64 ((toks (bs s)).2.1 : Nat), .int .i64 ((toks (bs s)).2.2 : Nat)]) ∧ TRow w1.heap.size v (toks (bs s)).1 w' ∧ Below w1.heap.size w1 w') := fun w1 h => rtokens10 s w1 (hg.below h)
  have HL : Hid (∀ w1, Below w.heap.size w w1 → Calls Tryd.prog 11 #[] w1 fun e w' => e = .returned (.bool true) ∧ Below w1.heap.size w1 w') := fun w1 h => live11 w1 (hg.below h)
  have hfew : (toks (bs s)).1.length ≤ 1000 := by
    rcases toks_ok (bs s) with ⟨_, h⟩ | ⟨h, _⟩
    · have := h.few; omega
    · rw [h]; simp
  generalize toks (bs s) = R at *
  obtain ⟨ts, pl, er⟩ := R
  simp only at c8 HC10 hfew
  have HS : Hid (∀ B B' v v' w1, TRow B v ts w1 → TRow B' v' ts w1 → Calls Tryd.prog 12 #[v, v'] w1 fun e w' => e = .returned (.bool true) ∧ Below w1.heap.size w1 w') := fun B B' v v' w1 h1 h2 => rsame12 h1 h2 hfew
  clear hg
  go_enter Tryd.func3, Tryd.ntmps3
  go_wp2_with (first
    | (go_at_call 9; refine (c9 _).mono ?_; rintro e w1 ⟨rfl, rfl⟩)
    | (go_at_call 8; refine c8.mono ?_; rintro e w2 ⟨v2, rfl, hr2, hb2⟩; have HR2 : Hid (TRow _ v2 ts w2) := hr2; clear hr2)
    | (go_at_call 10; refine (HC10.out w2 hb2).mono ?_; rintro e w3 ⟨v3, rfl, hr3, hb3⟩; have HR3 : Hid (TRow w2.heap.size v3 ts w3) := hr3; clear hr3; have F3 := bmore hb2 hb3)
    | (go_at_call 11; refine (HL.out w3 F3).mono ?_; rintro e w4 ⟨rfl, hb4⟩; have F4 := bmore F3 hb4)
    | (go_at_call 12; refine (HS.out _ _ _ _ w4 (own_below (own_below HR2.out hb3) hb4) (own_below HR3.out hb4)).mono ?_; rintro e w5 ⟨rfl, hb5⟩))
  go_ret
  exact ⟨rfl, bmore F4 hb5⟩
end Go.Proofs.YthebpkcnhghofaaDoor
