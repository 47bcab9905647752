/- The reference of codec: Right, Ints, Values, Spans, Compare, Same, Key; codec.Same. -/
import Derived.Test.YtolggmmlaohpdabDoorOrdr
import Derived.Deep.RegionWith
import Derived.Deep.CutRange
import Derived.Deep.QuietTactic
import Derived.BigQuiet
namespace Go.Proofs.YtolggmmlaohpdabDoor
open Go.RowKit Go.Lib
set_option maxRecDepth 100000

theorem span28 (f t : Int) (w : World) : Calls Tryd.prog 28 #[.agg #[.int .i64 f, .int .i64 t]] w fun e w' => e = .returned (.bool (spanR f t)) ∧ Below w.heap.size w w' := by
  unfold spanR
  by_cases h1 : -1000 ≤ f
  · by_cases h2 : f < t
    · by_cases h3 : t ≤ 1000
      · simp only [h1, h2, h3]
        go_enter Tryd.func28, Tryd.ntmps28
        go_wp2
        go_ret
        exact ⟨rfl, al _ _⟩
      · simp only [h1, h2, h3]
        go_enter Tryd.func28, Tryd.ntmps28
        go_wp2
        go_ret
        exact ⟨rfl, al _ _⟩
    · simp only [h1, h2]
      go_enter Tryd.func28, Tryd.ntmps28
      go_wp2
      go_ret
      exact ⟨rfl, al _ _⟩
  · simp only [h1]
    go_enter Tryd.func28, Tryd.ntmps28
    go_wp2
    go_ret
    exact ⟨rfl, al _ _⟩

set_option maxHeartbeats 2000000 in
theorem right12_many (n c : Nat) (f t : Int) (w : World) (h : n = 0 ∨ 4 < n) (hn : n ≤ 4611686018427387904) (a : Option Addr) :
    Calls Tryd.prog 12 #[RV (.slice a n c) f t] w fun e w' => e = .returned (.bool false) ∧ Below w.heap.size w w' := by
  by_cases h0 : n = 0
  · subst h0
    go_enter Tryd.func12, Tryd.ntmps12
    go_wp2
    go_ret
    exact ⟨rfl, al _ _⟩
  · have h1 : ¬ ((n : Int) < 1) := by omega
    have h2 : (4 : Int) < (n : Int) := by omega
    go_enter Tryd.func12, Tryd.ntmps12
    go_wp2
    go_ret
    exact ⟨rfl, al _ _⟩

set_option maxHeartbeats 2000000 in
theorem right12_few (b o n c : Nat) (vs : List Vt) (f t : Int) (w : World) (hl : Hid (vs.length = n)) (h1 : 1 ≤ n) (h4 : n ≤ 4) (hat : VAt w b o vs) (hvs : Few vs) (hg : Good w) :
    Calls Tryd.prog 12 #[RV (.slice (some ⟨b, o, none⟩) n c) f t] w fun e w' => e = .returned (.bool (vs.all okV && spanR f t)) ∧ Below w.heap.size w w' := by
  have hz1 : ¬ ((n : Int) < 1) := by omega
  have hz4 : ¬ ((4 : Int) < (n : Int)) := by omega
  have c28 := span28 f t
  have HV : Hid (Few vs) := hvs
  have hgb : ∀ W, Below w.heap.size w W → Good W := fun W h => hg.below h
  have hatb : ∀ W, Below w.heap.size w W → VAt W b o vs := fun W h => hat.below h
  clear hat hvs hg
  cases hS : spanR f t
  · rw [hS] at c28
    simp only [Bool.and_false]
    go_enter Tryd.func12, Tryd.ntmps12
    go_wp2_with (go_at_call 28; (refine (c28 _).mono ?_; rintro e w1 ⟨rfl, hb1⟩))
    go_ret
    exact ⟨rfl, bmore (al _ _) hb1⟩
  · rw [hS] at c28
    simp only [Bool.and_true]
    go_enter Tryd.func12, Tryd.ntmps12
    go_wp2_with (go_at_call 28; (refine (c28 _).mono ?_; rintro e w1 ⟨rfl, hb1⟩; have q0 := (new_cells hb1 0).1; have q1 := (new_cells hb1 1).1; have q2 := (new_cells hb1 2).1; simp at q0 q1 q2))
    have HB1 := hideK hb1
    clear hb1 q0 q1 q2
    go_loopw [3] (fun i wr => ∃ k : Nat, k ≤ n ∧ i = .int .i64 (k : Int) ∧ (vs.take k).all okV = true ∧ Below (w.alloc (.cells #[.slice (some ⟨b, o, none⟩) n c, .int .i64 f, .int .i64 t] 26)).heap.size (w.alloc (.cells #[.slice (some ⟨b, o, none⟩) n c, .int .i64 f, .int .i64 t] 26)) wr) (fun i _ => n - (Lib.intOf i).toNat)
    case atStart => exact ⟨0, by omega, rfl, rfl, HB1.out⟩
    case round =>
      obtain ⟨k, hk, rfl, hall, hbe⟩ := hrel
      have e0 := (new_cells hbe 0).1
      have e1 := (new_cells hbe 1).1
      have e2 := (new_cells hbe 2).1
      simp at e0 e1 e2
      have hbw := bmore (al w _) hbe
      by_cases hlt : k < n
      · have hkz : (k : Int) < (n : Int) := by omega
        obtain ⟨x, hx⟩ : ∃ x, vs[k]? = some x := ⟨_, List.getElem?_eq_getElem (by rw [hl.out]; exact hlt)⟩
        obtain ⟨a0, a1, a2⟩ := hatb wr hbw k x hx
        obtain ⟨hn, hsz⟩ := HV.out x (List.mem_of_getElem? hx)
        have HT : Hid (vs.take (k + 1) = vs.take k ++ [x]) := by
          have hk' := (List.getElem?_eq_some_iff.1 hx)
          show _ = _
          rw [List.take_succ_eq_append_getElem hk'.1, hk'.2]
        have HM : Hid (x ∈ vs) := List.mem_of_getElem? hx
        have c26 := rightv13 x.1 x.2.1 x.2.2 wr hsz (hgb wr hbw)
        obtain ⟨xk, xn, xs⟩ := x
        simp only at a0 a1 a2 c26
        cases hR : okV (xk, xn, xs)
        · rw [show rightV xk xn (bs xs) = false from hR] at c26
          have HF : Hid (vs.all okV = false) := by
            show _ = _
            rw [List.all_eq_false]
            exact ⟨_, HM.out, by rw [hR]; simp⟩
          go_wp2_with (go_at_call 29; (refine c26.mono ?_; rintro e w1 ⟨rfl, hb1⟩))
          go_ret
          exact ⟨by rw [HF.out]; rfl, bmore hbw hb1⟩
        · rw [show rightV xk xn (bs xs) = true from hR] at c26
          go_wp2_with (go_at_call 29; (refine c26.mono ?_; rintro e w1 ⟨rfl, hb1⟩))
          go_roundw
          case rel => exact ⟨k + 1, by omega, by go_num, by rw [HT.out, List.all_append, hall]; simp [hR], bmore hbe hb1⟩
          case measure => simp [Lib.intOf]; omega
      · have hkz : ¬ ((k : Int) < (n : Int)) := by omega
        have HF : Hid (vs.all okV = true) := by
          show _ = _
          rw [List.take_of_length_le (by rw [hl.out]; omega)] at hall
          exact hall
        go_wp2
        go_ret
        exact ⟨by rw [HF.out]; rfl, hbw⟩

theorem rowRight12 (v : Value) (vs : List Vt) (f t : Int) (w : World) (hsv : SV w v vs) (hz : vs.length ≤ 140737488355328) (hvs : Few vs) (hg : Good w) :
    Calls Tryd.prog 12 #[RV v f t] w fun e w' => e = .returned (.bool (rightRow vs f t)) ∧ Below w.heap.size w w' := by
  unfold rightRow
  rcases hsv with ⟨a, c, rfl, rfl⟩ | ⟨b, o, c, rfl, h0, hc, hcm, hat⟩
  · exact right12_many 0 c f t w (.inl rfl) (by omega) a
  · by_cases h4 : vs.length ≤ 4
    · have := right12_few b o vs.length c vs f t w rfl h0 h4 hat hvs hg
      rw [show decide (1 ≤ vs.length) = true from decide_eq_true h0, show decide (vs.length ≤ 4) = true by simpa using h4]
      simpa using this
    · rw [show decide (vs.length ≤ 4) = false by simpa using h4]
      simp only [Bool.false_and, Bool.and_false]
      exact right12_many vs.length c f t w (.inr (by omega)) (by omega) _

theorem ints50 (x y : Int) (w : World) : Calls Tryd.prog 50 #[.int .i64 x, .int .i64 y] w fun e w' => e = .returned (.int .i64 (compareInt x y)) ∧ w' = w := by
  unfold compareInt
  by_cases h1 : x < y
  · simp only [h1, if_true]
    go_enter Tryd.func50, Tryd.ntmps50
    go_wp2
    go_ret
    exact ⟨rfl, rfl⟩
  · by_cases h2 : y < x
    · simp only [h1, h2, if_true, if_false]
      go_enter Tryd.func50, Tryd.ntmps50
      go_wp2
      go_ret
      exact ⟨rfl, rfl⟩
    · simp only [h1, h2, if_false]
      go_enter Tryd.func50, Tryd.ntmps50
      go_wp2
      go_ret
      exact ⟨rfl, rfl⟩

end Go.Proofs.YtolggmmlaohpdabDoor
