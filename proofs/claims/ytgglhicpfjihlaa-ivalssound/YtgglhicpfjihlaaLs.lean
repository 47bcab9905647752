/- The law IvalsSound. -/
import Derived.Test.YtgglhicpfjihlaaPy
import Derived.Test.YtgglhicpfjihlaaLi
namespace Go.Proofs.Ytgglhicpfjihlaa
open Go.RowKit Go.Shelf
set_option maxRecDepth 100000
theorem ht_pos {t : T} (h : 0 < t.size) : 0 < t.ht := by
  cases t with
  | nil => simp [T.size] at h
  | node l s r => unfold T.ht; omega
theorem ht_zero {t : T} (h : t.size = 0) : t.ht = 0 := by
  cases t with
  | nil => rfl
  | node l s r => unfold T.size at h; omega
theorem halves_le (n : Nat) : halves n ≤ n := by
  induction n using Nat.strongRecOn with
  | _ n ih =>
    by_cases h : 1 < n
    · rw [halves_step h]
      have := ih (n / 2) (by omega)
      omega
    · rw [halves_small h]; omega
set_option maxHeartbeats 2000000 in
theorem sound4 {W : World} {v : Value} {xs : List (Int × St)} (hv : DRow W v xs) (hb : LoB xs) : Calls Try.prog 4 #[v] W fun e w' => e = .returned (.bool true) ∧ Below W.heap.size W w' := by
  obtain ⟨a, c, rfl⟩ := hv.form
  obtain ⟨N, hN⟩ : ∃ N, xs.length = N := ⟨_, rfl⟩
  have HN : Hid (xs.length = N) := hN
  have HV : Hid (DRow W (.slice a xs.length c) xs) := hv
  have HB : Hid _ := hb
  rw [hN]
  have HT0 : Hid _ := Two.new W
  have HK0 : Hid (Below W.heap.size W ((W.alloc (.cells #[.pointer none, .int .i64 0] 58)).alloc (.cells #[.slice none 0 0] 61))) := bmore (al _ _) (al _ _)
  clear hN hv hb
  have k12 := rnew12 (W.alloc (.cells #[.pointer none, .int .i64 0] 58))
  go_enter Try.func4, Try.ntmps4
  go_wp2_with (first
    | (go_at_call 11; (with_reducible refine (new11 _).mono ?_); rintro e w1 ⟨rfl, rfl⟩)
    | (go_at_call 12; (with_reducible refine k12.mono ?_); rintro e w2 ⟨rfl, rfl⟩)
    | (go_at_call 9; (with_reducible refine (live9 _).mono ?_); rintro e w3 ⟨rfl, B3⟩))
  clear k12
  generalize (W.alloc (.cells #[.pointer none, .int .i64 0] 58)).alloc (.cells #[.slice none 0 0] 61) = W1 at *
  go_loopw [5] (fun fi wr => ∃ (k : Nat) (t : T), fi = .int .i64 (k : Int) ∧ Hid (k ≤ N ∧ k ≤ 100) ∧ Hid (Two wr W.heap.size W.heap.size (W.heap.size + 1) t ∧ t.size ≤ k) ∧ Hid (Below W.heap.size W wr)) (fun fi _ => (100 - intOf fi).toNat)
  case atStart => exact ⟨0, .nil, rfl, ⟨Nat.zero_le _, by omega⟩, ⟨Two.below HT0.out B3, by simp [T.size]⟩, bmore HK0.out B3⟩
  case round =>
    obtain ⟨k, t, rfl, hk, hT, hB⟩ := hrel
    by_cases hkN : k < N
    · by_cases hk100 : k < 100
      · have hkNi : (k : Int) < (N : Int) := by omega
        have hki : (k : Int) < 100 := by omega
        have hk0 : (0 : Int) ≤ (k : Int) := by omega
        obtain ⟨y, hy⟩ : ∃ y, xs[k]? = some y := ⟨_, List.getElem?_eq_getElem (by rw [HN.out]; exact hkN)⟩
        have hlo := HB.out y (List.mem_of_getElem? hy)
        obtain ⟨b, off, rfl, d0, d1, d2, d3⟩ := (DRow.below HV.out hB.out).at hy
        have k13 := do13 hT.out.1 (by have := hT.out.2; omega) y.1 y.2 hlo
        clear hlo hy
        go_wp2_with (first
          | (go_at_call 13; (with_reducible refine k13.mono ?_); rintro e w1 ⟨rfl, ⟨t', hT', hz'⟩, hK'⟩; obtain ⟨q', iq'⟩ := hT'.iv; have k14 := sound14 iq' hT'.inv; have HT' : Hid _ := hT'; have HZ' : Hid _ := hz'; have HK' : Hid _ := hK'; have HI' : Hid _ := iq'; clear hT' hz' hK' iq')
          | (go_at_call 14; (with_reducible refine k14.mono ?_); rintro e w2 ⟨rfl, B2⟩; have k15 := height15 (IV.below HI'.out B2); have k16 := len16 (IV.below HI'.out B2)))
        have hz2 : t'.size ≤ 101 := by have : t'.size ≤ t.size + 1 := HZ'.out; have := hT.out.2; omega
        have HEnd : Hid (Two w2 W.heap.size W.heap.size (W.heap.size + 1) t' ∧ t'.size ≤ k + 1) := ⟨Two.below HT'.out B2, by have : t'.size ≤ t.size + 1 := HZ'.out; have := hT.out.2; omega⟩
        have HBel : Hid (Below W.heap.size W w2) := bmore (hB.out.trans (Keep.below HK'.out hB.out.size (fun i hi e => by rcases e with e | e <;> omega))) B2
        have HInv : Hid _ := HT'.out.inv
        clear HT' HZ' HK' HI' B2 k13 k14 hT hB d0 d1 d2 d3
        by_cases h0 : t'.size = 0
        · have h1 := ht_zero h0
          rw [h0] at k16
          rw [h1] at k15
          clear h0 h1
          go_wp2_with (first
            | (go_at_call 15; (with_reducible refine k15.mono ?_); rintro e w3 ⟨rfl, rfl⟩)
            | (go_at_call 16; (with_reducible refine k16.mono ?_); rintro e w4 ⟨rfl, rfl⟩))
          go_roundw
          case rel => exact ⟨k + 1, t', by simp, ⟨by omega, by omega⟩, HEnd.out, HBel.out⟩
          case measure => simp only [intOf]; omega
        · have h1 := ht_pos (t := t') (by omega)
          have h2 := ht_halves (Inv.av HInv.out) (t := t') (by omega)
          have h3 := halves_le t'.size
          have k17 := halves17 t'.size (by omega) w2
          have h0' : 0 < t'.size := by omega
          clear h0
          generalize hn1 : t'.size = n1 at k16 k17 h2 h3 h0' hz2
          generalize hn2 : t'.ht = n2 at k15 h1 h2
          generalize hn3 : halves n1 = n3 at k17 h2 h3
          clear hn1 hn2 hn3
          have g1 : (0 : Int) < (n1 : Int) := by omega
          have g2 : (0 : Int) < (n2 : Int) := by omega
          have g3 : (n2 : Int) ≤ 2 + 2 * (n3 : Int) := by omega
          have g4 : ¬ (n1 : Int) = 0 := by omega
          have g5 : ¬ (n2 : Int) = 0 := by omega
          have g6 : (n3 : Int) ≤ 101 := by omega
          have g7 : ((n1 : Int) == 0) = false := by simpa using g4
          have g8 : ((n2 : Int) == 0) = false := by simpa using g5
          go_wp2_with (first
            | (go_at_call 15; (with_reducible refine k15.mono ?_); rintro e w3 ⟨rfl, rfl⟩)
            | (go_at_call 16; (with_reducible refine k16.mono ?_); rintro e w4 ⟨rfl, rfl⟩)
            | (go_at_call 17; (with_reducible refine k17.mono ?_); rintro e w5 ⟨rfl, rfl⟩))
          go_roundw
          case rel => exact ⟨k + 1, t', by simp, ⟨by omega, by omega⟩, HEnd.out, HBel.out⟩
          case measure => simp only [intOf]; omega
      · have hki : ¬ (k : Int) < 100 := by omega
        have hkNi : (k : Int) < (N : Int) := by omega
        go_wp2
        go_ret
        exact ⟨rfl, hB.out⟩
    · have hkNi : ¬ (k : Int) < (N : Int) := by omega
      go_wp2
      go_ret
      exact ⟨rfl, hB.out⟩
end Go.Proofs.Ytgglhicpfjihlaa
