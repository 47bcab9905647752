/- play. -/
import Derived.Test.YtgglhicpfjihlaaDo
namespace Go.Proofs.Ytgglhicpfjihlaa
open Go.RowKit Go.Shelf
set_option maxRecDepth 100000
/-- Deeds that came in: kind, stretch. -/
def DRow (w : World) (v : Value) (xs : List (Int × St)) : Prop :=
  ((∃ p cap, v = .slice p 0 cap) ∧ xs = []) ∨ ∃ b off cap, v = .slice (some ⟨b, off, none⟩) xs.length cap ∧ b < w.heap.size ∧
    ∀ i y, xs[i]? = some y → w.cell? ⟨b, off + i * 4, none⟩ = some (.int .i64 y.1) ∧ w.cell? ⟨b, off + i * 4 + 1, none⟩ = some (.int .i64 y.2.f) ∧ w.cell? ⟨b, off + i * 4 + 2, none⟩ = some (.int .i64 y.2.t) ∧ w.cell? ⟨b, off + i * 4 + 3, none⟩ = some (.int .i64 y.2.i)
theorem DRow.below {w w' : World} {v : Value} {xs : List (Int × St)} (h : DRow w v xs) (k : Below w.heap.size w w') : DRow w' v xs := by
  rcases h with h | ⟨b, off, cap, rfl, hb, hc⟩
  · exact .inl h
  · exact .inr ⟨b, off, cap, rfl, by have := k.size; omega, fun i y hy => by
      obtain ⟨h1, h2, h3, h4⟩ := hc i y hy
      exact ⟨(k.cell (p := ⟨b, _, none⟩) hb).trans h1, (k.cell (p := ⟨b, _, none⟩) hb).trans h2, (k.cell (p := ⟨b, _, none⟩) hb).trans h3, (k.cell (p := ⟨b, _, none⟩) hb).trans h4⟩⟩
theorem DRow.form {w : World} {v : Value} {xs : List (Int × St)} (h : DRow w v xs) : ∃ a c, v = .slice a xs.length c := by
  rcases h with ⟨⟨a, c, rfl⟩, rfl⟩ | ⟨b, off, cap, rfl, _⟩
  · exact ⟨a, c, rfl⟩
  · exact ⟨_, cap, rfl⟩
theorem DRow.at {w : World} {a : Option Addr} {n c : Nat} {xs : List (Int × St)} (h : DRow w (.slice a n c) xs) {k : Nat} {y : Int × St} (hy : xs[k]? = some y) : ∃ b off, a = some ⟨b, off, none⟩ ∧ w.cell? ⟨b, off + k * 4, none⟩ = some (.int .i64 y.1) ∧ w.cell? ⟨b, off + k * 4 + 1, none⟩ = some (.int .i64 y.2.f) ∧ w.cell? ⟨b, off + k * 4 + 2, none⟩ = some (.int .i64 y.2.t) ∧ w.cell? ⟨b, off + k * 4 + 3, none⟩ = some (.int .i64 y.2.i) := by
  rcases h with ⟨_, rfl⟩ | ⟨b, off, cap, hv, _, hc⟩
  · simp at hy
  · simp only [Value.slice.injEq] at hv
    exact ⟨b, off, hv.1, hc k y hy⟩
def LoB (xs : List (Int × St)) : Prop := ∀ y ∈ xs, least ≤ y.2.f ∧ y.2.f ≤ most
theorem Two.new (W : World) : Two ((W.alloc (.cells #[.pointer none, .int .i64 0] 58)).alloc (.cells #[.slice none 0 0] 61)) W.heap.size W.heap.size (W.heap.size + 1) .nil := by
  have i0 : IV (W.alloc (.cells #[.pointer none, .int .i64 0] 58)) W.heap.size none .nil := ⟨blk_new W [.pointer none, .int .i64 0] 58, ⟨rfl⟩⟩
  refine ⟨⟨none, i0.below (al _ _)⟩, ⟨none, 0, ?_, ⟨none, 0, rfl, fun h => absurd h (by simp [T.inord])⟩, by simp [T.inord]⟩, inv_nil, Nat.le_refl _, by omega⟩
  exact blk_at (W.alloc (.cells #[.pointer none, .int .i64 0] 58)) [.slice none 0 0] 61 (by simp)
set_option maxHeartbeats 2000000 in
theorem play8 {W : World} {v : Value} {xs : List (Int × St)} (hv : DRow W v xs) (hb : LoB xs) : Calls Try.prog 8 #[v] W fun e w' => ∃ x r t, e = .returned (.tuple #[.pointer (some ⟨x, 0, none⟩), .pointer (some ⟨r, 0, none⟩), .bool true]) ∧ Hid (Two w' W.heap.size x r t) ∧ Hid (t.size ≤ 100) ∧ Below W.heap.size W w' := by
  obtain ⟨a, c, rfl⟩ := hv.form
  obtain ⟨N, hN⟩ : ∃ N, xs.length = N := ⟨_, rfl⟩
  have HN : Hid (xs.length = N) := hN
  have HV : Hid (DRow W (.slice a xs.length c) xs) := hv
  have HB : Hid _ := hb
  rw [hN]
  have HT0 : Hid _ := Two.new W
  have HK0 : Hid (Below W.heap.size W ((W.alloc (.cells #[.pointer none, .int .i64 0] 58)).alloc (.cells #[.slice none 0 0] 61))) := bmore (al _ _) (al _ _)
  clear hN hv hb
  have k12 := rnew12 (W.alloc (.cells #[.pointer none, .int .i64 0] 58))
  go_enter Try.func8, Try.ntmps8
  go_wp2_with (first
    | (go_at_call 11; (with_reducible refine (new11 _).mono ?_); rintro e w1 ⟨rfl, rfl⟩)
    | (go_at_call 12; (with_reducible refine k12.mono ?_); rintro e w2 ⟨rfl, rfl⟩))
  clear k12
  generalize (W.alloc (.cells #[.pointer none, .int .i64 0] 58)).alloc (.cells #[.slice none 0 0] 61) = W1 at *
  go_loopw [7] (fun fi wr => ∃ (k : Nat) (t : T), fi = .int .i64 (k : Int) ∧ Hid (k ≤ N ∧ k ≤ 100) ∧ Hid (Two wr W.heap.size W.heap.size (W.heap.size + 1) t ∧ t.size ≤ k) ∧ Hid (Below W.heap.size W wr)) (fun fi _ => (100 - intOf fi).toNat)
  case atStart => exact ⟨0, .nil, rfl, ⟨Nat.zero_le _, by omega⟩, ⟨HT0.out, by simp [T.size]⟩, HK0.out⟩
  case round =>
    obtain ⟨k, t, rfl, hk, hT, hB⟩ := hrel
    by_cases hkN : k < N
    · by_cases hk100 : k < 100
      · have hkNi : (k : Int) < (N : Int) := by omega
        have hki : (k : Int) < 100 := by omega
        have hk0 : (0 : Int) ≤ (k : Int) := by omega
        obtain ⟨y, hy⟩ : ∃ y, xs[k]? = some y := ⟨_, List.getElem?_eq_getElem (by rw [HN.out]; exact hkN)⟩
        have hlo := HB.out y (List.mem_of_getElem? hy)
        obtain ⟨b, off, rfl, d0, d1, d2, d3⟩ := (DRow.below HV.out hB.out).at hy
        have k13 := do13 hT.out.1 (by have := hT.out.2; omega) y.1 y.2 hlo
        clear hlo hy
        go_wp2_with (go_at_call 13; (with_reducible refine k13.mono ?_); rintro e w1 ⟨rfl, ⟨t', hT', hz'⟩, hK'⟩; have HT' : Hid _ := hT'; have HZ' : Hid _ := hz'; have HK' : Hid _ := hK'; clear hT' hz' hK')
        go_roundw
        case rel => exact ⟨k + 1, t', by simp, ⟨by omega, by omega⟩, ⟨HT'.out, by have : t'.size ≤ t.size + 1 := HZ'.out; have := hT.out.2; omega⟩, hB.out.trans (Keep.below HK'.out hB.out.size (fun i hi e => by rcases e with e | e <;> omega))⟩
        case measure => simp only [intOf]; omega
      · have hki : ¬ (k : Int) < 100 := by omega
        have hkNi : (k : Int) < (N : Int) := by omega
        go_wp2
        go_ret3
        exact ⟨_, _, rfl, t, hT.out.1, by have := hT.out.2; have := hk.out.2; show _ ≤ _; omega, hB.out⟩
    · have hkNi : ¬ (k : Int) < (N : Int) := by omega
      go_wp2
      go_ret3
      exact ⟨_, _, rfl, t, hT.out.1, by have := hT.out.2; have := hk.out.2; show _ ≤ _; omega, hB.out⟩
end Go.Proofs.Ytgglhicpfjihlaa
