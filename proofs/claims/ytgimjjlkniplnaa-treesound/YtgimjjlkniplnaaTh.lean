/- play. -/
import Derived.Test.YtgimjjlkniplnaaTf
namespace Go.Proofs.Ytgimjjlkniplnaa
open Go.RowKit Go.Shelf
set_option maxRecDepth 100000
/-- Deeds that came in: kind, pair. -/
def DRow (w : World) (v : Value) (xs : List (Int × Pr)) : Prop :=
  ((∃ p cap, v = .slice p 0 cap) ∧ xs = []) ∨ ∃ b off cap, v = .slice (some ⟨b, off, none⟩) xs.length cap ∧ b < w.heap.size ∧
    ∀ i y, xs[i]? = some y → w.cell? ⟨b, off + i * 3, none⟩ = some (.int .i64 y.1) ∧ w.cell? ⟨b, off + i * 3 + 1, none⟩ = some (.string y.2.1) ∧ w.cell? ⟨b, off + i * 3 + 2, none⟩ = some (.string y.2.2)
theorem DRow.below {w w' : World} {v : Value} {xs : List (Int × Pr)} (h : DRow w v xs) (k : Below w.heap.size w w') : DRow w' v xs := by
  rcases h with h | ⟨b, off, cap, rfl, hb, hc⟩
  · exact .inl h
  · exact .inr ⟨b, off, cap, rfl, by have := k.size; omega, fun i y hy => by
      obtain ⟨h1, h2, h3⟩ := hc i y hy
      exact ⟨(k.cell (p := ⟨b, _, none⟩) hb).trans h1, (k.cell (p := ⟨b, _, none⟩) hb).trans h2, (k.cell (p := ⟨b, _, none⟩) hb).trans h3⟩⟩
theorem DRow.form {w : World} {v : Value} {xs : List (Int × Pr)} (h : DRow w v xs) : ∃ a c, v = .slice a xs.length c := by
  rcases h with ⟨⟨a, c, rfl⟩, rfl⟩ | ⟨b, off, cap, rfl, _⟩
  · exact ⟨a, c, rfl⟩
  · exact ⟨_, cap, rfl⟩
theorem DRow.at {w : World} {a : Option Addr} {n c : Nat} {xs : List (Int × Pr)} (h : DRow w (.slice a n c) xs) {k : Nat} {y : Int × Pr} (hy : xs[k]? = some y) : ∃ b off, a = some ⟨b, off, none⟩ ∧ w.cell? ⟨b, off + k * 3, none⟩ = some (.int .i64 y.1) ∧ w.cell? ⟨b, off + k * 3 + 1, none⟩ = some (.string y.2.1) ∧ w.cell? ⟨b, off + k * 3 + 2, none⟩ = some (.string y.2.2) := by
  rcases h with ⟨_, rfl⟩ | ⟨b, off, cap, hv, _, hc⟩
  · simp at hy
  · simp only [Value.slice.injEq] at hv
    exact ⟨b, off, hv.1, hc k y hy⟩
theorem Two.keepB {W w w' : World} {B x r : Nat} (hB : B = W.heap.size) (hbx : B ≤ x) (hbr : B ≤ r) (hw : Below W.heap.size W w) (k : Keep (fun i => i = x ∨ i = r) w w') : Below W.heap.size W w' :=
  hw.trans (Keep.below k hw.size (fun i hi e => by rcases e with e | e <;> omega))
def PyPost (W : World) (e : Ending) (w' : World) : Prop := ∃ x r kv, e = .returned (.tuple #[.pointer (some ⟨x, 0, none⟩), .pointer (some ⟨r, 0, none⟩), .bool true]) ∧ Two w' W.heap.size x r kv ∧ kv.length ≤ 120 ∧ Below W.heap.size W w'
set_option maxHeartbeats 2000000 in
theorem play7 {W : World} {v : Value} {xs : List (Int × Pr)} (hv : DRow W v xs) : Calls Try.prog 7 #[v] W (PyPost W) := by
  obtain ⟨a, c, rfl⟩ := hv.form
  obtain ⟨N, hN⟩ : ∃ N, xs.length = N := ⟨_, rfl⟩
  have HN : Hid (xs.length = N) := hN
  have HV : Hid (DRow W (.slice a xs.length c) xs) := hv
  rw [hN]
  clear hN hv
  go_enter Try.func7, Try.ntmps7
  go_wp2_with (first
    | (go_at_call 21; (with_reducible refine (new21 _).mono ?_); rintro e w1 ⟨x, rfl, hx, T1, B1⟩; have HT1 : Hid (TT w1 x []) := T1; clear T1)
    | (go_at_call 22; (with_reducible refine (rnew22 _).mono ?_); rintro e w2 ⟨r, a0, c0, rfl, hr, R2, B2⟩; have HR2 : Hid (RI w2 r a0 c0 []) := R2; clear R2))
  have HT0 : Hid (Two w2 W.heap.size x r []) := ⟨HT1.out.below B2, ⟨a0, c0, HR2.out⟩, hx, Nat.le_trans B1.size hr⟩
  have HK0 : Hid (Below W.heap.size W w2) := bmore B1 B2
  have HXR : Hid (W.heap.size ≤ x ∧ W.heap.size ≤ r) := ⟨hx, Nat.le_trans B1.size hr⟩
  clear HT1 HR2 B1 B2 hx hr
  go_loopw [7] (fun fi wr => ∃ (k : Nat) (kv : List Pr), fi = .int .i64 (k : Int) ∧ Hid (k ≤ N ∧ k ≤ 120) ∧ Hid (Two wr W.heap.size x r kv ∧ kv.length ≤ k) ∧ Hid (Below W.heap.size W wr)) (fun fi _ => (120 - intOf fi).toNat)
  case atStart => exact ⟨0, [], rfl, ⟨Nat.zero_le _, by omega⟩, ⟨HT0.out, by simp⟩, HK0.out⟩
  case round =>
    obtain ⟨k, kv, rfl, hk, hT, hB⟩ := hrel
    by_cases hkN : k < N
    · by_cases hk100 : k < 120
      · have hkNi : (k : Int) < (N : Int) := by omega
        have hki : (k : Int) < 120 := by omega
        have hk0 : (0 : Int) ≤ (k : Int) := by omega
        have hw : wrap64 ((k : Int) + 1) = (k : Int) + 1 := IntWalk.wrap64_in _ (by omega)
        obtain ⟨y, hy⟩ : ∃ y, xs[k]? = some y := ⟨_, List.getElem?_eq_getElem (by rw [HN.out]; exact hkN)⟩
        obtain ⟨b, off, ha, d0, d1, d2⟩ := (DRow.below HV.out hB.out).at hy
        subst ha
        have k23 := do23 hT.out.1 (by have := hT.out.2; omega) y.1 y.2
        clear hy
        go_wp2_with (go_at_call 23; (with_reducible refine k23.mono ?_); rintro e w3 ⟨rfl, ⟨kv', T3, l3⟩, K3⟩)
        have HT3 : Hid (Two w3 W.heap.size x r kv') := T3
        have HB3 : Hid (Below W.heap.size W w3) := Two.keepB rfl HXR.out.1 HXR.out.2 hB.out K3
        clear T3 K3
        go_roundw
        case rel => exact ⟨k + 1, kv', by simp, ⟨by omega, by omega⟩, ⟨HT3.out, by have := hT.out.2; omega⟩, HB3.out⟩
        case measure => simp only [intOf]; omega
      · have hki : ¬ (k : Int) < 120 := by omega
        have hkNi : (k : Int) < (N : Int) := by omega
        go_wp2
        go_ret3
        exact ⟨x, r, kv, rfl, hT.out.1, Nat.le_trans hT.out.2 hk.out.2, hB.out⟩
    · have hkNi : ¬ (k : Int) < (N : Int) := by omega
      go_wp2
      go_ret3
      exact ⟨x, r, kv, rfl, hT.out.1, Nat.le_trans hT.out.2 hk.out.2, hB.out⟩
end Go.Proofs.Ytgimjjlkniplnaa
