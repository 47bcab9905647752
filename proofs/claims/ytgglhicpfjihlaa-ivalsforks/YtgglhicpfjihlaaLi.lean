/- live. -/
import Derived.Test.YtgglhicpfjihlaaSm
namespace Go.Proofs.Ytgglhicpfjihlaa
open Go.RowKit Go.Shelf
set_option maxRecDepth 100000

abbrev s1 : St := ⟨0, 5, 1⟩
abbrev s2 : St := ⟨3, 9, 2⟩
def t1 : T := T.ins .nil s1
def t2 : T := t1.ins s2
theorem t1_in : t1.inord = [s1] := rfl
theorem t2_in : t2.inord = [s1, s2] := by decide
theorem inv1 : Inv t1 := inv_nil.ins (by decide) (by simp [T.inord]) (by decide) (by decide)
theorem inv2 : Inv t2 := inv1.ins (by decide) (by rw [t1_in]; decide) (by decide) (by decide)
theorem has1 : T.has .nil s1 = false := rfl
theorem has2 : T.has t1 s2 = false := by decide
theorem stab4 : t2.inord.filter (met 4 4) = [s1, s2] := by rw [t2_in]; decide
theorem over5 : t2.inord.filter (met 5 5) = [s2] := by rw [t2_in]; decide

/-- A slice of numbers of one's own: its form, and its cells. -/
theorem owns_form {W : World} {base : Nat} {v : Value} {n : Nat} {xs : List Value} (h : W.ownsRow base 3 1 v n xs) (hn : 0 < n) : ∃ g c, v = .slice (some ⟨g, 0, none⟩) n c ∧ g < W.heap.size ∧ ∀ j u, xs[j]? = some u → W.cell? ⟨g, j, none⟩ = some u := by
  have hc := fun g hg => World.ownsRow.cells h (g := g) hg
  have hlt := World.ownsRow.lt h
  obtain ⟨_, ⟨_, h0⟩ | ⟨g, c, cur, rfl, _⟩⟩ := h
  · omega
  · refine ⟨g, c, rfl, (hlt g rfl).2, fun j u hu => ?_⟩
    have := hc g rfl j u hu
    rwa [Addr.add_mid, Nat.zero_add] at this

set_option maxHeartbeats 1000000 in
theorem live9 (W : World) : Calls Try.prog 9 #[] W fun e w' => e = .returned (.bool true) ∧ Below W.heap.size W w' := by
  have i0 : IV (W.alloc (.cells #[.pointer none, .int .i64 0] 58)) W.heap.size none .nil := ⟨blk_new W [.pointer none, .int .i64 0] 58, ⟨rfl⟩⟩
  have kA : Hid (Keep (fun k => k = W.heap.size) W (W.alloc (.cells #[.pointer none, .int .i64 0] 58))) := Keep.of (al _ _)
  have kAdd1 := add25_yes s1 (by decide) i0 has1 (by decide)
  have HAdd2 : Hid (∀ w q, IV w W.heap.size q t1 → Calls Try.prog 25 #[.pointer (some ⟨W.heap.size, 0, none⟩), .agg #[.int .i64 3, .int .i64 9], .int .i64 2] w fun e w' => e = .returned (.int .i64 0) ∧ (∃ q, IV w' W.heap.size q t2) ∧ Keep (fun k => k = W.heap.size) w w') := fun w q h => add25_yes s2 (by decide) h has2 (by decide)
  have HStab : Hid (∀ w q, IV w W.heap.size q t2 → Calls Try.prog 19 #[.pointer (some ⟨W.heap.size, 0, none⟩), .int .i64 4] w fun e w' => ∃ g c, e = .returned (.slice (some ⟨g, 0, none⟩) 2 c) ∧ Hid (∀ w2, Below w'.heap.size w' w2 → w2.cell? ⟨g, 0, none⟩ = some (.int .i64 1)) ∧ Below w.heap.size w w') := fun w q h => by
    refine (stab19 h inv2 4 (by decide)).mono ?_
    rintro e w' ⟨v, rfl, hv, B⟩
    rw [stab4] at hv
    obtain ⟨g, c, rfl, hg, hc⟩ := owns_form hv (by decide)
    exact ⟨g, c, rfl, fun w2 k => (k.cell (p := ⟨g, 0, none⟩) hg).trans (hc 0 _ rfl), B⟩
  have HOver : Hid (∀ w q, IV w W.heap.size q t2 → Calls Try.prog 20 #[.pointer (some ⟨W.heap.size, 0, none⟩), .agg #[.int .i64 5, .int .i64 6]] w fun e w' => ∃ g c, e = .returned (.slice (some ⟨g, 0, none⟩) 1 c) ∧ Hid (∀ w2, Below w'.heap.size w' w2 → w2.cell? ⟨g, 0, none⟩ = some (.int .i64 2)) ∧ Below w.heap.size w w') := fun w q h => by
    refine (over20_yes h inv2 5 6 (by decide) (by decide) (by decide)).mono ?_
    rintro e w' ⟨v, rfl, hv, B⟩
    rw [show (6 : Int) - 1 = 5 from rfl, over5] at hv
    obtain ⟨g, c, rfl, hg, hc⟩ := owns_form hv (by decide)
    exact ⟨g, c, rfl, fun w2 k => (k.cell (p := ⟨g, 0, none⟩) hg).trans (hc 0 _ rfl), B⟩
  have HLen : Hid (∀ w q, IV w W.heap.size q t2 → Calls Try.prog 16 #[.pointer (some ⟨W.heap.size, 0, none⟩)] w fun e w' => e = .returned (.int .i64 2) ∧ w = w') := fun w q h => len16 h
  have HSound : Hid (∀ w q, IV w W.heap.size q t2 → Calls Try.prog 14 #[.pointer (some ⟨W.heap.size, 0, none⟩)] w fun e w' => e = .returned (.bool true) ∧ Below w.heap.size w w') := fun w q h => sound14 h inv2
  have HRem : Hid (∀ w q, IV w W.heap.size q t2 → Calls Try.prog 26 #[.pointer (some ⟨W.heap.size, 0, none⟩), .agg #[.int .i64 0, .int .i64 5], .int .i64 1] w fun e w' => e = .returned (.bool true) ∧ Keep (fun k => k = W.heap.size) w w') := fun w q h => (remove26_yes s1 h inv2.so (by rw [t2_in]; simp) (by decide)).mono (by rintro e w' ⟨h1, _, h3⟩; exact ⟨h1, h3⟩)
  have HNo : Hid (∀ w, Calls Try.prog 25 #[.pointer (some ⟨W.heap.size, 0, none⟩), .agg #[.int .i64 3, .int .i64 3], .int .i64 4] w fun e w' => e = .returned (.int .i64 10) ∧ Below w.heap.size w w') := fun w => add25_no 3 3 4 (by decide)
  clear i0
  go_enter Try.func9, Try.ntmps9
  go_wp2_with (first
    | (go_at_call 11; (with_reducible refine (new11 _).mono ?_); rintro e w1 ⟨rfl, rfl⟩)
    | (go_at_call 25; (with_reducible refine kAdd1.mono ?_); clear kAdd1; rintro e w2 ⟨rfl, ⟨q1, I1⟩, K2⟩; have HI1 : Hid _ := I1; have HK2 : Hid _ := K2; clear I1 K2)
    | (go_at_call 25; (with_reducible refine (HAdd2.out _ _ HI1.out).mono ?_); rintro e w3 ⟨rfl, ⟨q2, I2⟩, K3⟩; have HI2 : Hid _ := I2; have HK3 : Hid _ := K3; clear I2 K3)
    | (go_at_call 19; (with_reducible refine (HStab.out _ _ HI2.out).mono ?_); rintro e w4 ⟨g4, c4, rfl, HL4, B4⟩; have HI4 : Hid _ := IV.below HI2.out B4)
    | (go_at_call 20; (with_reducible refine (HOver.out _ _ HI4.out).mono ?_); rintro e w5 ⟨g5, c5, rfl, HL5, B5⟩; have HI5 : Hid _ := IV.below HI4.out B5)
    | (go_at_call 25; (with_reducible refine (HNo.out _).mono ?_); rintro e w6 ⟨rfl, B6⟩; have HI6 : Hid _ := IV.below HI5.out B6; have x4 := HL4.out _ (bmore B5 B6); have x5 := HL5.out _ B6)
    | (go_at_call 16; (with_reducible refine (HLen.out _ _ HI6.out).mono ?_); rintro e w7 ⟨rfl, rfl⟩)
    | (go_at_call 14; (with_reducible refine (HSound.out _ _ HI6.out).mono ?_); rintro e w8 ⟨rfl, B8⟩; have HI8 : Hid _ := IV.below HI6.out B8)
    | (go_at_call 26; (with_reducible refine (HRem.out _ _ HI8.out).mono ?_); rintro e w9 ⟨rfl, K9⟩))
  go_ret
  refine ⟨rfl, ?_⟩
  have kk : Keep (fun k => k = W.heap.size) W w9 := (((kA.out.trans HK2.out (fun _ _ h => h)).trans HK3.out (fun _ _ h => h)).trans (Keep.of (F := fun k => k = W.heap.size) (bmore (bmore (bmore B4 B5) B6) B8)) (fun _ _ h => h)).trans K9 (fun _ _ h => h)
  exact kk.below (Nat.le_refl _) (fun i hi e => by omega)
end Go.Proofs.Ytgglhicpfjihlaa
