/- live. -/
import Derived.Test.YtgimjjlkniplnaaIo
namespace Go.Proofs.Ytgimjjlkniplnaa
open Go.RowKit Go.Shelf
set_option maxRecDepth 100000
abbrev cA : ByteArray := ⟨#[97]⟩
abbrev cB : ByteArray := ⟨#[98]⟩
abbrev c1 : ByteArray := ⟨#[49]⟩
abbrev c2 : ByteArray := ⟨#[50]⟩
abbrev c3 : ByteArray := ⟨#[51]⟩
abbrev kv3 : List Pr := [(cA, c2), (cB, c3)]
theorem lv1 : put [] (cB, c1) = [(cB, c1)] := by kernel_rfl
theorem lv2 : put [(cB, c1)] (cA, c2) = [(cA, c2), (cB, c1)] := by kernel_rfl
theorem lv3 : put [(cA, c2), (cB, c1)] (cB, c3) = kv3 := by kernel_rfl
theorem lv4 : rangeP kv3 ⟨#[]⟩ ⟨#[]⟩ 9 = kv3 := by kernel_rfl
theorem lv5 : getP kv3 cB = some c3 := by kernel_rfl
theorem lv6 : nextP kv3 cA = some (cB, c3) := by kernel_rfl
theorem lv7 : has kv3 cA = true := by kernel_rfl
theorem lv8 : del kv3 cA = [(cB, c3)] := by kernel_rfl
theorem lv9 : has [(cB, c3)] cA = false := by kernel_rfl
set_option maxHeartbeats 1000000 in
theorem live8 (W : World) : Calls Try.prog 8 #[] W fun e w' => e = .returned (.bool true) ∧ Below W.heap.size W w' := by
  have H21 : Hid (∀ w, Calls Try.prog 21 #[] w (NewPost w)) := new21
  have H1 : Hid (∀ w t, TT w t [] → Calls Try.prog 31 #[.pointer (some ⟨t, 0, none⟩), .string ⟨#[98]⟩, .string ⟨#[49]⟩] w fun e w' => e = .returned (.int .i64 0) ∧ Did w t [(cB, c1)] w') := fun w t h => by
    have := put31 h (cB, c1) (by decide) (by decide)
    rwa [lv1] at this
  have H2 : Hid (∀ w t, TT w t [(cB, c1)] → Calls Try.prog 31 #[.pointer (some ⟨t, 0, none⟩), .string ⟨#[97]⟩, .string ⟨#[50]⟩] w fun e w' => e = .returned (.int .i64 0) ∧ Did w t [(cA, c2), (cB, c1)] w') := fun w t h => by
    have := put31 h (cA, c2) (by decide) (by decide)
    rwa [lv2] at this
  have H3 : Hid (∀ w t, TT w t [(cA, c2), (cB, c1)] → Calls Try.prog 31 #[.pointer (some ⟨t, 0, none⟩), .string ⟨#[98]⟩, .string ⟨#[51]⟩] w fun e w' => e = .returned (.int .i64 0) ∧ Did w t kv3 w') := fun w t h => by
    have := put31 h (cB, c3) (by decide) (by decide)
    rwa [lv3] at this
  have H4 : Hid (∀ w t, TT w t kv3 → Calls Try.prog 17 #[.pointer (some ⟨t, 0, none⟩), .string ⟨#[]⟩, .string ⟨#[]⟩, .int .i64 9] w fun e w' => ∃ g o c, e = .returned (.slice (some ⟨g, o, none⟩) 2 c) ∧ Hid (∀ w2, Below w'.heap.size w' w2 → w2.cell? ⟨g, o, none⟩ = some (.string ⟨#[97]⟩)) ∧ Below w.heap.size w w') := fun w t h => by
    obtain ⟨hh, n, x, htp⟩ := h.tp
    refine (range17 htp ⟨#[]⟩ ⟨#[]⟩ 9).mono ?_
    rintro e w' ⟨v, rfl, hv, hB⟩
    rw [lv4] at hv
    obtain ⟨a, c, rfl⟩ := hv.form
    obtain ⟨g, o, rfl, d0, d1⟩ := EP.cell hv (i := 0) (x := (cA, c2)) rfl
    refine ⟨g, o, c, rfl, fun w2 k => ?_, hB⟩
    obtain ⟨g', o', hg, d0', _⟩ := EP.cell (hv.below k) (i := 0) (x := (cA, c2)) rfl
    cases hg
    simpa using d0'
  have H5 : Hid (∀ w t, TT w t kv3 → Calls Try.prog 10 #[.pointer (some ⟨t, 0, none⟩), .string ⟨#[98]⟩] w fun e w' => e = .returned (.tuple #[.string ⟨#[51]⟩, .bool true]) ∧ Below w.heap.size w w') := fun w t h => by
    have := get10 h cB
    unfold GetPost at this
    rwa [lv5] at this
  have H6 : Hid (∀ w t, TT w t kv3 → Calls Try.prog 12 #[.pointer (some ⟨t, 0, none⟩), .string ⟨#[97]⟩] w fun e w' => e = .returned (.tuple #[.agg #[.string ⟨#[98]⟩, .string ⟨#[51]⟩], .bool true]) ∧ Below w.heap.size w w') := fun w t h => by
    obtain ⟨hh, n, x, htp⟩ := h.tp
    have := next12 htp cA
    unfold FPost at this
    rwa [lv6] at this
  have H7 : Hid (∀ w t, TT w t kv3 → Calls Try.prog 26 #[.pointer (some ⟨t, 0, none⟩)] w fun e w' => e = .returned (.int .i64 2) ∧ Below w.heap.size w w') := fun w t h => len26 h
  have H8 : Hid (∀ w t, TT w t kv3 → Calls Try.prog 32 #[.pointer (some ⟨t, 0, none⟩), .string ⟨#[97]⟩] w fun e w' => e = .returned (.bool true) ∧ Did w t [(cB, c3)] w') := fun w t h => by
    have := delete32 h cA
    rw [lv7, lv8] at this
    exact this
  have H9 : Hid (∀ w t, TT w t [(cB, c3)] → Calls Try.prog 32 #[.pointer (some ⟨t, 0, none⟩), .string ⟨#[97]⟩] w fun e w' => e = .returned (.bool false) ∧ Did w t [(cB, c3)] w') := fun w t h => by
    have := delete32 h cA
    rw [lv9] at this
    exact this
  have H10 : Hid (∀ w t, TT w t [(cB, c3)] → Calls Try.prog 24 #[.pointer (some ⟨t, 0, none⟩)] w fun e w' => e = .returned (.bool true) ∧ Below w.heap.size w w') := fun w t h => sound24 h
  have H11 : Hid (∀ w t, TT w t [(cB, c3)] → Calls Try.prog 25 #[.pointer (some ⟨t, 0, none⟩)] w fun e w' => e = .returned (.int .i64 1) ∧ Below w.heap.size w w') := fun w t h => by
    refine (height25 h).mono ?_
    rintro e w' ⟨m, rfl, h1, h2, _, hB⟩
    have hm : m = 1 := by
      have h3 : m ≠ 0 := fun e => by have := h1.2 e; cases this
      have h4 := h2 (by simp)
      match m, h3 with
      | 1, _ => rfl
      | k + 2, _ =>
        simp only [List.length_cons, List.length_nil] at h4
        have : 2 ^ (k + 2 - 1) = 2 ^ k * 2 := by rw [show k + 2 - 1 = k + 1 by omega, Nat.pow_succ]
        have := Nat.two_pow_pos k
        omega
    subst hm
    exact ⟨rfl, hB⟩
  go_enter Try.func8, Try.ntmps8
  go_wp2_with (first
    | (go_at_call 21; (with_reducible refine (H21.out _).mono ?_); rintro e w0 ⟨t, rfl, ht0, T0, B0⟩; have HT0 : Hid (TT w0 t []) := T0; have K0 : Hid (Keep (fun b => b = t) W w0) := Keep.of B0; clear T0)
    | (go_at_call 31; (with_reducible refine (H1.out _ _ HT0.out).mono ?_); rintro e w1 ⟨rfl, D1⟩; have HT1 : Hid (TT w1 t [(cB, c1)]) := D1.1; have K1 : Hid (Keep (fun b => b = t) W w1) := K0.out.trans D1.2 (fun _ _ h => h); clear D1 HT0 H1)
    | (go_at_call 31; (with_reducible refine (H2.out _ _ HT1.out).mono ?_); rintro e w2 ⟨rfl, D2⟩; have HT2 : Hid (TT w2 t [(cA, c2), (cB, c1)]) := D2.1; have K2 : Hid (Keep (fun b => b = t) W w2) := K1.out.trans D2.2 (fun _ _ h => h); clear D2 HT1 H2)
    | (go_at_call 31; (with_reducible refine (H3.out _ _ HT2.out).mono ?_); rintro e w3 ⟨rfl, D3⟩; have HT3 : Hid (TT w3 t kv3) := D3.1; have K3 : Hid (Keep (fun b => b = t) W w3) := K2.out.trans D3.2 (fun _ _ h => h); clear D3 HT2 H3)
    | (go_at_call 17; (with_reducible refine (H4.out _ _ HT3.out).mono ?_); rintro e w4 ⟨g, o, c, rfl, HL, B4⟩)
    | (go_at_call 10; (with_reducible refine (H5.out _ _ (HT3.out.below B4)).mono ?_); rintro e w5 ⟨rfl, B5⟩; have F5 := bmore B4 B5; have L5 := B5)
    | (go_at_call 12; (with_reducible refine (H6.out _ _ (HT3.out.below F5)).mono ?_); rintro e w6 ⟨rfl, B6⟩; have F6 := bmore F5 (bmore B6 (al _ (.cells #[.string ⟨#[98]⟩, .string ⟨#[51]⟩] 33))); have x4 := HL.out _ (bmore B5 (bmore B6 (al _ (.cells #[.string ⟨#[98]⟩, .string ⟨#[51]⟩] 33)))))
    | (go_at_call 26; (with_reducible refine (H7.out _ _ (HT3.out.below F6)).mono ?_); rintro e w7 ⟨rfl, B7⟩; have F7 := bmore F6 B7)
    | (go_at_call 32; (with_reducible refine (H8.out _ _ (HT3.out.below F7)).mono ?_); rintro e w8 ⟨rfl, D8⟩; have HT8 : Hid (TT w8 t [(cB, c3)]) := D8.1; have K8 : Hid (Keep (fun b => b = t) W w8) := (K3.out.trans (Keep.of (F := fun b => b = t) F7) (fun _ _ h => h)).trans D8.2 (fun _ _ h => h); clear D8 H8)
    | (go_at_call 32; (with_reducible refine (H9.out _ _ HT8.out).mono ?_); rintro e w9 ⟨rfl, D9⟩; have HT9 : Hid (TT w9 t [(cB, c3)]) := D9.1; have K9 : Hid (Keep (fun b => b = t) W w9) := K8.out.trans D9.2 (fun _ _ h => h); clear D9)
    | (go_at_call 24; (with_reducible refine (H10.out _ _ HT9.out).mono ?_); rintro e w10 ⟨rfl, B10⟩)
    | (go_at_call 25; (with_reducible refine (H11.out _ _ (HT9.out.below B10)).mono ?_); rintro e w11 ⟨rfl, B11⟩))
  go_ret
  exact ⟨rfl, Keep.below (K9.out.trans (Keep.of (F := fun b => b = t) (bmore B10 B11)) (fun _ _ h => h)) (Nat.le_refl _) (fun i hi e => by omega)⟩
end Go.Proofs.Ytgimjjlkniplnaa
