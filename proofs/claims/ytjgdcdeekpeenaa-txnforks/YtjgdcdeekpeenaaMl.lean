/- Oldest, live. -/
import Derived.Test.YtjgdcdeekpeenaaMc
namespace Go.Proofs.Ytjgdcdeekpeenaa
open Go.RowKit Go.Shelf
set_option maxRecDepth 100000
/-- The least instant since which one of the first n is open. -/
def oldN (M : Mg) : Nat → Int × Bool
  | 0 => (0, false)
  | n + 1 => match M.op n with
    | none => oldN M n
    | some s => if (oldN M n).2 = false ∨ s.since < (oldN M n).1 then (s.since, true) else oldN M n
set_option maxHeartbeats 1000000 in
theorem oldest24 {w : World} {B : Nat} {a : At} {M : Mg} (h : MM w B a M) : Calls Try.prog 24 #[.pointer (some ⟨a.m, 0, none⟩)] w fun e w' => e = .returned (.tuple #[.int .i64 (oldN M 4).1, .bool (oldN M 4).2]) ∧ Below w.heap.size w w' := by
  have HM : Hid (∀ W, Below w.heap.size w W → MM W B a M) := fun W q => h.below q
  clear h
  go_enter Try.func24, Try.ntmps24
  go_wp2_with fail
  go_loopw [4, 5, 9] (fun f4 f5 f9 wr => ∃ k : Nat, f4 = .int .i64 (oldN M k).1 ∧ f5 = .bool (oldN M k).2 ∧ f9 = .int .i64 (k : Int) ∧ Hid (k ≤ 4) ∧ Hid (Below w.heap.size w wr)) (fun _ _ f9 _ => ((4 : Int) - intOf f9).toNat)
  case atStart => exact ⟨0, rfl, rfl, rfl, by show _ ≤ _; omega, Below.refl _ _⟩
  case round =>
    obtain ⟨k, rfl, rfl, rfl, hk, hB⟩ := hrel
    by_cases hk4 : k < 4
    · have b1 : (k : Int) < 4 := by omega
      cases hs : M.op k with
      | none =>
        have k23 := since23_no (HM.out _ hB.out) (k : Int) (by rw [err_none hk4 hs]; decide)
        have HE : Hid (oldN M (k + 1) = oldN M k) := by show _ = _; simp [oldN, hs]
        clear hs
        go_wp2_with (go_at_call 23; (with_reducible refine k23.mono ?_); rintro e w1 ⟨rfl, hB1⟩)
        go_roundw
        case rel => exact ⟨k + 1, by rw [HE.out], by rw [HE.out], by simp, by show _ ≤ _; omega, bmore hB.out hB1⟩
        case measure => simp only [intOf]; omega
      | some s =>
        have k23 := since23_yes (HM.out _ hB.out) hk4 hs
        by_cases hc : (oldN M k).2 = false ∨ s.since < (oldN M k).1
        · have HE : Hid (oldN M (k + 1) = (s.since, true)) := by show _ = _; simp only [oldN, hs, if_pos hc]
          clear hs
          obtain ⟨p, hp⟩ : ∃ p, (oldN M k).1 = p := ⟨_, rfl⟩
          rw [hp] at hc ⊢
          cases hq : (oldN M k).2
          · go_wp2_with (go_at_call 23; (with_reducible refine k23.mono ?_); rintro e w1 ⟨rfl, hB1⟩)
            go_roundw
            case rel => exact ⟨k + 1, by rw [HE.out], by rw [HE.out], by simp, by show _ ≤ _; omega, bmore hB.out hB1⟩
            case measure => simp only [intOf]; omega
          · rw [hq] at hc
            have hc' : s.since < p := by rcases hc with h | h; cases h; exact h
            have hd : decide (s.since < p) = true := decide_eq_true hc'
            go_wp2_with (go_at_call 23; (with_reducible refine k23.mono ?_); rintro e w1 ⟨rfl, hB1⟩)
            go_roundw
            case rel => exact ⟨k + 1, by rw [HE.out], by rw [HE.out], by simp, by show _ ≤ _; omega, bmore hB.out hB1⟩
            case measure => simp only [intOf]; omega
        · have HE : Hid (oldN M (k + 1) = oldN M k) := by show _ = _; simp only [oldN, hs, if_neg hc]
          clear hs
          obtain ⟨p, hp⟩ : ∃ p, (oldN M k).1 = p := ⟨_, rfl⟩
          have HP : Hid ((oldN M k).1 = p) := hp
          rw [hp] at hc ⊢
          clear hp
          cases hq : (oldN M k).2
          · exact absurd (.inl hq) hc
          · have hc' : ¬ s.since < p := fun h => hc (.inr h)
            have hd : decide (s.since < p) = false := decide_eq_false hc'
            have HQ : Hid ((oldN M k).2 = true) := hq
            clear hq hc
            go_wp2_with (go_at_call 23; (with_reducible refine k23.mono ?_); rintro e w1 ⟨rfl, hB1⟩)
            go_roundw
            case rel => exact ⟨k + 1, by rw [HE.out, HP.out], by rw [HE.out, HQ.out], by simp, by show _ ≤ _; omega, bmore hB.out hB1⟩
            case measure => simp only [intOf]; omega
    · have b1 : ¬ (k : Int) < 4 := by omega
      have hk' : k = 4 := by have := hk.out; omega
      subst hk'
      go_wp2_with fail
      exact bodyPost_ret (v := .tuple #[.int .i64 (oldN M 4).1, .bool (oldN M 4).2]) (by simp [results, Try.results24, go_sem]) rfl ⟨rfl, hB.out⟩
end Go.Proofs.Ytjgdcdeekpeenaa
