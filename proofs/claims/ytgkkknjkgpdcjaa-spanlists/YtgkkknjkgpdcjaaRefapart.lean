/- The reference's Apart. -/
import Derived.Test.YtgkkknjkgpdcjaaApart
namespace Go.Proofs.Ytgkkknjkgpdcjaa
open Go.RowKit

set_option maxHeartbeats 1000000 in
theorem apart33 (v : Value) (xs : List (Int × Int)) (w : World) (hl : xs.length ≤ 100000) (h : SRow w v xs) :
    Calls Try.prog 33 #[v] w fun e w' => ∃ r, e = .returned (.bool r) ∧ (r = true ↔ Apart xs) ∧ Below w.heap.size w w' := by
  obtain ⟨p, cap, rfl, hf⟩ := h.form
  obtain ⟨n, hn⟩ : ∃ n, xs.length = n := ⟨_, rfl⟩
  have HN := hidA hn
  have HF := hidA hf
  rw [hn] at hl ⊢
  clear h hn hf
  go_enter Try.func33, Try.ntmps33
  go_wp2
  go_loopw [3] (fun i wr => ∃ k : Nat, k ≤ n ∧ i = .int .i64 k ∧ (∀ a b, (hb : b < xs.length) → (hab : a < b) → b < k → Loose xs[b] xs[a]) ∧ Below w.heap.size w wr) (fun i _ => n - (intOf i).toNat)
  case atStart => exact ⟨0, Nat.zero_le _, rfl, fun a b _ _ h => absurd h (by omega), Below.refl _ _⟩
  case round =>
    obtain ⟨k, hk, rfl, hj0, hnx⟩ := hrel
    have HJ := hidA hj0
    clear hj0
    by_cases hlt : k < n
    · go_wp2_with fail
      go_loopw [4] (fun i wi => ∃ m : Nat, m ≤ k ∧ i = .int .i64 m ∧ (∀ a, (hb : k < xs.length) → (hab : a < k) → a < m → Loose xs[k] xs[a]) ∧ Below w.heap.size w wi) (fun i _ => k - (intOf i).toNat)
      case atStart => exact ⟨0, Nat.zero_le _, rfl, fun a _ _ h => absurd h (by omega), hnx⟩
      case round =>
        clear hnx
        obtain ⟨m, hm, rfl, hi0, hnx⟩ := hrel
        have HI := hidA hi0
        clear hi0
        have hsz := hnx.size
        by_cases hmk : m < k
        · have hkl : k < xs.length := by rw [HN.out]; exact hlt
          obtain ⟨bb, off, hpe, hbl, d1, d2⟩ := HF.out k hkl
          obtain ⟨bb', off', hpe', _, d3, d4⟩ := HF.out m (by omega)
          subst hpe
          cases hpe'
          have HNEXT : Hid (Loose xs[k] xs[m] → ∀ a, (hb : k < xs.length) → (hab : a < k) → a < m + 1 → Loose xs[k] xs[a]) := fun hl a hb hab ham => by
            rcases (show a = m ∨ a < m by omega) with rfl | h2
            · exact hl
            · exact HI.out a hb hab h2
          have HNO : Hid (¬ Loose xs[k] xs[m] → ¬ Apart xs) := fun hl ha => hl (apart_get ha m k (by omega) hkl hmk).swap
          unfold Loose at HNEXT HNO
          obtain ⟨y1, hy1⟩ : ∃ y, xs[k].1 = y := ⟨_, rfl⟩
          obtain ⟨y2, hy2⟩ : ∃ y, xs[k].2 = y := ⟨_, rfl⟩
          obtain ⟨y3, hy3⟩ : ∃ y, xs[m].1 = y := ⟨_, rfl⟩
          obtain ⟨y4, hy4⟩ : ∃ y, xs[m].2 = y := ⟨_, rfl⟩
          have hyy : bothB xs[k].1 xs[k].2 xs[m].1 xs[m].2 = bothB y1 y2 y3 y4 := by rw [hy1, hy2, hy3, hy4]
          rw [hyy] at HNEXT HNO
          rw [hy1] at d1
          rw [hy2] at d2
          rw [hy3] at d3
          rw [hy4] at d4
          have hk' : SA w bb (off + k * 2) (off + m * 2) y1 y2 y3 y4 wr.drew := ⟨⟨(bc hnx _ _ hbl).trans d1, (bc hnx _ _ hbl).trans d2, (bc hnx _ _ hbl).trans d3, (bc hnx _ _ hbl).trans d4⟩, Nat.lt_of_lt_of_le hbl hsz, hsz, hnx.drew⟩
          have hlt' : (k : Int) < n := by omega
          have hq1 : (m : Int) < n := by omega
          have hq2 : m < n := by omega
          have hq3 : (0 : Int) ≤ (k : Int) := by omega
          have hq4 : (0 : Int) ≤ (m : Int) := by omega
          clear d1 d2 d3 d4 hy1 hy2 hy3 hy4 hyy hnx HI HF HN
          cases hbo : bothB y1 y2 y3 y4
          · have HN2 := hidA (HNEXT.out hbo)
            have Q := hidA (fun W (h : SA w bb (off + k * 2) (off + m * 2) y1 y2 y3 y4 W) => kA17 hbo W h)
            clear HNEXT HNO
            go_wp2_with fail
            go_region_held3 (fun w' => w'.cell? ⟨bb, off + k * 2, none⟩ = some (.int .i64 y1) ∧ w'.cell? ⟨bb, off + k * 2 + 1, none⟩ = some (.int .i64 y2) ∧ w'.cell? ⟨bb, off + m * 2, none⟩ = some (.int .i64 y3) ∧ w'.cell? ⟨bb, off + m * 2 + 1, none⟩ = some (.int .i64 y4)) (exact hk'.1)
              (first
              | (go_at_call 17; refine (Q.out _ hk').mono ?_; rintro e wk ⟨rfl, hk'⟩))
            go_wp2
            go_roundw
            case rel => exact ⟨m + 1, by omega, by go_num, HN2.out, hk'.2.2.2⟩
            case measure => simp [intOf]; omega
          · have HN2 := hidA (HNO.out (by rw [hbo]; simp))
            have Q := hidA (fun W (h : SA w bb (off + k * 2) (off + m * 2) y1 y2 y3 y4 W) => kA17 hbo W h)
            clear HNEXT HNO
            go_wp2_with fail
            go_region_held3 (fun w' => w'.cell? ⟨bb, off + k * 2, none⟩ = some (.int .i64 y1) ∧ w'.cell? ⟨bb, off + k * 2 + 1, none⟩ = some (.int .i64 y2) ∧ w'.cell? ⟨bb, off + m * 2, none⟩ = some (.int .i64 y3) ∧ w'.cell? ⟨bb, off + m * 2 + 1, none⟩ = some (.int .i64 y4)) (exact hk'.1)
              (first
              | (go_at_call 17; refine (Q.out _ hk').mono ?_; rintro e wk ⟨rfl, hk'⟩))
            go_wp2
            go_ret
            exact ⟨false, rfl, by simpa using HN2.out, hk'.2.2.2⟩
        · have HN2 : Hid (∀ a b, (hb : b < xs.length) → (hab : a < b) → b < k + 1 → Loose xs[b] xs[a]) := fun a b hb hab hbk => by
            rcases (show b = k ∨ b < k by omega) with rfl | h2
            · exact HI.out a hb hab (by omega)
            · exact HJ.out a b hb hab h2
          clear HI HJ HF HN
          go_wp2
          go_roundw
          case rel => exact ⟨k + 1, by omega, by go_num, HN2.out, hnx⟩
          case measure => simp [intOf]; omega
    · have HA : Hid (Apart xs) := by
        unfold Hid Apart
        rw [List.pairwise_iff_getElem]
        intro a b ha hb hab
        exact (HJ.out a b hb hab (by have := HN.out; omega)).swap
      clear HF HN HJ
      go_wp2
      go_ret
      exact ⟨true, rfl, by simpa using HA.out, hnx⟩

end Go.Proofs.Ytgkkknjkgpdcjaa
