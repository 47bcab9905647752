/- few, and the reference's Same at like lists. -/
import Derived.Test.YtgkkknjkgpdcjaaLive
namespace Go.Proofs.Ytgkkknjkgpdcjaa
open Go.RowKit

theorem bc {B : Nat} {w w' : World} (h : Below B w w') (g k : Nat) (hg : g < B) : w'.cell? ⟨g, k, none⟩ = w.cell? ⟨g, k, none⟩ := h.cell (p := ⟨g, k, none⟩) hg

set_option maxHeartbeats 400000 in
theorem few20 (v : Value) (xs : List (Int × Int)) (w : World) (h : SRow w v xs) (hm : xs.length ≤ maxLen) :
    Calls Try.prog 20 #[v] w fun e w' => ∃ v', e = .returned v' ∧ SRow w v' (xs.take 30) ∧ w' = w := by
  unfold maxLen at hm
  rcases h with ⟨⟨p, cap, rfl⟩, rfl⟩ | ⟨b, off, cap, rfl, h1, h2, h3, h4⟩
  · go_enter Try.func20, Try.ntmps20
    go_wp2
    go_ret
    exact ⟨_, rfl, .inl ⟨⟨p, cap, rfl⟩, rfl⟩, rfl⟩
  · by_cases hl : 30 < xs.length
    · have hs : SRow w (.slice (some ⟨b, off, none⟩) 30 cap) (xs.take 30) := .inr ⟨b, off, cap, by simp; omega, by simp; omega, h2, h3, fun i hi => by
        have hi' : i < xs.length := by simp at hi; omega
        have := h4 i hi'
        simpa using this⟩
      have hcap : 30 ≤ cap := by omega
      clear h4
      go_enter Try.func20, Try.ntmps20
      go_wp2
      go_ret
      exact ⟨_, rfl, hs, rfl⟩
    · have hs : SRow w (.slice (some ⟨b, off, none⟩) xs.length cap) (xs.take 30) := by
        rw [List.take_of_length_le (by omega)]
        exact .inr ⟨b, off, cap, rfl, h1, h2, h3, h4⟩
      clear h4
      go_enter Try.func20, Try.ntmps20
      go_wp2
      go_ret
      exact ⟨_, rfl, hs, rfl⟩

set_option maxHeartbeats 1000000 in
theorem same21 (v u : Value) (xs : List (Int × Int)) (w : World) (hl : xs.length ≤ 100000) (hv : SRow w v xs) (hu : SRow w u xs) :
    Calls Try.prog 21 #[v, u] w fun e w' => e = .returned (.bool true) ∧ ∃ q, w' = w.drewN q := by
  obtain ⟨p1, cap1, rfl, hf1⟩ := hv.form
  obtain ⟨p2, cap2, rfl, hf2⟩ := hu.form
  clear hv hu
  obtain ⟨n, hn⟩ : ∃ n, xs.length = n := ⟨_, rfl⟩
  have HN : Hid (xs.length = n) := hn
  have H1 : Hid (∀ i, (hi : i < xs.length) → ∃ b off, p1 = some ⟨b, off, none⟩ ∧ b < w.heap.size ∧ w.cell? ⟨b, off + i * 2, none⟩ = some (.int .i64 xs[i].1) ∧ w.cell? ⟨b, off + i * 2 + 1, none⟩ = some (.int .i64 xs[i].2)) := hf1
  have H2 : Hid (∀ i, (hi : i < xs.length) → ∃ b off, p2 = some ⟨b, off, none⟩ ∧ b < w.heap.size ∧ w.cell? ⟨b, off + i * 2, none⟩ = some (.int .i64 xs[i].1) ∧ w.cell? ⟨b, off + i * 2 + 1, none⟩ = some (.int .i64 xs[i].2)) := hf2
  rw [hn] at hl ⊢
  clear hn hf1 hf2
  go_enter Try.func21, Try.ntmps21
  go_wp2
  go_loopw [5] (fun i wr => ∃ k : Nat, k ≤ n ∧ i = .int .i64 k ∧ ∃ q, wr = w.drewN q) (fun i _ => n - (intOf i).toNat)
  case atStart => exact ⟨0, Nat.zero_le _, rfl, 0, rfl⟩
  case round =>
    obtain ⟨k, hk, rfl, q, rfl⟩ := hrel
    by_cases hlt : k < n
    · have hkx : k < xs.length := by rw [HN.out]; exact hlt
      obtain ⟨b1, o1, e1, hb1, c1, c2⟩ := H1.out k hkx
      obtain ⟨b2, o2, e2, hb2, c3, c4⟩ := H2.out k hkx
      subst e1 e2
      obtain ⟨y1, hy1⟩ : ∃ y, xs[k].1 = y := ⟨_, rfl⟩
      obtain ⟨y2, hy2⟩ : ∃ y, xs[k].2 = y := ⟨_, rfl⟩
      rw [hy1] at c1 c3
      rw [hy2] at c2 c4
      clear hy1 hy2 H1 H2
      go_wp2_with fail
      go_quiet (fail)
      go_wp2
      go_roundw
      case rel => exact ⟨k + 1, by omega, by go_num, _, rfl⟩
      case measure => simp [intOf]; omega
    · go_wp2
      go_ret
      exact ⟨rfl, q, rfl⟩

end Go.Proofs.Ytgkkknjkgpdcjaa
