/- span.Count: how many points all have. -/
import Derived.Test.YtgkkknjkgpdcjaaMinus
namespace Go.Proofs.Ytgkkknjkgpdcjaa
open Go.RowKit

/-- Join's answer, its slice written out -/
theorem join24_form (v : Value) (xs : List (Int × Int)) (w : World) (hl : xs.length ≤ 100000) (h : SRow w v xs) :
    Calls Try.prog 24 #[v] w fun e w' => ∃ p cap n ys, e = .returned (.slice p n cap) ∧ n ≤ 100000 ∧ Hid (n = ys.length ∧ Canon ys ∧ (∀ p, Pt ys p ↔ Has xs p) ∧
      ∀ i, (hi : i < ys.length) → ∃ b off, p = some ⟨b, off, none⟩ ∧ b < w'.heap.size ∧ w'.cell? ⟨b, off + i * 2, none⟩ = some (.int .i64 ys[i].1) ∧ w'.cell? ⟨b, off + i * 2 + 1, none⟩ = some (.int .i64 ys[i].2)) ∧ Below w.heap.size w w' := by
  refine (join24 v xs w hl h).mono ?_
  rintro e w1 ⟨v1, ys, rfl, hc, hp, hlen, ho, hb1⟩
  obtain ⟨p, cap, rfl, hf⟩ := ho.srow.form
  exact ⟨p, cap, _, ys, rfl, by omega, ⟨rfl, hc, hp, hf⟩, hb1⟩

/-- how long all are -/
def lenL : List (Int × Int) → Int
  | [] => 0
  | y :: r => (y.2 - y.1) + lenL r
theorem lenL_append (xs ys : List (Int × Int)) : lenL (xs ++ ys) = lenL xs + lenL ys := by
  induction xs with
  | nil => simp [lenL]
  | cons x r ih => simp only [List.cons_append, lenL, ih]; omega
theorem lenL_take (ys : List (Int × Int)) (k : Nat) (h : k < ys.length) : lenL (ys.take (k + 1)) = lenL (ys.take k) + (ys[k].2 - ys[k].1) := by
  rw [List.take_succ_eq_append_getElem h, lenL_append]; simp [lenL]
theorem lenL_bd (ys : List (Int × Int)) (h : ∀ x, x ∈ ys → rightB x.1 x.2 = true) (k : Nat) : 0 ≤ lenL (ys.take k) ∧ lenL (ys.take k) ≤ 2000 * k := by
  induction k with
  | zero => simp [lenL]
  | succ k ih =>
    by_cases hk : k < ys.length
    · have r := (rightB_iff _ _).1 (h _ (List.getElem_mem hk))
      rw [lenL_take _ _ hk]; omega
    · rw [List.take_of_length_le (by omega)] at ih ⊢; omega

theorem ret_int {k : IntKind} {a b : Int} (h : a = b) : Ending.returned (.int k a) = .returned (.int k b) := by rw [h]

set_option maxHeartbeats 1000000 in
theorem count30 (v : Value) (xs : List (Int × Int)) (w : World) (hl : xs.length ≤ 100000) (h : SRow w v xs) :
    Calls Try.prog 30 #[v] w fun e w' => ∃ ys, e = .returned (.int .i64 (lenL ys)) ∧ Canon ys ∧ (∀ p, Pt ys p ↔ Has xs p) ∧ Below w.heap.size w w' := by
  have hjoin := join24_form v xs w hl h
  clear h
  go_enter Try.func30, Try.ntmps30
  go_wp2_with (go_at_call 24; refine hjoin.mono ?_; rintro e w1 ⟨p, cap, n, ys, rfl, hn, HR, hb1⟩)
  clear hjoin
  go_loopw [3, 10] (fun c i wr => ∃ k : Nat, k ≤ n ∧ i = .int .i64 k ∧ c = .int .i64 (lenL (ys.take k)) ∧ ∃ q, wr = w1.drewN q) (fun _ i _ => n - (intOf i).toNat)
  case atStart => exact ⟨0, Nat.zero_le _, rfl, by simp [lenL], 0, rfl⟩
  case round =>
    obtain ⟨k, hk, rfl, rfl, q, rfl⟩ := hrel
    obtain ⟨hny, hcan, hpt, hf⟩ := HR.out
    have hbd := lenL_bd ys hcan.1 k
    by_cases hlt : k < n
    · have hky : k < ys.length := by omega
      obtain ⟨b, off, hpe, hbl, c1, c2⟩ := hf k hky
      subst hpe
      have r := (rightB_iff _ _).1 (hcan.1 _ (List.getElem_mem hky))
      have HT : Hid (lenL (ys.take (k + 1)) = lenL (ys.take k) + (ys[k].2 - ys[k].1)) := lenL_take ys k hky
      obtain ⟨y1, hy1⟩ : ∃ y, ys[k].1 = y := ⟨_, rfl⟩
      obtain ⟨y2, hy2⟩ : ∃ y, ys[k].2 = y := ⟨_, rfl⟩
      rw [hy1] at c1 r HT
      rw [hy2] at c2 r HT
      obtain ⟨r1, r2, r3⟩ := r
      obtain ⟨s, hs⟩ : ∃ s, lenL (ys.take k) = s := ⟨_, rfl⟩
      rw [hs] at hbd HT ⊢
      obtain ⟨b1, b2⟩ := hbd
      clear hs hf hpt hcan hny hy1 hy2 HR
      go_wp2_with fail
      go_quiet (fail)
      go_wp2
      go_roundw
      case rel => exact ⟨k + 1, by omega, by go_num, by rw [HT.out], _, rfl⟩
      case measure => simp [intOf]; omega
    · have hkn : ys.take k = ys := List.take_of_length_le (by omega)
      clear hf hny HR
      rw [hkn] at hbd ⊢
      go_wp2
      go_ret
      exact ⟨ys, rfl, hcan, hpt, below_drewN hb1 _⟩

end Go.Proofs.Ytgkkknjkgpdcjaa
