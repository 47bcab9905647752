/- Height, Over, Fork; how high a tree may be; the document's New and before. -/
import Derived.Test.YtgglhicpfjihlaaRe
namespace Go.Proofs.Ytgglhicpfjihlaa
open Go.RowKit Go.Shelf
set_option maxRecDepth 100000

theorem owns_mono {W : World} {a b : Nat} {v : Value} {n : Nat} {xs : List Value} (h : W.ownsRow a 3 1 v n xs) (hb : b ≤ a) : W.ownsRow b 3 1 v n xs := by
  obtain ⟨hl, h | ⟨g, cap, cur, rfl, hg, r⟩⟩ := h
  · exact ⟨hl, .inl h⟩
  · exact ⟨hl, .inr ⟨g, cap, cur, rfl, Nat.le_trans hb hg, r⟩⟩
theorem height15 {W : World} {x : Nat} {p : Option Addr} {t : T} (h : IV W x p t) : Calls Try.prog 15 #[.pointer (some ⟨x, 0, none⟩)] W fun e w' => e = .returned (.int .i64 (t.ht : Int)) ∧ W = w' := by
  have k1 := root37 h.blk
  have k2 := tall38 (W := W) h.ts.tr
  clear h
  go_enter Try.func15, Try.ntmps15
  go_wp2_with (first
    | (go_at_call 37; (with_reducible refine k1.mono ?_); rintro e w1 ⟨rfl, rfl⟩)
    | (go_at_call 38; (with_reducible refine k2.mono ?_); rintro e w2 ⟨rfl, rfl⟩))
  go_ret
  exact ⟨rfl, rfl⟩

theorem over20_no {W : World} {x : Nat} (f t : Int) (h : f ≥ t) : Calls Try.prog 20 #[.pointer (some ⟨x, 0, none⟩), .agg #[.int .i64 f, .int .i64 t]] W fun e w' => e = .returned (.slice none 0 0) ∧ Below W.heap.size W w' := by
  have hA := al W (.cells #[.int .i64 f, .int .i64 t] 24)
  go_enter Try.func20, Try.ntmps20
  go_wp2
  go_ret
  exact ⟨rfl, hA⟩
set_option maxHeartbeats 400000 in
theorem over20_yes {W : World} {x : Nat} {p : Option Addr} {t : T} (h : IV W x p t) (hi : Inv t) (f to : Int) (hf : least ≤ f) (hft : f < to) (hto : to ≤ most) : Calls Try.prog 20 #[.pointer (some ⟨x, 0, none⟩), .agg #[.int .i64 f, .int .i64 to]] W fun e w' => ∃ v, e = .returned v ∧ w'.ownsRow W.heap.size 3 1 v (t.inord.filter (met f (to - 1))).length (ids (t.inord.filter (met f (to - 1)))) ∧ Below W.heap.size W w' := by
  have hA := al W (.cells #[.int .i64 f, .int .i64 to] 24)
  have hge : ¬ (f ≥ to) := by omega
  have e1 := meets_eq t f (to - 1) hi.so
  have hl : (t.meets f (to - 1)).length ≤ 100000 := by
    rw [e1]
    have := List.length_filter_le (met f (to - 1)) t.inord
    have := hi.sz
    rw [T.inord_length] at *
    omega
  have hw : wrap64 (to - 1) = to - 1 := IntWalk.wrap64_in _ (by unfold least most at *; omega)
  have h2 := h.below hA
  have b0 := blk_new W [.int .i64 f, .int .i64 to] 24
  change Blk (W.alloc (.cells #[.int .i64 f, .int .i64 to] 24)) _ _ _ at b0
  have s1 : W.heap.size ≤ (W.alloc (.cells #[.int .i64 f, .int .i64 to] 24)).heap.size := hA.size
  have k1 := numbers39 (n := (t.size : Int)) (f := f) (l := to - 1) h2.blk h2.ts hf hl
  rw [e1] at k1
  have HA : Hid _ := hA
  have HS : Hid _ := s1
  clear h hi e1 hl h2 hA s1
  go_enter Try.func20, Try.ntmps20
  go_wp2_with fail
  generalize W.alloc (.cells #[.int .i64 f, .int .i64 to] 24) = W2 at *
  have c0 := b0.cell 0
  have c1 := b0.cell 1
  simp only [List.getElem?_cons_zero, List.getElem?_cons_succ] at c0 c1
  go_wp2_with (go_at_call 39; (with_reducible refine k1.mono ?_); rintro e w1 ⟨v, rfl, hv, B1⟩)
  go_ret
  exact ⟨v, rfl, owns_mono hv HS.out, bmore HA.out B1⟩

theorem fork21 {W : World} {x : Nat} {p : Option Addr} {t : T} (h : IV W x p t) : Calls Try.prog 21 #[.pointer (some ⟨x, 0, none⟩)] W fun e w' => ∃ y, e = .returned (.pointer (some ⟨y, 0, none⟩)) ∧ W.heap.size ≤ y ∧ IV w' y p t ∧ Below W.heap.size W w' := by
  have c0 := h.blk.cell 0
  have c1 := h.blk.cell 1
  simp only [List.getElem?_cons_zero, List.getElem?_cons_succ] at c0 c1
  have hA := al W (.cells #[.pointer p, .int .i64 (t.size : Int)] 58)
  have b0 := blk_new W [.pointer p, .int .i64 (t.size : Int)] 58
  have t2 := h.ts.below hA
  clear h
  go_enter Try.func21, Try.ntmps21
  go_wp2
  go_ret
  exact ⟨_, rfl, Nat.le_refl _, ⟨b0, t2⟩, hA⟩

/-! ### how high -/
theorem ht_pow : ∀ t : T, t.avl → 2 ^ ((t.ht + 1) / 2) ≤ t.size + 1
  | .nil, _ => by simp [T.ht, T.size]
  | .node l s r, ⟨hl, hr, h1, h2⟩ => by
    have a := ht_pow l hl
    have b := ht_pow r hr
    simp only [T.ht, T.size]
    have e : (1 + max l.ht r.ht + 1) / 2 = max l.ht r.ht / 2 + 1 := by omega
    rw [e, Nat.pow_succ]
    have m1 : 2 ^ (max l.ht r.ht / 2) ≤ 2 ^ ((l.ht + 1) / 2) := Nat.pow_le_pow_right (by omega) (by omega)
    have m2 : 2 ^ (max l.ht r.ht / 2) ≤ 2 ^ ((r.ht + 1) / 2) := Nat.pow_le_pow_right (by omega) (by omega)
    omega
def halves : Nat → Nat
  | 0 => 0
  | 1 => 0
  | n + 2 => halves ((n + 2) / 2) + 1
theorem halves_step {m : Nat} (h : 1 < m) : halves m = halves (m / 2) + 1 := by
  match m, h with
  | q + 2, _ => rw [halves]
theorem halves_small {m : Nat} (h : ¬ 1 < m) : halves m = 0 := by
  match m, h with
  | 0, _ => simp [halves]
  | 1, _ => simp [halves]
  | q + 2, h => omega
theorem halves_pow : ∀ (n k : Nat), 2 ^ k ≤ n → k ≤ halves n
  | 0, k, h => by have := Nat.two_pow_pos k; omega
  | 1, k, h => by
    cases k with
    | zero => exact Nat.zero_le _
    | succ k => rw [Nat.pow_succ] at h; have := Nat.two_pow_pos k; omega
  | n + 2, k, h => by
    unfold halves
    cases k with
    | zero => exact Nat.zero_le _
    | succ k =>
      rw [Nat.pow_succ] at h
      have := halves_pow ((n + 2) / 2) k (by omega)
      omega
theorem ht_halves {t : T} (h : t.avl) (hn : 0 < t.size) : t.ht ≤ 2 + 2 * halves t.size := by
  have a := ht_pow t h
  by_cases hz : t.ht ≤ 2
  · omega
  · have e : (t.ht + 1) / 2 = ((t.ht + 1) / 2 - 1) + 1 := by omega
    rw [e, Nat.pow_succ] at a
    have := halves_pow t.size ((t.ht + 1) / 2 - 1) (by omega)
    omega

set_option maxHeartbeats 400000 in
theorem halves17 (n : Nat) (hn : n ≤ 1000) (W : World) : Calls Try.prog 17 #[.int .i64 (n : Int)] W fun e w' => e = .returned (.int .i64 (halves n : Int)) ∧ W = w' := by
  go_enter Try.func17, Try.ntmps17
  go_wp2_with fail
  go_loopw [0, 3] (fun a b wr => ∃ m k : Nat, a = .int .i64 (m : Int) ∧ b = .int .i64 (k : Int) ∧ Hid (m ≤ 1000 ∧ k ≤ 1000 ∧ k + m ≤ 1000 + 1 ∧ k + halves m = halves n ∧ wr = W)) (fun a _ _ => (intOf a).toNat)
  case atStart => exact ⟨n, 0, rfl, rfl, hn, by omega, by omega, by omega, rfl⟩
  case round =>
    obtain ⟨m, k, rfl, rfl, hr⟩ := hrel
    obtain ⟨h1, h2, h3, h4, h5⟩ := hr.out
    have HW : Hid _ := h5
    by_cases h : 1 < m
    · have hi : (1 : Int) < (m : Int) := by omega
      have w1 : wrap64 ((k : Int) + 1) = (k : Int) + 1 := IntWalk.wrap64_in _ (by omega)
      have hd : (m : Int).tdiv 2 = ((m / 2 : Nat) : Int) := by rw [Int.tdiv_eq_ediv_of_nonneg (by omega)]; omega
      have w2 : wrap64 ((m / 2 : Nat) : Int) = ((m / 2 : Nat) : Int) := IntWalk.wrap64_in _ (by omega)
      have HE : Hid (k + 1 + halves (m / 2) = halves n) := by
        show _ = _
        have := halves_step h
        omega
      clear h4 h5 hr
      go_wp2
      go_roundw
      case rel => exact ⟨m / 2, k + 1, by first | rfl | simp, by simp, by omega, by omega, by omega, HE.out, HW.out⟩
      case measure => simp only [intOf]; omega
    · have hi : ¬ ((1 : Int) < (m : Int)) := by omega
      have HE : Hid (halves n = k) := by
        show _ = _
        have := halves_small h
        omega
      clear h4 h5 hr
      go_wp2
      go_ret
      refine ⟨?_, HW.out.symm⟩
      rw [show halves n = k from HE.out]
      rfl

set_option maxHeartbeats 400000 in
theorem before46 (a b : St) (W : World) : Calls Try.prog 46 #[SV a, SV b] W fun e w' => e = .returned (.bool (decide (cs a b < 0))) ∧ Below W.heap.size W w' := by
  have hA : ∀ o o', Below W.heap.size W ((W.alloc o).alloc o') := fun o o' => bmore (al _ _) (al _ _)
  have e := cs_lt a b
  unfold lt at e
  by_cases h1 : a.f = b.f
  · by_cases h2 : a.t = b.t
    · have hr : decide (cs a b < 0) = decide (a.i < b.i) := by rw [decide_eq_decide, e]; omega
      rw [hr]
      obtain ⟨af, at', ai⟩ := a
      obtain ⟨bf, bt, bi⟩ := b
      simp only at h1 h2
      subst h1 h2
      clear e hr
      go_enter Try.func46, Try.ntmps46
      go_wp2
      go_ret
      exact ⟨rfl, hA _ _⟩
    · have hr : decide (cs a b < 0) = decide (a.t < b.t) := by rw [decide_eq_decide, e]; omega
      rw [hr]
      obtain ⟨af, at', ai⟩ := a
      obtain ⟨bf, bt, bi⟩ := b
      simp only at h1 h2
      subst h1
      have h3 : (at' != bt) = true := by simpa using h2
      clear e hr
      go_enter Try.func46, Try.ntmps46
      go_wp2
      go_ret
      exact ⟨rfl, hA _ _⟩
  · have hr : decide (cs a b < 0) = decide (a.f < b.f) := by rw [decide_eq_decide, e]; omega
    rw [hr]
    obtain ⟨af, at', ai⟩ := a
    obtain ⟨bf, bt, bi⟩ := b
    simp only at h1
    have h3 : (af != bf) = true := by simpa using h1
    clear e hr
    go_enter Try.func46, Try.ntmps46
    go_wp2
    go_ret
    exact ⟨rfl, hA _ _⟩
theorem rnew12 (W : World) : Calls Try.prog 12 #[] W fun e w' => e = .returned (.pointer (some ⟨W.heap.size, 0, none⟩)) ∧ w' = W.alloc (.cells #[.slice none 0 0] 61) := by
  go_enter Try.func12, Try.ntmps12
  go_wp2
  go_ret
  exact ⟨rfl, rfl⟩
end Go.Proofs.Ytgglhicpfjihlaa
