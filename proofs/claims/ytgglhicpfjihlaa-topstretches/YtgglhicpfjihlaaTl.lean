/- The law TopStretches. -/
import Derived.Test.YtgglhicpfjihlaaTo
import Derived.BigQuiet
namespace Go.Proofs.Ytgglhicpfjihlaa
open Go.RowKit Go.Shelf
set_option maxRecDepth 100000

theorem bdrew (w : World) (n : Nat) : Below w.heap.size w (w.drewN n) := ⟨rfl, rfl, rfl, Nat.le_refl _, fun _ _ => rfl⟩
/-- Spans that came in. -/
def SRow (w : World) (v : Value) (xs : List (Int × Int)) : Prop :=
  ((∃ p cap, v = .slice p 0 cap) ∧ xs = []) ∨ ∃ b off cap, v = .slice (some ⟨b, off, none⟩) xs.length cap ∧ b < w.heap.size ∧
    ∀ i y, xs[i]? = some y → w.cell? ⟨b, off + i * 2, none⟩ = some (.int .i64 y.1) ∧ w.cell? ⟨b, off + i * 2 + 1, none⟩ = some (.int .i64 y.2)
theorem SRow.below {w w' : World} {v : Value} {xs : List (Int × Int)} (h : SRow w v xs) (k : Below w.heap.size w w') : SRow w' v xs := by
  rcases h with h | ⟨b, off, cap, rfl, hb, hc⟩
  · exact .inl h
  · exact .inr ⟨b, off, cap, rfl, by have := k.size; omega, fun i y hy => ⟨(k.cell (p := ⟨b, _, none⟩) hb).trans (hc i y hy).1, (k.cell (p := ⟨b, _, none⟩) hb).trans (hc i y hy).2⟩⟩

/-- The stretches of the first spans that have points, with their places. -/
def sts (xs : List (Int × Int)) : Nat → List St
  | 0 => []
  | k + 1 => match xs[k]? with
    | some y => if y.1 < y.2 then ⟨y.1, y.2, (k : Int)⟩ :: sts xs k else sts xs k
    | none => sts xs k
theorem sts_lt (xs : List (Int × Int)) : ∀ k, ∀ s ∈ sts xs k, s.i < (k : Int) ∧ s.f < s.t
  | 0, s, h => by simp [sts] at h
  | k + 1, s, h => by
    unfold sts at h
    split at h
    · split at h
      · rcases List.mem_cons.1 h with rfl | h
        · exact ⟨by simp; omega, by assumption⟩
        · have := sts_lt xs k s h; omega
      · have := sts_lt xs k s h; omega
    · have := sts_lt xs k s h; omega
def cntF (p : Int) (l : List St) : Nat := (l.filter fun s => decide (s.f ≤ p)).length
def cntT (p : Int) (l : List St) : Nat := (l.filter fun s => decide (s.t ≤ p)).length
theorem cnt_met (p : Int) : ∀ l : List St, (∀ s ∈ l, s.f < s.t) → (l.filter (met p p)).length + cntT p l = cntF p l
  | [], _ => rfl
  | s :: l, h => by
    have ih := cnt_met p l (fun x hx => h x (by simp [hx]))
    have hs := h s (by simp)
    unfold cntT cntF at *
    simp only [List.filter_cons]
    by_cases h1 : s.f ≤ p
    · by_cases h2 : s.t ≤ p
      · have h3 : met p p s = false := by simp [met]; omega
        simp only [h1, h2, h3, decide_true, if_true, List.length_cons, Bool.false_eq_true, if_false]
        omega
      · have h3 : met p p s = true := by simp [met]; omega
        simp only [h1, h2, h3, decide_true, decide_false, if_true, List.length_cons, Bool.false_eq_true, if_false]
        omega
    · have h2 : ¬ s.t ≤ p := by omega
      have h3 : met p p s = false := by simp [met]; omega
      simp only [h1, h2, h3, decide_false, Bool.false_eq_true, if_false]
      exact ih

/-- What lies in the tree behind so many rounds. -/
structure Rel (xs : List (Int × Int)) (k : Nat) (t : T) : Prop where
  inv : Inv t
  perm : t.inord.Perm (sts xs k)
theorem Rel.size {xs : List (Int × Int)} {k : Nat} {t : T} (h : Rel xs k t) : t.size = (sts xs k).length := by rw [← T.inord_length]; exact h.perm.length_eq
theorem sts_len (xs : List (Int × Int)) : ∀ k, (sts xs k).length ≤ k
  | 0 => Nat.le_refl _
  | k + 1 => by
    have := sts_len xs k
    unfold sts
    split
    · split
      · simp; omega
      · omega
    · omega

set_option maxHeartbeats 1000000 in
theorem top7 {W : World} {v : Value} {xs : List (Int × Int)} {p : Int} (hv : SRow W v xs) (hb : ∀ y ∈ xs, least ≤ y.1 ∧ y.1 ≤ most) (hp : least ≤ p) :
    Calls Try.prog 7 #[v, .int .i64 p] W fun e w' => e = .returned (.bool true) ∧ Below W.heap.size W w' := by
  obtain ⟨a, N, c, rfl, hN⟩ : ∃ a N c, v = .slice a N c ∧ xs.length = N := by
    rcases hv with ⟨⟨a, c, rfl⟩, rfl⟩ | ⟨b, off, cap, rfl, _⟩
    · exact ⟨a, 0, c, rfl, rfl⟩
    · exact ⟨_, xs.length, cap, rfl, rfl⟩
  have HN : Hid (xs.length = N) := hN
  have HV : Hid _ := hv
  have HB : Hid _ := hb
  have i0 : IV (W.alloc (.cells #[.pointer none, .int .i64 0] 58)) W.heap.size none .nil := ⟨blk_new W [.pointer none, .int .i64 0] 58, ⟨rfl⟩⟩
  have kA := al W (.cells #[.pointer none, .int .i64 0] 58)
  clear hN hv hb
  go_enter Try.func7, Try.ntmps7
  go_wp2_with (go_at_call 11; (with_reducible refine (new11 _).mono ?_); rintro e w1 ⟨rfl, rfl⟩)
  generalize W.alloc (.cells #[.pointer none, .int .i64 0] 58) = W1 at *
  go_loopw [6, 7, 8, 9] (fun fb fe fn fi wr => ∃ (k : Nat) (t : T) (q : Option Addr), fb = .int .i64 (cntF p (sts xs k) : Int) ∧ fe = .int .i64 (cntT p (sts xs k) : Int) ∧ fn = .int .i64 ((sts xs k).length : Int) ∧ fi = .int .i64 (k : Int) ∧ Hid (k ≤ N ∧ k ≤ 40) ∧ Hid (Rel xs k t) ∧ Hid (IV wr W.heap.size q t) ∧ Hid (Below W.heap.size W wr)) (fun _ _ _ fi _ => (40 - intOf fi).toNat)
  case atStart => exact ⟨0, .nil, none, rfl, rfl, rfl, rfl, ⟨Nat.zero_le _, by omega⟩, ⟨inv_nil, List.Perm.refl _⟩, i0, kA⟩
  case round =>
    obtain ⟨k, t, q, rfl, rfl, rfl, rfl, hk, hr, hi, hB⟩ := hrel
    have hcF : cntF p (sts xs k) ≤ 40 := Nat.le_trans (List.length_filter_le _ _) (Nat.le_trans (sts_len xs k) hk.out.2)
    have hcT : cntT p (sts xs k) ≤ 40 := Nat.le_trans (List.length_filter_le _ _) (Nat.le_trans (sts_len xs k) hk.out.2)
    have hcN : (sts xs k).length ≤ 40 := Nat.le_trans (sts_len xs k) hk.out.2
    have w1 : wrap64 ((cntF p (sts xs k) : Int) + 1) = (cntF p (sts xs k) : Int) + 1 := IntWalk.wrap64_in _ (by omega)
    have w2 : wrap64 ((cntT p (sts xs k) : Int) + 1) = (cntT p (sts xs k) : Int) + 1 := IntWalk.wrap64_in _ (by omega)
    have w3 : wrap64 (((sts xs k).length : Int) + 1) = ((sts xs k).length : Int) + 1 := IntWalk.wrap64_in _ (by omega)
    have w4 : wrap64 ((k : Int) + 1) = (k : Int) + 1 := IntWalk.wrap64_in _ (by have := hk.out; omega)
    by_cases hkN : k < N
    · by_cases hk40 : k < 40
      · have hkNi : (k : Int) < (N : Int) := by omega
        have hk4i : (k : Int) < 40 := by omega
        have hk0 : (0 : Int) ≤ (k : Int) := by omega
        obtain ⟨y, hy⟩ : ∃ y, xs[k]? = some y := ⟨_, List.getElem?_eq_getElem (by rw [HN.out]; exact hkN)⟩
        have hlo := HB.out y (List.mem_of_getElem? hy)
        rcases SRow.below HV.out hB.out with ⟨_, h0⟩ | ⟨b, off, cap, hv, hbl, hcells⟩
        · subst h0; simp at hy
        simp only [Value.slice.injEq] at hv
        obtain ⟨rfl, -, rfl⟩ := hv
        obtain ⟨c0, c1⟩ := hcells k y hy
        have HC : Hid (∀ w', Keep (fun j => j = W.heap.size) wr w' → w'.cell? ⟨b, off + k * 2, none⟩ = some (.int .i64 y.1) ∧ w'.cell? ⟨b, off + k * 2 + 1, none⟩ = some (.int .i64 y.2) ∧ Below W.heap.size W w') := fun w' kk => by
          have hB' : Below W.heap.size W w' := hB.out.trans (kk.below hB.out.size (fun i hi e => by omega))
          rcases SRow.below HV.out hB' with ⟨_, h0⟩ | ⟨b', off', cap', hv', _, hcells'⟩
          · subst h0; simp at hy
          simp only [Value.slice.injEq, Option.some.injEq, Addr.mk.injEq] at hv'
          obtain ⟨⟨rfl, rfl, _⟩, _, rfl⟩ := hv'
          exact ⟨(hcells' k y hy).1, (hcells' k y hy).2, hB'⟩
        by_cases hlt : y.1 < y.2
        · have HSt : Hid (sts xs (k + 1) = ⟨y.1, y.2, (k : Int)⟩ :: sts xs k) := by show _ = _; rw [sts, hy]; simp [hlt]
          have hnin : (⟨y.1, y.2, (k : Int)⟩ : St) ∉ t.inord := fun h => by have := (sts_lt xs k _ (hr.out.perm.mem_iff.1 h)).1; simp at this
          have hhas : t.has ⟨y.1, y.2, (k : Int)⟩ = false := by
            cases hh : t.has ⟨y.1, y.2, (k : Int)⟩ with
            | false => rfl
            | true => exact (hnin (has_mem _ _ hh)).elim
          have hsz : t.size ≤ 40 := by rw [hr.out.size]; exact hcN
          have HRel : Hid (Rel xs (k + 1) (t.ins ⟨y.1, y.2, (k : Int)⟩)) := ⟨hr.out.inv.ins hlt hnin hlo (by omega), by rw [HSt.out]; exact (ins_perm t _).trans (hr.out.perm.cons _)⟩
          have k25 := add25_yes ⟨y.1, y.2, (k : Int)⟩ hlt hi.out hhas (by omega)
          clear hr hi hB hnin hhas hsz hlo hcells hbl
          by_cases e1 : y.1 ≤ p
          · by_cases e2 : y.2 ≤ p
            · have HE1 : Hid (cntF p (sts xs (k + 1)) = cntF p (sts xs k) + 1) := by show _ = _; rw [HSt.out]; simp [cntF, e1]
              have HE2 : Hid (cntT p (sts xs (k + 1)) = cntT p (sts xs k) + 1) := by show _ = _; rw [HSt.out]; simp [cntT, e2]
              have HE3 : Hid ((sts xs (k + 1)).length = (sts xs k).length + 1) := by show _ = _; rw [HSt.out]; rfl
              clear hk40
              go_wp2_with (go_at_call 25; (with_reducible refine k25.mono ?_); rintro e w1 ⟨rfl, ⟨q2, hI2⟩, hK2⟩; obtain ⟨c0, c1, hB2⟩ := HC.out _ hK2; have HI2 : Hid _ := hI2; have HB2 : Hid _ := hB2; clear hI2 hB2 hK2)
              go_roundw
              case rel => exact ⟨k + 1, t.ins ⟨y.1, y.2, (k : Int)⟩, q2, by simp [show cntF p (sts xs (k + 1)) = _ from HE1.out], by simp [show cntT p (sts xs (k + 1)) = _ from HE2.out], by simp [show (sts xs (k + 1)).length = _ from HE3.out], by simp, ⟨by omega, by omega⟩, HRel.out, HI2.out, HB2.out⟩
              case measure => simp only [intOf]; omega
            · have HE1 : Hid (cntF p (sts xs (k + 1)) = cntF p (sts xs k) + 1) := by show _ = _; rw [HSt.out]; simp [cntF, e1]
              have HE2 : Hid (cntT p (sts xs (k + 1)) = cntT p (sts xs k)) := by show _ = _; rw [HSt.out]; simp [cntT, e2]
              have HE3 : Hid ((sts xs (k + 1)).length = (sts xs k).length + 1) := by show _ = _; rw [HSt.out]; rfl
              clear hk40
              go_wp2_with (go_at_call 25; (with_reducible refine k25.mono ?_); rintro e w1 ⟨rfl, ⟨q2, hI2⟩, hK2⟩; obtain ⟨c0, c1, hB2⟩ := HC.out _ hK2; have HI2 : Hid _ := hI2; have HB2 : Hid _ := hB2; clear hI2 hB2 hK2)
              go_roundw
              case rel => exact ⟨k + 1, t.ins ⟨y.1, y.2, (k : Int)⟩, q2, by simp [show cntF p (sts xs (k + 1)) = _ from HE1.out], by simp [show cntT p (sts xs (k + 1)) = _ from HE2.out], by simp [show (sts xs (k + 1)).length = _ from HE3.out], by simp, ⟨by omega, by omega⟩, HRel.out, HI2.out, HB2.out⟩
              case measure => simp only [intOf]; omega
          · have e2 : ¬ y.2 ≤ p := by omega
            have HE1 : Hid (cntF p (sts xs (k + 1)) = cntF p (sts xs k)) := by show _ = _; rw [HSt.out]; simp [cntF, e1]
            have HE2 : Hid (cntT p (sts xs (k + 1)) = cntT p (sts xs k)) := by show _ = _; rw [HSt.out]; simp [cntT, e2]
            have HE3 : Hid ((sts xs (k + 1)).length = (sts xs k).length + 1) := by show _ = _; rw [HSt.out]; rfl
            clear hk40
            go_wp2_with (go_at_call 25; (with_reducible refine k25.mono ?_); rintro e w1 ⟨rfl, ⟨q2, hI2⟩, hK2⟩; obtain ⟨c0, c1, hB2⟩ := HC.out _ hK2; have HI2 : Hid _ := hI2; have HB2 : Hid _ := hB2; clear hI2 hB2 hK2)
            go_roundw
            case rel => exact ⟨k + 1, t.ins ⟨y.1, y.2, (k : Int)⟩, q2, by simp [show cntF p (sts xs (k + 1)) = _ from HE1.out], by simp [show cntT p (sts xs (k + 1)) = _ from HE2.out], by simp [show (sts xs (k + 1)).length = _ from HE3.out], by simp, ⟨by omega, by omega⟩, HRel.out, HI2.out, HB2.out⟩
            case measure => simp only [intOf]; omega
        · have HSt : Hid (sts xs (k + 1) = sts xs k) := by show _ = _; rw [sts, hy]; simp [hlt]
          have HRel : Hid (Rel xs (k + 1) t) := ⟨hr.out.inv, by rw [HSt.out]; exact hr.out.perm⟩
          have hge : y.1 ≥ y.2 := by omega
          have k25 := add25_no (W := wr) (x := W.heap.size) y.1 y.2 (k : Int) hge
          have HIb : Hid (∀ w', Below wr.heap.size wr w' → IV w' W.heap.size q t) := fun w' kk => hi.out.below kk
          have e3 : decide (y.1 < y.2) = false := by simpa using hlt
          clear hr hi hB hlo hcells hbl hk40
          go_wp2_with (go_at_call 25; (with_reducible refine k25.mono ?_); rintro e x1 ⟨rfl, B1⟩; obtain ⟨c0, c1, hB2⟩ := HC.out _ (Keep.of B1); have HI2 : Hid _ := HIb.out _ B1; have HB2 : Hid _ := hB2; clear hB2 B1)
          go_big_quiet (fail)
          go_wp2_with fail
          go_roundw
          case rel => exact ⟨k + 1, t, q, by rw [show sts xs (k + 1) = _ from HSt.out], by rw [show sts xs (k + 1) = _ from HSt.out], by rw [show sts xs (k + 1) = _ from HSt.out], by simp, ⟨by omega, by omega⟩, HRel.out, IV.below HI2.out (bdrew x1 _), bmore HB2.out (bdrew x1 _)⟩
          case measure => simp only [intOf]; omega
      · have hk4i : ¬ ((k : Int) < 40) := by omega
        have hkNi : (k : Int) < (N : Int) := by omega
        have k14 := sound14 hi.out hr.out.inv
        have H16 : Hid (∀ w', Below wr.heap.size wr w' → Calls Try.prog 16 #[.pointer (some ⟨W.heap.size, 0, none⟩)] w' fun e w2 => e = .returned (.int .i64 ((sts xs k).length : Int)) ∧ w' = w2) := fun w' kk => by
          have := len16 (hi.out.below kk)
          rw [hr.out.size] at this
          exact this
        have H19 : Hid (∀ w', Below wr.heap.size wr w' → Calls Try.prog 19 #[.pointer (some ⟨W.heap.size, 0, none⟩), .int .i64 p] w' fun e w2 => ∃ a2 M c2, e = .returned (.slice a2 M c2) ∧ Hid ((M : Int) = (cntF p (sts xs k) : Int) - (cntT p (sts xs k) : Int)) ∧ Below w'.heap.size w' w2) := fun w' kk => by
          refine (stab19 (hi.out.below kk) hr.out.inv p hp).mono ?_
          rintro e w2 ⟨v, rfl, hv, B⟩
          have hm : (t.inord.filter (met p p)).length + cntT p (sts xs k) = cntF p (sts xs k) := by
            rw [(hr.out.perm.filter (met p p)).length_eq]
            exact cnt_met p _ (fun s hs => (sts_lt xs k s hs).2)
          obtain ⟨_, ⟨rfl, h0⟩ | ⟨g, cap, cur, rfl, _⟩⟩ := hv
          · exact ⟨none, 0, 0, rfl, by show _ = _; omega, B⟩
          · exact ⟨_, _, _, rfl, by show _ = _; omega, B⟩
        have w5 : wrap64 ((cntF p (sts xs k) : Int) - (cntT p (sts xs k) : Int)) = (cntF p (sts xs k) : Int) - (cntT p (sts xs k) : Int) := IntWalk.wrap64_in _ (by omega)
        clear hr hi w1 w2 w3 w4
        go_wp2_with (first
          | (go_at_call 14; (with_reducible refine k14.mono ?_); rintro e x1 ⟨rfl, B1⟩)
          | (go_at_call 16; (with_reducible refine (H16.out _ B1).mono ?_); rintro e x2 ⟨rfl, rfl⟩)
          | (go_at_call 19; (with_reducible refine (H19.out _ B1).mono ?_); rintro e x3 ⟨a2, M, c2, rfl, HM, B3⟩; have hM := HM.out))
        go_ret
        exact ⟨by simp, bmore hB.out (bmore B1 B3)⟩
    · have hkNi : ¬ ((k : Int) < (N : Int)) := by omega
      have k14 := sound14 hi.out hr.out.inv
      have H16 : Hid (∀ w', Below wr.heap.size wr w' → Calls Try.prog 16 #[.pointer (some ⟨W.heap.size, 0, none⟩)] w' fun e w2 => e = .returned (.int .i64 ((sts xs k).length : Int)) ∧ w' = w2) := fun w' kk => by
        have := len16 (hi.out.below kk)
        rw [hr.out.size] at this
        exact this
      have H19 : Hid (∀ w', Below wr.heap.size wr w' → Calls Try.prog 19 #[.pointer (some ⟨W.heap.size, 0, none⟩), .int .i64 p] w' fun e w2 => ∃ a2 M c2, e = .returned (.slice a2 M c2) ∧ Hid ((M : Int) = (cntF p (sts xs k) : Int) - (cntT p (sts xs k) : Int)) ∧ Below w'.heap.size w' w2) := fun w' kk => by
        refine (stab19 (hi.out.below kk) hr.out.inv p hp).mono ?_
        rintro e w2 ⟨v, rfl, hv, B⟩
        have hm : (t.inord.filter (met p p)).length + cntT p (sts xs k) = cntF p (sts xs k) := by
          rw [(hr.out.perm.filter (met p p)).length_eq]
          exact cnt_met p _ (fun s hs => (sts_lt xs k s hs).2)
        obtain ⟨_, ⟨rfl, h0⟩ | ⟨g, cap, cur, rfl, _⟩⟩ := hv
        · exact ⟨none, 0, 0, rfl, by show _ = _; omega, B⟩
        · exact ⟨_, _, _, rfl, by show _ = _; omega, B⟩
      have w5 : wrap64 ((cntF p (sts xs k) : Int) - (cntT p (sts xs k) : Int)) = (cntF p (sts xs k) : Int) - (cntT p (sts xs k) : Int) := IntWalk.wrap64_in _ (by omega)
      clear hr hi w1 w2 w3 w4
      go_wp2_with (first
        | (go_at_call 14; (with_reducible refine k14.mono ?_); rintro e x1 ⟨rfl, B1⟩)
        | (go_at_call 16; (with_reducible refine (H16.out _ B1).mono ?_); rintro e x2 ⟨rfl, rfl⟩)
        | (go_at_call 19; (with_reducible refine (H19.out _ B1).mono ?_); rintro e x3 ⟨a2, M, c2, rfl, HM, B3⟩; have hM := HM.out))
      go_ret
      exact ⟨by simp, bmore hB.out (bmore B1 B3)⟩
end Go.Proofs.Ytgglhicpfjihlaa
