/- The manager's calls, whatever the number is. -/
import Derived.Test.YtjgdcdeekpeenaaMv
namespace Go.Proofs.Ytjgdcdeekpeenaa
open Go.RowKit Go.Shelf
set_option maxRecDepth 100000
def Mg.sn (M : Mg) (id : Int) : Sn := (M.op id.toNat).getD ⟨0, []⟩
theorem sn_of {M : Mg} {i : Nat} {s : Sn} (h : M.op i = some s) : M.sn (i : Int) = s := by simp [Mg.sn, h]
theorem errB_no {M : Mg} {id : Int} (h : id < 0 ∨ 4 ≤ id) : errB M id = 2 := by simp [errB, h]
theorem errB_none {M : Mg} {i : Nat} (hi : i < 4) (h : M.op i = none) : errB M (i : Int) = 0 := by
  have h1 : ¬ ((i : Int) < 0 ∨ 4 ≤ (i : Int)) := by omega
  simp [errB, h1, h]
theorem errB_yes {M : Mg} {i : Nat} {s : Sn} (hi : i < 4) (h : M.op i = some s) : errB M (i : Int) = 7 := by
  have h1 : ¬ ((i : Int) < 0 ∨ 4 ≤ (i : Int)) := by omega
  simp [errB, h1, h]
/-- Begin. -/
def Mg.bgn (M : Mg) (id : Int) : Mg := if errB M id = 0 then (M.rise (hiB M)).opn id.toNat ⟨hiB M, []⟩ else M
def bgnR (M : Mg) (id : Int) : Int := if errB M id = 0 then hiB M else 0
theorem lft_same {w w' : World} {B : Nat} {a : At} {M : Mg} (h : MM w B a M) (hB : B ≤ w.heap.size) (q : Below w.heap.size w w') : Lft B a M w w' := ⟨h.below q, Fr.of q hB⟩
theorem begin13 {w : World} {B m wm : Nat} {s k : Nat → Nat} {M : Mg} (h : MM w B ⟨m, wm, s, k⟩ M) (hB : B ≤ w.heap.size) (id : Int) : Calls Try.prog 13 #[.pointer (some ⟨m, 0, none⟩), .int .i64 id] w fun e w' => e = .returned (.tuple #[.int .i64 (bgnR M id), .int .i64 (errB M id)]) ∧ ∃ s' k', Lft B ⟨m, wm, s', k'⟩ (M.bgn id) w w' := by
  rcases id_cases M id with q | ⟨i, hi, rfl, q⟩ | ⟨i, sn, hi, rfl, q⟩
  · refine (begin13_bad (w := w) ⟨m, wm, s, k⟩ id q).mono ?_
    rintro e w' ⟨rfl, hb⟩
    simp only [bgnR, Mg.bgn, errB_no q]
    exact ⟨rfl, s, k, lft_same h hB hb⟩
  · refine (begin13_yes h hB hi q).mono ?_
    rintro e w' ⟨rfl, s', k', hl⟩
    simp only [bgnR, Mg.bgn, errB_none hi q]
    exact ⟨rfl, _, _, hl⟩
  · refine (begin13_open h hi q).mono ?_
    rintro e w' ⟨rfl, hb⟩
    simp only [bgnR, Mg.bgn, errB_yes hi q]
    exact ⟨rfl, s, k, lft_same h hB hb⟩
/-- Write. -/
def Mg.wrt (M : Mg) (id : Int) (x : Ky) : Mg := if errM M id = 0 then M.write id.toNat (M.sn id) x else M
theorem write15 {w : World} {B : Nat} {a : At} {M : Mg} (h : MM w B a M) (hB : B ≤ w.heap.size) (id : Int) (hl : (M.sn id).keys.length ≤ 100000) (x : ByteArray) (hx : x.size ≤ maxLen) : Calls Try.prog 15 #[.pointer (some ⟨a.m, 0, none⟩), .int .i64 id, .string x] w fun e w' => e = .returned (.int .i64 (errM M id)) ∧ Lft B a (M.wrt id (bs x)) w w' := by
  rcases id_cases M id with q | ⟨i, hi, rfl, q⟩ | ⟨i, sn, hi, rfl, q⟩
  · refine (write15_no h id (by rw [err_no q]; decide) x).mono ?_
    rintro e w' ⟨rfl, hb⟩
    simp only [Mg.wrt, err_no q]
    exact ⟨by trivial, lft_same h hB hb⟩
  · refine (write15_no h (i : Int) (by rw [err_none hi q]; decide) x).mono ?_
    rintro e w' ⟨rfl, hb⟩
    simp only [Mg.wrt, err_none hi q]
    exact ⟨by trivial, lft_same h hB hb⟩
  · rw [sn_of q] at hl
    refine (write15_yes h hB hi q hl x hx).mono ?_
    rintro e w' ⟨rfl, hb⟩
    simp only [Mg.wrt, err_yes hi q, sn_of q]
    exact ⟨by trivial, hb⟩
/-- Test. -/
def errC (M : Mg) (id : Int) : Int := if errM M id = 0 then errT M (M.sn id) else errM M id
theorem test25 {w : World} {B : Nat} {a : At} {M : Mg} (h : MM w B a M) (id : Int) : Calls Try.prog 25 #[.pointer (some ⟨a.m, 0, none⟩), .int .i64 id] w fun e w' => e = .returned (.int .i64 (errC M id)) ∧ Below w.heap.size w w' := by
  rcases id_cases M id with q | ⟨i, hi, rfl, q⟩ | ⟨i, sn, hi, rfl, q⟩
  · have := test25_no h id (by rw [err_no q]; decide)
    rw [err_no q] at this
    rw [show errC M id = 2 by simp [errC, err_no q]]
    exact this
  · have := test25_no h (i : Int) (by rw [err_none hi q]; decide)
    rw [err_none hi q] at this
    rw [show errC M (i : Int) = 7 by simp [errC, err_none hi q]]
    exact this
  · have := test25_yes h hi q
    simpa only [errC, err_yes hi q, sn_of q, if_true] using this
/-- Commit. -/
def Mg.cmt (M : Mg) (id : Int) (l : List (Ky × Int)) : Mg := if errC M id = 0 then ((M.rise (hiC M)).with l).close id.toNat else M
def cmtR (M : Mg) (id : Int) : Int := if errC M id = 0 then hiC M else 0
theorem commit16 {w : World} {B : Nat} {a : At} {M : Mg} (h : MM w B a M) (hB : B ≤ w.heap.size) (hf : Fit M) (id : Int) (hl : M.wr.length + (M.sn id).keys.length ≤ 100000) : Calls Try.prog 16 #[.pointer (some ⟨a.m, 0, none⟩), .int .i64 id] w fun e w' => e = .returned (.tuple #[.int .i64 (cmtR M id), .int .i64 (errC M id)]) ∧ ∃ l, (errC M id = 0 → Noted M.wr l (M.sn id).keys (hiC M)) ∧ Lft B a (M.cmt id l) w w' := by
  rcases id_cases M id with q | ⟨i, hi, rfl, q⟩ | ⟨i, sn, hi, rfl, q⟩
  · refine (commit16_no h id (by rw [err_no q]; decide)).mono ?_
    rintro e w' ⟨rfl, hb⟩
    have e1 : errC M id = 2 := by simp [errC, err_no q]
    simp only [Mg.cmt, cmtR, e1, err_no q]
    exact ⟨rfl, [], fun h => (by cases h), lft_same h hB hb⟩
  · refine (commit16_no h (i : Int) (by rw [err_none hi q]; decide)).mono ?_
    rintro e w' ⟨rfl, hb⟩
    have e1 : errC M (i : Int) = 7 := by simp [errC, err_none hi q]
    simp only [Mg.cmt, cmtR, e1, err_none hi q]
    exact ⟨rfl, [], fun h => (by cases h), lft_same h hB hb⟩
  · rw [sn_of q] at hl
    have e1 : errC M (i : Int) = errT M sn := by simp [errC, err_yes hi q, sn_of q]
    by_cases c : errT M sn = 0
    · refine (commit16_yes h hB hf hi q c hl).mono ?_
      rintro e w' ⟨rfl, l, hn, hb⟩
      simp only [Mg.cmt, cmtR, e1, c, if_true, sn_of q]
      exact ⟨by trivial, l, fun _ => hn, hb⟩
    · refine (commit16_err h hi q c).mono ?_
      rintro e w' ⟨rfl, hb⟩
      simp only [Mg.cmt, cmtR, e1, if_neg c]
      exact ⟨by trivial, [], fun h => absurd h c, lft_same h hB hb⟩
/-- End. -/
def Mg.fin (M : Mg) (id : Int) : Mg := if errM M id = 0 then M.close id.toNat else M
theorem end17 {w : World} {B : Nat} {a : At} {M : Mg} (h : MM w B a M) (hB : B ≤ w.heap.size) (id : Int) : Calls Try.prog 17 #[.pointer (some ⟨a.m, 0, none⟩), .int .i64 id] w fun e w' => e = .returned (.int .i64 (errM M id)) ∧ Lft B a (M.fin id) w w' := by
  rcases id_cases M id with q | ⟨i, hi, rfl, q⟩ | ⟨i, sn, hi, rfl, q⟩
  · refine (end17_no h id (by rw [err_no q]; decide)).mono ?_
    rintro e w' ⟨rfl, hb⟩
    simp only [Mg.fin, err_no q]
    exact ⟨by trivial, lft_same h hB hb⟩
  · refine (end17_no h (i : Int) (by rw [err_none hi q]; decide)).mono ?_
    rintro e w' ⟨rfl, hb⟩
    simp only [Mg.fin, err_none hi q]
    exact ⟨by trivial, lft_same h hB hb⟩
  · refine (end17_yes h hi q hB).mono ?_
    rintro e w' ⟨rfl, hb⟩
    simp only [Mg.fin, err_yes hi q]
    exact ⟨by trivial, hb⟩
/-- What holds behind k deeds. -/
structure Inv (M : Mg) (k : Nat) : Prop where
  fit : Fit M
  keys : ∀ i s, M.op i = some s → s.keys.length ≤ k ∧ 0 ≤ s.since ∧ s.since ≤ M.high
  wr : M.wr.length ≤ k * 100
theorem Inv.sn {M : Mg} {k : Nat} (h : Inv M k) (id : Int) : (M.sn id).keys.length ≤ k := by
  unfold Mg.sn
  cases hs : M.op id.toNat with
  | none => simp
  | some s => exact (h.keys _ _ hs).1
theorem Inv.mono {M : Mg} {k k' : Nat} (h : Inv M k) (hk : k ≤ k') : Inv M k' := ⟨h.fit, fun i s q => ⟨Nat.le_trans (h.keys i s q).1 hk, (h.keys i s q).2⟩, Nat.le_trans h.wr (Nat.mul_le_mul_right _ hk)⟩
theorem Inv.new (n : Int) : Inv (Mg.new (at0 n)) 0 := ⟨⟨by show 0 ≤ at0 n; unfold at0; omega, by show at0 n ≤ _; unfold at0; omega, by show 0 ≤ at0 n; unfold at0; omega, by show at0 n ≤ _; unfold at0; omega⟩, fun i s q => (by cases q), Nat.le_refl _⟩
theorem hiB_le {M : Mg} (h : Fit M) : 0 ≤ hiB M ∧ M.high ≤ hiB M ∧ M.clock ≤ hiB M ∧ hiB M ≤ 1073741824 := by
  have := h.c0; have := h.c1; have := h.h0; have := h.h1
  unfold hiB
  omega
theorem Inv.bgn {M : Mg} {k : Nat} (h : Inv M k) (id : Int) : Inv (M.bgn id) (k + 1) := by
  unfold Mg.bgn
  split
  · obtain ⟨a1, a2, a3, a4⟩ := hiB_le h.fit
    refine ⟨⟨h.fit.c0, h.fit.c1, a1, a4⟩, fun i s q => ?_, Nat.le_trans h.wr (Nat.mul_le_mul_right _ (by omega))⟩
    by_cases c : i = id.toNat
    · simp only [Mg.opn, c, if_true, Option.some.injEq] at q
      subst q
      exact ⟨by simp, a1, Int.le_refl _⟩
    · simp only [Mg.opn, Mg.rise, c, if_false] at q
      obtain ⟨q1, q2, q3⟩ := h.keys i s q
      exact ⟨by omega, q2, Int.le_trans q3 a2⟩
  · exact h.mono (by omega)
theorem Inv.wrt {M : Mg} {k : Nat} (h : Inv M k) (id : Int) (x : Ky) : Inv (M.wrt id x) (k + 1) := by
  unfold Mg.wrt
  split
  case isTrue he =>
    refine ⟨⟨h.fit.c0, h.fit.c1, h.fit.h0, h.fit.h1⟩, fun i s q => ?_, Nat.le_trans h.wr (Nat.mul_le_mul_right _ (by omega))⟩
    by_cases c : i = id.toNat
    · simp only [Mg.write, Mg.opn, c, if_true, Option.some.injEq] at q
      subst q
      have h1 := h.sn id
      refine ⟨by simp only [List.length_cons]; omega, ?_⟩
      rcases id_cases M id with q | ⟨i, hi, rfl, q⟩ | ⟨i, sn, hi, rfl, q⟩
      · rw [err_no q] at he; cases he
      · rw [err_none hi q] at he; cases he
      · rw [sn_of q]; exact (h.keys i sn q).2
    · simp only [Mg.write, Mg.opn, c, if_false] at q
      exact ⟨by have := (h.keys i s q).1; omega, (h.keys i s q).2⟩
  · exact h.mono (by omega)
theorem Inv.fin {M : Mg} {k : Nat} (h : Inv M k) (id : Int) : Inv (M.fin id) (k + 1) := by
  unfold Mg.fin
  split
  · refine ⟨⟨h.fit.c0, h.fit.c1, h.fit.h0, h.fit.h1⟩, fun i s q => ?_, Nat.le_trans h.wr (Nat.mul_le_mul_right _ (by omega))⟩
    by_cases c : i = id.toNat
    · simp [Mg.close, c] at q
    · simp only [Mg.close, c, if_false] at q
      exact ⟨by have := (h.keys i s q).1; omega, (h.keys i s q).2⟩
  · exact h.mono (by omega)
theorem errC_high {M : Mg} {id : Int} (h : errC M id = 0) : M.high ≠ 1073741824 := by
  intro e
  unfold errC at h
  split at h
  · unfold errT at h
    split at h
    · cases h
    · cases h
  · contradiction
theorem Inv.cmt {M : Mg} {k : Nat} (h : Inv M k) (hk : k ≤ 100) (id : Int) (l : List (Ky × Int)) (hl : errC M id = 0 → Noted M.wr l (M.sn id).keys (hiC M)) : Inv (M.cmt id l) (k + 1) := by
  unfold Mg.cmt
  split
  case isTrue he =>
    have hh := errC_high he
    have a1 := h.fit.c0; have a2 := h.fit.c1; have a3 := h.fit.h0; have a4 := h.fit.h1
    have hb : 0 ≤ hiC M ∧ M.high ≤ hiC M ∧ hiC M ≤ 1073741824 := by unfold hiC; omega
    have hn := (hl he).len
    have h1 := h.sn id
    refine ⟨⟨a1, a2, hb.1, hb.2.2⟩, fun i s q => ?_, ?_⟩
    · by_cases c : i = id.toNat
      · simp [Mg.close, c] at q
      · simp only [Mg.close, Mg.with, Mg.rise, c, if_false] at q
        obtain ⟨q1, q2, q3⟩ := h.keys i s q
        exact ⟨by omega, q2, Int.le_trans q3 hb.2.1⟩
    · have h2 := h.wr
      show l.length ≤ (k + 1) * 100
      rw [Nat.add_mul]
      omega
  · exact h.mono (by omega)
theorem Inv.tick {M : Mg} {k : Nat} (h : Inv M k) (n : Int) : Inv (M.tick n) (k + 1) := ⟨h.fit.tick n, fun i s q => ⟨by have := (h.keys i s q).1; omega, (h.keys i s q).2⟩, Nat.le_trans h.wr (Nat.mul_le_mul_right _ (by omega))⟩
end Go.Proofs.Ytjgdcdeekpeenaa
