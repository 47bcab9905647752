/- The law TxnFree. -/
import Derived.Test.YtjgdcdeekpeenaaMu
import Derived.Test.YtjgdcdeekpeenaaAr
import Derived.Laws.Concat
namespace Go.Proofs.Ytjgdcdeekpeenaa
open Go.RowKit Go.Shelf
set_option maxRecDepth 100000
abbrev ownP : ByteArray := { data := #[111, 119, 110, 32] }
abbrev othP : ByteArray := { data := #[111, 116, 104, 101, 114, 32] }
/-- A key that begins with 'own '. -/
def Own (x : Ky) : Prop := ∃ t, x = [111, 119, 110, 32] ++ t
theorem own_own (s : ByteArray) : Own (bs (ownP ++ s)) := ⟨bs s, by simp [bs]⟩
theorem own_oth (s : ByteArray) : ¬ Own (bs (othP ++ s)) := fun ⟨t, h⟩ => by
  simp [bs] at h
/-- How it stands in the midst of TxnFree. -/
structure FreeI (M : Mg) (k : Nat) (ks : List Ky) : Prop where
  inv : Inv M k
  op0 : M.op 0 = some ⟨0, ks⟩
  own : ∀ x ∈ ks, Own x
  oth : ∀ i s, i ≠ 0 → M.op i = some s → ∀ x ∈ s.keys, ¬ Own x
  wr : ∀ x, Own x → wrAt M.wr x = 0
  c : M.clock = 0
  h : M.high ≤ k
theorem FreeI.mono {M : Mg} {k k' : Nat} {ks : List Ky} (h : FreeI M k ks) (hk : k ≤ k') : FreeI M k' ks := ⟨h.inv.mono hk, h.op0, h.own, h.oth, h.wr, h.c, by have := h.h; omega⟩
theorem FreeI.bgn {M : Mg} {k : Nat} {ks : List Ky} (h : FreeI M k ks) {i : Nat} (hi : i ≠ 0) : FreeI (M.bgn (i : Int)) (k + 1) ks := by
  have h0 := h.inv.fit.h0
  have e : hiB M = M.high := by unfold hiB; rw [h.c]; omega
  have hh := h.h
  refine ⟨h.inv.bgn _, ?_, h.own, fun j s hj q => ?_, ?_, ?_, ?_⟩
  · unfold Mg.bgn
    split
    · simp only [Mg.opn, Int.toNat_natCast, Mg.rise]
      rw [if_neg (Ne.symm hi)]
      exact h.op0
    · exact h.op0
  · unfold Mg.bgn at q
    split at q
    · by_cases c : j = i
      · simp only [Mg.opn, Int.toNat_natCast, c, if_true, Option.some.injEq] at q
        subst q
        intro x hx
        cases hx
      · simp only [Mg.opn, Mg.rise, Int.toNat_natCast, c, if_false] at q
        exact h.oth j s hj q
    · exact h.oth j s hj q
  · unfold Mg.bgn
    split <;> exact h.wr
  · unfold Mg.bgn
    split <;> exact h.c
  · unfold Mg.bgn
    split
    · show hiB M ≤ _; omega
    · show M.high ≤ _; omega
theorem FreeI.wrt {M : Mg} {k : Nat} {ks : List Ky} (h : FreeI M k ks) {i : Nat} (hi : i ≠ 0) {x : Ky} (hx : ¬ Own x) : FreeI (M.wrt (i : Int) x) (k + 1) ks := by
  have hh := h.h
  refine ⟨h.inv.wrt _ _, ?_, h.own, fun j s hj q => ?_, ?_, ?_, ?_⟩
  · unfold Mg.wrt
    split
    · simp only [Mg.write, Mg.opn, Int.toNat_natCast]
      rw [if_neg (Ne.symm hi)]
      exact h.op0
    · exact h.op0
  · unfold Mg.wrt at q
    split at q
    · by_cases c : j = i
      · simp only [Mg.write, Mg.opn, Int.toNat_natCast, c, if_true, Option.some.injEq] at q
        subst q
        intro y hy
        rcases List.mem_cons.1 hy with rfl | hy
        · exact hx
        · unfold Mg.sn at hy
          cases hs : M.op (i : Int).toNat with
          | none => rw [hs] at hy; cases hy
          | some t =>
            rw [hs] at hy
            exact h.oth _ t (by simpa using hi) hs y hy
      · simp only [Mg.write, Mg.opn, Int.toNat_natCast, c, if_false] at q
        exact h.oth j s hj q
    · exact h.oth j s hj q
  · unfold Mg.wrt
    split <;> exact h.wr
  · unfold Mg.wrt
    split <;> exact h.c
  · unfold Mg.wrt
    split <;> (show M.high ≤ _; omega)
theorem FreeI.fin {M : Mg} {k : Nat} {ks : List Ky} (h : FreeI M k ks) {i : Nat} (hi : i ≠ 0) : FreeI (M.fin (i : Int)) (k + 1) ks := by
  have hh := h.h
  refine ⟨h.inv.fin _, ?_, h.own, fun j s hj q => ?_, ?_, ?_, ?_⟩
  · unfold Mg.fin
    split
    · simp only [Mg.close, Int.toNat_natCast]
      rw [if_neg (Ne.symm hi)]
      exact h.op0
    · exact h.op0
  · unfold Mg.fin at q
    split at q
    · by_cases c : j = i
      · simp [Mg.close, c] at q
      · simp only [Mg.close, Int.toNat_natCast, c, if_false] at q
        exact h.oth j s hj q
    · exact h.oth j s hj q
  · unfold Mg.fin
    split <;> exact h.wr
  · unfold Mg.fin
    split <;> exact h.c
  · unfold Mg.fin
    split <;> (show M.high ≤ _; omega)
theorem FreeI.cmt {M : Mg} {k : Nat} {ks : List Ky} (h : FreeI M k ks) (hk : k ≤ 60) {i : Nat} (hi : i ≠ 0) {l : List (Ky × Int)} (hl : errC M (i : Int) = 0 → Noted M.wr l (M.sn (i : Int)).keys (hiC M)) : FreeI (M.cmt (i : Int) l) (k + 1) ks := by
  have h0 := h.inv.fit.h0
  have e : hiC M = M.high + 1 := by unfold hiC; rw [h.c]; omega
  have hh := h.h
  refine ⟨h.inv.cmt hk _ l hl, ?_, h.own, fun j s hj q => ?_, ?_, ?_, ?_⟩
  · unfold Mg.cmt
    split
    · simp only [Mg.close, Mg.with, Mg.rise, Int.toNat_natCast]
      rw [if_neg (Ne.symm hi)]
      exact h.op0
    · exact h.op0
  · unfold Mg.cmt at q
    split at q
    · by_cases c : j = i
      · simp [Mg.close, c] at q
      · simp only [Mg.close, Mg.with, Mg.rise, Int.toNat_natCast, c, if_false] at q
        exact h.oth j s hj q
    · exact h.oth j s hj q
  · unfold Mg.cmt
    split
    case isTrue he =>
      intro x hx
      show wrAt l x = 0
      rw [(hl he).at' x, if_neg, h.wr x hx]
      intro hm
      unfold Mg.sn at hm
      cases hs : M.op (i : Int).toNat with
      | none => rw [hs] at hm; cases hm
      | some t =>
        rw [hs] at hm
        exact h.oth _ t (by simpa using hi) hs x hm hx
    · exact h.wr
  · unfold Mg.cmt
    split <;> exact h.c
  · unfold Mg.cmt
    split
    · show hiC M ≤ _; omega
    · show M.high ≤ _; omega
theorem FreeI.last {M : Mg} {k : Nat} {ks : List Ky} (h : FreeI M k ks) (hk : k ≤ 60) : errC M 0 = 0 := by
  have e1 : errM M 0 = 0 := err_yes (i := 0) (by decide) h.op0
  have e2 : M.sn 0 = ⟨0, ks⟩ := sn_of (i := 0) h.op0
  have hc : clash M ⟨0, ks⟩ = false := by
    rw [Bool.eq_false_iff]
    intro q
    obtain ⟨x, hx, hq⟩ := List.any_eq_true.1 q
    rw [h.wr x (h.own x hx)] at hq
    simp at hq
  have hm : ¬ M.high = 1073741824 := by have := h.h; omega
  simp [errC, e1, e2, errT, hc, hm]
/-- One more key of one's own. -/
theorem FreeI.mine {M : Mg} {k : Nat} {ks : List Ky} (h : FreeI M k ks) {x : Ky} (hx : Own x) : errM M 0 = 0 ∧ FreeI (M.wrt 0 x) (k + 1) (x :: ks) := by
  have e1 : errM M 0 = 0 := err_yes (i := 0) (by decide) h.op0
  have e2 : M.sn 0 = ⟨0, ks⟩ := sn_of (i := 0) h.op0
  have hh := h.h
  have ew : M.wrt 0 x = M.write 0 ⟨0, ks⟩ x := by simp [Mg.wrt, e1, e2]
  refine ⟨e1, h.inv.wrt 0 x, ?_, ?_, ?_, ?_, ?_, ?_⟩
  · rw [ew]; simp [Mg.write, Mg.opn]
  · intro y hy
    rcases List.mem_cons.1 hy with rfl | hy
    · exact hx
    · exact h.own y hy
  · rw [ew]
    intro j s hj q
    simp only [Mg.write, Mg.opn, hj, if_false] at q
    exact h.oth j s hj q
  · rw [ew]; exact h.wr
  · rw [ew]; exact h.c
  · rw [ew]; show M.high ≤ _; omega
theorem FreeI.start : FreeI (((Mg.new 0).rise 0).opn 0 ⟨0, []⟩) 0 [] := by
  refine ⟨⟨⟨by decide, by decide, by decide, by decide⟩, fun i s q => ?_, Nat.le_refl _⟩, rfl, fun x hx => (by cases hx), fun j s hj q => ?_, fun x _ => rfl, rfl, by decide⟩
  · by_cases c : i = 0
    · simp only [Mg.opn, c, if_true, Option.some.injEq] at q
      subst q
      exact ⟨by simp, by simp, by decide⟩
    · simp [Mg.opn, Mg.rise, Mg.new, c] at q
  · simp [Mg.opn, Mg.rise, Mg.new, hj] at q
theorem and1 (x : Int) : bits .and .i64 x 1 = 0 ∨ bits .and .i64 x 1 = 1 := by
  have h : (BitVec.ofInt 64 x &&& BitVec.ofInt 64 1).toNat = 0 ∨ (BitVec.ofInt 64 x &&& BitVec.ofInt 64 1).toNat = 1 := by
    rw [BitVec.toNat_and, show (BitVec.ofInt 64 1).toNat = 1 by decide, Nat.and_one_is_mod]
    omega
  have e : bits .and .i64 x 1 = IntKind.i64.wrap (((BitVec.ofInt 64 x &&& BitVec.ofInt 64 1).toNat : Nat) : Int) := rfl
  rw [e]
  rcases h with h | h
  · left; rw [h]; decide
  · right; rw [h]; decide
set_option maxHeartbeats 2000000 in
theorem txnFree6 {w : World} {v u : Value} {xs : List Dd} {ts : List ByteArray} (hx : InD w v xs) (ht : InT w u ts) (hxz : ∀ x ∈ xs, x.key.size ≤ 140737488355328) (htz : ∀ x ∈ ts, x.size ≤ 140737488355328) : Calls Try.prog 6 #[v, u] w fun e w' => e = .returned (.bool true) ∧ Below w.heap.size w w' := by
  obtain ⟨av, cv, rfl, hx⟩ := hx
  obtain ⟨au, cu, rfl, ht⟩ := ht
  have k12 := new12 0 w
  rw [show at0 0 = 0 by decide] at k12
  have HX : Hid _ := hx
  have HT : Hid _ := ht
  have HXZ : Hid _ := hxz
  have HTZ : Hid _ := htz
  obtain ⟨N, hN⟩ : ∃ N, xs.length = N := ⟨_, rfl⟩
  obtain ⟨T, hT⟩ : ∃ T, ts.length = T := ⟨_, rfl⟩
  rw [hN, hT]
  have HN : Hid (xs.length = N) := hN
  have HTn : Hid (ts.length = T) := hT
  clear hx hN ht hT hxz htz
  have K13 : Hid (∀ W m wm s k, MM W w.heap.size ⟨m, wm, s, k⟩ (Mg.new 0) → w.heap.size ≤ W.heap.size → Calls Try.prog 13 #[.pointer (some ⟨m, 0, none⟩), .int .i64 0] W fun e w' => e = .returned (.tuple #[.int .i64 0, .int .i64 0]) ∧ ∃ s k, Hid (Lft w.heap.size ⟨m, wm, s, k⟩ (((Mg.new 0).rise 0).opn 0 ⟨0, []⟩) W w')) := fun W m wm s k h q => by
    refine (begin13_yes (i := 0) h q (by decide) rfl).mono ?_
    rintro e w' ⟨rfl, s', k', h⟩
    exact ⟨rfl, _, _, h⟩
  go_enter Try.func6, Try.ntmps6
  go_upto_region 7 with (first
    | (go_at_call 12; (with_reducible refine k12.mono ?_); rintro e w1 ⟨⟨m, wm, s0, k0⟩, rfl, hM1, hB1⟩; have HM1 : Hid (MM w1 w.heap.size ⟨m, wm, s0, k0⟩ (Mg.new 0)) := hM1; have HB1 : Hid (Below w.heap.size w w1) := hB1; have k10 := live10 w1; clear hM1 hB1)
    | (go_at_call 10; (with_reducible refine k10.mono ?_); rintro e w2 ⟨rfl, hB2⟩; have hM2 := HM1.out.below hB2; have HB2 : Hid (Below w.heap.size w w2) := bmore HB1.out hB2; have k13 := K13.out _ _ _ _ _ hM2 HB2.out.size; clear hB2 hM2)
    | (go_at_call 13; (with_reducible refine k13.mono ?_); rintro e w3 ⟨rfl, s3, k3, hL3⟩))
  have HL3 : Hid _ := hL3.out
  have HB3 : Hid (Below w.heap.size w w3) := HB2.out.trans hL3.out.2.b
  clear hL3 k13 k12 k10 K13 HM1
  go_cut [8] from 14 (fun u8 wx => u8 = .int .i64 0 ∧ wx = w3)
  case first =>
    go_wp2_with fail
    go_meet
    case rel => exact ⟨rfl, rfl⟩
  case rest =>
    obtain ⟨rfl, rfl⟩ := hcut
    rename_i Ka ha Kb hb
    refine hb _ _ ?_
    go_cut [8] from 14 (fun u8 wx => ∃ ks M, Hid (FreeI M 8 ks) ∧ Hid (MM wx w.heap.size ⟨m, wm, s3, k3⟩ M) ∧ Hid (Below w.heap.size w wx))
    case first =>
      go_wp2_with fail
      go_loopw [8] (fun f8 wr => ∃ (k : Nat) (ks : List Ky) (M : Mg), f8 = .int .i64 (k : Int) ∧ Hid (k ≤ T ∧ k ≤ 8) ∧ Hid (MM wr w.heap.size ⟨m, wm, s3, k3⟩ M) ∧ Hid (FreeI M k ks) ∧ Hid (Below w.heap.size w wr)) (fun f8 _ => ((T : Int) - intOf f8).toNat)
      case atStart => exact ⟨0, [], _, rfl, ⟨Nat.zero_le _, by omega⟩, HL3.out.1, FreeI.start, HB3.out⟩
      case round =>
        obtain ⟨k, ks, M, rfl, hk, hM, hI, hB⟩ := hrel
        by_cases hkN : k < T ∧ k < 8
        · have b1 : (k : Int) < (T : Int) := by omega
          have b2 : (k : Int) < 8 := by omega
          have b3 : decide ((k : Int) < (T : Int)) = true := decide_eq_true b1
          have b4 : decide (k < T) = true := decide_eq_true (by omega)
          have h0k : (0 : Int) ≤ (k : Int) := by omega
          obtain ⟨t, htk⟩ : ∃ x, ts[k]? = some x := ⟨_, List.getElem?_eq_getElem (by rw [HTn.out]; omega)⟩
          obtain ⟨b, o, rfl, hb, hcell⟩ := HT.out (by rw [HTn.out]; omega)
          have c0 := (hB.out.cell (p := ⟨b, o + k, none⟩) hb).trans (hcell k t htk).2
          have hz := HTZ.out t (List.mem_of_getElem? htk)
          have hadd : ∀ W, (Op.stringOp .add ownP t).run Try.prog W = .ok (.string (ownP ++ t)) W := fun W => run_string_add_sum W ownP t (by rw [show ownP.size = 4 from rfl]; omega)
          obtain ⟨hem, hI2⟩ := hI.out.mine (own_own t)
          have k15 : Calls Try.prog 15 #[.pointer (some ⟨m, 0, none⟩), .int .i64 0, .string (ownP ++ t)] wr fun e w' => e = .returned (.int .i64 0) ∧ Hid (Lft w.heap.size ⟨m, wm, s3, k3⟩ (M.wrt 0 (bs (ownP ++ t))) wr w') := by
            have := write15 hM.out hB.out.size 0 (by have := hI.out.inv.sn 0; omega) (ownP ++ t) (by rw [ByteArray.size_append, show ownP.size = 4 from rfl]; unfold maxLen; omega)
            rw [hem] at this
            exact this
          have HI2 : Hid (FreeI (M.wrt 0 (bs (ownP ++ t))) (k + 1) (bs (ownP ++ t) :: ks)) := hI2
          clear hI2 hem hz hcell htk
          generalize M.wrt 0 (bs (ownP ++ t)) = M2 at *
          generalize hxx : ownP ++ t = x at *
          clear hxx
          go_wp2_with (go_at_call 15; (with_reducible refine k15.mono ?_); rintro e w6 ⟨rfl, hL6⟩)
          go_roundw
          case rel => exact ⟨k + 1, _, M2, by simp, ⟨by omega, by omega⟩, hL6.out.1, HI2.out, hB.out.trans hL6.out.2.b⟩
          case measure => simp only [intOf]; omega
        · have HO : Hid (∃ ks M, Hid (FreeI M 8 ks) ∧ Hid (MM wr w.heap.size ⟨m, wm, s3, k3⟩ M) ∧ Hid (Below w.heap.size w wr)) := ⟨ks, M, hI.out.mono hk.out.2, hM, hB⟩
          by_cases c1 : k < T
          · have b1 : (k : Int) < (T : Int) := by omega
            have b2 : ¬ (k : Int) < 8 := by omega
            have b3 : decide ((k : Int) < (T : Int)) = true := decide_eq_true b1
            have b4 : decide (k < T) = true := decide_eq_true c1
            have b5 : decide ((k : Int) < 8) = false := decide_eq_false b2
            go_wp2_with fail
            go_meet
            case rel => exact HO.out
          · have b1 : ¬ (k : Int) < (T : Int) := by omega
            have b3 : decide ((k : Int) < (T : Int)) = false := decide_eq_false b1
            have b4 : decide (k < T) = false := decide_eq_false c1
            go_wp2_with fail
            go_meet
            case rel => exact HO.out
    case rest =>
      obtain ⟨ks, M0, hI0, hM0, hB0⟩ := hcut
      clear hb HL3 HB3 HB2 HB1
      go_wp2_with fail
      go_loopw [9] (fun f9 wr => ∃ (k : Nat) (s k' : Nat → Nat) (M : Mg), f9 = .int .i64 (k : Int) ∧ Hid (k ≤ N ∧ k ≤ 40) ∧ Hid (MM wr w.heap.size ⟨m, wm, s, k'⟩ M) ∧ Hid (FreeI M (k + 8) ks) ∧ Hid (Below w.heap.size w wr)) (fun f9 _ => ((N : Int) - intOf f9).toNat)
      case atStart => exact ⟨0, s3, k3, M0, rfl, ⟨Nat.zero_le _, by omega⟩, hM0, hI0, hB0⟩
      case round =>
        obtain ⟨k, s, k', M, rfl, hk, hM, hI, hB⟩ := hrel
        by_cases hkN : k < N ∧ k < 40
        · have b1 : (k : Int) < (N : Int) := by omega
          have b2 : (k : Int) < 40 := by omega
          have b3 : decide ((k : Int) < (N : Int)) = true := decide_eq_true b1
          have b4 : decide (k < N) = true := decide_eq_true (by omega)
          obtain ⟨x, hxk⟩ : ∃ x, xs[k]? = some x := ⟨_, List.getElem?_eq_getElem (by rw [HN.out]; omega)⟩
          obtain ⟨b, o, rfl, hb, hcell⟩ := HX.out (by rw [HN.out]; omega)
          obtain ⟨_, d0, d1, d2, d3⟩ := hcell k x hxk
          have hxz := HXZ.out x (List.mem_of_getElem? hxk)
          have c0 := (hB.out.cell (p := ⟨b, o + k * 4, none⟩) hb).trans d0
          have c1 := (hB.out.cell (p := ⟨b, o + k * 4 + 1, none⟩) hb).trans d1
          have c2 := (hB.out.cell (p := ⟨b, o + k * 4 + 2, none⟩) hb).trans d2
          have c3 := (hB.out.cell (p := ⟨b, o + k * 4 + 3, none⟩) hb).trans d3
          have h0k : (0 : Int) ≤ (k : Int) := by omega
          clear d0 d1 d2 d3 hcell hxk
          go_upto_region 17 with fail
          obtain ⟨i, hi12, hid⟩ : ∃ i : Nat, (i = 1 ∨ i = 2) ∧ wrap64 (1 + bits BinOp.and IntKind.i64 x.id 1) = (i : Int) := by
            rcases and1 x.id with e | e
            · exact ⟨1, .inl rfl, by rw [e]; kernel_rfl⟩
            · exact ⟨2, .inr rfl, by rw [e]; kernel_rfl⟩
          have hi0 : i ≠ 0 := by omega
          rw [hid]
          have bx := blk_new wr [.int .i64 x.kind, .int .i64 x.id, .string x.key, .int .i64 x.n] 32
          have hal := al wr (.cells #[.int .i64 x.kind, .int .i64 x.id, .string x.key, .int .i64 x.n] 32)
          have HM5 : Hid (MM (wr.alloc (.cells #[.int .i64 x.kind, .int .i64 x.id, .string x.key, .int .i64 x.n] 32)) w.heap.size ⟨m, wm, s, k'⟩ M) := hM.out.below hal
          have HB5 : Hid (Below w.heap.size w (wr.alloc (.cells #[.int .i64 x.kind, .int .i64 x.id, .string x.key, .int .i64 x.n] 32))) := hB.out.trans (hal.mono hB.out.size)
          change Blk (wr.alloc (.cells #[.int .i64 x.kind, .int .i64 x.id, .string x.key, .int .i64 x.n] 32)) _ _ _ at bx
          generalize wr.alloc (.cells #[.int .i64 x.kind, .int .i64 x.id, .string x.key, .int .i64 x.n] 32) = W5 at *
          have e0 : W5.cell? ⟨wr.heap.size, 0, none⟩ = some (.int .i64 x.kind) := bx.cell 0
          have e2 : W5.cell? ⟨wr.heap.size, 2, none⟩ = some (.string x.key) := bx.cell 2
          have HZ : Hid (w.heap.size ≤ W5.heap.size) := HB5.out.size
          have hadd : ∀ W, (Op.stringOp .add othP x.key).run Try.prog W = .ok (.string (othP ++ x.key)) W := fun W => run_string_add_sum W othP x.key (by rw [show othP.size = 6 from rfl]; omega)
          clear bx hal c0 c1 c2 c3 b1 b2 b3 b4 hid
          obtain ⟨kd, id, key, n⟩ := x
          simp only at e0 e2 hxz hadd ⊢
          by_cases h0 : kd = 0
          · subst h0
            have k13 := begin13 HM5.out HZ.out (i : Int)
            have HI2 : Hid (FreeI (M.bgn (i : Int)) (k + 8 + 1) ks) := hI.out.bgn hi0
            generalize M.bgn (i : Int) = M2 at *
            generalize bgnR M (i : Int) = n1 at *
            generalize errB M (i : Int) = n2 at *
            go_wp2_with (go_at_call 13; (with_reducible refine k13.mono ?_); rintro e w6 ⟨rfl, s6, k6, hL6⟩; have HL6 : Hid _ := hL6; clear hL6)
            go_roundw
            case rel => exact ⟨k + 1, s6, k6, M2, by simp, ⟨by omega, by omega⟩, HL6.out.1, by have := HI2.out; rw [show k + 1 + 8 = k + 8 + 1 by omega]; exact this, HB5.out.trans HL6.out.2.b⟩
            case measure => simp only [intOf]; omega
          by_cases h1 : kd = 1
          · subst h1
            have k15 : Calls Try.prog 15 #[.pointer (some ⟨m, 0, none⟩), .int .i64 (i : Int), .string (othP ++ key)] W5 fun e w' => e = .returned (.int .i64 (errM M (i : Int))) ∧ Hid (Lft w.heap.size ⟨m, wm, s, k'⟩ (M.wrt (i : Int) (bs (othP ++ key))) W5 w') := by
              have := write15 HM5.out HZ.out (i : Int) (by have := hI.out.inv.sn (i : Int); omega) (othP ++ key) (by rw [ByteArray.size_append, show othP.size = 6 from rfl]; unfold maxLen; omega)
              exact this
            have HI2 : Hid (FreeI (M.wrt (i : Int) (bs (othP ++ key))) (k + 8 + 1) ks) := hI.out.wrt hi0 (own_oth key)
            generalize M.wrt (i : Int) (bs (othP ++ key)) = M2 at *
            generalize hxx : othP ++ key = x at *
            generalize errM M (i : Int) = n2 at *
            clear hxx
            go_wp2_with (go_at_call 15; (with_reducible refine k15.mono ?_); rintro e w6 ⟨rfl, hL6⟩)
            go_roundw
            case rel => exact ⟨k + 1, s, k', M2, by simp, ⟨by omega, by omega⟩, hL6.out.1, by have := HI2.out; rw [show k + 1 + 8 = k + 8 + 1 by omega]; exact this, HB5.out.trans hL6.out.2.b⟩
            case measure => simp only [intOf]; omega
          by_cases h2 : kd = 2
          · subst h2
            have k16 : Calls Try.prog 16 #[.pointer (some ⟨m, 0, none⟩), .int .i64 (i : Int)] W5 fun e w' => e = .returned (.tuple #[.int .i64 (cmtR M (i : Int)), .int .i64 (errC M (i : Int))]) ∧ ∃ M2, Hid (FreeI M2 (k + 8 + 1) ks) ∧ Hid (Lft w.heap.size ⟨m, wm, s, k'⟩ M2 W5 w') := by
              have := commit16 HM5.out HZ.out hI.out.inv.fit (i : Int) (by have h1 := hI.out.inv.sn (i : Int); have h2 := hI.out.inv.wr; omega)
              refine this.mono ?_
              rintro e w' ⟨rfl, l, h1, h2⟩
              exact ⟨rfl, _, hI.out.cmt (by omega) hi0 h1, h2⟩
            generalize cmtR M (i : Int) = n1 at *
            generalize errC M (i : Int) = n2 at *
            go_wp2_with (go_at_call 16; (with_reducible refine k16.mono ?_); rintro e w6 ⟨rfl, M2, hI6, hL6⟩)
            go_roundw
            case rel => exact ⟨k + 1, s, k', M2, by simp, ⟨by omega, by omega⟩, hL6.out.1, by have := hI6.out; rw [show k + 1 + 8 = k + 8 + 1 by omega]; exact this, HB5.out.trans hL6.out.2.b⟩
            case measure => simp only [intOf]; omega
          by_cases h3 : kd = 3
          · subst h3
            have k17 : Calls Try.prog 17 #[.pointer (some ⟨m, 0, none⟩), .int .i64 (i : Int)] W5 fun e w' => e = .returned (.int .i64 (errM M (i : Int))) ∧ Hid (Lft w.heap.size ⟨m, wm, s, k'⟩ (M.fin (i : Int)) W5 w') := by
              have := end17 HM5.out HZ.out (i : Int)
              exact this
            have HI2 : Hid (FreeI (M.fin (i : Int)) (k + 8 + 1) ks) := hI.out.fin hi0
            generalize M.fin (i : Int) = M2 at *
            generalize errM M (i : Int) = n2 at *
            go_wp2_with (go_at_call 17; (with_reducible refine k17.mono ?_); rintro e w6 ⟨rfl, hL6⟩)
            go_roundw
            case rel => exact ⟨k + 1, s, k', M2, by simp, ⟨by omega, by omega⟩, hL6.out.1, by have := HI2.out; rw [show k + 1 + 8 = k + 8 + 1 by omega]; exact this, HB5.out.trans hL6.out.2.b⟩
            case measure => simp only [intOf]; omega
          · go_wp2_with fail
            go_roundw
            case rel => exact ⟨k + 1, s, k', M, by simp, ⟨by omega, by omega⟩, HM5.out, hI.out.mono (by omega), HB5.out⟩
            case measure => simp only [intOf]; omega
        · have hlast := hI.out.last (by have := hk.out.2; omega)
          have k16 : Calls Try.prog 16 #[.pointer (some ⟨m, 0, none⟩), .int .i64 0] wr fun e w' => e = .returned (.tuple #[.int .i64 (cmtR M 0), .int .i64 0]) ∧ Hid (Fr w.heap.size wr w') := by
            have := commit16 hM.out hB.out.size hI.out.inv.fit 0 (by have h1 := hI.out.inv.sn 0; have h2 := hI.out.inv.wr; have h3 := hk.out.2; omega)
            rw [hlast] at this
            refine this.mono ?_
            rintro e w' ⟨rfl, l, _, h2⟩
            exact ⟨rfl, h2.2⟩
          clear hlast
          generalize cmtR M 0 = n1 at *
          by_cases c1 : k < N
          · have b1 : (k : Int) < (N : Int) := by omega
            have b2 : ¬ (k : Int) < 40 := by omega
            have b3 : decide ((k : Int) < (N : Int)) = true := decide_eq_true b1
            have b4 : decide (k < N) = true := decide_eq_true c1
            have b5 : decide ((k : Int) < 40) = false := decide_eq_false b2
            go_wp2_with (go_at_call 16; (with_reducible refine k16.mono ?_); rintro e w6 ⟨rfl, hL6⟩)
            go_ret
            exact ⟨rfl, hB.out.trans hL6.out.b⟩
          · have b1 : ¬ (k : Int) < (N : Int) := by omega
            have b3 : decide ((k : Int) < (N : Int)) = false := decide_eq_false b1
            have b4 : decide (k < N) = false := decide_eq_false c1
            go_wp2_with (go_at_call 16; (with_reducible refine k16.mono ?_); rintro e w6 ⟨rfl, hL6⟩)
            go_ret
            exact ⟨rfl, hB.out.trans hL6.out.b⟩
end Go.Proofs.Ytjgdcdeekpeenaa
