/- codec.Same. -/
import Derived.Test.YthalgnfffcimhaaLs
import Derived.Laws.StructEq
import Derived.Deep.QuietTactic
namespace Go.Proofs.Ythalgnfffcimhaa
open Go.RowKit Go.Shelf
set_option maxRecDepth 100000
theorem neq54 (x y : Vt) (W : World) : (binOp .neq 24 (.agg #[.int .u8 x.1, .int .i64 x.2.1, .string x.2.2]) (.agg #[.int .u8 y.1, .int .i64 y.2.1, .string y.2.2])).run Try.prog W = .ok (.bool (!decide (x = y))) W := by
  have h1 : Try.prog.underlying 24 = some (.struct (Try.prog.fieldsOf 24)) := by kernel_rfl
  have h2 : Try.prog.stoodInHeld 24 = false := by kernel_rfl
  rw [run_neq_struct, show (10000 : Nat) = 9999 + 1 from rfl, run_equalIn_struct _ _ _ _ _ h1 h2]
  have hf : (Try.prog.fieldsOf 24) = (match Try.prog.underlying 24 with | some (.struct fs) => fs | _ => #[]) := rfl
  rw [hf, Try.underlying24]
  clear hf h1 h2
  obtain ⟨k, n, s⟩ := x
  obtain ⟨k', n', s'⟩ := y
  have hs : (s.toList == s'.toList) = decide (s = s') := by
    rw [Bool.eq_iff_iff]
    simp only [beq_iff_eq, decide_eq_true_eq]
    constructor
    · intro h
      rw [Lib.toList_data, Lib.toList_data] at h
      exact bs_inj h
    · rintro rfl; rfl
  by_cases e1 : k = k' <;> by_cases e2 : n = n' <;> by_cases e3 : s = s' <;> simp [go_sem, e1, e2, e3, hs]
set_option maxHeartbeats 2000000 in
theorem equal47 {w : World} {X : Nat → Prop} {v v' : Value} {a b : List Vt} (ha : SV w X v a) (hb : SV w X v' b) (hza : a.length ≤ 1000000) (hzb : b.length ≤ 1000000) :
    Calls Try.prog 37 #[v, v'] w fun e w' => e = .returned (.bool (decide (a = b))) ∧ GB w w' := by
  obtain ⟨pa, ca, rfl⟩ := ha.form
  obtain ⟨pb, cb, rfl⟩ := hb.form
  obtain ⟨n, hn⟩ : ∃ n, a.length = n := ⟨_, rfl⟩
  obtain ⟨m, hm⟩ : ∃ m, b.length = m := ⟨_, rfl⟩
  have HA : Hid (SV w X (.slice pa a.length ca) a) := ha
  have HB : Hid (SV w X (.slice pb b.length cb) b) := hb
  have HN : Hid (a.length = n) := hn
  have HM : Hid (b.length = m) := hm
  rw [hn] at hza ⊢
  rw [hm] at hzb ⊢
  clear hn hm ha hb
  by_cases hnm : n = m
  · subst hnm
    go_enter Try.func37, Try.ntmps37
    go_wp2_with fail
    go_loopw [13] (fun i wr => ∃ k : Nat, i = .int .i64 (k : Int) ∧ Hid (k ≤ n) ∧ Hid (decide (a = b) = decide (a.drop k = b.drop k)) ∧ Hid (GB w wr)) (fun i _ => ((n : Int) - intOf i).toNat)
    case atStart => exact ⟨0, rfl, Nat.zero_le _, by show _ = _; simp, GB.refl _⟩
    case round =>
      obtain ⟨k, rfl, hkn, hcmp, hbe⟩ := hrel
      by_cases hlt : k < n
      · have hkz : (k : Int) < (n : Int) := by omega
        have hk0 : (0 : Int) ≤ (k : Int) := by omega
        obtain ⟨x, hx⟩ : ∃ x, a[k]? = some x := ⟨_, List.getElem?_eq_getElem (by rw [HN.out]; exact hlt)⟩
        obtain ⟨b1, o1, rfl, a0, a1, a2⟩ := (SV.below HA.out hbe.out.b).at hx
        obtain ⟨y, hy⟩ : ∃ y, b[k]? = some y := ⟨_, List.getElem?_eq_getElem (by rw [HM.out]; exact hlt)⟩
        obtain ⟨b2, o2, rfl, q0, q1, q2⟩ := (SV.below HB.out hbe.out.b).at hy
        have HS : Hid (decide (a = b) = (decide (x = y) && decide (a.drop (k + 1) = b.drop (k + 1)))) := by
          show _ = _
          have h1 := List.getElem?_eq_some_iff.1 hx
          have h2 := List.getElem?_eq_some_iff.1 hy
          rw [hcmp.out, List.drop_eq_getElem_cons h1.1, List.drop_eq_getElem_cons h2.1, h1.2, h2.2]
          simp
        have hq := neq54 x y
        have hgd : Try.prog.eqGuardType Try.prog.depth 24 = false := by kernel_rfl
        generalize hT : decide (x = y) = T at *
        clear hT
        obtain ⟨xk, xn, xs⟩ := x
        obtain ⟨yk, yn, ys⟩ := y
        simp only at a0 a1 a2 q0 q1 q2 hq
        clear hx hy hcmp
        cases T
        · rw [show (!false) = true from rfl] at hq
          go_wp2_with fail
          go_quiet (fail)
          go_wp2_with fail
          go_ret
          exact ⟨by rw [HS.out]; rfl, hbe.out.trans (GB.drewN _ _)⟩
        · rw [show (!true) = false from rfl] at hq
          go_wp2_with fail
          go_quiet (fail)
          go_wp2_with fail
          go_roundw
          case rel => exact ⟨k + 1, by simp, by show _ ≤ _; omega, by show _ = _; rw [HS.out]; simp, hbe.out.trans (GB.drewN _ _)⟩
          case measure => simp only [intOf]; omega
      · have hkz : ¬ ((k : Int) < (n : Int)) := by omega
        have HS : Hid (decide (a = b) = true) := by
          show _ = _
          rw [hcmp.out, show a.drop k = [] from List.drop_eq_nil_of_le (by rw [HN.out]; omega), show b.drop k = [] from List.drop_eq_nil_of_le (by rw [HM.out]; omega)]
          simp
        clear hcmp
        go_wp2_with fail
        go_ret
        exact ⟨by rw [HS.out]; rfl, hbe.out⟩
  · have hne : ((n : Int) != (m : Int)) = true := by simp; omega
    have HS : Hid (decide (a = b) = false) := by
      show _ = _
      rw [decide_eq_false_iff_not]
      rintro rfl
      exact hnm (HN.out.symm.trans HM.out)
    go_enter Try.func37, Try.ntmps37
    go_wp2_with fail
    go_ret
    exact ⟨by rw [HS.out]; rfl, GB.refl _⟩
theorem same34 {w : World} {X : Nat → Prop} {v v' : Value} {a b : List Vt} (ha : SV w X v a) (hb : SV w X v' b) (hza : a.length ≤ 1000000) (hzb : b.length ≤ 1000000) :
    Calls Try.prog 23 #[v, v'] w fun e w' => e = .returned (.bool (decide (a = b))) ∧ GB w w' := by
  have c47 := equal47 ha hb hza hzb
  generalize decide (a = b) = C at *
  clear ha hb
  go_enter Try.func23, Try.ntmps23
  go_wp2_with (go_at_call 37; (with_reducible refine c47.mono ?_); rintro e w1 ⟨rfl, hb1⟩)
  go_ret
  exact ⟨rfl, hb1⟩
end Go.Proofs.Ythalgnfffcimhaa
