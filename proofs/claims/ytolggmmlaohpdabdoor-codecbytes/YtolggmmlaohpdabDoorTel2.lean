/- The reference of codec: Values, Spans, Compare, Same, Key; codec.Same. -/
import Derived.Test.YtolggmmlaohpdabDoorTel
namespace Go.Proofs.YtolggmmlaohpdabDoor
open Go.RowKit Go.Lib
set_option maxRecDepth 100000

theorem cmpInt_three (x y : Int) : compareInt x y = -1 ∨ compareInt x y = 0 ∨ compareInt x y = 1 := by
  unfold compareInt
  repeat' split
  all_goals simp

set_option maxHeartbeats 2000000 in
theorem values33 (v v' : Value) (a b : List Vt) (w : World) (ha : SV w v a) (hb : SV w v' b) (hza : a.length ≤ 140737488355328) (hzb : b.length ≤ 140737488355328) :
    Calls Tryd.prog 33 #[v, v'] w fun e w' => e = .returned (.int .i64 (cmpL a b)) ∧ Below w.heap.size w w' := by
  obtain ⟨pa, ca, rfl, hfa⟩ := sv_form ha
  obtain ⟨pb, cb, rfl, hfb⟩ := sv_form hb
  clear ha hb
  obtain ⟨n, hn⟩ : ∃ n, a.length = n := ⟨_, rfl⟩
  obtain ⟨m, hm⟩ : ∃ m, b.length = m := ⟨_, rfl⟩
  have HA : Hid (a.length = n) := hn
  have HB : Hid (b.length = m) := hm
  have HFA : Hid (0 < n → ∃ b' o, pa = some ⟨b', o, none⟩ ∧ VAt w b' o a) := by rw [hn] at hfa; exact hfa
  have HFB : Hid (0 < m → ∃ b' o, pb = some ⟨b', o, none⟩ ∧ VAt w b' o b) := by rw [hm] at hfb; exact hfb
  rw [hn] at hza ⊢
  rw [hm] at hzb ⊢
  clear hn hm hfa hfb
  have c50 := ints50 (n : Int) (m : Int)
  go_enter Tryd.func33, Tryd.ntmps33
  go_wp2_with fail
  go_loopw [5] (fun i wr => ∃ k : Nat, k ≤ n ∧ k ≤ m ∧ i = .int .i64 (k : Int) ∧ cmpL a b = cmpL (a.drop k) (b.drop k) ∧ Below w.heap.size w wr) (fun i _ => n - (Lib.intOf i).toNat)
  case atStart => exact ⟨0, by omega, by omega, rfl, rfl, Below.refl _ _⟩
  case round =>
    obtain ⟨k, hkn, hkm, rfl, hcmp, hbe⟩ := hrel
    by_cases hlt : k < n
    · have hkz : (k : Int) < (n : Int) := by omega
      by_cases hlm : k < m
      · have hkz3 : (k : Int) < (m : Int) := by omega
        obtain ⟨b1, o1, rfl, hat1⟩ := HFA.out (by omega)
        obtain ⟨x, hx⟩ : ∃ x, a[k]? = some x := ⟨_, List.getElem?_eq_getElem (by rw [HA.out]; exact hlt)⟩
        obtain ⟨b2, o2, rfl, hat2⟩ := HFB.out (by omega)
        obtain ⟨y, hy⟩ : ∃ y, b[k]? = some y := ⟨_, List.getElem?_eq_getElem (by rw [HB.out]; exact hlm)⟩
        obtain ⟨a0, a1, a2⟩ := (hat1.below hbe) k x hx
        obtain ⟨q0, q1, q2⟩ := (hat2.below hbe) k y hy
        have HS : Hid (cmpL a b = if cmpT x y = 0 then cmpL (a.drop (k + 1)) (b.drop (k + 1)) else cmpT x y) := by
          show _ = _
          rw [hcmp]; exact cmpL_step hx hy
        clear hcmp
        have c49 := compare15 x.1 x.2.1 x.2.2 y.1 y.2.1 y.2.2
        rw [show cmpV x.1 x.2.1 (bs x.2.2) y.1 y.2.1 (bs y.2.2) = cmpT x y from rfl] at c49
        obtain ⟨xk, xn, xs⟩ := x
        obtain ⟨yk, yn, ys⟩ := y
        simp only at a0 a1 a2 q0 q1 q2 c49
        generalize hT : cmpT (xk, xn, xs) (yk, yn, ys) = T at *
        clear hT hx hy hat1 hat2
        have hz0 : (0 : Int) ≤ (k : Int) := by omega
        by_cases hT0 : T = 0
        · subst hT0
          go_wp2_with fail
          go_region_with (go_at_call 49; (with_reducible refine (c49 _).mono ?_; rintro e w1 ⟨rfl, hb1⟩))
          all_goals
            go_wp2_with fail
            go_roundw
            case rel => exact ⟨k + 1, by omega, by omega, by go_num, by rw [HS.out]; rfl, bmore hbe.drew hb1⟩
            case measure => simp [Lib.intOf]; omega
        · have hT1 : (T != 0) = true := by simpa using hT0
          go_wp2_with fail
          go_region_with (go_at_call 49; (with_reducible refine (c49 _).mono ?_; rintro e w1 ⟨rfl, hb1⟩))
          all_goals
            go_wp2_with fail
            go_ret
            exact ⟨by rw [HS.out, if_neg hT0]; rfl, bmore hbe.drew hb1⟩
      · have hkz3 : ¬ ((k : Int) < (m : Int)) := by omega
        have HS : Hid (cmpL a b = compareInt (n : Int) (m : Int)) := by
          show _ = _
          rw [hcmp, show b.drop k = [] from List.drop_eq_nil_of_le (by rw [HB.out]; omega), List.drop_eq_getElem_cons (by rw [HA.out]; omega : k < a.length)]
          simp only [cmpL, compareInt]
          rw [if_neg (by omega), if_pos (by omega)]
        clear hcmp
        go_wp2_with (go_at_call 50; (refine (c50 _).mono ?_; rintro e w1 ⟨rfl, rfl⟩))
        go_ret
        exact ⟨by rw [HS.out]; rfl, hbe⟩
    · have hkz : ¬ ((k : Int) < (n : Int)) := by omega
      have hda : a.drop k = [] := List.drop_eq_nil_of_le (by rw [HA.out]; omega)
      rw [hda] at hcmp
      have HS : Hid (cmpL a b = compareInt (n : Int) (m : Int)) := by
        show _ = _
        rw [hcmp]
        by_cases hnm : n < m
        · rw [List.drop_eq_getElem_cons (by rw [HB.out]; omega : k < b.length)]
          simp only [cmpL, compareInt]
          rw [if_pos (by omega)]
        · rw [show b.drop k = [] from List.drop_eq_nil_of_le (by rw [HB.out]; omega)]
          simp only [cmpL, compareInt]
          rw [if_neg (by omega), if_neg (by omega)]
      clear hcmp hda
      go_wp2_with (go_at_call 50; (refine (c50 _).mono ?_; rintro e w1 ⟨rfl, rfl⟩))
      go_ret
      exact ⟨by rw [HS.out]; rfl, hbe⟩

set_option maxHeartbeats 2000000 in
theorem spans34 (f t f' t' : Int) (w : World) :
    Calls Tryd.prog 34 #[.agg #[.int .i64 f, .int .i64 t], .agg #[.int .i64 f', .int .i64 t']] w fun e w' => e = .returned (.int .i64 (if f = f' then compareInt t t' else compareInt f f')) ∧ Below w.heap.size w w' := by
  have c1 := ints50 f f'
  have c2 := ints50 t t'
  have hA : ∀ o o', Below w.heap.size w ((w.alloc o).alloc o') := fun o o' => bmore (al _ o) (al _ o')
  by_cases hf : f = f'
  · subst hf
    rw [show compareInt f f = 0 by simp [compareInt]] at c1
    simp only [if_true]
    go_enter Tryd.func34, Tryd.ntmps34
    go_wp2_with (first
      | (go_at_call 50; (with_reducible refine (c1 _).mono ?_; rintro e w1 ⟨rfl, rfl⟩; clear c1))
      | (go_at_call 50; (with_reducible refine (c2 _).mono ?_; rintro e w1 ⟨rfl, rfl⟩)))
    go_ret
    exact ⟨rfl, hA _ _⟩
  · have hne : compareInt f f' ≠ 0 := by
      unfold compareInt
      repeat' split
      all_goals omega
    simp only [hf, if_false]
    generalize compareInt f f' = C at *
    have hC : (C != 0) = true := by simpa using hne
    go_enter Tryd.func34, Tryd.ntmps34
    go_wp2_with (go_at_call 50; (with_reducible refine (c1 _).mono ?_; rintro e w1 ⟨rfl, rfl⟩))
    go_ret
    exact ⟨rfl, hA _ _⟩

set_option maxHeartbeats 2000000 in
theorem compare14r (v v' : Value) (a b : List Vt) (f t f' t' : Int) (w : World) (ha : SV w v a) (hb : SV w v' b) (hza : a.length ≤ 140737488355328) (hzb : b.length ≤ 140737488355328) :
    Calls Tryd.prog 14 #[RV v f t, RV v' f' t'] w fun e w' => e = .returned (.int .i64 (cmpR a f t b f' t')) ∧ Below w.heap.size w w' := by
  have c33 := fun o1 o2 => values33 v v' a b ((w.alloc o1).alloc o2) ((ha.below (al _ _)).below (al _ _)) ((hb.below (al _ _)).below (al _ _)) hza hzb
  have c34 := spans34 f t f' t'
  unfold cmpR
  generalize cmpL a b = C at *
  generalize (if f = f' then compareInt t t' else compareInt f f') = D at *
  clear ha hb hza hzb
  by_cases hC : C = 0
  · subst hC
    simp only [if_true]
    go_enter Tryd.func14, Tryd.ntmps14
    go_wp2_with (first
      | (go_at_call 33; (refine (c33 _ _).mono ?_; rintro e w1 ⟨rfl, hb1⟩; obtain ⟨⟨e0, _⟩, p0, _⟩ := two_blocks hb1 1; obtain ⟨⟨e1, _⟩, p1, _⟩ := two_blocks hb1 2; simp at e0 e1 p0 p1))
      | (go_at_call 34; (refine (c34 _).mono ?_; rintro e w2 ⟨rfl, hb2⟩)))
    go_ret
    exact ⟨rfl, bmore (two_over hb1) hb2⟩
  · have hCb : (C != 0) = true := by simpa using hC
    simp only [hC, if_false]
    go_enter Tryd.func14, Tryd.ntmps14
    go_wp2_with (go_at_call 33; (refine (c33 _ _).mono ?_; rintro e w1 ⟨rfl, hb1⟩))
    go_ret
    exact ⟨rfl, two_over hb1⟩

set_option maxHeartbeats 2000000 in
theorem same16 (v v' : Value) (a b : List Vt) (w : World) (ha : SV w v a) (hb : SV w v' b) (hza : a.length ≤ 140737488355328) (hzb : b.length ≤ 140737488355328) :
    Calls Tryd.prog 16 #[v, v'] w fun e w' => e = .returned (.bool (cmpL a b == 0)) ∧ Below w.heap.size w w' := by
  have c33 := values33 v v' a b w ha hb hza hzb
  generalize cmpL a b = C at *
  clear ha hb
  go_enter Tryd.func16, Tryd.ntmps16
  go_wp2_with (go_at_call 33; (refine c33.mono ?_; rintro e w1 ⟨rfl, hb1⟩))
  go_ret
  exact ⟨rfl, hb1⟩

end Go.Proofs.YtolggmmlaohpdabDoor
