/- The document's Values, Same, Compare, SameRow, SameRows, SameAt. -/
import Derived.Test.YtpagnphabchfcaaRq
namespace Go.Proofs.Ytpagnphabchfcaa
open Go.RowKit Go.Shelf
set_option maxRecDepth 100000
set_option maxHeartbeats 2000000 in
theorem values26 {w : World} {X : Nat → Prop} {v v' : Value} {a b : List Vt} (ha : SV w X v a) (hb : SV w X v' b) (hza : a.length ≤ 1000000) (hzb : b.length ≤ 1000000) :
    Calls Try.prog 26 #[v, v'] w fun e w' => e = .returned (.int .i64 (cmpL a b)) ∧ Below w.heap.size w w' := by
  obtain ⟨pa, ca, rfl⟩ := ha.form
  obtain ⟨pb, cb, rfl⟩ := hb.form
  obtain ⟨n, hn⟩ : ∃ n, a.length = n := ⟨_, rfl⟩
  obtain ⟨m, hm⟩ : ∃ m, b.length = m := ⟨_, rfl⟩
  have HA : Hid (SV w X (.slice pa a.length ca) a) := ha
  have HB : Hid (SV w X (.slice pb b.length cb) b) := hb
  have HN : Hid (a.length = n) := hn
  have HM : Hid (b.length = m) := hm
  rw [hn] at hza ⊢
  rw [hm] at hzb ⊢
  clear hn hm ha hb
  have c43 := ints43 (n : Int) (m : Int)
  go_enter Try.func26, Try.ntmps26
  go_wp2_with fail
  go_loopw [5] (fun i wr => ∃ k : Nat, i = .int .i64 (k : Int) ∧ Hid (k ≤ n ∧ k ≤ m) ∧ Hid (cmpL a b = cmpL (a.drop k) (b.drop k)) ∧ Hid (Below w.heap.size w wr)) (fun i _ => ((n : Int) - intOf i).toNat)
  case atStart => exact ⟨0, rfl, ⟨by omega, by omega⟩, rfl, Below.refl _ _⟩
  case round =>
    obtain ⟨k, rfl, hkk, hcmp, hbe⟩ := hrel
    obtain ⟨hk1, hk2⟩ := hkk.out
    by_cases hlt : k < n
    · have hkz : (k : Int) < (n : Int) := by omega
      have hk0 : (0 : Int) ≤ (k : Int) := by omega
      by_cases hlm : k < m
      · have hkz3 : (k : Int) < (m : Int) := by omega
        obtain ⟨x, hx⟩ : ∃ x, a[k]? = some x := ⟨_, List.getElem?_eq_getElem (by rw [HN.out]; exact hlt)⟩
        obtain ⟨y, hy⟩ : ∃ y, b[k]? = some y := ⟨_, List.getElem?_eq_getElem (by rw [HM.out]; exact hlm)⟩
        have HS : Hid (cmpL a b = if cmpT x y = 0 then cmpL (a.drop (k + 1)) (b.drop (k + 1)) else cmpT x y) := by
          show _ = _
          rw [hcmp.out]; exact lexL_step hx hy
        obtain ⟨b1, o1, rfl, _⟩ := (SV.below HA.out hbe.out).at hx
        obtain ⟨b2, o2, rfl, _⟩ := (SV.below HB.out hbe.out).at hy
        have HC : Hid (∀ W, Below wr.heap.size wr W → W.cell? ⟨b1, o1 + k * 3, none⟩ = some (.int .u8 x.1) ∧ W.cell? ⟨b1, o1 + k * 3 + 1, none⟩ = some (.int .i64 x.2.1) ∧ W.cell? ⟨b1, o1 + k * 3 + 2, none⟩ = some (.string x.2.2) ∧ W.cell? ⟨b2, o2 + k * 3, none⟩ = some (.int .u8 y.1) ∧ W.cell? ⟨b2, o2 + k * 3 + 1, none⟩ = some (.int .i64 y.2.1) ∧ W.cell? ⟨b2, o2 + k * 3 + 2, none⟩ = some (.string y.2.2)) := fun W kk => by
          obtain ⟨g1, p1, e1, r0, r1, r2⟩ := (SV.below HA.out (bmore hbe.out kk)).at hx
          obtain ⟨g2, p2, e2, s0, s1, s2⟩ := (SV.below HB.out (bmore hbe.out kk)).at hy
          simp only [Option.some.injEq, Addr.mk.injEq] at e1 e2
          obtain ⟨rfl, rfl, _⟩ := e1
          obtain ⟨rfl, rfl, _⟩ := e2
          exact ⟨r0, r1, r2, s0, s1, s2⟩
        have c42 := cmp42 x y
        have K0 : Below wr.heap.size wr wr.drew := (Below.refl _ _).drew
        have hS0 := HC.out _ K0
        generalize hT : cmpT x y = T at *
        clear hT hx hy hcmp
        obtain ⟨xk, xn, xs⟩ := x
        obtain ⟨yk, yn, ys⟩ := y
        simp only at HC c42 hS0
        by_cases hT0 : T = 0
        · subst hT0
          go_wp2_with fail
          go_region_held3 (fun W => W.cell? ⟨b1, o1 + k * 3, none⟩ = some (.int .u8 xk) ∧ W.cell? ⟨b1, o1 + k * 3 + 1, none⟩ = some (.int .i64 xn) ∧ W.cell? ⟨b1, o1 + k * 3 + 2, none⟩ = some (.string xs) ∧ W.cell? ⟨b2, o2 + k * 3, none⟩ = some (.int .u8 yk) ∧ W.cell? ⟨b2, o2 + k * 3 + 1, none⟩ = some (.int .i64 yn) ∧ W.cell? ⟨b2, o2 + k * 3 + 2, none⟩ = some (.string ys)) (first | exact hS0 | exact HC.out _ K1) (first
            | (go_at_call 42; (with_reducible refine (c42 _).mono ?_); rintro e w1 ⟨rfl, hb1⟩; have K1 := bmore K0 hb1))
          clear hS0
          go_wp2_with fail
          go_roundw
          case rel => exact ⟨k + 1, by simp, ⟨by omega, by omega⟩, by rw [HS.out]; rfl, bmore hbe.out K1⟩
          case measure => simp only [intOf]; omega
        · have hT1 : (T != 0) = true := by simpa using hT0
          go_wp2_with fail
          go_region_held3 (fun W => W.cell? ⟨b1, o1 + k * 3, none⟩ = some (.int .u8 xk) ∧ W.cell? ⟨b1, o1 + k * 3 + 1, none⟩ = some (.int .i64 xn) ∧ W.cell? ⟨b1, o1 + k * 3 + 2, none⟩ = some (.string xs) ∧ W.cell? ⟨b2, o2 + k * 3, none⟩ = some (.int .u8 yk) ∧ W.cell? ⟨b2, o2 + k * 3 + 1, none⟩ = some (.int .i64 yn) ∧ W.cell? ⟨b2, o2 + k * 3 + 2, none⟩ = some (.string ys)) (first | exact hS0 | exact HC.out _ K1) (first
            | (go_at_call 42; (with_reducible refine (c42 _).mono ?_); rintro e w1 ⟨rfl, hb1⟩; have K1 := bmore K0 hb1))
          clear hS0
          go_wp2_with fail
          go_ret
          exact ⟨by rw [HS.out, if_neg hT0]; rfl, bmore hbe.out K1⟩
      · have hkz3 : ¬ ((k : Int) < (m : Int)) := by omega
        have HS : Hid (cmpL a b = Lib.compareInt (n : Int) (m : Int)) := by
          show _ = _
          rw [hcmp.out, show b.drop k = [] from List.drop_eq_nil_of_le (by rw [HM.out]; omega), List.drop_eq_getElem_cons (by rw [HN.out]; omega : k < a.length)]
          simp only [cmpL, lexL, Lib.compareInt]
          rw [if_neg (by omega), if_pos (by omega)]
        clear hcmp
        go_wp2_with (go_at_call 43; (refine (c43 _).mono ?_; rintro e w1 ⟨rfl, rfl⟩))
        go_ret
        exact ⟨by rw [HS.out]; rfl, hbe.out⟩
    · have hkz : ¬ ((k : Int) < (n : Int)) := by omega
      have HS : Hid (cmpL a b = Lib.compareInt (n : Int) (m : Int)) := by
        show _ = _
        rw [hcmp.out, show a.drop k = [] from List.drop_eq_nil_of_le (by rw [HN.out]; omega)]
        by_cases hnm : n < m
        · rw [List.drop_eq_getElem_cons (by rw [HM.out]; omega : k < b.length)]
          simp only [cmpL, lexL, Lib.compareInt]
          rw [if_pos (by omega)]
        · rw [show b.drop k = [] from List.drop_eq_nil_of_le (by rw [HM.out]; omega)]
          simp only [cmpL, lexL, Lib.compareInt]
          rw [if_neg (by omega), if_neg (by omega)]
      clear hcmp
      go_wp2_with (go_at_call 43; (refine (c43 _).mono ?_; rintro e w1 ⟨rfl, rfl⟩))
      go_ret
      exact ⟨by rw [HS.out]; rfl, hbe.out⟩
theorem same12 {w : World} {X : Nat → Prop} {v v' : Value} {a b : List Vt} (ha : SV w X v a) (hb : SV w X v' b) (hza : a.length ≤ 1000000) (hzb : b.length ≤ 1000000) :
    Calls Try.prog 12 #[v, v'] w fun e w' => e = .returned (.bool (decide (a = b))) ∧ Below w.heap.size w w' := by
  have c26 := values26 ha hb hza hzb
  rw [show decide (a = b) = (cmpL a b == 0) by rw [Bool.eq_iff_iff]; simp [ordL.eq]]
  generalize cmpL a b = C at *
  clear ha hb
  go_enter Try.func12, Try.ntmps12
  go_wp2_with (go_at_call 26; (with_reducible refine c26.mono ?_); rintro e w1 ⟨rfl, hb1⟩)
  go_ret
  exact ⟨rfl, hb1⟩
end Go.Proofs.Ytpagnphabchfcaa
