/- SpanParts: the law's walk: it answers true, and turns no old memory. -/
import Derived.Test.YtgkkknjkgpdcjaaTells
namespace Go.Proofs.Ytgkkknjkgpdcjaa
open Go.RowKit

/-- how many of a list have a point -/
def cntH (p : Int) : List (Int × Int) → Int
  | [] => 0
  | y :: r => (if hasB y.1 y.2 p = true then 1 else 0) + cntH p r
theorem cntH_append (p : Int) (xs ys : List (Int × Int)) : cntH p (xs ++ ys) = cntH p xs + cntH p ys := by
  induction xs with
  | nil => simp [cntH]
  | cons x r ih => simp only [List.cons_append, cntH, ih]; omega
theorem cntH_take (p : Int) (ys : List (Int × Int)) (k : Nat) (h : k < ys.length) : cntH p (ys.take (k + 1)) = cntH p (ys.take k) + (if hasB ys[k].1 ys[k].2 p = true then 1 else 0) := by
  rw [List.take_succ_eq_append_getElem h, cntH_append]; simp [cntH]
theorem cntH_bd (p : Int) (ys : List (Int × Int)) : 0 ≤ cntH p ys ∧ cntH p ys ≤ ys.length := by
  induction ys with
  | nil => simp [cntH]
  | cons x r ih => simp only [cntH, List.length_cons]; split <;> omega

theorem hasB_iff (a b p : Int) : hasB a b p = true ↔ -1000 ≤ a ∧ a < b ∧ b ≤ 1000 ∧ a ≤ p ∧ p < b := by
  simp only [hasB, Bool.and_eq_true, rightB_iff, decide_eq_true_eq]; omega

theorem cnt_addP (p : Int) (xs : List (Int × Int)) (a b : Int) (ha : -1000 ≤ a) (hb : b ≤ 1000) : cntH p (addP xs a b) = cntH p xs + (if a ≤ p ∧ p < b then 1 else 0) ∧ (addP xs a b).length ≤ xs.length + 1 := by
  unfold addP
  by_cases h : a < b
  · rw [if_pos h, cntH_append]
    refine ⟨?_, by simp⟩
    simp only [cntH]
    by_cases h2 : a ≤ p ∧ p < b
    · rw [if_pos ((hasB_iff _ _ _).2 (by omega)), if_pos h2]; omega
    · rw [if_neg (fun h3 => h2 (by have := (hasB_iff _ _ _).1 h3; omega)), if_neg h2]; omega
  · rw [if_neg h, if_neg (by omega)]
    exact ⟨by omega, by omega⟩

def n0B (a b c d p : Int) : Bool := bothB a b c d && hasB (bothF a b c d) (bothT a b c d) p
def n0 (a b c d p : Int) : Int := if n0B a b c d p = true then 1 else 0

theorem parts_math (a b c d p : Int) : (n0 a b c d p + cntH p (minusL a b c d) = 1 ↔ hasB a b p = true) ∧ n0 a b c d p + cntH p (minusL a b c d) ≤ 1 ∧ (minusL a b c d).length ≤ 2 := by
  by_cases h1 : rightB a b = true
  · have r1 := (rightB_iff _ _).1 h1
    by_cases h2 : bothB a b c d = true
    · have r2 : max a c < min b d ∧ rightB c d = true := by
        simp only [bothB, Bool.and_eq_true, decide_eq_true_eq] at h2
        exact ⟨h2.2.2, h2.2.1⟩
      have r3 := (rightB_iff _ _).1 r2.2
      have eF : bothF a b c d = max a c := by simp [bothF, h2]
      have eT : bothT a b c d = min b d := by simp [bothT, h2]
      have eM : minusL a b c d = addP (addP [] a (max a c)) (min b d) b := by simp [minusL, h1, h2, eF, eT]
      obtain ⟨q1, q2⟩ := cnt_addP p [] a (max a c) (by omega) (by omega)
      obtain ⟨q3, q4⟩ := cnt_addP p (addP [] a (max a c)) (min b d) b (by omega) (by omega)
      rw [eM, q3, q1]
      have eN : n0 a b c d p = if max a c ≤ p ∧ p < min b d then 1 else 0 := by
        unfold n0 n0B
        rw [h2, eF, eT, Bool.true_and]
        by_cases h5 : max a c ≤ p ∧ p < min b d
        · rw [if_pos h5, if_pos ((hasB_iff _ _ _).2 (by omega))]
        · rw [if_neg h5, if_neg (fun h6 => h5 (by have := (hasB_iff _ _ _).1 h6; omega))]
      rw [eN, hasB_iff]
      simp only [cntH]
      have hlen : (addP (addP [] a (max a c)) (min b d) b).length ≤ 2 := by simp at q2; omega
      refine ⟨?_, ?_, hlen⟩
      · split <;> split <;> split <;> omega
      · split <;> split <;> split <;> omega
    · have eM : minusL a b c d = [(a, b)] := by simp [minusL, h1, h2]
      have eN : n0 a b c d p = 0 := by simp [n0, n0B, h2]
      rw [eM, eN]
      simp only [cntH]
      refine ⟨?_, ?_, by simp⟩
      · by_cases h3 : hasB a b p = true
        · simp [h3]
        · simp [h3]
      · split <;> omega
  · have h2 : bothB a b c d = false := by
      simp only [Bool.not_eq_true] at h1
      simp [bothB, h1]
    have eM : minusL a b c d = [] := by simp [minusL, h1]
    have eN : n0 a b c d p = 0 := by simp [n0, n0B, h2]
    have eH : hasB a b p = false := by
      simp only [Bool.not_eq_true] at h1
      simp [hasB, h1]
    rw [eM, eN, eH]
    simp [cntH]

/-- Minus's answer, its slice written out, over two boxes -/
theorem minus22_form (a b c d : Int) (w : World) :
    Calls Try.prog 22 #[.agg #[.int .i64 a, .int .i64 b], .agg #[.int .i64 c, .int .i64 d]] w fun e w' => ∃ p cap n, e = .returned (.slice p n cap) ∧ n ≤ 2 ∧ Hid (n = (minusL a b c d).length ∧
      ∀ i, (hi : i < (minusL a b c d).length) → ∃ b' off, p = some ⟨b', off, none⟩ ∧ b' < w'.heap.size ∧ w'.cell? ⟨b', off + i * 2, none⟩ = some (.int .i64 (minusL a b c d)[i].1) ∧ w'.cell? ⟨b', off + i * 2 + 1, none⟩ = some (.int .i64 (minusL a b c d)[i].2)) ∧ Below w.heap.size w w' := by
  refine (minus22 a b c d w).mono ?_
  rintro e w1 ⟨v1, rfl, ho, hb1⟩
  obtain ⟨p, cap, rfl, hf⟩ := ho.srow.form
  exact ⟨p, cap, _, rfl, (parts_math a b c d 0).2.2, ⟨rfl, hf⟩, hb1⟩

set_option maxHeartbeats 2000000 in
theorem spanParts6 (a b c d p : Int) (w : World) :
    Calls Try.prog 6 #[.agg #[.int .i64 a, .int .i64 b], .agg #[.int .i64 c, .int .i64 d], .int .i64 p] w fun e w' => e = .returned (.bool true) ∧ Below w.heap.size w w' := by
  have hmath := parts_math a b c d p
  have hb9 := fun W => both9 a b c d W
  have hm22 := fun W => minus22_form a b c d W
  have hn0 : n0 a b c d p = if n0B a b c d p = true then 1 else 0 := rfl
  have hn0B : n0B a b c d p = (bothB a b c d && hasB (bothF a b c d) (bothT a b c d) p) := rfl
  generalize n0B a b c d p = nb at hn0 hn0B
  generalize bothF a b c d = x at hb9 hn0B
  generalize bothT a b c d = y at hb9 hn0B
  generalize bothB a b c d = ok at hb9 hn0B
  generalize minusL a b c d = l at hmath hm22
  generalize n0 a b c d p = n at hmath hn0
  have HM : Hid ((n + cntH p l = 1 ↔ hasB a b p = true) ∧ n + cntH p l ≤ 1 ∧ l.length ≤ 2) := hmath
  have HN : Hid (n = if nb = true then 1 else 0) := hn0
  have HB : Hid (nb = (ok && hasB x y p)) := hn0B
  clear hmath hn0 hn0B
  go_enter Try.func6, Try.ntmps6
  go_wp2_with fail
  obtain ⟨W0, hW0⟩ : ∃ W, (w.alloc (.cells #[.int .i64 a, .int .i64 b] 23)).alloc (.cells #[.int .i64 c, .int .i64 d] 23) = W := ⟨_, rfl⟩
  rw [hW0]
  obtain ⟨z0, e1, e2, e3, e4, hbw⟩ := box2 w a b c d W0 hW0.symm
  clear hW0
  refine (hb9 _).mono ?_
  rintro e w1 ⟨rfl, hb1⟩
  have hz1 := hb1.size
  have hz2 : w.heap.size + 1 < w1.heap.size := by omega
  have hz3 : w.heap.size < w1.heap.size := by omega
  have f1 := (bc hb1 (w.heap.size) 0 (by omega)).trans e1
  have f2 := (bc hb1 (w.heap.size) 1 (by omega)).trans e2
  have f3 := (bc hb1 (w.heap.size + 1) 0 (by omega)).trans e3
  have f4 := (bc hb1 (w.heap.size + 1) 1 (by omega)).trans e4
  have hbw1 := hbw.trans (hb1.mono hbw.size)
  clear e1 e2 e3 e4 hb1 hbw z0 hz1 hb9
  have hAl : ∀ g k, g < w1.heap.size → (w1.alloc (.cells #[.int .i64 x, .int .i64 y] 23)).cell? ⟨g, k, none⟩ = w1.cell? ⟨g, k, none⟩ := fun g k hg => bc (below1 w1 _) g k hg
  have q1 := (hAl _ 0 hz3).trans f1
  have q2 := (hAl _ 1 hz3).trans f2
  have q3 := (hAl _ 0 hz2).trans f3
  have q4 := (hAl _ 1 hz2).trans f4
  have hs1 : w.heap.size < (w1.alloc (.cells #[.int .i64 x, .int .i64 y] 23)).heap.size := by simp; omega
  have hs2 : w.heap.size + 1 < (w1.alloc (.cells #[.int .i64 x, .int .i64 y] 23)).heap.size := by simp; omega
  have hbA := below_alloc hbw1 (.cells #[.int .i64 x, .int .i64 y] 23)
  clear hAl
  cases hok : ok
  · rw [hok] at HB
    have hnv : n = 0 := by rw [HN.out, HB.out]; simp
    clear HN HB
    go_wp2_with fail
    have g1 := q1
    have g2 := q2
    have g3 := q3
    have g4 := q4
    have hz5 := hs1
    have hbw2 := hbA
    clear q1 q2 q3 q4 f1 f2 f3 f4 hbA hbw1 hs1 hs2
    refine (hm22 _).mono ?_
    rintro e w3 ⟨pp, cap, m, rfl, hm, HL, hb3⟩
    have hz6 : w.heap.size < w3.heap.size := Nat.lt_of_lt_of_le hz5 hb3.size
    have j1 := (bc hb3 w.heap.size 0 hz5).trans g1
    have j2 := (bc hb3 w.heap.size 1 hz5).trans g2
    have hbw3 := hbw2.trans (hb3.mono hbw2.size)
    clear g1 g2 g3 g4 hb3 hbw2 hz5 hm22
    go_wp2_with fail
    go_loopw [7, 11] (fun c i wr => ∃ k : Nat, k ≤ m ∧ i = .int .i64 k ∧ c = .int .i64 (n + cntH p (l.take k)) ∧ Below w3.heap.size w3 wr) (fun _ i _ => m - (intOf i).toNat)
    case atStart => exact ⟨0, Nat.zero_le _, rfl, by rw [hnv]; rfl, Below.refl _ _⟩
    case round =>
      obtain ⟨k, hk, rfl, rfl, hnx⟩ := hrel
      have hsz := hnx.size
      have hbd := cntH_bd p (l.take k)
      have htl : (l.take k).length ≤ k := List.length_take_le _ _
      by_cases hlt : k < m
      · obtain ⟨hml, hf⟩ := HL.out
        have hkl : k < l.length := by omega
        obtain ⟨bb, off, hpe, hbl, d1, d2⟩ := hf k hkl
        subst hpe
        have HT : Hid (cntH p (l.take (k + 1)) = cntH p (l.take k) + (if hasB l[k].1 l[k].2 p = true then 1 else 0)) := cntH_take p l k hkl
        have c1 := (bc hnx bb (off + k * 2) hbl).trans d1
        have c2 := (bc hnx bb (off + k * 2 + 1) hbl).trans d2
        obtain ⟨y1, hy1⟩ : ∃ y, l[k].1 = y := ⟨_, rfl⟩
        obtain ⟨y2, hy2⟩ : ∃ y, l[k].2 = y := ⟨_, rfl⟩
        rw [hy1] at c1 HT
        rw [hy2] at c2 HT
        obtain ⟨s, hs⟩ : ∃ s, cntH p (l.take k) = s := ⟨_, rfl⟩
        rw [hs] at hbd HT ⊢
        obtain ⟨b1, b2⟩ := hbd
        have b3 : s ≤ 2 := by omega
        clear hs hf hy1 hy2 d1 d2 hml htl b2
        have hn1 : 0 ≤ n ∧ n ≤ 1 := by rw [hnv]; omega
        obtain ⟨hn1, hn2⟩ := hn1
        have HV : Hid (n = 0) := hnv
        clear hnv
        cases hh : hasB y1 y2 p
        · go_wp2_with (go_at_call 14; refine (has14 _ _ _ _).mono ?_; rintro e w4 ⟨rfl, hb4⟩; rw [hh])
          go_roundw
          case rel => exact ⟨k + 1, by omega, by go_num, by rw [HT.out, hh]; simp, hnx.trans (hb4.mono hsz)⟩
          case measure => simp [intOf]; omega
        · go_wp2_with (go_at_call 14; refine (has14 _ _ _ _).mono ?_; rintro e w4 ⟨rfl, hb4⟩; rw [hh])
          go_roundw
          case rel => exact ⟨k + 1, by omega, by go_num, by rw [HT.out, hh]; simp only [if_true]; go_num, hnx.trans (hb4.mono hsz)⟩
          case measure => simp [intOf]; omega
      · obtain ⟨hml, hf⟩ := HL.out
        have hkl : l.take k = l := List.take_of_length_le (by omega)
        rw [hkl] at hbd ⊢
        obtain ⟨m1, m2, m3⟩ := HM.out
        obtain ⟨X, hX⟩ : ∃ X, n + cntH p l = X := ⟨_, rfl⟩
        rw [hX] at m1 m2 ⊢
        have t1 := (bc hnx w.heap.size 0 hz6).trans j1
        have t2 := (bc hnx w.heap.size 1 hz6).trans j2
        have t3 : (X == 1) = hasB a b p := by rw [Bool.eq_iff_iff, beq_iff_eq]; exact m1
        have hz7 : w.heap.size < wr.heap.size := by omega
        have hd : decide ((m : Int) ≤ 2) = true := by simp; omega
        clear hX hkl hf hml hbd m1 m3 htl HM j1 j2 hnv HL
        go_wp2_with (first | (go_at_call 11; refine (live11 _).mono ?_; rintro e w4 ⟨rfl, hb4⟩; have u1 := (bc hb4 w.heap.size 0 hz7).trans t1; have u2 := (bc hb4 w.heap.size 1 hz7).trans t2; clear t1 t2) | (go_at_call 14; refine (has14 _ _ _ _).mono ?_; rintro e w5 ⟨rfl, hb5⟩))
        go_ret
        refine ⟨rfl, ?_⟩
        have hl2 := Nat.le_trans hbw3.size (Nat.le_trans hsz hb4.size)
        exact hbw3.trans ((hnx.mono hbw3.size).trans ((hb4.mono (Nat.le_trans hbw3.size hsz)).trans (hb5.mono hl2)))
  · rw [hok] at HB
    cases hh2 : hasB x y p
    · rw [hh2] at HB
      have hnv : n = 0 := by rw [HN.out, HB.out]; simp
      clear HN HB
      go_wp2_with (go_at_call 14; refine (has14 _ _ _ _).mono ?_; rintro e w2 ⟨rfl, hb2⟩; rw [hh2]; have g1 := (bc hb2 _ 0 hs1).trans q1; have g2 := (bc hb2 _ 1 hs1).trans q2; have g3 := (bc hb2 _ 0 hs2).trans q3; have g4 := (bc hb2 _ 1 hs2).trans q4; have hz5 := Nat.lt_of_lt_of_le hs1 hb2.size; have hbw2 := hbA.trans (hb2.mono hbA.size); clear q1 q2 q3 q4 f1 f2 f3 f4 hbA hbw1 hs1 hs2 hb2)
      refine (hm22 _).mono ?_
      rintro e w3 ⟨pp, cap, m, rfl, hm, HL, hb3⟩
      have hz6 : w.heap.size < w3.heap.size := Nat.lt_of_lt_of_le hz5 hb3.size
      have j1 := (bc hb3 w.heap.size 0 hz5).trans g1
      have j2 := (bc hb3 w.heap.size 1 hz5).trans g2
      have hbw3 := hbw2.trans (hb3.mono hbw2.size)
      clear g1 g2 g3 g4 hb3 hbw2 hz5 hm22
      go_wp2_with fail
      go_loopw [7, 11] (fun c i wr => ∃ k : Nat, k ≤ m ∧ i = .int .i64 k ∧ c = .int .i64 (n + cntH p (l.take k)) ∧ Below w3.heap.size w3 wr) (fun _ i _ => m - (intOf i).toNat)
      case atStart => exact ⟨0, Nat.zero_le _, rfl, by rw [hnv]; rfl, Below.refl _ _⟩
      case round =>
        obtain ⟨k, hk, rfl, rfl, hnx⟩ := hrel
        have hsz := hnx.size
        have hbd := cntH_bd p (l.take k)
        have htl : (l.take k).length ≤ k := List.length_take_le _ _
        by_cases hlt : k < m
        · obtain ⟨hml, hf⟩ := HL.out
          have hkl : k < l.length := by omega
          obtain ⟨bb, off, hpe, hbl, d1, d2⟩ := hf k hkl
          subst hpe
          have HT : Hid (cntH p (l.take (k + 1)) = cntH p (l.take k) + (if hasB l[k].1 l[k].2 p = true then 1 else 0)) := cntH_take p l k hkl
          have c1 := (bc hnx bb (off + k * 2) hbl).trans d1
          have c2 := (bc hnx bb (off + k * 2 + 1) hbl).trans d2
          obtain ⟨y1, hy1⟩ : ∃ y, l[k].1 = y := ⟨_, rfl⟩
          obtain ⟨y2, hy2⟩ : ∃ y, l[k].2 = y := ⟨_, rfl⟩
          rw [hy1] at c1 HT
          rw [hy2] at c2 HT
          obtain ⟨s, hs⟩ : ∃ s, cntH p (l.take k) = s := ⟨_, rfl⟩
          rw [hs] at hbd HT ⊢
          obtain ⟨b1, b2⟩ := hbd
          have b3 : s ≤ 2 := by omega
          clear hs hf hy1 hy2 d1 d2 hml htl b2
          have hn1 : 0 ≤ n ∧ n ≤ 1 := by rw [hnv]; omega
          obtain ⟨hn1, hn2⟩ := hn1
          have HV : Hid (n = 0) := hnv
          clear hnv
          cases hh : hasB y1 y2 p
          · go_wp2_with (go_at_call 14; refine (has14 _ _ _ _).mono ?_; rintro e w4 ⟨rfl, hb4⟩; rw [hh])
            go_roundw
            case rel => exact ⟨k + 1, by omega, by go_num, by rw [HT.out, hh]; simp, hnx.trans (hb4.mono hsz)⟩
            case measure => simp [intOf]; omega
          · go_wp2_with (go_at_call 14; refine (has14 _ _ _ _).mono ?_; rintro e w4 ⟨rfl, hb4⟩; rw [hh])
            go_roundw
            case rel => exact ⟨k + 1, by omega, by go_num, by rw [HT.out, hh]; simp only [if_true]; go_num, hnx.trans (hb4.mono hsz)⟩
            case measure => simp [intOf]; omega
        · obtain ⟨hml, hf⟩ := HL.out
          have hkl : l.take k = l := List.take_of_length_le (by omega)
          rw [hkl] at hbd ⊢
          obtain ⟨m1, m2, m3⟩ := HM.out
          obtain ⟨X, hX⟩ : ∃ X, n + cntH p l = X := ⟨_, rfl⟩
          rw [hX] at m1 m2 ⊢
          have t1 := (bc hnx w.heap.size 0 hz6).trans j1
          have t2 := (bc hnx w.heap.size 1 hz6).trans j2
          have t3 : (X == 1) = hasB a b p := by rw [Bool.eq_iff_iff, beq_iff_eq]; exact m1
          have hz7 : w.heap.size < wr.heap.size := by omega
          have hd : decide ((m : Int) ≤ 2) = true := by simp; omega
          clear hX hkl hf hml hbd m1 m3 htl HM j1 j2 hnv HL
          go_wp2_with (first | (go_at_call 11; refine (live11 _).mono ?_; rintro e w4 ⟨rfl, hb4⟩; have u1 := (bc hb4 w.heap.size 0 hz7).trans t1; have u2 := (bc hb4 w.heap.size 1 hz7).trans t2; clear t1 t2) | (go_at_call 14; refine (has14 _ _ _ _).mono ?_; rintro e w5 ⟨rfl, hb5⟩))
          go_ret
          refine ⟨rfl, ?_⟩
          have hl2 := Nat.le_trans hbw3.size (Nat.le_trans hsz hb4.size)
          exact hbw3.trans ((hnx.mono hbw3.size).trans ((hb4.mono (Nat.le_trans hbw3.size hsz)).trans (hb5.mono hl2)))
    · rw [hh2] at HB
      have hnv : n = 1 := by rw [HN.out, HB.out]; simp
      clear HN HB
      go_wp2_with (go_at_call 14; refine (has14 _ _ _ _).mono ?_; rintro e w2 ⟨rfl, hb2⟩; rw [hh2]; have g1 := (bc hb2 _ 0 hs1).trans q1; have g2 := (bc hb2 _ 1 hs1).trans q2; have g3 := (bc hb2 _ 0 hs2).trans q3; have g4 := (bc hb2 _ 1 hs2).trans q4; have hz5 := Nat.lt_of_lt_of_le hs1 hb2.size; have hbw2 := hbA.trans (hb2.mono hbA.size); clear q1 q2 q3 q4 f1 f2 f3 f4 hbA hbw1 hs1 hs2 hb2)
      refine (hm22 _).mono ?_
      rintro e w3 ⟨pp, cap, m, rfl, hm, HL, hb3⟩
      have hz6 : w.heap.size < w3.heap.size := Nat.lt_of_lt_of_le hz5 hb3.size
      have j1 := (bc hb3 w.heap.size 0 hz5).trans g1
      have j2 := (bc hb3 w.heap.size 1 hz5).trans g2
      have hbw3 := hbw2.trans (hb3.mono hbw2.size)
      clear g1 g2 g3 g4 hb3 hbw2 hz5 hm22
      go_wp2_with fail
      go_loopw [7, 11] (fun c i wr => ∃ k : Nat, k ≤ m ∧ i = .int .i64 k ∧ c = .int .i64 (n + cntH p (l.take k)) ∧ Below w3.heap.size w3 wr) (fun _ i _ => m - (intOf i).toNat)
      case atStart => exact ⟨0, Nat.zero_le _, rfl, by rw [hnv]; rfl, Below.refl _ _⟩
      case round =>
        obtain ⟨k, hk, rfl, rfl, hnx⟩ := hrel
        have hsz := hnx.size
        have hbd := cntH_bd p (l.take k)
        have htl : (l.take k).length ≤ k := List.length_take_le _ _
        by_cases hlt : k < m
        · obtain ⟨hml, hf⟩ := HL.out
          have hkl : k < l.length := by omega
          obtain ⟨bb, off, hpe, hbl, d1, d2⟩ := hf k hkl
          subst hpe
          have HT : Hid (cntH p (l.take (k + 1)) = cntH p (l.take k) + (if hasB l[k].1 l[k].2 p = true then 1 else 0)) := cntH_take p l k hkl
          have c1 := (bc hnx bb (off + k * 2) hbl).trans d1
          have c2 := (bc hnx bb (off + k * 2 + 1) hbl).trans d2
          obtain ⟨y1, hy1⟩ : ∃ y, l[k].1 = y := ⟨_, rfl⟩
          obtain ⟨y2, hy2⟩ : ∃ y, l[k].2 = y := ⟨_, rfl⟩
          rw [hy1] at c1 HT
          rw [hy2] at c2 HT
          obtain ⟨s, hs⟩ : ∃ s, cntH p (l.take k) = s := ⟨_, rfl⟩
          rw [hs] at hbd HT ⊢
          obtain ⟨b1, b2⟩ := hbd
          have b3 : s ≤ 2 := by omega
          clear hs hf hy1 hy2 d1 d2 hml htl b2
          have hn1 : 0 ≤ n ∧ n ≤ 1 := by rw [hnv]; omega
          obtain ⟨hn1, hn2⟩ := hn1
          have HV : Hid (n = 1) := hnv
          clear hnv
          cases hh : hasB y1 y2 p
          · go_wp2_with (go_at_call 14; refine (has14 _ _ _ _).mono ?_; rintro e w4 ⟨rfl, hb4⟩; rw [hh])
            go_roundw
            case rel => exact ⟨k + 1, by omega, by go_num, by rw [HT.out, hh]; simp, hnx.trans (hb4.mono hsz)⟩
            case measure => simp [intOf]; omega
          · go_wp2_with (go_at_call 14; refine (has14 _ _ _ _).mono ?_; rintro e w4 ⟨rfl, hb4⟩; rw [hh])
            go_roundw
            case rel => exact ⟨k + 1, by omega, by go_num, by rw [HT.out, hh]; simp only [if_true]; go_num, hnx.trans (hb4.mono hsz)⟩
            case measure => simp [intOf]; omega
        · obtain ⟨hml, hf⟩ := HL.out
          have hkl : l.take k = l := List.take_of_length_le (by omega)
          rw [hkl] at hbd ⊢
          obtain ⟨m1, m2, m3⟩ := HM.out
          obtain ⟨X, hX⟩ : ∃ X, n + cntH p l = X := ⟨_, rfl⟩
          rw [hX] at m1 m2 ⊢
          have t1 := (bc hnx w.heap.size 0 hz6).trans j1
          have t2 := (bc hnx w.heap.size 1 hz6).trans j2
          have t3 : (X == 1) = hasB a b p := by rw [Bool.eq_iff_iff, beq_iff_eq]; exact m1
          have hz7 : w.heap.size < wr.heap.size := by omega
          have hd : decide ((m : Int) ≤ 2) = true := by simp; omega
          clear hX hkl hf hml hbd m1 m3 htl HM j1 j2 hnv HL
          go_wp2_with (first | (go_at_call 11; refine (live11 _).mono ?_; rintro e w4 ⟨rfl, hb4⟩; have u1 := (bc hb4 w.heap.size 0 hz7).trans t1; have u2 := (bc hb4 w.heap.size 1 hz7).trans t2; clear t1 t2) | (go_at_call 14; refine (has14 _ _ _ _).mono ?_; rintro e w5 ⟨rfl, hb5⟩))
          go_ret
          refine ⟨rfl, ?_⟩
          have hl2 := Nat.le_trans hbw3.size (Nat.le_trans hsz hb4.size)
          exact hbw3.trans ((hnx.mono hbw3.size).trans ((hb4.mono (Nat.le_trans hbw3.size hsz)).trans (hb5.mono hl2)))

end Go.Proofs.Ytgkkknjkgpdcjaa
