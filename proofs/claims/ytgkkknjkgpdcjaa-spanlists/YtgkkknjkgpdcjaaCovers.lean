/- span.Covers: whether a list has all points of a span. -/
import Derived.Test.YtgkkknjkgpdcjaaGaps
namespace Go.Proofs.Ytgkkknjkgpdcjaa
open Go.RowKit

theorem canon_cover {ys : List (Int × Int)} (h : Canon ys) {a b : Int} (hab : a < b) (hc : ∀ p, a ≤ p → p < b → Pt ys p) : ∃ y, y ∈ ys ∧ y.1 ≤ a ∧ b ≤ y.2 := by
  obtain ⟨y, hy, h1, h2⟩ := hc a (Int.le_refl _) hab
  by_cases h3 : b ≤ y.2
  · exact ⟨y, hy, h1, h3⟩
  · obtain ⟨z, hz, h4, h5⟩ := hc y.2 (by omega) (by omega)
    obtain ⟨i, hi, rfl⟩ := List.mem_iff_getElem.1 hy
    obtain ⟨j, hj, rfl⟩ := List.mem_iff_getElem.1 hz
    have hp := h.2
    rw [List.pairwise_iff_getElem] at hp
    rcases (show i < j ∨ i = j ∨ j < i by omega) with c | c | c
    · have := hp i j hi hj c; omega
    · subst c; omega
    · have := hp j i hj hi c
      have r := (rightB_iff _ _).1 (h.1 _ (List.getElem_mem hi)); omega

/-- one span whole in another -/
def inB (c d a b : Int) : Bool := rightB c d && (rightB a b && (decide (c ≤ a) && decide (b ≤ d)))
theorem inB_iff (c d a b : Int) : inB c d a b = true ↔ rightB c d = true ∧ rightB a b = true ∧ c ≤ a ∧ b ≤ d := by
  simp only [inB, Bool.and_eq_true, decide_eq_true_eq]
theorem in_both (c d a b : Int) : inB c d a b = true ↔ bothB c d a b = true ∧ bothF c d a b = a ∧ bothT c d a b = b := by
  rw [inB_iff]
  constructor
  · rintro ⟨h1, h2, h3, h4⟩
    have r := (rightB_iff _ _).1 h2
    have hb : bothB c d a b = true := by rw [both_eq _ _ _ _ h1 h2]; simp; omega
    refine ⟨hb, ?_, ?_⟩
    · simp only [bothF, hb, if_true]; omega
    · simp only [bothT, hb, if_true]; omega
  · rintro ⟨hb, hf, ht⟩
    have hq := hb
    simp only [bothB, Bool.and_eq_true, decide_eq_true_eq] at hq
    simp only [bothF, bothT, hb, if_true] at hf ht
    exact ⟨hq.1, hq.2.1, by omega, by omega⟩

theorem FA.boxed {w w1 W : World} {bb o1 : Nat} {y1 y2 a b : Int} {vg : Value} {gs : List (Int × Int)} (h : FA w w1 bb o1 y1 y2 a b vg gs W) (x y : Int) : (W.alloc (.cells #[.int .i64 x, .int .i64 y] 23)).cell? ⟨w.heap.size, 0, none⟩ = some (.int .i64 a) ∧ (W.alloc (.cells #[.int .i64 x, .int .i64 y] 23)).cell? ⟨w.heap.size, 1, none⟩ = some (.int .i64 b) := by
  have h2 := h.step (below1 W (.cells #[.int .i64 x, .int .i64 y] 23))
  exact ⟨h2.1.2.2.1, h2.1.2.2.2⟩
theorem FB.boxed {w w1 W : World} {bb o1 N : Nat} {y1 y2 a b : Int} {vg : Value} {gs : List (Int × Int)} (h : FB w w1 bb o1 y1 y2 a b vg gs N W) (x y : Int) (hN : N ≠ w.heap.size) :
    ((W.setCell ⟨N, 0, none⟩ (.int .i64 x)).setCell ⟨N, 1, none⟩ (.int .i64 y)).cell? ⟨w.heap.size, 0, none⟩ = some (.int .i64 a) ∧ ((W.setCell ⟨N, 0, none⟩ (.int .i64 x)).setCell ⟨N, 1, none⟩ (.int .i64 y)).cell? ⟨w.heap.size, 1, none⟩ = some (.int .i64 b) := by
  obtain ⟨⟨⟨_, _, h3, h4⟩, _⟩, _, _⟩ := h
  exact ⟨(World.cell?_setCell_far _ _ _ _ hN).trans ((World.cell?_setCell_far _ _ _ _ hN).trans h3), (World.cell?_setCell_far _ _ _ _ hN).trans ((World.cell?_setCell_far _ _ _ _ hN).trans h4)⟩

set_option maxHeartbeats 2000000 in
theorem covers28 (v : Value) (xs : List (Int × Int)) (a b : Int) (w : World) (hl : xs.length ≤ 100000) (h : SRow w v xs) :
    Calls Try.prog 28 #[v, .agg #[.int .i64 a, .int .i64 b]] w fun e w' => ∃ r, e = .returned (.bool r) ∧ (r = true ↔ rightB a b = true ∧ ∀ p, a ≤ p → p < b → Has xs p) ∧ Below w.heap.size w w' := by
  have hB : SRow (w.alloc (.cells #[.int .i64 a, .int .i64 b] 23)) v xs := h.below (below1 w _) h.lt
  have hjoin := join24_g v xs _ (by omega) hB
  go_enter Try.func28, Try.ntmps28
  go_wp2_with fail
  refine hjoin.mono ?_
  rintro e w1 ⟨p, cap, n, ys, rfl, hn, HR, hb1⟩
  have hs1 := hb1.size
  simp only [World.size_alloc] at hs1
  have ka : w1.cell? ⟨w.heap.size, 0, none⟩ = some (.int .i64 a) := (bc hb1 w.heap.size 0 (by simp)).trans (box1 _ _ _).1
  have kb : w1.cell? ⟨w.heap.size, 1, none⟩ = some (.int .i64 b) := (bc hb1 w.heap.size 1 (by simp)).trans (box1 _ _ _).2
  have hbw : Below w.heap.size w w1 := (below1 _ _).trans (hb1.mono (by simp))
  have hz1 : w.heap.size < w1.heap.size := by omega
  clear hjoin hB hb1 hs1 h
  go_wp2_with fail
  go_loopw [13] (fun i wr => ∃ k : Nat, k ≤ n ∧ i = .int .i64 k ∧ (∀ i, (hi : i < ys.length) → i < k → inB ys[i].1 ys[i].2 a b = false) ∧ Below w1.heap.size w1 wr) (fun i _ => n - (intOf i).toNat)
  case atStart => exact ⟨0, Nat.zero_le _, rfl, fun i _ h => by omega, Below.refl _ _⟩
  case round =>
    obtain ⟨k, hk, rfl, hno, hnx⟩ := hrel
    have hsz := hnx.size
    by_cases hlt : k < n
    · obtain ⟨hny, hlen, hcan, hpt, hf⟩ := HR.out
      have hky : k < ys.length := by omega
      obtain ⟨bb, off, hpe, hbl, d1, d2⟩ := hf k hky
      subst hpe
      have c1 := (bc hnx bb (off + k * 2) hbl).trans d1
      have c2 := (bc hnx bb (off + k * 2 + 1) hbl).trans d2
      have c3 := (bc hnx w.heap.size 0 hz1).trans ka
      have c4 := (bc hnx w.heap.size 1 hz1).trans kb
      have ry := hcan.1 _ (List.getElem_mem hky)
      have hA : FA w w1 bb (off + k * 2) ys[k].1 ys[k].2 a b (.slice none 0 0) [] wr := ⟨⟨c1, c2, c3, c4⟩, by omega, by omega, hsz, Own.nil _ _, hnx⟩
      have nn1 : wr.heap.size ≠ bb := hA.ne.1
      have nn2 : wr.heap.size ≠ w.heap.size := hA.ne.2
      have hin := in_both ys[k].1 ys[k].2 a b
      have HNO : Hid (inB ys[k].1 ys[k].2 a b = false → ∀ i, (hi : i < ys.length) → i < k + 1 → inB ys[i].1 ys[i].2 a b = false) := fun hf i hi hik => by
        by_cases e : i = k
        · subst e; exact hf
        · exact hno i hi (by omega)
      have HYES : Hid (inB ys[k].1 ys[k].2 a b = true → rightB a b = true ∧ ∀ p, a ≤ p → p < b → Has xs p) := fun ht => by
        obtain ⟨_, q2, q3, q4⟩ := (inB_iff _ _ _ _).1 ht
        exact ⟨q2, fun p hp1 hp2 => (hpt p).1 ⟨ys[k], List.getElem_mem hky, by omega, by omega⟩⟩
      obtain ⟨y1, hy1⟩ : ∃ y, ys[k].1 = y := ⟨_, rfl⟩
      obtain ⟨y2, hy2⟩ : ∃ y, ys[k].2 = y := ⟨_, rfl⟩
      rw [hy1] at c1 ry hA HNO HYES hin
      rw [hy2] at c2 ry hA HNO HYES hin
      have HA := fun W (h : FA w w1 bb (off + k * 2) y1 y2 a b (.slice none 0 0) [] W) => kA9 W h
      have HBx := fun W (h : FB w w1 bb (off + k * 2) y1 y2 a b (.slice none 0 0) [] wr.heap.size W) => kB9 W h
      have hA1 : FA w w1 bb (off + k * 2) y1 y2 a b (.slice none 0 0) [] wr.drew := hA.step (Below.refl _ _).drew
      have hB1 : FB w w1 bb (off + k * 2) y1 y2 a b (.slice none 0 0) [] wr.heap.size (wr.alloc (.cells #[.int .i64 0, .int .i64 0] 23)).drew := hA.box.step (Below.refl _ _).drew
      clear hf d1 d2 hy1 hy2 hpt hcan hlen hny HR hno
      obtain ⟨ok, hok⟩ : ∃ r, bothB y1 y2 a b = r := ⟨_, rfl⟩
      obtain ⟨X, hX⟩ : ∃ r, bothF y1 y2 a b = r := ⟨_, rfl⟩
      obtain ⟨Y, hY⟩ : ∃ r, bothT y1 y2 a b = r := ⟨_, rfl⟩
      rw [hok, hX, hY] at HA HBx hin
      have HA' := hideP HA
      have HB' := hideP HBx
      clear HA HBx hok hX hY
      cases hok : ok
      · have hne : inB y1 y2 a b = false := by
          cases hq : inB y1 y2 a b
          · rfl
          · have := hin.1 hq; rw [hok] at this; simp at this
        subst hok
        clear hin HYES
        go_wp2_with fail
        go_region_held3 (fun w' => w'.cell? ⟨bb, off + k * 2, none⟩ = some (.int .i64 y1) ∧ w'.cell? ⟨bb, off + k * 2 + 1, none⟩ = some (.int .i64 y2) ∧ w'.cell? ⟨w.heap.size, 0, none⟩ = some (.int .i64 a) ∧ w'.cell? ⟨w.heap.size, 1, none⟩ = some (.int .i64 b)) (go_keep)
          (first
          | (go_at_call 9; refine (HA'.out _ ?_).mono ?_; assumption; rintro e w2 ⟨rfl, hk⟩; obtain ⟨⟨e1, e2, e3, e4⟩, hk2⟩ := id hk; obtain ⟨n1, n3⟩ := hk.ne)
          | (go_at_call 9; refine (HB'.out _ ?_).mono ?_; assumption; rintro e w2 ⟨rfl, hk⟩; obtain ⟨⟨⟨e1, e2, e3, e4⟩, hk2⟩, ⟨m1, m2, m3, m4⟩, m5⟩ := id hk))
        · have hP := FA.way hk X Y
          have hQ := FA.boxed hk X Y
          generalize w2.alloc (.cells #[.int .i64 X, .int .i64 Y] 23) = Wz at hP hQ ⊢
          obtain ⟨p1, p2, p3, p4, p5, p6, p7⟩ := hP
          obtain ⟨q1, q2⟩ := hQ
          go_wp2
          go_roundw
          case rel => exact ⟨k + 1, by omega, by go_num, HNO.out hne, p2⟩
          case measure => simp [intOf]; omega
        · have hP := FB.way hk X Y (by simp [Value.ownBlock]) hsz
          have hQ := FB.boxed hk X Y nn2
          generalize (w2.setCell ⟨wr.heap.size, 0, none⟩ (.int .i64 X)).setCell ⟨wr.heap.size, 1, none⟩ (.int .i64 Y) = Wz at hP hQ ⊢
          obtain ⟨p1, p2, p3, p4, p5, p6, p7⟩ := hP
          obtain ⟨q1, q2⟩ := hQ
          go_wp2
          go_roundw
          case rel => exact ⟨k + 1, by omega, by go_num, HNO.out hne, p2⟩
          case measure => simp [intOf]; omega
      · by_cases hxy : X = a ∧ Y = b
        · obtain ⟨hXa, hYb⟩ := hxy
          have hyes : inB y1 y2 a b = true := hin.2 ⟨hok, hXa, hYb⟩
          have hXa2 := hXa.symm
          have hYb2 := hYb.symm
          subst hXa2 hYb2
          subst hok
          clear hin HNO
          go_wp2_with fail
          go_region_held3 (fun w' => w'.cell? ⟨bb, off + k * 2, none⟩ = some (.int .i64 y1) ∧ w'.cell? ⟨bb, off + k * 2 + 1, none⟩ = some (.int .i64 y2) ∧ w'.cell? ⟨w.heap.size, 0, none⟩ = some (.int .i64 a) ∧ w'.cell? ⟨w.heap.size, 1, none⟩ = some (.int .i64 b)) (go_keep)
            (first
            | (go_at_call 9; refine (HA'.out _ ?_).mono ?_; assumption; rintro e w2 ⟨rfl, hk⟩; obtain ⟨⟨e1, e2, e3, e4⟩, hk2⟩ := id hk; obtain ⟨n1, n3⟩ := hk.ne)
            | (go_at_call 9; refine (HB'.out _ ?_).mono ?_; assumption; rintro e w2 ⟨rfl, hk⟩; obtain ⟨⟨⟨e1, e2, e3, e4⟩, hk2⟩, ⟨m1, m2, m3, m4⟩, m5⟩ := id hk))
          · have hP := FA.way hk a b
            have hQ := FA.boxed hk a b
            generalize w2.alloc (.cells #[.int .i64 a, .int .i64 b] 23) = Wz at hP hQ ⊢
            obtain ⟨p1, p2, p3, p4, p5, p6, p7⟩ := hP
            obtain ⟨q1, q2⟩ := hQ
            go_wp2
            go_ret
            exact ⟨true, rfl, ⟨fun _ => HYES.out hyes, fun _ => rfl⟩, hbw.trans (p2.mono (Nat.le_of_lt hz1))⟩
          · have hP := FB.way hk a b (by simp [Value.ownBlock]) hsz
            have hQ := FB.boxed hk a b nn2
            generalize (w2.setCell ⟨wr.heap.size, 0, none⟩ (.int .i64 a)).setCell ⟨wr.heap.size, 1, none⟩ (.int .i64 b) = Wz at hP hQ ⊢
            obtain ⟨p1, p2, p3, p4, p5, p6, p7⟩ := hP
            obtain ⟨q1, q2⟩ := hQ
            go_wp2
            go_ret
            exact ⟨true, rfl, ⟨fun _ => HYES.out hyes, fun _ => rfl⟩, hbw.trans (p2.mono (Nat.le_of_lt hz1))⟩
        · have hne : inB y1 y2 a b = false := by
            cases hq : inB y1 y2 a b
            · rfl
            · exact absurd (hin.1 hq).2 hxy
          have hbe : (X == a && Y == b) = false := by
            cases e1 : (X == a) <;> cases e2 : (Y == b) <;> first | rfl | exact absurd ⟨by simpa using e1, by simpa using e2⟩ hxy
          subst hok
          clear hin HYES
          go_wp2_with fail
          go_region_held3 (fun w' => w'.cell? ⟨bb, off + k * 2, none⟩ = some (.int .i64 y1) ∧ w'.cell? ⟨bb, off + k * 2 + 1, none⟩ = some (.int .i64 y2) ∧ w'.cell? ⟨w.heap.size, 0, none⟩ = some (.int .i64 a) ∧ w'.cell? ⟨w.heap.size, 1, none⟩ = some (.int .i64 b)) (go_keep)
            (first
            | (go_at_call 9; refine (HA'.out _ ?_).mono ?_; assumption; rintro e w2 ⟨rfl, hk⟩; obtain ⟨⟨e1, e2, e3, e4⟩, hk2⟩ := id hk; obtain ⟨n1, n3⟩ := hk.ne)
            | (go_at_call 9; refine (HB'.out _ ?_).mono ?_; assumption; rintro e w2 ⟨rfl, hk⟩; obtain ⟨⟨⟨e1, e2, e3, e4⟩, hk2⟩, ⟨m1, m2, m3, m4⟩, m5⟩ := id hk))
          · have hP := FA.way hk X Y
            have hQ := FA.boxed hk X Y
            generalize w2.alloc (.cells #[.int .i64 X, .int .i64 Y] 23) = Wz at hP hQ ⊢
            obtain ⟨p1, p2, p3, p4, p5, p6, p7⟩ := hP
            obtain ⟨q1, q2⟩ := hQ
            go_wp2
            all_goals
              go_roundw
              case rel => exact ⟨k + 1, by omega, by go_num, HNO.out hne, p2⟩
              case measure => simp [intOf]; omega
          · have hP := FB.way hk X Y (by simp [Value.ownBlock]) hsz
            have hQ := FB.boxed hk X Y nn2
            generalize (w2.setCell ⟨wr.heap.size, 0, none⟩ (.int .i64 X)).setCell ⟨wr.heap.size, 1, none⟩ (.int .i64 Y) = Wz at hP hQ ⊢
            obtain ⟨p1, p2, p3, p4, p5, p6, p7⟩ := hP
            obtain ⟨q1, q2⟩ := hQ
            go_wp2
            all_goals
              go_roundw
              case rel => exact ⟨k + 1, by omega, by go_num, HNO.out hne, p2⟩
              case measure => simp [intOf]; omega
    · obtain ⟨hny, hlen, hcan, hpt, hf⟩ := HR.out
      have hfalse : ¬ (rightB a b = true ∧ ∀ p, a ≤ p → p < b → Has xs p) := fun ⟨h1, h2⟩ => by
        have r := (rightB_iff _ _).1 h1
        obtain ⟨y, hy, h3, h4⟩ := canon_cover hcan r.2.1 (fun p hp1 hp2 => (hpt p).2 (h2 p hp1 hp2))
        obtain ⟨i, hi, rfl⟩ := List.mem_iff_getElem.1 hy
        have := hno i hi (by omega)
        rw [(inB_iff _ _ _ _).2 ⟨hcan.1 _ hy, h1, h3, h4⟩] at this
        simp at this
      clear hny hlen hcan hpt hf HR hno
      go_wp2
      go_ret
      exact ⟨false, rfl, ⟨fun h => by simp at h, fun h => absurd h hfalse⟩, hbw.trans (hnx.mono (Nat.le_of_lt hz1))⟩

end Go.Proofs.Ytgkkknjkgpdcjaa
