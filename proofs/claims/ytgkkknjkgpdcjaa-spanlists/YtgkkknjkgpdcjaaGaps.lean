/- span.Gaps: the points of a span that none of a list has. -/
import Derived.Test.YtgkkknjkgpdcjaaGapm
import Derived.Test.YtgkkknjkgpdcjaaFew
namespace Go.Proofs.Ytgkkknjkgpdcjaa
open Go.RowKit

/-- Both, over a world of which two boxes are known -/
theorem both_eq (a b c d : Int) (h1 : rightB a b = true) (h2 : rightB c d = true) : bothB a b c d = decide (max a c < min b d) := by
  simp [bothB, h1, h2]

theorem join24_g (v : Value) (xs : List (Int × Int)) (w : World) (hl : xs.length ≤ 100000) (h : SRow w v xs) :
    Calls Try.prog 24 #[v] w fun e w' => ∃ p cap n ys, e = .returned (.slice p n cap) ∧ n ≤ 100000 ∧ Hid (n = ys.length ∧ ys.length ≤ xs.length ∧ Canon ys ∧ (∀ p, Pt ys p ↔ Has xs p) ∧
      ∀ i, (hi : i < ys.length) → ∃ b off, p = some ⟨b, off, none⟩ ∧ b < w'.heap.size ∧ w'.cell? ⟨b, off + i * 2, none⟩ = some (.int .i64 ys[i].1) ∧ w'.cell? ⟨b, off + i * 2 + 1, none⟩ = some (.int .i64 ys[i].2)) ∧ Below w.heap.size w w' := by
  refine (join24 v xs w hl h).mono ?_
  rintro e w1 ⟨v1, ys, rfl, hc, hp, hlen, ho, hb1⟩
  obtain ⟨p, cap, rfl, hf⟩ := ho.srow.form
  exact ⟨p, cap, _, ys, rfl, by omega, ⟨rfl, hlen, hc, hp, hf⟩, hb1⟩

theorem hideP {p : Prop} (h : p) : Hid p := h

/-- what is known of the world in a round: one of the list's, the span's box, the pieces, old memory -/
def FA (w w1 : World) (bb o1 : Nat) (y1 y2 a b : Int) (vg : Value) (gs : List (Int × Int)) (W : World) : Prop :=
  (W.cell? ⟨bb, o1, none⟩ = some (.int .i64 y1) ∧ W.cell? ⟨bb, o1 + 1, none⟩ = some (.int .i64 y2) ∧ W.cell? ⟨w.heap.size, 0, none⟩ = some (.int .i64 a) ∧ W.cell? ⟨w.heap.size, 1, none⟩ = some (.int .i64 b)) ∧
  (bb < W.heap.size ∧ w.heap.size < W.heap.size ∧ w1.heap.size ≤ W.heap.size ∧ Own W w1.heap.size vg gs ∧ Below w1.heap.size w1 W)
/-- .. and of one more box -/
def FB (w w1 : World) (bb o1 : Nat) (y1 y2 a b : Int) (vg : Value) (gs : List (Int × Int)) (N : Nat) (W : World) : Prop :=
  FA w w1 bb o1 y1 y2 a b vg gs W ∧ (W.cell? ⟨N, 0, none⟩ = some (.int .i64 0) ∧ W.cell? ⟨N, 1, none⟩ = some (.int .i64 0) ∧ W.frozen? ⟨N, 0, none⟩ = false ∧ W.frozen? ⟨N, 1, none⟩ = false) ∧ N < W.heap.size

theorem FA.step {w w1 W W' : World} {bb o1 : Nat} {y1 y2 a b : Int} {vg : Value} {gs : List (Int × Int)} (h : FA w w1 bb o1 y1 y2 a b vg gs W) (hb : Below W.heap.size W W') : FA w w1 bb o1 y1 y2 a b vg gs W' := by
  obtain ⟨⟨h1, h2, h3, h4⟩, h5, h6, h7, h8, h9⟩ := h
  have hs := hb.size
  exact ⟨⟨(bc hb _ _ h5).trans h1, (bc hb _ _ h5).trans h2, (bc hb _ _ h6).trans h3, (bc hb _ _ h6).trans h4⟩, by omega, by omega, by omega, h8.below hb (fun j hj => (World.ownsRow.lt h8 j hj).2), h9.trans (hb.mono h7)⟩
theorem FB.step {w w1 W W' : World} {bb o1 N : Nat} {y1 y2 a b : Int} {vg : Value} {gs : List (Int × Int)} (h : FB w w1 bb o1 y1 y2 a b vg gs N W) (hb : Below W.heap.size W W') : FB w w1 bb o1 y1 y2 a b vg gs N W' := by
  obtain ⟨h0, ⟨h1, h2, h3, h4⟩, h5⟩ := h
  exact ⟨h0.step hb, ⟨(bc hb _ _ h5).trans h1, (bc hb _ _ h5).trans h2, (hb.frozen (p := ⟨N, 0, none⟩) h5).trans h3, (hb.frozen (p := ⟨N, 1, none⟩) h5).trans h4⟩, Nat.lt_of_lt_of_le h5 hb.size⟩
theorem FA.ne {w w1 W : World} {bb o1 : Nat} {y1 y2 a b : Int} {vg : Value} {gs : List (Int × Int)} (h : FA w w1 bb o1 y1 y2 a b vg gs W) : W.heap.size ≠ bb ∧ W.heap.size ≠ w.heap.size := ⟨Nat.ne_of_gt h.2.1, Nat.ne_of_gt h.2.2.1⟩
theorem FA.box {w w1 W : World} {bb o1 : Nat} {y1 y2 a b : Int} {vg : Value} {gs : List (Int × Int)} (h : FA w w1 bb o1 y1 y2 a b vg gs W) : FB w w1 bb o1 y1 y2 a b vg gs W.heap.size (W.alloc (.cells #[.int .i64 0, .int .i64 0] 23)) := by
  refine ⟨h.step (below1 _ _), ⟨(box1 W 0 0).1, (box1 W 0 0).2, ?_, ?_⟩, by simp⟩
  · simp only [World.frozen?, heap_alloc_new]; simp
  · simp only [World.frozen?, heap_alloc_new]; simp
theorem kA9 {w w1 : World} {bb o1 : Nat} {y1 y2 a b : Int} {vg : Value} {gs : List (Int × Int)} (W : World) (h : FA w w1 bb o1 y1 y2 a b vg gs W) :
    Calls Try.prog 9 #[.agg #[.int .i64 y1, .int .i64 y2], .agg #[.int .i64 a, .int .i64 b]] W fun e w' => e = .returned (.tuple #[.agg #[.int .i64 (bothF y1 y2 a b), .int .i64 (bothT y1 y2 a b)], .bool (bothB y1 y2 a b)]) ∧ FA w w1 bb o1 y1 y2 a b vg gs w' :=
  (both9 y1 y2 a b W).mono fun _ _ ⟨he, hb⟩ => ⟨he, h.step hb⟩
theorem kB9 {w w1 : World} {bb o1 N : Nat} {y1 y2 a b : Int} {vg : Value} {gs : List (Int × Int)} (W : World) (h : FB w w1 bb o1 y1 y2 a b vg gs N W) :
    Calls Try.prog 9 #[.agg #[.int .i64 y1, .int .i64 y2], .agg #[.int .i64 a, .int .i64 b]] W fun e w' => e = .returned (.tuple #[.agg #[.int .i64 (bothF y1 y2 a b), .int .i64 (bothT y1 y2 a b)], .bool (bothB y1 y2 a b)]) ∧ FB w w1 bb o1 y1 y2 a b vg gs N w' :=
  (both9 y1 y2 a b W).mono fun _ _ ⟨he, hb⟩ => ⟨he, h.step hb⟩

/-- behind the region: the box N holds what both have -/
def FP (w1 : World) (vg : Value) (gs : List (Int × Int)) (N : Nat) (x y : Int) (W : World) : Prop :=
  Own W w1.heap.size vg gs ∧ Below w1.heap.size w1 W ∧ w1.heap.size ≤ W.heap.size ∧ W.cell? ⟨N, 0, none⟩ = some (.int .i64 x) ∧ W.cell? ⟨N, 1, none⟩ = some (.int .i64 y) ∧ N < W.heap.size ∧ some N ≠ vg.ownBlock
theorem FA.way {w w1 W : World} {bb o1 : Nat} {y1 y2 a b : Int} {vg : Value} {gs : List (Int × Int)} (h : FA w w1 bb o1 y1 y2 a b vg gs W) (x y : Int) : FP w1 vg gs W.heap.size x y (W.alloc (.cells #[.int .i64 x, .int .i64 y] 23)) := by
  have h2 := h.step (below1 W (.cells #[.int .i64 x, .int .i64 y] 23))
  obtain ⟨_, h5, h6, h7, h8, h9⟩ := h
  exact ⟨h2.2.2.2.2.1, h2.2.2.2.2.2, h2.2.2.2.1, (box1 W x y).1, (box1 W x y).2, by simp, fun e => by have := (World.ownsRow.lt h8 _ e.symm).2; omega⟩
theorem Own.setOther {w : World} {B N o : Nat} {v u : Value} {xs : List (Int × Int)} (h : Own w B v xs) (hN : some N ≠ v.ownBlock) : Own (w.setCell ⟨N, o, none⟩ u) B v xs := by
  obtain ⟨h1, h2⟩ := h
  rcases h2 with h2 | ⟨g, cap, cur, rfl, hbg, hg, r⟩
  · exact ⟨h1, .inl h2⟩
  · refine ⟨h1, .inr ⟨g, cap, cur, rfl, hbg, ?_, r⟩⟩
    rw [Below.heap_setCell _ _ _ _ (fun e => hN (by simp [Value.ownBlock]; exact e.symm))]; exact hg
theorem FB.way {w w1 W : World} {bb o1 N : Nat} {y1 y2 a b : Int} {vg : Value} {gs : List (Int × Int)} (h : FB w w1 bb o1 y1 y2 a b vg gs N W) (x y : Int) (hN : some N ≠ vg.ownBlock) (hN2 : w1.heap.size ≤ N) :
    FP w1 vg gs N x y ((W.setCell ⟨N, 0, none⟩ (.int .i64 x)).setCell ⟨N, 1, none⟩ (.int .i64 y)) := by
  obtain ⟨⟨_, h5, h6, h7, h8, h9⟩, ⟨c0, c1, _, _⟩, hlt⟩ := h
  refine ⟨(h8.setOther hN).setOther hN, (h9.setCell hN2 _).setCell hN2 _, by simpa [World.setCell] using h7, ?_, ?_, by simpa [World.setCell] using hlt, hN⟩
  · exact (World.cell?_setCell_other _ _ _ _ (by simp)).trans (World.cell?_setCell_same _ _ _ c0)
  · exact World.cell?_setCell_same _ _ _ (u := .int .i64 0) ((World.cell?_setCell_other _ _ _ _ (by simp)).trans c1)

theorem grown_trans {a b c : World} {row : Option Nat} (h : a.grownBy b row) (k : b.grownBy c row) : a.grownBy c row :=
  ⟨k.os.trans h.os, k.tape.trans h.tape, k.output.trans h.output, Nat.le_trans h.size k.size, fun i hi hne => (k.block i (Nat.lt_of_lt_of_le hi h.size) hne).trans (h.block i hi hne)⟩

set_option maxHeartbeats 400000 in
/-- addPiece, and that nothing but the slice's own row has turned -/
theorem addPiece36g (v : Value) (xs : List (Int × Int)) (a b : Int) (w : World) (B : Nat) (hown : Own w B v xs) (hB : B ≤ w.heap.size) (hl : xs.length ≤ 100000) :
    Calls Try.prog 36 #[v, .int .i64 a, .int .i64 b] w fun e w' => ∃ v', e = .returned v' ∧ Own w' B v' (addP xs a b) ∧ Below B w w' ∧ w.grownBy w' v.ownBlock := by
  by_cases h : a < b
  · have hx : addP xs a b = xs ++ [(a, b)] := by simp [addP, h]
    rw [hx]; clear hx
    obtain ⟨i0, hi, hz0, hz1, hz2⟩ := info_parts Try.info23
    go_enter Try.func36, Try.ntmps36
    go_wp2_with (at_builtin; refine wpList_append_own _ rfl _ _ 31 rfl B 23 i0 (.agg #[.int .i64 0, .int .i64 0]) 2 16 Try.underlying31 hi hz0 hz1 hz2 rfl (by decide) _ _ _ rfl (World.ownsRow.alloc hown _) ⟨w.heap.size, 0, none⟩ 1 1 [.int .i64 a, .int .i64 b] rfl rfl ?c1 ?c2 ?c3 ?c4 ?c5 ?_)
    case c1 => exact two_new _ _ _ _ rfl
    case c2 => intro u hu; simp at hu; rcases hu with rfl | rfl <;> rfl
    case c3 => unfold maxLen; omega
    case c4 => omega
    case c5 => simp; omega
    · intro v' w1 hown' hgrow _
      have R1 : Own w1 B v' (xs ++ [(a, b)]) := by
        unfold Own; rw [cells2_append]; simpa [cells2, enc2] using hown'
      have R2 : Below B w w1 := ((Below.refl B w).alloc hB _).grown hgrow (by simp; omega) (fun k hk => (World.ownsRow.lt hown k hk).1)
      have R3 : w.grownBy w1 v.ownBlock := grown_trans (World.grownBy_alloc w _ _) hgrow
      clear hown' hgrow
      go_wp2
      go_ret
      exact ⟨_, rfl, R1, R2, R3⟩
  · have hx : addP xs a b = xs := by simp [addP, h]
    rw [hx]; clear hx
    go_enter Try.func36, Try.ntmps36
    go_wp2
    go_ret
    exact ⟨_, rfl, hown, Below.refl _ _, ⟨rfl, rfl, rfl, Nat.le_refl _, fun _ _ _ => rfl⟩⟩

set_option maxHeartbeats 2000000 in
theorem gaps26 (v : Value) (xs : List (Int × Int)) (a b : Int) (w : World) (hl : xs.length ≤ 50000) (h : SRow w v xs) :
    Calls Try.prog 26 #[v, .agg #[.int .i64 a, .int .i64 b]] w fun e w' => ∃ v' gs, e = .returned v' ∧ Canon gs ∧ (∀ p, Pt gs p ↔ hasB a b p = true ∧ ¬ Has xs p) ∧ gs.length ≤ xs.length + 1 ∧ Own w' w.heap.size v' gs ∧ Below w.heap.size w w' := by
  cases hr : rightB a b
  · have hno : ∀ p, hasB a b p = false := fun p => by simp [hasB, hr]
    go_enter Try.func26, Try.ntmps26
    go_wp2_with (go_at_call 12; refine (right12 _ _ _).mono ?_; rintro e w' ⟨rfl, rfl⟩; rw [hr])
    go_ret
    exact ⟨_, [], rfl, ⟨by simp, by simp⟩, fun p => ⟨fun h => absurd h (pt_nil _), fun h => by rw [hno] at h; simp at h⟩, by simp, Own.nil _ _, below_alloc (below1 _ _) _⟩
  · obtain ⟨ra, rab, rb⟩ := (rightB_iff _ _).1 hr
    have hB : SRow (w.alloc (.cells #[.int .i64 a, .int .i64 b] 23)) v xs := h.below (below1 w _) h.lt
    have hB2 : SRow ((w.alloc (.cells #[.int .i64 a, .int .i64 b] 23)).alloc (.cells #[.int .i64 a, .int .i64 b] 23)) v xs := hB.below (below1 _ _) hB.lt
    have hjoin := join24_g v xs _ (by omega) hB2
    go_enter Try.func26, Try.ntmps26
    go_wp2_with (first | (go_at_call 12; refine (right12 _ _ _).mono ?_; rintro e w' ⟨rfl, rfl⟩; rw [hr]) | fail)
    refine hjoin.mono ?_
    rintro e w1 ⟨p, cap, n, ys, rfl, hn, HR, hb1⟩
    have hs1 := hb1.size
    simp only [World.size_alloc] at hs1
    have ka : w1.cell? ⟨w.heap.size, 0, none⟩ = some (.int .i64 a) := (bc hb1 w.heap.size 0 (by simp; omega)).trans ((bc (below1 _ _) w.heap.size 0 (by simp)).trans (box1 _ _ _).1)
    have kb : w1.cell? ⟨w.heap.size, 1, none⟩ = some (.int .i64 b) := (bc hb1 w.heap.size 1 (by simp; omega)).trans ((bc (below1 _ _) w.heap.size 1 (by simp)).trans (box1 _ _ _).2)
    have hbw : Below w.heap.size w w1 := (below_alloc (below1 _ _) _).trans (hb1.mono (by simp; omega))
    have hz1 : w.heap.size < w1.heap.size := by omega
    clear hjoin hB hB2 hb1 hs1 h
    go_wp2_with fail
    go_loopw [5, 6, 20] (fun vg f i wr => ∃ (k : Nat) (gs : List (Int × Int)) (ff : Int), k ≤ n ∧ i = .int .i64 k ∧ f = .int .i64 ff ∧ Own wr w1.heap.size vg gs ∧ Gapped ys a b k gs ff ∧ Below w1.heap.size w1 wr) (fun _ _ i _ => n - (intOf i).toNat)
    case atStart => exact ⟨0, [], a, Nat.zero_le _, rfl, rfl, Own.nil _ _, Gapped.start _ _ _ (by omega), Below.refl _ _⟩
    case round =>
      obtain ⟨k, gs, ff, hk, rfl, rfl, hown, hg, hnx⟩ := hrel
      have hsz := hnx.size
      by_cases hlt : k < n
      · obtain ⟨hny, hlen, hcan, hpt, hf⟩ := HR.out
        have hky : k < ys.length := by omega
        obtain ⟨bb, off, hpe, hbl, d1, d2⟩ := hf k hky
        subst hpe
        have c1 := (bc hnx bb (off + k * 2) hbl).trans d1
        have c2 := (bc hnx bb (off + k * 2 + 1) hbl).trans d2
        have c3 := (bc hnx w.heap.size 0 hz1).trans ka
        have c4 := (bc hnx w.heap.size 1 hz1).trans kb
        have ry := hcan.1 _ (List.getElem_mem hky)
        have hgl := hg.len
        have hA : FA w w1 bb (off + k * 2) ys[k].1 ys[k].2 a b u5 gs wr := ⟨⟨c1, c2, c3, c4⟩, by omega, by omega, hsz, hown, hnx⟩
        have nn1 : wr.heap.size ≠ bb := hA.ne.1
        have nn2 : wr.heap.size ≠ w.heap.size := hA.ne.2
        have GS := fun hno => hg.skip hky hno rab ((rightB_iff _ _).1 ry).2.1
        have GA := fun hyes => hg.add hcan hky hyes ra rb
        obtain ⟨y1, hy1⟩ : ∃ y, ys[k].1 = y := ⟨_, rfl⟩
        obtain ⟨y2, hy2⟩ : ∃ y, ys[k].2 = y := ⟨_, rfl⟩
        rw [hy1] at c1 ry GS GA hA
        rw [hy2] at c2 ry GS GA hA
        have hbe := both_eq y1 y2 a b ry hr
        have HA := fun W (h : FA w w1 bb (off + k * 2) y1 y2 a b u5 gs W) => kA9 W h
        have HBx := fun W (h : FB w w1 bb (off + k * 2) y1 y2 a b u5 gs wr.heap.size W) => kB9 W h
        have hA1 : FA w w1 bb (off + k * 2) y1 y2 a b u5 gs wr.drew := hA.step (Below.refl _ _).drew
        have hB1 : FB w w1 bb (off + k * 2) y1 y2 a b u5 gs wr.heap.size (wr.alloc (.cells #[.int .i64 0, .int .i64 0] 23)).drew := hA.box.step (Below.refl _ _).drew
        have hn2 : k < 100000 := by omega
        clear hf d1 d2 hy1 hy2 hpt hcan hlen hny HR
        by_cases hyes : max y1 a < min y2 b
        · have hbt : bothB y1 y2 a b = true := by rw [hbe]; simpa using hyes
          have hbF : bothF y1 y2 a b = max y1 a := by simp [bothF, hbt]
          have hbT : bothT y1 y2 a b = min y2 b := by simp [bothT, hbt]
          have G1 : Hid (Gapped ys a b (k + 1) (addP gs ff (max y1 a)) (min y2 b)) := GA hyes
          rw [hbt, hbF, hbT] at HA HBx
          have HA' := hideP HA
          have HB' := hideP HBx
          clear HA HBx
          generalize max y1 a = X at *
          generalize min y2 b = Y at *
          clear GS GA hbe hbt hbF hbT hyes hg ry
          go_wp2_with fail
          go_region_held3 (fun w' => w'.cell? ⟨bb, off + k * 2, none⟩ = some (.int .i64 y1) ∧ w'.cell? ⟨bb, off + k * 2 + 1, none⟩ = some (.int .i64 y2) ∧ w'.cell? ⟨w.heap.size, 0, none⟩ = some (.int .i64 a) ∧ w'.cell? ⟨w.heap.size, 1, none⟩ = some (.int .i64 b)) (go_keep)
            (first
            | (go_at_call 9; refine (HA'.out _ ?_).mono ?_; assumption; rintro e w2 ⟨rfl, hk⟩; obtain ⟨⟨e1, e2, e3, e4⟩, hk2⟩ := id hk; obtain ⟨n1, n3⟩ := hk.ne)
            | (go_at_call 9; refine (HB'.out _ ?_).mono ?_; assumption; rintro e w2 ⟨rfl, hk⟩; obtain ⟨⟨⟨e1, e2, e3, e4⟩, hk2⟩, ⟨m1, m2, m3, m4⟩, m5⟩ := id hk))
          · have hP := FA.way hk X Y
            generalize w2.alloc (.cells #[.int .i64 X, .int .i64 Y] 23) = Wz at hP ⊢
            obtain ⟨p1, p2, p3, p4, p5, p6, p7⟩ := hP
            go_wp2_with fail
            refine (addPiece36g u5 gs ff X Wz w1.heap.size p1 p3 (by omega)).mono ?_
            rintro e w3 ⟨v3, rfl, ho3, hb3, hg3⟩
            have p8 : w3.cell? ⟨w2.heap.size, 1, none⟩ = some (.int .i64 Y) := hg3.cell p5 p7
            have p9 := p2.trans hb3
            clear p1 p2 p4 p5 hb3 hg3
            go_wp2
            go_roundw
            case rel => exact ⟨k + 1, _, Y, by omega, by go_num, rfl, ho3, G1.out, p9⟩
            case measure => simp [intOf]; omega
          · have hP := FB.way hk X Y (fun e => by have := (World.ownsRow.lt hown _ e.symm).2; omega) hsz
            generalize (w2.setCell ⟨wr.heap.size, 0, none⟩ (.int .i64 X)).setCell ⟨wr.heap.size, 1, none⟩ (.int .i64 Y) = Wz at hP ⊢
            obtain ⟨p1, p2, p3, p4, p5, p6, p7⟩ := hP
            go_wp2_with fail
            refine (addPiece36g u5 gs ff X Wz w1.heap.size p1 p3 (by omega)).mono ?_
            rintro e w3 ⟨v3, rfl, ho3, hb3, hg3⟩
            have p8 : w3.cell? ⟨wr.heap.size, 1, none⟩ = some (.int .i64 Y) := hg3.cell p5 p7
            have p9 := p2.trans hb3
            clear p1 p2 p4 p5 hb3 hg3
            go_wp2
            go_roundw
            case rel => exact ⟨k + 1, _, Y, by omega, by go_num, rfl, ho3, G1.out, p9⟩
            case measure => simp [intOf]; omega
        · have hbt : bothB y1 y2 a b = false := by rw [hbe]; simpa using hyes
          have G1 : Hid (Gapped ys a b (k + 1) gs ff) := GS hyes
          rw [hbt] at HA HBx
          have HA' := hideP HA
          have HB' := hideP HBx
          clear HA HBx
          generalize bothF y1 y2 a b = X at *
          generalize bothT y1 y2 a b = Y at *
          clear GS GA hbe hbt hyes hg ry
          go_wp2_with fail
          go_region_held3 (fun w' => w'.cell? ⟨bb, off + k * 2, none⟩ = some (.int .i64 y1) ∧ w'.cell? ⟨bb, off + k * 2 + 1, none⟩ = some (.int .i64 y2) ∧ w'.cell? ⟨w.heap.size, 0, none⟩ = some (.int .i64 a) ∧ w'.cell? ⟨w.heap.size, 1, none⟩ = some (.int .i64 b)) (go_keep)
            (first
            | (go_at_call 9; refine (HA'.out _ ?_).mono ?_; assumption; rintro e w2 ⟨rfl, hk⟩; obtain ⟨⟨e1, e2, e3, e4⟩, hk2⟩ := id hk; obtain ⟨n1, n3⟩ := hk.ne)
            | (go_at_call 9; refine (HB'.out _ ?_).mono ?_; assumption; rintro e w2 ⟨rfl, hk⟩; obtain ⟨⟨⟨e1, e2, e3, e4⟩, hk2⟩, ⟨m1, m2, m3, m4⟩, m5⟩ := id hk))
          · have hP := FA.way hk X Y
            generalize w2.alloc (.cells #[.int .i64 X, .int .i64 Y] 23) = Wz at hP ⊢
            obtain ⟨p1, p2, p3, p4, p5, p6, p7⟩ := hP
            go_wp2
            go_roundw
            case rel => exact ⟨k + 1, gs, ff, by omega, by go_num, rfl, p1, G1.out, p2⟩
            case measure => simp [intOf]; omega
          · have hP := FB.way hk X Y (fun e => by have := (World.ownsRow.lt hown _ e.symm).2; omega) hsz
            generalize (w2.setCell ⟨wr.heap.size, 0, none⟩ (.int .i64 X)).setCell ⟨wr.heap.size, 1, none⟩ (.int .i64 Y) = Wz at hP ⊢
            obtain ⟨p1, p2, p3, p4, p5, p6, p7⟩ := hP
            go_wp2
            go_roundw
            case rel => exact ⟨k + 1, gs, ff, by omega, by go_num, rfl, p1, G1.out, p2⟩
            case measure => simp [intOf]; omega
      · obtain ⟨hny, hlen, hcan, hpt, hf⟩ := HR.out
        have hkn : k = ys.length := by omega
        rw [hkn] at hg
        have hfin := hg.finish ra rb
        have hgl := hg.len
        have c3 := (bc hnx w.heap.size 0 hz1).trans ka
        have c4 := (bc hnx w.heap.size 1 hz1).trans kb
        have hlg : gs.length ≤ 100000 := by omega
        have hF : ∀ p, Pt (addP gs ff b) p ↔ hasB a b p = true ∧ ¬ Has xs p := fun p => by
          rw [hfin.2.1 p, hpt p]
          have e : hasB a b p = true ↔ (a ≤ p ∧ p < b) := by
            simp only [hasB, hr, Bool.true_and, Bool.and_eq_true, decide_eq_true_eq]
          rw [e]
        have HF : Hid (Canon (addP gs ff b) ∧ (∀ p, Pt (addP gs ff b) p ↔ hasB a b p = true ∧ ¬ Has xs p) ∧ (addP gs ff b).length ≤ xs.length + 1) := ⟨hfin.1, hF, by have := hfin.2.2; omega⟩
        clear hfin hF hny hlen hcan hpt hf HR hg hkn
        go_wp2_with (go_at_call 36; refine (addPiece36 u5 gs ff b _ w1.heap.size hown hsz hlg).mono ?_; rintro e w3 ⟨v3, rfl, ho3, hb3⟩)
        go_ret
        exact ⟨_, _, rfl, HF.out.1, HF.out.2.1, HF.out.2.2, ho3.base (by omega), hbw.trans ((hnx.trans hb3).mono (by omega))⟩

end Go.Proofs.Ytgkkknjkgpdcjaa
