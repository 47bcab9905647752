/- The law DiskSome: the walk. -/
import Derived.Test.YtffkpomnbanaoaaSo
namespace Go.Proofs.Ytffkpomnbanaoaa
open Go.RowKit
set_option maxRecDepth 100000

abbrev C22 (d g : Nat) (w : World) (R : World → Prop) : Prop := Calls Try.prog 22 #[.pointer (some ⟨d, 0, none⟩), .int .i64 2, .slice (some ⟨g, 0, none⟩) 1 1] w fun e w' => e = .returned (.int .i64 0) ∧ R w'

set_option maxHeartbeats 4000000 in
theorem some_walk (W : World) (va : Option Addr) (n c : Nat) (x0 x1 : UInt8) (k0 k1 : Bool) (Dq D1 D2 D3 D4 : Dk) (b1 b4 : Bs) (y : UInt8)
    (c15 : ∀ w, Below W.heap.size W w → Calls Try.prog 15 #[.slice va n c] w fun e w' => ∃ d s r, e = .returned (.tuple #[.pointer (some ⟨d, 0, none⟩), .pointer (some ⟨r, 0, none⟩), .bool true]) ∧ Two w.heap.size d s r Dq w' ∧ Below w.heap.size w w')
    (d1 : Dq.crash [] = D1) (d2 : D1.write 2 [x0] = (0, D2)) (d3 : D2.write 2 [x1] = (0, D3)) (d4 : D3.crash [k0, k1] = D4) (r1 : D1.reach 2 = 0) (r4 : D4.reach 2 = 0) (q1 : D1.read 2 = (b1, 0)) (q4 : D4.read 2 = (b4, 0))
    (z1 : (cellsB b1)[0]? = some (.int .u8 (y.toNat : Int))) (z4 : (cellsB b4)[0]? = some (.int .u8 ((if k1 then x1 else if k0 then x0 else y).toNat : Int)))
    (n0 : Dq.wait.length ≤ 100000) (n1 : D1.wait.length ≤ 100000) (n2 : D2.wait.length ≤ 100000) (n3 : D3.wait.length ≤ 100000) (n4 : D4.wait.length ≤ 100000) :
    Calls Try.prog 5 #[.slice va n c, .agg #[.int .u8 (x0.toNat : Int), .int .u8 (x1.toNat : Int)], .agg #[.bool k0, .bool k1]] W fun e w' => e = .returned (.bool true) ∧ Below W.heap.size W w' := by
  have hBW : Below W.heap.size W ((W.alloc (.cells #[.int .u8 (x0.toNat : Int), .int .u8 (x1.toNat : Int)] 39)).alloc (.cells #[.bool k0, .bool k1] 40)) := bmore (al W _) (al _ _)
  have c15' := c15 _ hBW
  have hsz : ((W.alloc (.cells #[.int .u8 (x0.toNat : Int), .int .u8 (x1.toNat : Int)] 39)).alloc (.cells #[.bool k0, .bool k1] 40)).heap.size = W.heap.size + 2 := by simp
  obtain ⟨B, hB⟩ : ∃ B, W.heap.size + 2 = B := ⟨_, rfl⟩
  rw [hsz, hB] at c15'
  have HBZ : Hid (W.heap.size + 2 = B) := hB
  have HX : Hid (∀ w1, Below B ((W.alloc (.cells #[.int .u8 (x0.toNat : Int), .int .u8 (x1.toNat : Int)] 39)).alloc (.cells #[.bool k0, .bool k1] 40)) w1 → ∀ w, Below B w1 w → (w.cell? ⟨W.heap.size, 0, none⟩ = some (.int .u8 (x0.toNat : Int)) ∧ w.cell? ⟨W.heap.size, 1, none⟩ = some (.int .u8 (x1.toNat : Int))) ∧ (w.cell? ⟨W.heap.size + 1, 0, none⟩ = some (.bool k0) ∧ w.cell? ⟨W.heap.size + 1, 1, none⟩ = some (.bool k1))) := fun w1 h1 w h2 => by
    have h3 := h1.trans h2
    refine ⟨⟨(h3.cell (p := ⟨W.heap.size, 0, none⟩) (by simp; omega)).trans ?_, (h3.cell (p := ⟨W.heap.size, 1, none⟩) (by simp; omega)).trans ?_⟩, (h3.cell (p := ⟨W.heap.size + 1, 0, none⟩) (by simp; omega)).trans ?_, (h3.cell (p := ⟨W.heap.size + 1, 1, none⟩) (by simp; omega)).trans ?_⟩ <;> simp
  have HFW : Hid (∀ w1, Below B ((W.alloc (.cells #[.int .u8 (x0.toNat : Int), .int .u8 (x1.toNat : Int)] 39)).alloc (.cells #[.bool k0, .bool k1] 40)) w1 → ∀ w, Below B w1 w → Below W.heap.size W w) := fun w1 h1 w h2 => hBW.trans ((h1.trans h2).mono (by omega))
  have H16 : Hid (∀ w, Calls Try.prog 16 #[] w fun e w' => e = .returned (.bool true) ∧ Below w.heap.size w w') := live16
  have HT : Hid (∀ w w' d s r, Two B d s r Dq w → Below w.heap.size w w' → Two B d s r Dq w') := fun w w' d s r h hB => by
    obtain ⟨wv, lv, xv, hb⟩ := h
    exact ⟨wv, lv, xv, hb.below hB⟩
  have HTS : Hid (∀ w d s r, Two B d s r Dq w → B ≤ w.heap.size) := fun w d s r h => by
    obtain ⟨wv, lv, xv, hb⟩ := h
    exact hb.sz
  have H18 : Hid (∀ w d s r, Two B d s r Dq w → Calls Try.prog 18 #[.pointer (some ⟨d, 0, none⟩), .slice none 0 0] w fun e w' => e = .returned (.tuple #[]) ∧ Alone B w' d s D1 [] ∧ Kept [] w w' ∧ Below B w w') := fun w d s r h => by
    have := alone18 h.alone (.slice none 0 0) [] (.inl ⟨none, 0, rfl, rfl⟩) (fun a n c e _ => by cases e) n0
    rw [d1] at this
    exact this
  have H19 : Hid (∀ w d s, Alone B w d s D1 [] → Calls Try.prog 19 #[.pointer (some ⟨d, 0, none⟩), .int .i64 2] w fun e w' => ∃ g, e = .returned (.tuple #[.slice (some ⟨g, 0, none⟩) 64 64, .int .i64 0]) ∧ Alone B w' d s D1 [g] ∧ Blk w' g (cellsB b1) 5 ∧ Below B w w') := fun w d s h => by
    have hz : B ≤ w.heap.size := by obtain ⟨_, _, _, _, hz⟩ := h; exact hz
    have := alone19 h 2 r1 n1
    rw [q1] at this
    refine this.mono ?_
    rintro e w' ⟨g, h1, h2, _, h3, _, h4⟩
    exact ⟨g, h1, h2, h3, h4.mono hz⟩
  have H22a : Hid (∀ w d s G, Alone B w d s D1 G → Calls Try.prog 22 #[.pointer (some ⟨d, 0, none⟩), .int .i64 2, .slice (some ⟨w.heap.size, 0, none⟩) 1 1] (w.alloc (.cells #[.int .u8 (x0.toNat : Int)] 5)) fun e w' => e = .returned (.int .i64 0) ∧ Alone B w' d s D2 G ∧ Kept G w w' ∧ Below B w w') := fun w d s G h => by
    have := alone22_new h x0 n1
    rw [d2] at this
    exact this
  have H22b : Hid (∀ w d s G, Alone B w d s D1 G → Calls Try.prog 22 #[.pointer (some ⟨d, 0, none⟩), .int .i64 2, .slice (some ⟨w.heap.size, 0, none⟩) 1 1] ((w.alloc (.cells #[.int .u8 (x0.toNat : Int)] 5)).alloc (.cells #[.int .u8 (x1.toNat : Int)] 5)) fun e w' => e = .returned (.int .i64 0) ∧ Alone B w' d s D2 ((w.heap.size + 1) :: G) ∧ Kept G w w' ∧ Below B w w' ∧ Blk w' (w.heap.size + 1) [.int .u8 (x1.toNat : Int)] 5) := fun w d s G h => by
    have := alone22_over h x0 x1 n1
    rw [d2] at this
    exact this
  have H22c : Hid (∀ w d s G, Alone B w d s D1 G → Calls Try.prog 22 #[.pointer (some ⟨d, 0, none⟩), .int .i64 2, .slice (some ⟨w.heap.size + 1, 0, none⟩) 1 1] ((w.alloc (.cells #[.int .u8 (x1.toNat : Int)] 5)).alloc (.cells #[.int .u8 (x0.toNat : Int)] 5)) fun e w' => e = .returned (.int .i64 0) ∧ Alone B w' d s D2 (w.heap.size :: G) ∧ Kept G w w' ∧ Below B w w' ∧ Blk w' w.heap.size [.int .u8 (x1.toNat : Int)] 5) := fun w d s G h => by
    have := alone22_under h x0 x1 n1
    rw [d2] at this
    exact this
  have H22d : Hid (∀ w d s G, Alone B w d s D2 G → Calls Try.prog 22 #[.pointer (some ⟨d, 0, none⟩), .int .i64 2, .slice (some ⟨w.heap.size, 0, none⟩) 1 1] (w.alloc (.cells #[.int .u8 (x1.toNat : Int)] 5)) fun e w' => e = .returned (.int .i64 0) ∧ Alone B w' d s D3 G ∧ Kept G w w' ∧ Below B w w') := fun w d s G h => by
    have := alone22_new h x1 n2
    rw [d3] at this
    exact this
  have H22e : Hid (∀ w d s G g, Alone B w d s D2 (g :: G) → Blk w g [.int .u8 (x1.toNat : Int)] 5 → Calls Try.prog 22 #[.pointer (some ⟨d, 0, none⟩), .int .i64 2, .slice (some ⟨g, 0, none⟩) 1 1] w fun e w' => e = .returned (.int .i64 0) ∧ Alone B w' d s D3 G ∧ Kept G w w' ∧ Below B w w') := fun w d s G g h hb => by
    have := alone22_old h x1 hb n2
    rw [d3] at this
    exact this
  have H18b : Hid (∀ w d s G, Alone B w d s D3 G → Calls Try.prog 18 #[.pointer (some ⟨d, 0, none⟩), .slice (some ⟨w.heap.size, 0, none⟩) 2 2] (w.alloc (.cells #[.bool k0, .bool k1] 4)) fun e w' => e = .returned (.tuple #[]) ∧ Alone B w' d s D4 G ∧ Kept G w w' ∧ Below B w w') := fun w d s G h => by
    have hz : B ≤ w.heap.size := by obtain ⟨_, _, _, _, hz⟩ := h; exact hz
    have := alone18 (h.new (.cells #[.bool k0, .bool k1] 4)) _ [k0, k1] (kb_new2 w k0 k1) (fun a n c e _ => by cases e; simp) n3
    rw [d4] at this
    refine this.mono ?_
    rintro e w' ⟨h1, h2, h3, h4⟩
    exact ⟨h1, h2.less (fun g hg => by simp [hg]), fun g hg => (h3 g (by simp [hg])).trans (kept_below h (al w _) g hg), ((al w _).mono hz).trans h4⟩
  have H19b : Hid (∀ w d s G, Alone B w d s D4 G → Calls Try.prog 19 #[.pointer (some ⟨d, 0, none⟩), .int .i64 2] w fun e w' => ∃ g, e = .returned (.tuple #[.slice (some ⟨g, 0, none⟩) 64 64, .int .i64 0]) ∧ Kept G w w' ∧ w'.cell? ⟨g, 0, none⟩ = some (.int .u8 ((if k1 then x1 else if k0 then x0 else y).toNat : Int)) ∧ Below B w w') := fun w d s G h => by
    have hz : B ≤ w.heap.size := by obtain ⟨_, _, _, _, hz⟩ := h; exact hz
    have := alone19 h 2 r4 n4
    rw [q4] at this
    refine this.mono ?_
    rintro e w' ⟨g, h1, h2, h3, h4, _, h5⟩
    exact ⟨g, h1, h3, (h4.cell 0).trans z4, h5.mono hz⟩
  have HQ : Hid (∀ (w w' : World) g, Blk w g (cellsB b1) 5 → Kept [g] w w' → Blk w' g (cellsB b1) 5) := fun w w' g h hk => Kept.blk h hk (by simp)
  have HQc : Hid (∀ (w : World) g, Blk w g (cellsB b1) 5 → w.cell? ⟨g, 0, none⟩ = some (.int .u8 (y.toNat : Int))) := fun w g h => (h.cell 0).trans z1
  clear c15 d1 d2 d3 d4 r1 r4 q1 q4 z1 z4 n0 n1 n2 n3 n4 hBW hsz hB
  generalize cellsB b1 = cb1 at *
  go_enter Try.func5, Try.ntmps5
  go_wp2_with (first
    | (go_at_call 15; (refine c15'.mono ?_; rintro e w1 ⟨d, s, r, rfl, T1, F1⟩; have HS1 : Hid (∀ w, Below B w1 w → (w.cell? ⟨W.heap.size, 0, none⟩ = some (.int .u8 (x0.toNat : Int)) ∧ w.cell? ⟨W.heap.size, 1, none⟩ = some (.int .u8 (x1.toNat : Int))) ∧ (w.cell? ⟨W.heap.size + 1, 0, none⟩ = some (.bool k0) ∧ w.cell? ⟨W.heap.size + 1, 1, none⟩ = some (.bool k1))) := HX.out w1 F1; have HF1 : Hid (∀ w, Below B w1 w → Below W.heap.size W w) := HFW.out w1 F1; clear F1 HX HFW c15'))
    | (go_at_call 16; (refine (H16.out w1).mono ?_; rintro e w2 ⟨rfl, B2⟩; have T2 := HT.out _ _ _ _ _ T1 B2; have F2 := B2.mono (HTS.out _ _ _ _ T1); clear T1 B2 HT HTS H16))
    | (go_at_call 18; (refine (H18.out w2 _ _ _ T2).mono ?_; rintro e w3 ⟨rfl, A3, _, B3⟩; have F3 := F2.trans B3; clear T2 F2 B3 H18))
    | (go_at_call 19; (refine (H19.out w3 _ _ A3).mono ?_; rintro e w4 ⟨g, rfl, A4, Q4, B4⟩; have F4 := F3.trans B4; clear A3 F3 B4 H19)))
  have Ad : Alone B w4.drew d s D1 [g] := A4.below (Below.refl _ _).drew
  have Qd : Blk w4.drew g cb1 5 := Q4.below (Below.refl _ _).drew
  have Fd : Below B w1 w4.drew := F4.drew
  have hzd : B ≤ w4.drew.heap.size := by obtain ⟨_, _, _, _, hz⟩ := Ad; exact hz
  clear A4 Q4 F4
  have C1 : C22 d w4.heap.size (w4.alloc (.cells #[.int .u8 (x0.toNat : Int)] 5)).drew (fun w' => Alone B w' d s D2 [g] ∧ Kept [g] w4.drew w' ∧ Below B w4.drew w') := H22a.out w4.drew d s [g] Ad
  have C2 : C22 d w4.heap.size ((w4.alloc (.cells #[.int .u8 (x0.toNat : Int)] 5)).alloc (.cells #[.int .u8 (x1.toNat : Int)] 5)).drew (fun w' => Alone B w' d s D2 [w4.heap.size + 1, g] ∧ Kept [g] w4.drew w' ∧ Below B w4.drew w' ∧ Blk w' (w4.heap.size + 1) [.int .u8 (x1.toNat : Int)] 5) := H22b.out w4.drew d s [g] Ad
  have C3 : C22 d (w4.heap.size + 1) ((w4.alloc (.cells #[.int .u8 (x1.toNat : Int)] 5)).alloc (.cells #[.int .u8 (x0.toNat : Int)] 5)).drew (fun w' => Alone B w' d s D2 [w4.heap.size, g] ∧ Kept [g] w4.drew w' ∧ Below B w4.drew w' ∧ Blk w' w4.heap.size [.int .u8 (x1.toNat : Int)] 5) := H22c.out w4.drew d s [g] Ad
  have HC1 : Hid (C22 d w4.heap.size (w4.alloc (.cells #[.int .u8 (x0.toNat : Int)] 5)).drew (fun w' => Alone B w' d s D2 [g] ∧ Kept [g] w4.drew w' ∧ Below B w4.drew w')) := C1
  have HC2 : Hid (C22 d w4.heap.size ((w4.alloc (.cells #[.int .u8 (x0.toNat : Int)] 5)).alloc (.cells #[.int .u8 (x1.toNat : Int)] 5)).drew (fun w' => Alone B w' d s D2 [w4.heap.size + 1, g] ∧ Kept [g] w4.drew w' ∧ Below B w4.drew w' ∧ Blk w' (w4.heap.size + 1) [.int .u8 (x1.toNat : Int)] 5)) := C2
  have HC3 : Hid (C22 d (w4.heap.size + 1) ((w4.alloc (.cells #[.int .u8 (x1.toNat : Int)] 5)).alloc (.cells #[.int .u8 (x0.toNat : Int)] 5)).drew (fun w' => Alone B w' d s D2 [w4.heap.size, g] ∧ Kept [g] w4.drew w' ∧ Below B w4.drew w' ∧ Blk w' w4.heap.size [.int .u8 (x1.toNat : Int)] 5)) := C3
  clear C1 C2 C3 H22a H22b H22c
  have hS0 : w4.drew.cell? ⟨W.heap.size, 0, none⟩ = some (.int .u8 (x0.toNat : Int)) ∧ w4.drew.cell? ⟨W.heap.size, 1, none⟩ = some (.int .u8 (x1.toNat : Int)) := (HS1.out _ Fd).1
  have hSa : ∀ o, (w4.alloc o).drew.cell? ⟨W.heap.size, 0, none⟩ = some (.int .u8 (x0.toNat : Int)) ∧ (w4.alloc o).drew.cell? ⟨W.heap.size, 1, none⟩ = some (.int .u8 (x1.toNat : Int)) := fun o => (HS1.out _ (Fd.alloc hzd o)).1
  have hSb : ∀ o o', ((w4.alloc o).alloc o').drew.cell? ⟨W.heap.size, 0, none⟩ = some (.int .u8 (x0.toNat : Int)) ∧ ((w4.alloc o).alloc o').drew.cell? ⟨W.heap.size, 1, none⟩ = some (.int .u8 (x1.toNat : Int)) := fun o o' => (HS1.out _ ((Fd.alloc hzd o).alloc (Nat.le_trans hzd (al w4.drew o).size) o')).1
  go_region_held3 (fun w' => w'.cell? ⟨W.heap.size, 0, none⟩ = some (.int .u8 (x0.toNat : Int)) ∧ w'.cell? ⟨W.heap.size, 1, none⟩ = some (.int .u8 (x1.toNat : Int))) (first | exact hS0 | with_reducible exact hSa _ | with_reducible exact hSb _ _ | with_reducible exact hS5a _ | assumption) (first
    | (go_at_call 22; with_reducible refine Calls.mono HC1.out ?_; (rintro e w5 ⟨rfl, A5, K5, B5⟩; have F5 := Fd.trans B5; have Q5 := HQ.out _ _ _ Qd K5; have hz5 : B ≤ w5.heap.size := Nat.le_trans hzd B5.size; have hS5 := (HS1.out _ F5).1; have hS5a : ∀ o, (w5.alloc o).cell? ⟨W.heap.size, 0, none⟩ = some (.int .u8 (x0.toNat : Int)) ∧ (w5.alloc o).cell? ⟨W.heap.size, 1, none⟩ = some (.int .u8 (x1.toNat : Int)) := fun o => (HS1.out _ (F5.alloc hz5 o)).1; clear K5 B5))
    | (go_at_call 22; with_reducible refine Calls.mono HC2.out ?_; (rintro e w5 ⟨rfl, A5b, K5, B5, R5⟩; have F5 := Fd.trans B5; have Q5 := HQ.out _ _ _ Qd K5; have hz5 : B ≤ w5.heap.size := Nat.le_trans hzd B5.size; have hS5 := (HS1.out _ F5).1; have hS5a : ∀ o, (w5.alloc o).cell? ⟨W.heap.size, 0, none⟩ = some (.int .u8 (x0.toNat : Int)) ∧ (w5.alloc o).cell? ⟨W.heap.size, 1, none⟩ = some (.int .u8 (x1.toNat : Int)) := fun o => (HS1.out _ (F5.alloc hz5 o)).1; clear K5 B5))
    | (go_at_call 22; with_reducible refine Calls.mono HC3.out ?_; (rintro e w5 ⟨rfl, A5b, K5, B5, R5⟩; have F5 := Fd.trans B5; have Q5 := HQ.out _ _ _ Qd K5; have hz5 : B ≤ w5.heap.size := Nat.le_trans hzd B5.size; have hS5 := (HS1.out _ F5).1; have hS5a : ∀ o, (w5.alloc o).cell? ⟨W.heap.size, 0, none⟩ = some (.int .u8 (x0.toNat : Int)) ∧ (w5.alloc o).cell? ⟨W.heap.size, 1, none⟩ = some (.int .u8 (x1.toNat : Int)) := fun o => (HS1.out _ (F5.alloc hz5 o)).1; clear K5 B5))
    | (go_at_call 22; with_reducible refine Calls.mono (H22d.out w5 d s [g] A5) ?_; (rintro e w6 ⟨rfl, A6, K6, B6⟩; have F6 := F5.trans B6; have Q6 := HQ.out _ _ _ Q5 K6; have hS6 := (HS1.out _ F6).1; clear K6 B6))
    | (go_at_call 22; with_reducible refine Calls.mono (H22e.out w5 d s [g] _ A5b R5) ?_; (rintro e w6 ⟨rfl, A6, K6, B6⟩; have F6 := F5.trans B6; have Q6 := HQ.out _ _ _ Q5 K6; have hS6 := (HS1.out _ F6).1; clear K6 B6)))
  all_goals
    obtain ⟨m0, m1⟩ := (HS1.out w6 F6).2
    have HC8 : Hid (Calls Try.prog 18 #[.pointer (some ⟨d, 0, none⟩), .slice (some ⟨w6.heap.size, 0, none⟩) 2 2] (w6.alloc (.cells #[.bool k0, .bool k1] 4)) fun e w' => e = .returned (.tuple #[]) ∧ Alone B w' d s D4 [g] ∧ Kept [g] w6 w' ∧ Below B w6 w') := H18b.out w6 d s [g] A6
    clear A6 Ad Qd Fd hzd HC1 HC2 HC3 hS0 hSa hSb F5 Q5 hz5 hS5 hS5a hS6 H22d H22e H18b
    cases k0 <;> cases k1
    all_goals
      go_wp2_with (first
        | (go_at_call 18; (refine HC8.out.mono ?_; rintro e w7 ⟨rfl, A7, K7, B7⟩; have F7 := F6.trans B7; have Q7 := HQ.out _ _ _ Q6 K7; clear K7 B7 m0 m1 Q6))
        | (go_at_call 19; (refine (H19b.out w7 _ _ _ A7).mono ?_; rintro e w8 ⟨g8, rfl, K8, y8, B8⟩; have F8 := F7.trans B8; have y1 := HQc.out _ _ (HQ.out _ _ _ Q7 K8); obtain ⟨⟨t0, t1⟩, t2, t3⟩ := HS1.out w8 F8; clear K8 B8 A7 Q7 F7)))
      go_ret
      exact ⟨rfl, HF1.out _ F8⟩
end Go.Proofs.Ytffkpomnbanaoaa
