/- codec's reader: a row. -/
import Derived.Test.YthfkmedpcmiibaaDoorRdv
namespace Go.Proofs.YthfkmedpcmiibaaDoor
open Go.RowKit Go.Lib

/-- Three cells of a block that may be written. -/
structure Bx (W : World) (B : Nat) (x0 x1 x2 : Value) : Prop where
  c0 : W.cell? ⟨B, 0, none⟩ = some x0
  c1 : W.cell? ⟨B, 1, none⟩ = some x1
  c2 : W.cell? ⟨B, 2, none⟩ = some x2
  z0 : W.frozen? ⟨B, 0, none⟩ = false
  z1 : W.frozen? ⟨B, 1, none⟩ = false
  z2 : W.frozen? ⟨B, 2, none⟩ = false
theorem Bx.lt {W : World} {B : Nat} {x0 x1 x2 : Value} (h : Bx W B x0 x1 x2) : B < W.heap.size := World.block_lt_of_cell? _ _ h.c0
theorem Bx.block {W W' : World} {B : Nat} {x0 x1 x2 : Value} (h : Bx W B x0 x1 x2) (e : W'.heap[B]? = W.heap[B]?) : Bx W' B x0 x1 x2 :=
  ⟨(World.cell?_of_block (a := ⟨B, 0, none⟩) e).trans h.c0, (World.cell?_of_block (a := ⟨B, 1, none⟩) e).trans h.c1, (World.cell?_of_block (a := ⟨B, 2, none⟩) e).trans h.c2, (World.frozen?_of_block (a := ⟨B, 0, none⟩) e).trans h.z0, (World.frozen?_of_block (a := ⟨B, 1, none⟩) e).trans h.z1, (World.frozen?_of_block (a := ⟨B, 2, none⟩) e).trans h.z2⟩
theorem Bx.far {W : World} {B B' i : Nat} {x0 x1 x2 y : Value} (h : Bx W B x0 x1 x2) (hB : B' ≠ B) : Bx (W.setCell ⟨B', i, none⟩ y) B x0 x1 x2 := h.block (Below.heap_setCell _ _ _ _ (fun e => hB e.symm))
theorem Bx.set0 {W : World} {B : Nat} {x0 x1 x2 : Value} (h : Bx W B x0 x1 x2) (y : Value) : Bx (W.setCell ⟨B, 0, none⟩ y) B y x1 x2 :=
  ⟨World.cell?_setCell_same _ _ _ h.c0, (World.cell?_setCell_other _ _ _ _ (by simp)).trans h.c1, (World.cell?_setCell_other _ _ _ _ (by simp)).trans h.c2, by simpa using h.z0, by simpa using h.z1, by simpa using h.z2⟩
theorem Bx.set1 {W : World} {B : Nat} {x0 x1 x2 : Value} (h : Bx W B x0 x1 x2) (y : Value) : Bx (W.setCell ⟨B, 1, none⟩ y) B x0 y x2 :=
  ⟨(World.cell?_setCell_other _ _ _ _ (by simp)).trans h.c0, World.cell?_setCell_same _ _ _ h.c1, (World.cell?_setCell_other _ _ _ _ (by simp)).trans h.c2, by simpa using h.z0, by simpa using h.z1, by simpa using h.z2⟩
theorem Bx.set2 {W : World} {B : Nat} {x0 x1 x2 : Value} (h : Bx W B x0 x1 x2) (y : Value) : Bx (W.setCell ⟨B, 2, none⟩ y) B x0 x1 y :=
  ⟨(World.cell?_setCell_other _ _ _ _ (by simp)).trans h.c0, (World.cell?_setCell_other _ _ _ _ (by simp)).trans h.c1, World.cell?_setCell_same _ _ _ h.c2, by simpa using h.z0, by simpa using h.z1, by simpa using h.z2⟩
theorem But.put {R : Nat} {w W : World} (h : But R w W) {B i : Nat} (hB : w.heap.size ≤ B) (y : Value) : But R w (W.setCell ⟨B, i, none⟩ y) :=
  ⟨h.os, h.tape, h.output, by simpa [World.setCell] using h.size, fun k hk hR => by rw [Below.heap_setCell _ _ _ _ (by simp; omega)]; exact h.block k hk hR⟩
theorem RD.far {R b : Nat} {l : Bs} {W : World} (h : RD R b l W) {B i : Nat} (h1 : B ≠ R) (h2 : B ≠ b) (y : Value) : RD R b l (W.setCell ⟨B, i, none⟩ y) :=
  h.blocks (Below.heap_setCell _ _ _ _ (fun e => h1 e.symm)) (Below.heap_setCell _ _ _ _ (fun e => h2 e.symm))
theorem VRow.far {B' : Nat} {u : Value} {vs : List Vt} {W : World} (h : VRow B' u vs W) {B i : Nat} (hB : B < B') (y : Value) : VRow B' u vs (W.setCell ⟨B, i, none⟩ y) :=
  h.but (R := B) ⟨rfl, rfl, rfl, by simp [World.setCell], fun k _ hk => Below.heap_setCell _ _ _ _ hk⟩ hB

theorem VRow.lower {B B' : Nat} {v : Value} {l : List Vt} {w : World} (h : VRow B v l w) (hB : B' ≤ B) : VRow B' v l w := by
  obtain ⟨h1, h2 | ⟨g, cap, cur, rfl, hBg, hw⟩⟩ := h
  · exact ⟨h1, .inl h2⟩
  · exact ⟨h1, .inr ⟨g, cap, cur, rfl, by omega, hw⟩⟩

/-- A row that is being read: the result's block, the row's, the reader, the values. -/
structure RS (w : World) (R b : Nat) (x0 x1 x2 v : Value) (vs : List Vt) (l : Bs) (W : World) : Prop where
  res : Bx W w.heap.size (.slice none 0 0) (.int .i64 0) (.int .i64 0)
  row : Bx W (w.heap.size + 1) x0 x1 x2
  rd : RD R b l W
  vals : VRow (w.heap.size + 2) v vs W
  but : But R w W
variable {w : World} {R b : Nat} {x0 x1 x2 v : Value} {vs : List Vt} {l : Bs} {W : World}
theorem RS.set0 (h : RS w R b x0 x1 x2 v vs l W) (hR : R < w.heap.size) (hb : b < w.heap.size) (y : Value) : RS w R b y x1 x2 v vs l (W.setCell ⟨w.heap.size + 1, 0, none⟩ y) :=
  ⟨h.res.far (by omega), h.row.set0 y, h.rd.far (by omega) (by omega) y, h.vals.far (by omega) y, h.but.put (by omega) y⟩
theorem RS.set1 (h : RS w R b x0 x1 x2 v vs l W) (hR : R < w.heap.size) (hb : b < w.heap.size) (y : Value) : RS w R b x0 y x2 v vs l (W.setCell ⟨w.heap.size + 1, 1, none⟩ y) :=
  ⟨h.res.far (by omega), h.row.set1 y, h.rd.far (by omega) (by omega) y, h.vals.far (by omega) y, h.but.put (by omega) y⟩
theorem RS.set2 (h : RS w R b x0 x1 x2 v vs l W) (hR : R < w.heap.size) (hb : b < w.heap.size) (y : Value) : RS w R b x0 x1 y v vs l (W.setCell ⟨w.heap.size + 1, 2, none⟩ y) :=
  ⟨h.res.far (by omega), h.row.set2 y, h.rd.far (by omega) (by omega) y, h.vals.far (by omega) y, h.but.put (by omega) y⟩
theorem RS.next (h : RS w R b x0 x1 x2 v vs l W) (hR : R < w.heap.size) {W' : World} (hb : But R W W') {l' : Bs} (hr : RD R b l' W') : RS w R b x0 x1 x2 v vs l' W' :=
  ⟨h.res.block (hb.block _ h.res.lt (by omega)), h.row.block (hb.block _ h.row.lt (by omega)), hr, h.vals.but hb (by omega), h.but.trans hb⟩

theorem two_back {p : Int} (h1 : -1000 ≤ p) (h2 : p ≤ 1000) : ∃ x y : UInt8, two p = [x, y] ∧ (x.toNat : Int) * 256 + (y.toNat : Int) - 1000 = p := by
  refine ⟨_, _, rfl, ?_⟩
  rw [UInt8.toNat_ofNat', UInt8.toNat_ofNat']
  omega
theorem point62' (R b : Nat) (p : Int) (l : Bs) (w : World) (hR : b ≠ R) (h1 : -1000 ≤ p) (h2 : p ≤ 1000) (h : RD R b (two p ++ l) w) :
    Calls Tryd.prog 57 #[.pointer (some ⟨R, 0, none⟩)] w fun e w' => e = .returned (.int .i64 p) ∧ RD R b l w' ∧ But R w w' := by
  obtain ⟨x, y, e, hp⟩ := two_back h1 h2
  rw [e] at h
  have := point62 R b x y l w hR h
  rw [hp] at this
  exact this

set_option maxRecDepth 100000 in
set_option maxHeartbeats 1000000 in
theorem row52 (R b : Nat) (vs : List Vt) (f t : Int) (w0 w : World) (hR : b ≠ R) (hb : b < w.heap.size) (hRz : R < w.heap.size) (hr : rightRow vs f t = true) (hvs : Few vs) (hg : Good w0) (hw0 : Below w0.heap.size w0 w) (h0R : w0.heap.size ≤ R) (h : RD R b (encR vs f t) w) :
    Calls Tryd.prog 40 #[.pointer (some ⟨R, 0, none⟩)] w fun e w' => ∃ u, e = .returned (RV u f t) ∧ VRow w.heap.size u vs w' ∧ But R w w' := by
  obtain ⟨h1, h4, hok, hs⟩ := rightRow_parts hr
  have hsp : -1000 ≤ f ∧ f < t ∧ t ≤ 1000 := by simpa [spanR] using hs
  have hfl := flat_len vs hok
  have e0 : encR vs f t = flat vs ++ 0 :: (two f ++ (two t ++ [])) := by unfold encR; simp
  rw [e0] at h
  have hll : (flat vs ++ 0 :: (two f ++ (two t ++ []))).length ≤ 140737488355328 := by simp [two]; omega
  have c61 := fun o1 o2 => values61 R b vs (two f ++ (two t ++ [])) w0 ((w.alloc o1).alloc o2) hR (by simp; omega) (by simp; omega) (fun x hx => ⟨hok x hx, (hvs x hx).1⟩) (by omega) hll hg (bmore (bmore hw0 (al w o1)) (al _ o2)) h0R (h.below (bmore (al w o1) (al _ o2)))
  have c62 := fun W h => point62' R b f (two t ++ []) W hR hsp.1 (by omega) h
  have d62 := fun W h => point62' R b t [] W hR (by omega) hsp.2.2 h
  have c11 := fun u W (hu : SV W u vs) (hG : Good W) => rowRight u vs f t W hu (by omega) hvs hG
  rw [hr] at c11
  have hgood : ∀ W, But R w W → Good W := fun W hW => hg.below (hw0.trans (hW.below h0R (by omega)))
  have hst : ∀ o1 o2 w1, But R ((w.alloc o1).alloc o2) w1 → But R w w1 := fun o1 o2 w1 h => (But.of (bmore (al w o1) (al _ o2))).trans h
  clear hr hs hok hfl e0 hll h hg hw0 h0R h1 h4 hsp hvs
  go_enter Tryd.func40, Tryd.ntmps40
  have q0 : ∀ w1 u, VRow (w.heap.size + 2) u vs w1 → But R ((w.alloc (.cells #[.slice none 0 0, .int .i64 0, .int .i64 0] 33)).alloc (.cells #[.slice none 0 0, .int .i64 0, .int .i64 0] 33)) w1 → RD R b (two f ++ (two t ++ [])) w1 →
      RS w R b (.slice none 0 0) (.int .i64 0) (.int .i64 0) u vs (two f ++ (two t ++ [])) w1 := fun w1 u hu hbut hrd =>
    ⟨Bx.block (W := (w.alloc (.cells #[.slice none 0 0, .int .i64 0, .int .i64 0] 33)).alloc (.cells #[.slice none 0 0, .int .i64 0, .int .i64 0] 33)) ⟨by simp, by simp, by simp, by simp, by simp, by simp⟩ (hbut.block _ (by simp; omega) (by omega)),
      Bx.block (W := (w.alloc (.cells #[.slice none 0 0, .int .i64 0, .int .i64 0] 33)).alloc (.cells #[.slice none 0 0, .int .i64 0, .int .i64 0] 33)) ⟨by simp, by simp, by simp, by simp, by simp, by simp⟩ (hbut.block _ (by simp) (by omega)), hrd, hu, hst _ _ _ hbut⟩
  go_wp2_with (first
    | (go_at_call 56; (refine (c61 _ _).mono ?_; rintro e w1 ⟨u, rfl, hu, hrd1, hbut1⟩; obtain ⟨ua, uc, rfl, _⟩ := sv_form hu.sv; have q1 := q0 w1 _ (by simpa using hu) hbut1 hrd1; have q1' := q1.set0 hRz hb (.slice ua vs.length uc); obtain ⟨a0, a1, a2, a3, a4, a5⟩ := q1.row))
    | (go_at_call 57; (refine (c62 _ q1'.rd).mono ?_; rintro e w2 ⟨rfl, hrd2, hbut2⟩; have q2 := q1'.next hRz hbut2 hrd2; have q2' := q2.set1 hRz hb (.int .i64 f); obtain ⟨b0, b1, b2, b3, b4, b5⟩ := q2.row))
    | (go_at_call 57; (refine (d62 _ q2'.rd).mono ?_; rintro e w3 ⟨rfl, hrd3, hbut3⟩; have q3 := q2'.next hRz hbut3 hrd3; have q3' := q3.set2 hRz hb (.int .i64 t); obtain ⟨k0, k1, k2, k3, k4, k5⟩ := q3.row; obtain ⟨m0, m1, m2, m3, m4, m5⟩ := q3'.row; obtain ⟨ra, rc, r0, _⟩ := q3'.rd))
    | (go_at_call 13; (refine (c11 _ _ q3'.vals.sv (hgood _ q3'.but)).mono ?_; rintro e w4 ⟨rfl, hb4⟩; have q4 := q3'.next hRz (But.of hb4) (q3'.rd.below hb4); obtain ⟨n0, n1, n2, n3, n4, n5⟩ := q4.row; obtain ⟨y0, y1, y2, y3, y4, y5⟩ := q4.res)))
  exact bodyPost_ret (v := RV (.slice ua vs.length uc) f t) (by simp [results, Tryd.results40, go_sem, y0, y1, y2]) rfl ⟨_, rfl, VRow.lower (((q4.vals.far (by omega) _).far (by omega) _).far (by omega) _) (by omega), ((q4.but.put (Nat.le_refl _) _).put (Nat.le_refl _) _).put (Nat.le_refl _) _⟩

end Go.Proofs.YthfkmedpcmiibaaDoor
