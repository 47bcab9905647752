/- The law TopOpposites. -/
import Derived.Test.YtphjaomfnganmaaCmp
import Derived.WalkKit
import Derived.WalkSpells
import Derived.WalkLawsBesides
import Derived.Below
import Derived.OwnWalk
import Derived.Deep.RegionHeld3
namespace Go.Proofs.Ytphjaomfnganmaa
open Go.RowKit Go.Lib

theorem al (w : World) (o : Obj) : Below w.heap.size w (w.alloc o) := (Below.refl _ _).alloc (Nat.le_refl _) o
/-- The block b is just these cells. -/
def Blk (W : World) (b : Nat) (l : List Value) (t : TypeId) : Prop := W.heap[b]? = some (.cells l.toArray t (0, 0))
section
variable {W W' : World} {b : Nat} {l : List Value} {t : TypeId}
theorem Blk.lt (h : Blk W b l t) : b < W.heap.size := (Array.getElem?_eq_some_iff.1 h).1
theorem Blk.below (h : Blk W b l t) (e : Below W.heap.size W W') : Blk W' b l t := (e.block b h.lt).trans h
theorem blk_new (W : World) (l : List Value) (t : TypeId) : Blk (W.alloc (.cells l.toArray t)) W.heap.size l t := (MapKept.heap_alloc W _).1
theorem blk_at (W : World) (l : List Value) (t : TypeId) {g : Nat} (h : W.heap.size = g) : Blk (W.alloc (.cells l.toArray t)) g l t := by subst h; exact blk_new W l t
theorem Blk.cell (h : Blk W b l t) (j : Nat) : W.cell? ⟨b, j, none⟩ = l[j]? := by
  unfold Blk at h
  simp [World.cell?, h]
end

/-- The cells that the law reads: both values, the list of ops, and the value one. -/
def SO (g : Nat) (k n : Int) (s : ByteArray) (k' n' : Int) (s' : ByteArray) (W : World) : Prop :=
  (W.cell? ⟨g, 0, none⟩ = some (.int .u8 k) ∧ W.cell? ⟨g, 1, none⟩ = some (.int .i64 n) ∧ W.cell? ⟨g, 2, none⟩ = some (.string s)) ∧
  (W.cell? ⟨g + 1, 0, none⟩ = some (.int .u8 k') ∧ W.cell? ⟨g + 1, 1, none⟩ = some (.int .i64 n') ∧ W.cell? ⟨g + 1, 2, none⟩ = some (.string s')) ∧
  (W.cell? ⟨g + 1 + 1, 0, none⟩ = some (.int .u8 1) ∧ W.cell? ⟨g + 1 + 1, 1, none⟩ = some (.int .u8 2) ∧ W.cell? ⟨g + 1 + 1, 2, none⟩ = some (.int .u8 3) ∧ W.cell? ⟨g + 1 + 1, 3, none⟩ = some (.int .u8 6) ∧ W.cell? ⟨g + 1 + 1, 4, none⟩ = some (.int .u8 4) ∧ W.cell? ⟨g + 1 + 1, 5, none⟩ = some (.int .u8 5)) ∧
  (W.cell? ⟨g + 1 + 1 + 1, 0, none⟩ = some (.int .u8 1) ∧ W.cell? ⟨g + 1 + 1 + 1, 1, none⟩ = some (.int .i64 1) ∧ W.cell? ⟨g + 1 + 1 + 1, 2, none⟩ = some (.string ⟨#[]⟩))

def four (w : World) (k n : Int) (s : ByteArray) (k' n' : Int) (s' : ByteArray) : World :=
  (((w.alloc (.cells #[.int .u8 k, .int .i64 n, .string s] 24)).alloc (.cells #[.int .u8 k', .int .i64 n', .string s'] 24)).alloc (.cells #[.int .u8 1, .int .u8 2, .int .u8 3, .int .u8 6, .int .u8 4, .int .u8 5] 26)).alloc (.cells #[.int .u8 1, .int .i64 1, .string ⟨#[]⟩] 24)

theorem so_of {w : World} {k n : Int} {s : ByteArray} {k' n' : Int} {s' : ByteArray} {W : World} (h : Below (four w k n s k' n' s').heap.size (four w k n s k' n' s') W) : SO w.heap.size k n s k' n' s' W := by
  have b1 := (((blk_new w [.int .u8 k, .int .i64 n, .string s] 24).below (al _ (.cells #[.int .u8 k', .int .i64 n', .string s'] 24))).below (al _ (.cells #[.int .u8 1, .int .u8 2, .int .u8 3, .int .u8 6, .int .u8 4, .int .u8 5] 26))).below (al _ (.cells #[.int .u8 1, .int .i64 1, .string ⟨#[]⟩] 24))
  have b2 := ((blk_at (w.alloc (.cells #[.int .u8 k, .int .i64 n, .string s] 24)) [.int .u8 k', .int .i64 n', .string s'] 24 (g := w.heap.size + 1) (by simp)).below (al _ (.cells #[.int .u8 1, .int .u8 2, .int .u8 3, .int .u8 6, .int .u8 4, .int .u8 5] 26))).below (al _ (.cells #[.int .u8 1, .int .i64 1, .string ⟨#[]⟩] 24))
  have b3 := (blk_at ((w.alloc (.cells #[.int .u8 k, .int .i64 n, .string s] 24)).alloc (.cells #[.int .u8 k', .int .i64 n', .string s'] 24)) [.int .u8 1, .int .u8 2, .int .u8 3, .int .u8 6, .int .u8 4, .int .u8 5] 26 (g := w.heap.size + 1 + 1) (by simp)).below (al _ (.cells #[.int .u8 1, .int .i64 1, .string ⟨#[]⟩] 24))
  have b4 := blk_at (((w.alloc (.cells #[.int .u8 k, .int .i64 n, .string s] 24)).alloc (.cells #[.int .u8 k', .int .i64 n', .string s'] 24)).alloc (.cells #[.int .u8 1, .int .u8 2, .int .u8 3, .int .u8 6, .int .u8 4, .int .u8 5] 26)) [.int .u8 1, .int .i64 1, .string ⟨#[]⟩] 24 (g := w.heap.size + 1 + 1 + 1) (by simp)
  have c1 := b1.below h
  have c2 := b2.below h
  have c3 := b3.below h
  have c4 := Blk.below b4 h
  exact ⟨⟨c1.cell 0, c1.cell 1, c1.cell 2⟩, ⟨c2.cell 0, c2.cell 1, c2.cell 2⟩, ⟨c3.cell 0, c3.cell 1, c3.cell 2, c3.cell 3, c3.cell 4, c3.cell 5⟩, ⟨c4.cell 0, c4.cell 1, c4.cell 2⟩⟩
theorem four_below (w : World) (k n : Int) (s : ByteArray) (k' n' : Int) (s' : ByteArray) : Below w.heap.size w (four w k n s k' n' s') :=
  bmore (bmore (bmore (al _ _) (al _ _)) (al _ _)) (al _ _)

theorem fin {w W0 W : World} {g : Nat} (e : w.heap.size = g) (h : Below g w W0) (k : Below W0.heap.size W0 W) : Below g w W := h.trans (k.mono (e ▸ h.size))
theorem one_one : comp 1 1 1 (bs ⟨#[]⟩) 1 1 (bs ⟨#[]⟩) = true := by decide

set_option maxRecDepth 100000 in
set_option maxHeartbeats 4000000 in
theorem law3_ne (k n : Int) (s : ByteArray) (k' n' : Int) (s' : ByteArray) (w : World) (hkk : (k == k') = false) (hkn : (k != k') = true)
    (e1 : comp 1 k n (bs s) k' n' (bs s') = false) (e2 : comp 2 k n (bs s) k' n' (bs s') = false) (e3 : comp 3 k n (bs s) k' n' (bs s') = false) (e4 : comp 4 k n (bs s) k' n' (bs s') = false) (e5 : comp 5 k n (bs s) k' n' (bs s') = false) (e6 : comp 6 k n (bs s) k' n' (bs s') = false) :
    Calls Try.prog 3 #[V k n s, V k' n' s'] w fun e w' => e = .returned (.bool true) ∧ Below w.heap.size w w' := by
  have H1 : ∀ W, Calls Try.prog 4 #[.int .u8 1, V k n s, V k' n' s'] W fun e w' => e = .returned (.bool false) ∧ Below W.heap.size W w' := fun W => e1 ▸ compares4 1 (by simp) k n s k' n' s' W
  have H2 : ∀ W, Calls Try.prog 4 #[.int .u8 2, V k n s, V k' n' s'] W fun e w' => e = .returned (.bool false) ∧ Below W.heap.size W w' := fun W => e2 ▸ compares4 2 (by simp) k n s k' n' s' W
  have H3 : ∀ W, Calls Try.prog 4 #[.int .u8 3, V k n s, V k' n' s'] W fun e w' => e = .returned (.bool false) ∧ Below W.heap.size W w' := fun W => e3 ▸ compares4 3 (by simp) k n s k' n' s' W
  have H4 : ∀ W, Calls Try.prog 4 #[.int .u8 4, V k n s, V k' n' s'] W fun e w' => e = .returned (.bool false) ∧ Below W.heap.size W w' := fun W => e4 ▸ compares4 4 (by simp) k n s k' n' s' W
  have H5 : ∀ W, Calls Try.prog 4 #[.int .u8 5, V k n s, V k' n' s'] W fun e w' => e = .returned (.bool false) ∧ Below W.heap.size W w' := fun W => e5 ▸ compares4 5 (by simp) k n s k' n' s' W
  have H6 : ∀ W, Calls Try.prog 4 #[.int .u8 6, V k n s, V k' n' s'] W fun e w' => e = .returned (.bool false) ∧ Below W.heap.size W w' := fun W => e6 ▸ compares4 6 (by simp) k n s k' n' s' W
  have H0 : ∀ W, Calls Try.prog 4 #[.int .u8 1, .agg #[.int .u8 1, .int .i64 1, .string ⟨#[]⟩], .agg #[.int .u8 1, .int .i64 1, .string ⟨#[]⟩]] W fun e w' => e = .returned (.bool true) ∧ Below W.heap.size W w' := fun W => one_one ▸ compares4 1 (by simp) 1 1 ⟨#[]⟩ 1 1 ⟨#[]⟩ W
  have hS : ∀ {W}, Below (four w k n s k' n' s').heap.size (four w k n s k' n' s') W → SO w.heap.size k n s k' n' s' W := so_of
  have hF : Hid _ := four_below w k n s k' n' s'
  clear e1 e2 e3 e4 e5 e6
  go_enter Try.func3, Try.ntmps3
  go_wp2_with fail
  refine wp_loop_rounds 4 ?_
  rw [rounds_succ]
  go_wp2_with fail
  rw [show (((w.alloc (.cells #[.int .u8 k, .int .i64 n, .string s] 24)).alloc (.cells #[.int .u8 k', .int .i64 n', .string s'] 24)).alloc (.cells #[.int .u8 1, .int .u8 2, .int .u8 3, .int .u8 6, .int .u8 4, .int .u8 5] 26)).alloc (.cells #[.int .u8 1, .int .i64 1, .string ⟨#[]⟩] 24) = four w k n s k' n' s' from rfl]
  generalize four w k n s k' n' s' = W0 at *
  generalize hg : w.heap.size = g at *
  have HG : Hid _ := hg
  clear hg
  have J0 : Below W0.heap.size W0 W0 := Below.refl _ _
  unfold SO at hS
  have HS0 : Hid (∀ {W}, Below W0.heap.size W0 W → W.cell? ⟨g, 0, none⟩ = some (.int .u8 k) ∧ W.cell? ⟨g, 1, none⟩ = some (.int .i64 n) ∧ W.cell? ⟨g, 2, none⟩ = some (.string s) ∧ W.cell? ⟨g + 1, 0, none⟩ = some (.int .u8 k') ∧ W.cell? ⟨g + 1, 1, none⟩ = some (.int .i64 n') ∧ W.cell? ⟨g + 1, 2, none⟩ = some (.string s') ∧ W.cell? ⟨g + 1 + 1, 0, none⟩ = some (.int .u8 1) ∧ W.cell? ⟨g + 1 + 1, 1, none⟩ = some (.int .u8 2)) := fun h => by
    obtain ⟨⟨a0, a1, a2⟩, ⟨b0, b1, b2⟩, ⟨c0, c1, c2, c3, c4, c5⟩, _⟩ := hS h
    exact ⟨a0, a1, a2, b0, b1, b2, c0, c1⟩
  have K00 := J0.drew
  have HT0 := HS0.out K00
  go_region_held3 (fun W => W.cell? ⟨g, 0, none⟩ = some (.int .u8 k) ∧ W.cell? ⟨g, 1, none⟩ = some (.int .i64 n) ∧ W.cell? ⟨g, 2, none⟩ = some (.string s) ∧ W.cell? ⟨g + 1, 0, none⟩ = some (.int .u8 k') ∧ W.cell? ⟨g + 1, 1, none⟩ = some (.int .i64 n') ∧ W.cell? ⟨g + 1, 2, none⟩ = some (.string s') ∧ W.cell? ⟨g + 1 + 1, 0, none⟩ = some (.int .u8 1) ∧ W.cell? ⟨g + 1 + 1, 1, none⟩ = some (.int .u8 2)) (first | exact HT0 | exact HS0.out K01 | exact HS0.out K02) (first
    | (go_at_call 4; (with_reducible refine (H1 _).mono ?_); rintro e y1 ⟨rfl, hy1⟩; have K01 := bmore K00 hy1)
    | (go_at_call 4; (with_reducible refine (H2 _).mono ?_); rintro e y2 ⟨rfl, hy2⟩; have K02 := bmore K01 hy2))
  obtain ⟨p00, p10, p20, q00, q10, q20, _⟩ := HS0.out K02
  have J1 := K02
  go_wp2_with fail
  rw [rounds_succ]
  go_wp2_with fail
  have HS1 : Hid (∀ {W}, Below W0.heap.size W0 W → W.cell? ⟨g, 0, none⟩ = some (.int .u8 k) ∧ W.cell? ⟨g, 1, none⟩ = some (.int .i64 n) ∧ W.cell? ⟨g, 2, none⟩ = some (.string s) ∧ W.cell? ⟨g + 1, 0, none⟩ = some (.int .u8 k') ∧ W.cell? ⟨g + 1, 1, none⟩ = some (.int .i64 n') ∧ W.cell? ⟨g + 1, 2, none⟩ = some (.string s') ∧ W.cell? ⟨g + 1 + 1, 2, none⟩ = some (.int .u8 3) ∧ W.cell? ⟨g + 1 + 1, 3, none⟩ = some (.int .u8 6)) := fun h => by
    obtain ⟨⟨a0, a1, a2⟩, ⟨b0, b1, b2⟩, ⟨c0, c1, c2, c3, c4, c5⟩, _⟩ := hS h
    exact ⟨a0, a1, a2, b0, b1, b2, c2, c3⟩
  have K10 := J1.drew
  have HT1 := HS1.out K10
  go_region_held3 (fun W => W.cell? ⟨g, 0, none⟩ = some (.int .u8 k) ∧ W.cell? ⟨g, 1, none⟩ = some (.int .i64 n) ∧ W.cell? ⟨g, 2, none⟩ = some (.string s) ∧ W.cell? ⟨g + 1, 0, none⟩ = some (.int .u8 k') ∧ W.cell? ⟨g + 1, 1, none⟩ = some (.int .i64 n') ∧ W.cell? ⟨g + 1, 2, none⟩ = some (.string s') ∧ W.cell? ⟨g + 1 + 1, 2, none⟩ = some (.int .u8 3) ∧ W.cell? ⟨g + 1 + 1, 3, none⟩ = some (.int .u8 6)) (first | exact HT1 | exact HS1.out K11 | exact HS1.out K12) (first
    | (go_at_call 4; (with_reducible refine (H3 _).mono ?_); rintro e y1 ⟨rfl, hy1⟩; have K11 := bmore K10 hy1)
    | (go_at_call 4; (with_reducible refine (H6 _).mono ?_); rintro e y2 ⟨rfl, hy2⟩; have K12 := bmore K11 hy2))
  obtain ⟨p01, p11, p21, q01, q11, q21, _⟩ := HS1.out K12
  have J2 := K12
  go_wp2_with fail
  rw [rounds_succ]
  go_wp2_with fail
  have HS2 : Hid (∀ {W}, Below W0.heap.size W0 W → W.cell? ⟨g, 0, none⟩ = some (.int .u8 k) ∧ W.cell? ⟨g, 1, none⟩ = some (.int .i64 n) ∧ W.cell? ⟨g, 2, none⟩ = some (.string s) ∧ W.cell? ⟨g + 1, 0, none⟩ = some (.int .u8 k') ∧ W.cell? ⟨g + 1, 1, none⟩ = some (.int .i64 n') ∧ W.cell? ⟨g + 1, 2, none⟩ = some (.string s') ∧ W.cell? ⟨g + 1 + 1, 4, none⟩ = some (.int .u8 4) ∧ W.cell? ⟨g + 1 + 1, 5, none⟩ = some (.int .u8 5)) := fun h => by
    obtain ⟨⟨a0, a1, a2⟩, ⟨b0, b1, b2⟩, ⟨c0, c1, c2, c3, c4, c5⟩, _⟩ := hS h
    exact ⟨a0, a1, a2, b0, b1, b2, c4, c5⟩
  have K20 := J2.drew
  have HT2 := HS2.out K20
  go_region_held3 (fun W => W.cell? ⟨g, 0, none⟩ = some (.int .u8 k) ∧ W.cell? ⟨g, 1, none⟩ = some (.int .i64 n) ∧ W.cell? ⟨g, 2, none⟩ = some (.string s) ∧ W.cell? ⟨g + 1, 0, none⟩ = some (.int .u8 k') ∧ W.cell? ⟨g + 1, 1, none⟩ = some (.int .i64 n') ∧ W.cell? ⟨g + 1, 2, none⟩ = some (.string s') ∧ W.cell? ⟨g + 1 + 1, 4, none⟩ = some (.int .u8 4) ∧ W.cell? ⟨g + 1 + 1, 5, none⟩ = some (.int .u8 5)) (first | exact HT2 | exact HS2.out K21 | exact HS2.out K22) (first
    | (go_at_call 4; (with_reducible refine (H4 _).mono ?_); rintro e y1 ⟨rfl, hy1⟩; have K21 := bmore K20 hy1)
    | (go_at_call 4; (with_reducible refine (H5 _).mono ?_); rintro e y2 ⟨rfl, hy2⟩; have K22 := bmore K21 hy2))
  obtain ⟨p02, p12, p22, q02, q12, q22, _⟩ := HS2.out K22
  have J3 := K22
  go_wp2_with fail
  rw [rounds_succ]
  obtain ⟨_, _, _, o0, o1, o2⟩ := hS J3
  go_wp2_with (go_at_call 4; (with_reducible refine (H0 _).mono ?_); rintro e y9 ⟨rfl, hy9⟩)
  go_ret
  exact ⟨rfl, by rw [HG.out]; exact fin HG.out hF.out (bmore J3 hy9)⟩

set_option maxRecDepth 100000 in
set_option maxHeartbeats 4000000 in
theorem law3_lt (k n : Int) (s : ByteArray) (k' n' : Int) (s' : ByteArray) (w : World) (hkk : (k == k') = true) (hkn : (k != k') = false)
    (e1 : comp 1 k n (bs s) k' n' (bs s') = false) (e2 : comp 2 k n (bs s) k' n' (bs s') = true) (e3 : comp 3 k n (bs s) k' n' (bs s') = true) (e4 : comp 4 k n (bs s) k' n' (bs s') = true) (e5 : comp 5 k n (bs s) k' n' (bs s') = false) (e6 : comp 6 k n (bs s) k' n' (bs s') = false) :
    Calls Try.prog 3 #[V k n s, V k' n' s'] w fun e w' => e = .returned (.bool true) ∧ Below w.heap.size w w' := by
  have H1 : ∀ W, Calls Try.prog 4 #[.int .u8 1, V k n s, V k' n' s'] W fun e w' => e = .returned (.bool false) ∧ Below W.heap.size W w' := fun W => e1 ▸ compares4 1 (by simp) k n s k' n' s' W
  have H2 : ∀ W, Calls Try.prog 4 #[.int .u8 2, V k n s, V k' n' s'] W fun e w' => e = .returned (.bool true) ∧ Below W.heap.size W w' := fun W => e2 ▸ compares4 2 (by simp) k n s k' n' s' W
  have H3 : ∀ W, Calls Try.prog 4 #[.int .u8 3, V k n s, V k' n' s'] W fun e w' => e = .returned (.bool true) ∧ Below W.heap.size W w' := fun W => e3 ▸ compares4 3 (by simp) k n s k' n' s' W
  have H4 : ∀ W, Calls Try.prog 4 #[.int .u8 4, V k n s, V k' n' s'] W fun e w' => e = .returned (.bool true) ∧ Below W.heap.size W w' := fun W => e4 ▸ compares4 4 (by simp) k n s k' n' s' W
  have H5 : ∀ W, Calls Try.prog 4 #[.int .u8 5, V k n s, V k' n' s'] W fun e w' => e = .returned (.bool false) ∧ Below W.heap.size W w' := fun W => e5 ▸ compares4 5 (by simp) k n s k' n' s' W
  have H6 : ∀ W, Calls Try.prog 4 #[.int .u8 6, V k n s, V k' n' s'] W fun e w' => e = .returned (.bool false) ∧ Below W.heap.size W w' := fun W => e6 ▸ compares4 6 (by simp) k n s k' n' s' W
  have H0 : ∀ W, Calls Try.prog 4 #[.int .u8 1, .agg #[.int .u8 1, .int .i64 1, .string ⟨#[]⟩], .agg #[.int .u8 1, .int .i64 1, .string ⟨#[]⟩]] W fun e w' => e = .returned (.bool true) ∧ Below W.heap.size W w' := fun W => one_one ▸ compares4 1 (by simp) 1 1 ⟨#[]⟩ 1 1 ⟨#[]⟩ W
  have hS : ∀ {W}, Below (four w k n s k' n' s').heap.size (four w k n s k' n' s') W → SO w.heap.size k n s k' n' s' W := so_of
  have hF : Hid _ := four_below w k n s k' n' s'
  clear e1 e2 e3 e4 e5 e6
  go_enter Try.func3, Try.ntmps3
  go_wp2_with fail
  refine wp_loop_rounds 4 ?_
  rw [rounds_succ]
  go_wp2_with fail
  rw [show (((w.alloc (.cells #[.int .u8 k, .int .i64 n, .string s] 24)).alloc (.cells #[.int .u8 k', .int .i64 n', .string s'] 24)).alloc (.cells #[.int .u8 1, .int .u8 2, .int .u8 3, .int .u8 6, .int .u8 4, .int .u8 5] 26)).alloc (.cells #[.int .u8 1, .int .i64 1, .string ⟨#[]⟩] 24) = four w k n s k' n' s' from rfl]
  generalize four w k n s k' n' s' = W0 at *
  generalize hg : w.heap.size = g at *
  have HG : Hid _ := hg
  clear hg
  have J0 : Below W0.heap.size W0 W0 := Below.refl _ _
  unfold SO at hS
  have HS0 : Hid (∀ {W}, Below W0.heap.size W0 W → W.cell? ⟨g, 0, none⟩ = some (.int .u8 k) ∧ W.cell? ⟨g, 1, none⟩ = some (.int .i64 n) ∧ W.cell? ⟨g, 2, none⟩ = some (.string s) ∧ W.cell? ⟨g + 1, 0, none⟩ = some (.int .u8 k') ∧ W.cell? ⟨g + 1, 1, none⟩ = some (.int .i64 n') ∧ W.cell? ⟨g + 1, 2, none⟩ = some (.string s') ∧ W.cell? ⟨g + 1 + 1, 0, none⟩ = some (.int .u8 1) ∧ W.cell? ⟨g + 1 + 1, 1, none⟩ = some (.int .u8 2)) := fun h => by
    obtain ⟨⟨a0, a1, a2⟩, ⟨b0, b1, b2⟩, ⟨c0, c1, c2, c3, c4, c5⟩, _⟩ := hS h
    exact ⟨a0, a1, a2, b0, b1, b2, c0, c1⟩
  have K00 := J0.drew
  have HT0 := HS0.out K00
  go_region_held3 (fun W => W.cell? ⟨g, 0, none⟩ = some (.int .u8 k) ∧ W.cell? ⟨g, 1, none⟩ = some (.int .i64 n) ∧ W.cell? ⟨g, 2, none⟩ = some (.string s) ∧ W.cell? ⟨g + 1, 0, none⟩ = some (.int .u8 k') ∧ W.cell? ⟨g + 1, 1, none⟩ = some (.int .i64 n') ∧ W.cell? ⟨g + 1, 2, none⟩ = some (.string s') ∧ W.cell? ⟨g + 1 + 1, 0, none⟩ = some (.int .u8 1) ∧ W.cell? ⟨g + 1 + 1, 1, none⟩ = some (.int .u8 2)) (first | exact HT0 | exact HS0.out K01 | exact HS0.out K02) (first
    | (go_at_call 4; (with_reducible refine (H1 _).mono ?_); rintro e y1 ⟨rfl, hy1⟩; have K01 := bmore K00 hy1)
    | (go_at_call 4; (with_reducible refine (H2 _).mono ?_); rintro e y2 ⟨rfl, hy2⟩; have K02 := bmore K01 hy2))
  obtain ⟨p00, p10, p20, q00, q10, q20, _⟩ := HS0.out K02
  have J1 := K02
  go_wp2_with fail
  rw [rounds_succ]
  go_wp2_with fail
  have HS1 : Hid (∀ {W}, Below W0.heap.size W0 W → W.cell? ⟨g, 0, none⟩ = some (.int .u8 k) ∧ W.cell? ⟨g, 1, none⟩ = some (.int .i64 n) ∧ W.cell? ⟨g, 2, none⟩ = some (.string s) ∧ W.cell? ⟨g + 1, 0, none⟩ = some (.int .u8 k') ∧ W.cell? ⟨g + 1, 1, none⟩ = some (.int .i64 n') ∧ W.cell? ⟨g + 1, 2, none⟩ = some (.string s') ∧ W.cell? ⟨g + 1 + 1, 2, none⟩ = some (.int .u8 3) ∧ W.cell? ⟨g + 1 + 1, 3, none⟩ = some (.int .u8 6)) := fun h => by
    obtain ⟨⟨a0, a1, a2⟩, ⟨b0, b1, b2⟩, ⟨c0, c1, c2, c3, c4, c5⟩, _⟩ := hS h
    exact ⟨a0, a1, a2, b0, b1, b2, c2, c3⟩
  have K10 := J1.drew
  have HT1 := HS1.out K10
  go_region_held3 (fun W => W.cell? ⟨g, 0, none⟩ = some (.int .u8 k) ∧ W.cell? ⟨g, 1, none⟩ = some (.int .i64 n) ∧ W.cell? ⟨g, 2, none⟩ = some (.string s) ∧ W.cell? ⟨g + 1, 0, none⟩ = some (.int .u8 k') ∧ W.cell? ⟨g + 1, 1, none⟩ = some (.int .i64 n') ∧ W.cell? ⟨g + 1, 2, none⟩ = some (.string s') ∧ W.cell? ⟨g + 1 + 1, 2, none⟩ = some (.int .u8 3) ∧ W.cell? ⟨g + 1 + 1, 3, none⟩ = some (.int .u8 6)) (first | exact HT1 | exact HS1.out K11 | exact HS1.out K12) (first
    | (go_at_call 4; (with_reducible refine (H3 _).mono ?_); rintro e y1 ⟨rfl, hy1⟩; have K11 := bmore K10 hy1)
    | (go_at_call 4; (with_reducible refine (H6 _).mono ?_); rintro e y2 ⟨rfl, hy2⟩; have K12 := bmore K11 hy2))
  obtain ⟨p01, p11, p21, q01, q11, q21, _⟩ := HS1.out K12
  have J2 := K12
  go_wp2_with fail
  rw [rounds_succ]
  go_wp2_with fail
  have HS2 : Hid (∀ {W}, Below W0.heap.size W0 W → W.cell? ⟨g, 0, none⟩ = some (.int .u8 k) ∧ W.cell? ⟨g, 1, none⟩ = some (.int .i64 n) ∧ W.cell? ⟨g, 2, none⟩ = some (.string s) ∧ W.cell? ⟨g + 1, 0, none⟩ = some (.int .u8 k') ∧ W.cell? ⟨g + 1, 1, none⟩ = some (.int .i64 n') ∧ W.cell? ⟨g + 1, 2, none⟩ = some (.string s') ∧ W.cell? ⟨g + 1 + 1, 4, none⟩ = some (.int .u8 4) ∧ W.cell? ⟨g + 1 + 1, 5, none⟩ = some (.int .u8 5)) := fun h => by
    obtain ⟨⟨a0, a1, a2⟩, ⟨b0, b1, b2⟩, ⟨c0, c1, c2, c3, c4, c5⟩, _⟩ := hS h
    exact ⟨a0, a1, a2, b0, b1, b2, c4, c5⟩
  have K20 := J2.drew
  have HT2 := HS2.out K20
  go_region_held3 (fun W => W.cell? ⟨g, 0, none⟩ = some (.int .u8 k) ∧ W.cell? ⟨g, 1, none⟩ = some (.int .i64 n) ∧ W.cell? ⟨g, 2, none⟩ = some (.string s) ∧ W.cell? ⟨g + 1, 0, none⟩ = some (.int .u8 k') ∧ W.cell? ⟨g + 1, 1, none⟩ = some (.int .i64 n') ∧ W.cell? ⟨g + 1, 2, none⟩ = some (.string s') ∧ W.cell? ⟨g + 1 + 1, 4, none⟩ = some (.int .u8 4) ∧ W.cell? ⟨g + 1 + 1, 5, none⟩ = some (.int .u8 5)) (first | exact HT2 | exact HS2.out K21 | exact HS2.out K22) (first
    | (go_at_call 4; (with_reducible refine (H4 _).mono ?_); rintro e y1 ⟨rfl, hy1⟩; have K21 := bmore K20 hy1)
    | (go_at_call 4; (with_reducible refine (H5 _).mono ?_); rintro e y2 ⟨rfl, hy2⟩; have K22 := bmore K21 hy2))
  obtain ⟨p02, p12, p22, q02, q12, q22, _⟩ := HS2.out K22
  have J3 := K22
  go_wp2_with fail
  rw [rounds_succ]
  obtain ⟨_, _, _, o0, o1, o2⟩ := hS J3
  go_wp2_with (go_at_call 4; (with_reducible refine (H0 _).mono ?_); rintro e y9 ⟨rfl, hy9⟩)
  go_ret
  exact ⟨rfl, by rw [HG.out]; exact fin HG.out hF.out (bmore J3 hy9)⟩

set_option maxRecDepth 100000 in
set_option maxHeartbeats 4000000 in
theorem law3_eq (k n : Int) (s : ByteArray) (k' n' : Int) (s' : ByteArray) (w : World) (hkk : (k == k') = true) (hkn : (k != k') = false)
    (e1 : comp 1 k n (bs s) k' n' (bs s') = true) (e2 : comp 2 k n (bs s) k' n' (bs s') = false) (e3 : comp 3 k n (bs s) k' n' (bs s') = false) (e4 : comp 4 k n (bs s) k' n' (bs s') = true) (e5 : comp 5 k n (bs s) k' n' (bs s') = false) (e6 : comp 6 k n (bs s) k' n' (bs s') = true) :
    Calls Try.prog 3 #[V k n s, V k' n' s'] w fun e w' => e = .returned (.bool true) ∧ Below w.heap.size w w' := by
  have H1 : ∀ W, Calls Try.prog 4 #[.int .u8 1, V k n s, V k' n' s'] W fun e w' => e = .returned (.bool true) ∧ Below W.heap.size W w' := fun W => e1 ▸ compares4 1 (by simp) k n s k' n' s' W
  have H2 : ∀ W, Calls Try.prog 4 #[.int .u8 2, V k n s, V k' n' s'] W fun e w' => e = .returned (.bool false) ∧ Below W.heap.size W w' := fun W => e2 ▸ compares4 2 (by simp) k n s k' n' s' W
  have H3 : ∀ W, Calls Try.prog 4 #[.int .u8 3, V k n s, V k' n' s'] W fun e w' => e = .returned (.bool false) ∧ Below W.heap.size W w' := fun W => e3 ▸ compares4 3 (by simp) k n s k' n' s' W
  have H4 : ∀ W, Calls Try.prog 4 #[.int .u8 4, V k n s, V k' n' s'] W fun e w' => e = .returned (.bool true) ∧ Below W.heap.size W w' := fun W => e4 ▸ compares4 4 (by simp) k n s k' n' s' W
  have H5 : ∀ W, Calls Try.prog 4 #[.int .u8 5, V k n s, V k' n' s'] W fun e w' => e = .returned (.bool false) ∧ Below W.heap.size W w' := fun W => e5 ▸ compares4 5 (by simp) k n s k' n' s' W
  have H6 : ∀ W, Calls Try.prog 4 #[.int .u8 6, V k n s, V k' n' s'] W fun e w' => e = .returned (.bool true) ∧ Below W.heap.size W w' := fun W => e6 ▸ compares4 6 (by simp) k n s k' n' s' W
  have H0 : ∀ W, Calls Try.prog 4 #[.int .u8 1, .agg #[.int .u8 1, .int .i64 1, .string ⟨#[]⟩], .agg #[.int .u8 1, .int .i64 1, .string ⟨#[]⟩]] W fun e w' => e = .returned (.bool true) ∧ Below W.heap.size W w' := fun W => one_one ▸ compares4 1 (by simp) 1 1 ⟨#[]⟩ 1 1 ⟨#[]⟩ W
  have hS : ∀ {W}, Below (four w k n s k' n' s').heap.size (four w k n s k' n' s') W → SO w.heap.size k n s k' n' s' W := so_of
  have hF : Hid _ := four_below w k n s k' n' s'
  clear e1 e2 e3 e4 e5 e6
  go_enter Try.func3, Try.ntmps3
  go_wp2_with fail
  refine wp_loop_rounds 4 ?_
  rw [rounds_succ]
  go_wp2_with fail
  rw [show (((w.alloc (.cells #[.int .u8 k, .int .i64 n, .string s] 24)).alloc (.cells #[.int .u8 k', .int .i64 n', .string s'] 24)).alloc (.cells #[.int .u8 1, .int .u8 2, .int .u8 3, .int .u8 6, .int .u8 4, .int .u8 5] 26)).alloc (.cells #[.int .u8 1, .int .i64 1, .string ⟨#[]⟩] 24) = four w k n s k' n' s' from rfl]
  generalize four w k n s k' n' s' = W0 at *
  generalize hg : w.heap.size = g at *
  have HG : Hid _ := hg
  clear hg
  have J0 : Below W0.heap.size W0 W0 := Below.refl _ _
  unfold SO at hS
  have HS0 : Hid (∀ {W}, Below W0.heap.size W0 W → W.cell? ⟨g, 0, none⟩ = some (.int .u8 k) ∧ W.cell? ⟨g, 1, none⟩ = some (.int .i64 n) ∧ W.cell? ⟨g, 2, none⟩ = some (.string s) ∧ W.cell? ⟨g + 1, 0, none⟩ = some (.int .u8 k') ∧ W.cell? ⟨g + 1, 1, none⟩ = some (.int .i64 n') ∧ W.cell? ⟨g + 1, 2, none⟩ = some (.string s') ∧ W.cell? ⟨g + 1 + 1, 0, none⟩ = some (.int .u8 1) ∧ W.cell? ⟨g + 1 + 1, 1, none⟩ = some (.int .u8 2)) := fun h => by
    obtain ⟨⟨a0, a1, a2⟩, ⟨b0, b1, b2⟩, ⟨c0, c1, c2, c3, c4, c5⟩, _⟩ := hS h
    exact ⟨a0, a1, a2, b0, b1, b2, c0, c1⟩
  have K00 := J0.drew
  have HT0 := HS0.out K00
  go_region_held3 (fun W => W.cell? ⟨g, 0, none⟩ = some (.int .u8 k) ∧ W.cell? ⟨g, 1, none⟩ = some (.int .i64 n) ∧ W.cell? ⟨g, 2, none⟩ = some (.string s) ∧ W.cell? ⟨g + 1, 0, none⟩ = some (.int .u8 k') ∧ W.cell? ⟨g + 1, 1, none⟩ = some (.int .i64 n') ∧ W.cell? ⟨g + 1, 2, none⟩ = some (.string s') ∧ W.cell? ⟨g + 1 + 1, 0, none⟩ = some (.int .u8 1) ∧ W.cell? ⟨g + 1 + 1, 1, none⟩ = some (.int .u8 2)) (first | exact HT0 | exact HS0.out K01 | exact HS0.out K02) (first
    | (go_at_call 4; (with_reducible refine (H1 _).mono ?_); rintro e y1 ⟨rfl, hy1⟩; have K01 := bmore K00 hy1)
    | (go_at_call 4; (with_reducible refine (H2 _).mono ?_); rintro e y2 ⟨rfl, hy2⟩; have K02 := bmore K01 hy2))
  obtain ⟨p00, p10, p20, q00, q10, q20, _⟩ := HS0.out K02
  have J1 := K02
  go_wp2_with fail
  rw [rounds_succ]
  go_wp2_with fail
  have HS1 : Hid (∀ {W}, Below W0.heap.size W0 W → W.cell? ⟨g, 0, none⟩ = some (.int .u8 k) ∧ W.cell? ⟨g, 1, none⟩ = some (.int .i64 n) ∧ W.cell? ⟨g, 2, none⟩ = some (.string s) ∧ W.cell? ⟨g + 1, 0, none⟩ = some (.int .u8 k') ∧ W.cell? ⟨g + 1, 1, none⟩ = some (.int .i64 n') ∧ W.cell? ⟨g + 1, 2, none⟩ = some (.string s') ∧ W.cell? ⟨g + 1 + 1, 2, none⟩ = some (.int .u8 3) ∧ W.cell? ⟨g + 1 + 1, 3, none⟩ = some (.int .u8 6)) := fun h => by
    obtain ⟨⟨a0, a1, a2⟩, ⟨b0, b1, b2⟩, ⟨c0, c1, c2, c3, c4, c5⟩, _⟩ := hS h
    exact ⟨a0, a1, a2, b0, b1, b2, c2, c3⟩
  have K10 := J1.drew
  have HT1 := HS1.out K10
  go_region_held3 (fun W => W.cell? ⟨g, 0, none⟩ = some (.int .u8 k) ∧ W.cell? ⟨g, 1, none⟩ = some (.int .i64 n) ∧ W.cell? ⟨g, 2, none⟩ = some (.string s) ∧ W.cell? ⟨g + 1, 0, none⟩ = some (.int .u8 k') ∧ W.cell? ⟨g + 1, 1, none⟩ = some (.int .i64 n') ∧ W.cell? ⟨g + 1, 2, none⟩ = some (.string s') ∧ W.cell? ⟨g + 1 + 1, 2, none⟩ = some (.int .u8 3) ∧ W.cell? ⟨g + 1 + 1, 3, none⟩ = some (.int .u8 6)) (first | exact HT1 | exact HS1.out K11 | exact HS1.out K12) (first
    | (go_at_call 4; (with_reducible refine (H3 _).mono ?_); rintro e y1 ⟨rfl, hy1⟩; have K11 := bmore K10 hy1)
    | (go_at_call 4; (with_reducible refine (H6 _).mono ?_); rintro e y2 ⟨rfl, hy2⟩; have K12 := bmore K11 hy2))
  obtain ⟨p01, p11, p21, q01, q11, q21, _⟩ := HS1.out K12
  have J2 := K12
  go_wp2_with fail
  rw [rounds_succ]
  go_wp2_with fail
  have HS2 : Hid (∀ {W}, Below W0.heap.size W0 W → W.cell? ⟨g, 0, none⟩ = some (.int .u8 k) ∧ W.cell? ⟨g, 1, none⟩ = some (.int .i64 n) ∧ W.cell? ⟨g, 2, none⟩ = some (.string s) ∧ W.cell? ⟨g + 1, 0, none⟩ = some (.int .u8 k') ∧ W.cell? ⟨g + 1, 1, none⟩ = some (.int .i64 n') ∧ W.cell? ⟨g + 1, 2, none⟩ = some (.string s') ∧ W.cell? ⟨g + 1 + 1, 4, none⟩ = some (.int .u8 4) ∧ W.cell? ⟨g + 1 + 1, 5, none⟩ = some (.int .u8 5)) := fun h => by
    obtain ⟨⟨a0, a1, a2⟩, ⟨b0, b1, b2⟩, ⟨c0, c1, c2, c3, c4, c5⟩, _⟩ := hS h
    exact ⟨a0, a1, a2, b0, b1, b2, c4, c5⟩
  have K20 := J2.drew
  have HT2 := HS2.out K20
  go_region_held3 (fun W => W.cell? ⟨g, 0, none⟩ = some (.int .u8 k) ∧ W.cell? ⟨g, 1, none⟩ = some (.int .i64 n) ∧ W.cell? ⟨g, 2, none⟩ = some (.string s) ∧ W.cell? ⟨g + 1, 0, none⟩ = some (.int .u8 k') ∧ W.cell? ⟨g + 1, 1, none⟩ = some (.int .i64 n') ∧ W.cell? ⟨g + 1, 2, none⟩ = some (.string s') ∧ W.cell? ⟨g + 1 + 1, 4, none⟩ = some (.int .u8 4) ∧ W.cell? ⟨g + 1 + 1, 5, none⟩ = some (.int .u8 5)) (first | exact HT2 | exact HS2.out K21 | exact HS2.out K22) (first
    | (go_at_call 4; (with_reducible refine (H4 _).mono ?_); rintro e y1 ⟨rfl, hy1⟩; have K21 := bmore K20 hy1)
    | (go_at_call 4; (with_reducible refine (H5 _).mono ?_); rintro e y2 ⟨rfl, hy2⟩; have K22 := bmore K21 hy2))
  obtain ⟨p02, p12, p22, q02, q12, q22, _⟩ := HS2.out K22
  have J3 := K22
  go_wp2_with fail
  rw [rounds_succ]
  obtain ⟨_, _, _, o0, o1, o2⟩ := hS J3
  go_wp2_with (go_at_call 4; (with_reducible refine (H0 _).mono ?_); rintro e y9 ⟨rfl, hy9⟩)
  go_ret
  exact ⟨rfl, by rw [HG.out]; exact fin HG.out hF.out (bmore J3 hy9)⟩

set_option maxRecDepth 100000 in
set_option maxHeartbeats 4000000 in
theorem law3_gt (k n : Int) (s : ByteArray) (k' n' : Int) (s' : ByteArray) (w : World) (hkk : (k == k') = true) (hkn : (k != k') = false)
    (e1 : comp 1 k n (bs s) k' n' (bs s') = false) (e2 : comp 2 k n (bs s) k' n' (bs s') = true) (e3 : comp 3 k n (bs s) k' n' (bs s') = false) (e4 : comp 4 k n (bs s) k' n' (bs s') = false) (e5 : comp 5 k n (bs s) k' n' (bs s') = true) (e6 : comp 6 k n (bs s) k' n' (bs s') = true) :
    Calls Try.prog 3 #[V k n s, V k' n' s'] w fun e w' => e = .returned (.bool true) ∧ Below w.heap.size w w' := by
  have H1 : ∀ W, Calls Try.prog 4 #[.int .u8 1, V k n s, V k' n' s'] W fun e w' => e = .returned (.bool false) ∧ Below W.heap.size W w' := fun W => e1 ▸ compares4 1 (by simp) k n s k' n' s' W
  have H2 : ∀ W, Calls Try.prog 4 #[.int .u8 2, V k n s, V k' n' s'] W fun e w' => e = .returned (.bool true) ∧ Below W.heap.size W w' := fun W => e2 ▸ compares4 2 (by simp) k n s k' n' s' W
  have H3 : ∀ W, Calls Try.prog 4 #[.int .u8 3, V k n s, V k' n' s'] W fun e w' => e = .returned (.bool false) ∧ Below W.heap.size W w' := fun W => e3 ▸ compares4 3 (by simp) k n s k' n' s' W
  have H4 : ∀ W, Calls Try.prog 4 #[.int .u8 4, V k n s, V k' n' s'] W fun e w' => e = .returned (.bool false) ∧ Below W.heap.size W w' := fun W => e4 ▸ compares4 4 (by simp) k n s k' n' s' W
  have H5 : ∀ W, Calls Try.prog 4 #[.int .u8 5, V k n s, V k' n' s'] W fun e w' => e = .returned (.bool true) ∧ Below W.heap.size W w' := fun W => e5 ▸ compares4 5 (by simp) k n s k' n' s' W
  have H6 : ∀ W, Calls Try.prog 4 #[.int .u8 6, V k n s, V k' n' s'] W fun e w' => e = .returned (.bool true) ∧ Below W.heap.size W w' := fun W => e6 ▸ compares4 6 (by simp) k n s k' n' s' W
  have H0 : ∀ W, Calls Try.prog 4 #[.int .u8 1, .agg #[.int .u8 1, .int .i64 1, .string ⟨#[]⟩], .agg #[.int .u8 1, .int .i64 1, .string ⟨#[]⟩]] W fun e w' => e = .returned (.bool true) ∧ Below W.heap.size W w' := fun W => one_one ▸ compares4 1 (by simp) 1 1 ⟨#[]⟩ 1 1 ⟨#[]⟩ W
  have hS : ∀ {W}, Below (four w k n s k' n' s').heap.size (four w k n s k' n' s') W → SO w.heap.size k n s k' n' s' W := so_of
  have hF : Hid _ := four_below w k n s k' n' s'
  clear e1 e2 e3 e4 e5 e6
  go_enter Try.func3, Try.ntmps3
  go_wp2_with fail
  refine wp_loop_rounds 4 ?_
  rw [rounds_succ]
  go_wp2_with fail
  rw [show (((w.alloc (.cells #[.int .u8 k, .int .i64 n, .string s] 24)).alloc (.cells #[.int .u8 k', .int .i64 n', .string s'] 24)).alloc (.cells #[.int .u8 1, .int .u8 2, .int .u8 3, .int .u8 6, .int .u8 4, .int .u8 5] 26)).alloc (.cells #[.int .u8 1, .int .i64 1, .string ⟨#[]⟩] 24) = four w k n s k' n' s' from rfl]
  generalize four w k n s k' n' s' = W0 at *
  generalize hg : w.heap.size = g at *
  have HG : Hid _ := hg
  clear hg
  have J0 : Below W0.heap.size W0 W0 := Below.refl _ _
  unfold SO at hS
  have HS0 : Hid (∀ {W}, Below W0.heap.size W0 W → W.cell? ⟨g, 0, none⟩ = some (.int .u8 k) ∧ W.cell? ⟨g, 1, none⟩ = some (.int .i64 n) ∧ W.cell? ⟨g, 2, none⟩ = some (.string s) ∧ W.cell? ⟨g + 1, 0, none⟩ = some (.int .u8 k') ∧ W.cell? ⟨g + 1, 1, none⟩ = some (.int .i64 n') ∧ W.cell? ⟨g + 1, 2, none⟩ = some (.string s') ∧ W.cell? ⟨g + 1 + 1, 0, none⟩ = some (.int .u8 1) ∧ W.cell? ⟨g + 1 + 1, 1, none⟩ = some (.int .u8 2)) := fun h => by
    obtain ⟨⟨a0, a1, a2⟩, ⟨b0, b1, b2⟩, ⟨c0, c1, c2, c3, c4, c5⟩, _⟩ := hS h
    exact ⟨a0, a1, a2, b0, b1, b2, c0, c1⟩
  have K00 := J0.drew
  have HT0 := HS0.out K00
  go_region_held3 (fun W => W.cell? ⟨g, 0, none⟩ = some (.int .u8 k) ∧ W.cell? ⟨g, 1, none⟩ = some (.int .i64 n) ∧ W.cell? ⟨g, 2, none⟩ = some (.string s) ∧ W.cell? ⟨g + 1, 0, none⟩ = some (.int .u8 k') ∧ W.cell? ⟨g + 1, 1, none⟩ = some (.int .i64 n') ∧ W.cell? ⟨g + 1, 2, none⟩ = some (.string s') ∧ W.cell? ⟨g + 1 + 1, 0, none⟩ = some (.int .u8 1) ∧ W.cell? ⟨g + 1 + 1, 1, none⟩ = some (.int .u8 2)) (first | exact HT0 | exact HS0.out K01 | exact HS0.out K02) (first
    | (go_at_call 4; (with_reducible refine (H1 _).mono ?_); rintro e y1 ⟨rfl, hy1⟩; have K01 := bmore K00 hy1)
    | (go_at_call 4; (with_reducible refine (H2 _).mono ?_); rintro e y2 ⟨rfl, hy2⟩; have K02 := bmore K01 hy2))
  obtain ⟨p00, p10, p20, q00, q10, q20, _⟩ := HS0.out K02
  have J1 := K02
  go_wp2_with fail
  rw [rounds_succ]
  go_wp2_with fail
  have HS1 : Hid (∀ {W}, Below W0.heap.size W0 W → W.cell? ⟨g, 0, none⟩ = some (.int .u8 k) ∧ W.cell? ⟨g, 1, none⟩ = some (.int .i64 n) ∧ W.cell? ⟨g, 2, none⟩ = some (.string s) ∧ W.cell? ⟨g + 1, 0, none⟩ = some (.int .u8 k') ∧ W.cell? ⟨g + 1, 1, none⟩ = some (.int .i64 n') ∧ W.cell? ⟨g + 1, 2, none⟩ = some (.string s') ∧ W.cell? ⟨g + 1 + 1, 2, none⟩ = some (.int .u8 3) ∧ W.cell? ⟨g + 1 + 1, 3, none⟩ = some (.int .u8 6)) := fun h => by
    obtain ⟨⟨a0, a1, a2⟩, ⟨b0, b1, b2⟩, ⟨c0, c1, c2, c3, c4, c5⟩, _⟩ := hS h
    exact ⟨a0, a1, a2, b0, b1, b2, c2, c3⟩
  have K10 := J1.drew
  have HT1 := HS1.out K10
  go_region_held3 (fun W => W.cell? ⟨g, 0, none⟩ = some (.int .u8 k) ∧ W.cell? ⟨g, 1, none⟩ = some (.int .i64 n) ∧ W.cell? ⟨g, 2, none⟩ = some (.string s) ∧ W.cell? ⟨g + 1, 0, none⟩ = some (.int .u8 k') ∧ W.cell? ⟨g + 1, 1, none⟩ = some (.int .i64 n') ∧ W.cell? ⟨g + 1, 2, none⟩ = some (.string s') ∧ W.cell? ⟨g + 1 + 1, 2, none⟩ = some (.int .u8 3) ∧ W.cell? ⟨g + 1 + 1, 3, none⟩ = some (.int .u8 6)) (first | exact HT1 | exact HS1.out K11 | exact HS1.out K12) (first
    | (go_at_call 4; (with_reducible refine (H3 _).mono ?_); rintro e y1 ⟨rfl, hy1⟩; have K11 := bmore K10 hy1)
    | (go_at_call 4; (with_reducible refine (H6 _).mono ?_); rintro e y2 ⟨rfl, hy2⟩; have K12 := bmore K11 hy2))
  obtain ⟨p01, p11, p21, q01, q11, q21, _⟩ := HS1.out K12
  have J2 := K12
  go_wp2_with fail
  rw [rounds_succ]
  go_wp2_with fail
  have HS2 : Hid (∀ {W}, Below W0.heap.size W0 W → W.cell? ⟨g, 0, none⟩ = some (.int .u8 k) ∧ W.cell? ⟨g, 1, none⟩ = some (.int .i64 n) ∧ W.cell? ⟨g, 2, none⟩ = some (.string s) ∧ W.cell? ⟨g + 1, 0, none⟩ = some (.int .u8 k') ∧ W.cell? ⟨g + 1, 1, none⟩ = some (.int .i64 n') ∧ W.cell? ⟨g + 1, 2, none⟩ = some (.string s') ∧ W.cell? ⟨g + 1 + 1, 4, none⟩ = some (.int .u8 4) ∧ W.cell? ⟨g + 1 + 1, 5, none⟩ = some (.int .u8 5)) := fun h => by
    obtain ⟨⟨a0, a1, a2⟩, ⟨b0, b1, b2⟩, ⟨c0, c1, c2, c3, c4, c5⟩, _⟩ := hS h
    exact ⟨a0, a1, a2, b0, b1, b2, c4, c5⟩
  have K20 := J2.drew
  have HT2 := HS2.out K20
  go_region_held3 (fun W => W.cell? ⟨g, 0, none⟩ = some (.int .u8 k) ∧ W.cell? ⟨g, 1, none⟩ = some (.int .i64 n) ∧ W.cell? ⟨g, 2, none⟩ = some (.string s) ∧ W.cell? ⟨g + 1, 0, none⟩ = some (.int .u8 k') ∧ W.cell? ⟨g + 1, 1, none⟩ = some (.int .i64 n') ∧ W.cell? ⟨g + 1, 2, none⟩ = some (.string s') ∧ W.cell? ⟨g + 1 + 1, 4, none⟩ = some (.int .u8 4) ∧ W.cell? ⟨g + 1 + 1, 5, none⟩ = some (.int .u8 5)) (first | exact HT2 | exact HS2.out K21 | exact HS2.out K22) (first
    | (go_at_call 4; (with_reducible refine (H4 _).mono ?_); rintro e y1 ⟨rfl, hy1⟩; have K21 := bmore K20 hy1)
    | (go_at_call 4; (with_reducible refine (H5 _).mono ?_); rintro e y2 ⟨rfl, hy2⟩; have K22 := bmore K21 hy2))
  obtain ⟨p02, p12, p22, q02, q12, q22, _⟩ := HS2.out K22
  have J3 := K22
  go_wp2_with fail
  rw [rounds_succ]
  obtain ⟨_, _, _, o0, o1, o2⟩ := hS J3
  go_wp2_with (go_at_call 4; (with_reducible refine (H0 _).mono ?_); rintro e y9 ⟨rfl, hy9⟩)
  go_ret
  exact ⟨rfl, by rw [HG.out]; exact fin HG.out hF.out (bmore J3 hy9)⟩

end Go.Proofs.Ytphjaomfnganmaa
