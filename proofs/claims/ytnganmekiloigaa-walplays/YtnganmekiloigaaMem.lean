/- Disks in memory: frames, cells, sectors, Writes that wait. -/
import Derived.Test.YtnganmekiloigaaRows
import Derived.Test.YtnganmekiloigaaPl
import Derived.WalkKit
import Derived.WalkSpells
import Derived.WalkLawsBesides
import Derived.Below
import Derived.OwnWalk
import Derived.Deep.MidRow
import Derived.Deep.AppendLies
namespace Go.Proofs.Ytnganmekiloigaa
open Go.RowKit

theorem al (w : World) (o : Obj) : Below w.heap.size w (w.alloc o) := (Below.refl _ _).alloc (Nat.le_refl _) o
theorem bmore {w w1 w2 : World} (h : Below w.heap.size w w1) (k : Below w1.heap.size w1 w2) : Below w.heap.size w w2 := h.trans (k.mono h.size)

/-- Every old block stands but those of F. -/
structure Keep (F : Nat → Prop) (w w' : World) : Prop where
  os : w'.os = w.os
  tape : w'.tape = w.tape
  output : w'.output = w.output
  size : w.heap.size ≤ w'.heap.size
  block : ∀ k, k < w.heap.size → ¬ F k → w'.heap[k]? = w.heap[k]?
section
variable {F G : Nat → Prop} {a b c : World}
theorem Keep.refl (F : Nat → Prop) (w : World) : Keep F w w := ⟨rfl, rfl, rfl, Nat.le_refl _, fun _ _ _ => rfl⟩
theorem Keep.trans (h : Keep F a b) (k : Keep G b c) (hG : ∀ i, i < a.heap.size → G i → F i) : Keep F a c :=
  ⟨k.os.trans h.os, k.tape.trans h.tape, k.output.trans h.output, Nat.le_trans h.size k.size, fun i hi hf => (k.block i (Nat.lt_of_lt_of_le hi h.size) (fun hg => hf (hG i hi hg))).trans (h.block i hi hf)⟩
theorem Keep.of (h : Below a.heap.size a b) : Keep F a b := ⟨h.os, h.tape, h.output, h.size, fun k hk _ => h.block k hk⟩
theorem Keep.below {B : Nat} (h : Keep F a b) (hB : B ≤ a.heap.size) (hF : ∀ i, F i → B ≤ i) : Below B a b := ⟨h.os, h.tape, h.output, h.size, fun k hk => h.block k (by omega) (fun hf => by have := hF k hf; omega)⟩
theorem Keep.set (h : Keep F a b) {p : Addr} (hp : a.heap.size ≤ p.block ∨ F p.block) (v : Value) : Keep F a (b.setCell p v) :=
  ⟨h.os, h.tape, h.output, by simpa [World.setCell] using h.size, fun k hk hf => by
    have hne : k ≠ p.block := fun e => hp.elim (fun h => by omega) (fun h => hf (e ▸ h))
    rw [Below.heap_setCell _ _ _ _ hne]; exact h.block k hk hf⟩
theorem Keep.alloc (h : Keep F a b) (o : Obj) : Keep F a (b.alloc o) := h.trans (Keep.of (al b o)) (fun _ _ h => h)
theorem Keep.drew (h : Keep F a b) : Keep F a b.drew := h.trans (Keep.of (Below.refl _ _).drew) (fun _ _ h => h)
theorem heap_setCells (b : Nat) : ∀ (vs : List Value) (o : Nat) (w : World) (k : Nat), k ≠ b → (w.setCells b o vs).heap[k]? = w.heap[k]?
  | [], _, _, _, _ => rfl
  | v :: vs, o, w, k, hk => by
    rw [World.setCells, heap_setCells b vs (o + 1) _ k hk]
    exact Below.heap_setCell _ _ _ _ hk
theorem size_setCells (b : Nat) : ∀ (vs : List Value) (o : Nat) (w : World), (w.setCells b o vs).heap.size = w.heap.size
  | [], _, _ => rfl
  | v :: vs, o, w => by rw [World.setCells, size_setCells b vs (o + 1)]; simp [World.setCell]
theorem os_setCells (b : Nat) : ∀ (vs : List Value) (o : Nat) (w : World), (w.setCells b o vs).os = w.os ∧ (w.setCells b o vs).tape = w.tape ∧ (w.setCells b o vs).output = w.output
  | [], _, _ => ⟨rfl, rfl, rfl⟩
  | v :: vs, o, w => by rw [World.setCells]; exact os_setCells b vs (o + 1) _
theorem Keep.sets (h : Keep F a b) {g : Nat} (hp : a.heap.size ≤ g ∨ F g) (o : Nat) (vs : List Value) : Keep F a (b.setCells g o vs) := by
  obtain ⟨h1, h2, h3⟩ := os_setCells g vs o b
  refine ⟨h1.trans h.os, h2.trans h.tape, h3.trans h.output, by rw [size_setCells]; exact h.size, fun k hk hf => ?_⟩
  rw [heap_setCells g vs o b k (fun e => hp.elim (fun h => by omega) (fun h => hf (e ▸ h)))]
  exact h.block k hk hf
theorem Keep.grown (h : Keep F a b) {r : Option Nat} (hg : b.grownBy c r) (hr : ∀ k, r = some k → a.heap.size ≤ k ∨ F k) : Keep F a c :=
  ⟨hg.os.trans h.os, hg.tape.trans h.tape, hg.output.trans h.output, Nat.le_trans h.size hg.size, fun k hk hf => by
    rw [hg.block k (Nat.lt_of_lt_of_le hk h.size) (fun e => (hr k e.symm).elim (fun h => by omega) (fun h => hf h))]; exact h.block k hk hf⟩
end

/-- Five cells of a block. -/
structure Dx (W : World) (d : Nat) (x0 x1 x2 x3 x4 : Value) : Prop where
  c0 : W.cell? ⟨d, 0, none⟩ = some x0
  c1 : W.cell? ⟨d, 1, none⟩ = some x1
  c2 : W.cell? ⟨d, 2, none⟩ = some x2
  c3 : W.cell? ⟨d, 3, none⟩ = some x3
  c4 : W.cell? ⟨d, 4, none⟩ = some x4
  z0 : W.frozen? ⟨d, 0, none⟩ = false
  z1 : W.frozen? ⟨d, 1, none⟩ = false
  z2 : W.frozen? ⟨d, 2, none⟩ = false
  z3 : W.frozen? ⟨d, 3, none⟩ = false
  z4 : W.frozen? ⟨d, 4, none⟩ = false
section
variable {W W' : World} {d : Nat} {x0 x1 x2 x3 x4 : Value}
theorem Dx.lt (h : Dx W d x0 x1 x2 x3 x4) : d < W.heap.size := World.block_lt_of_cell? _ _ h.c0
theorem Dx.block (h : Dx W d x0 x1 x2 x3 x4) (e : W'.heap[d]? = W.heap[d]?) : Dx W' d x0 x1 x2 x3 x4 :=
  ⟨(World.cell?_of_block (a := ⟨d, 0, none⟩) e).trans h.c0, (World.cell?_of_block (a := ⟨d, 1, none⟩) e).trans h.c1, (World.cell?_of_block (a := ⟨d, 2, none⟩) e).trans h.c2, (World.cell?_of_block (a := ⟨d, 3, none⟩) e).trans h.c3, (World.cell?_of_block (a := ⟨d, 4, none⟩) e).trans h.c4,
    (World.frozen?_of_block (a := ⟨d, 0, none⟩) e).trans h.z0, (World.frozen?_of_block (a := ⟨d, 1, none⟩) e).trans h.z1, (World.frozen?_of_block (a := ⟨d, 2, none⟩) e).trans h.z2, (World.frozen?_of_block (a := ⟨d, 3, none⟩) e).trans h.z3, (World.frozen?_of_block (a := ⟨d, 4, none⟩) e).trans h.z4⟩
theorem Dx.set0 (h : Dx W d x0 x1 x2 x3 x4) (y : Value) : Dx (W.setCell ⟨d, 0, none⟩ y) d y x1 x2 x3 x4 :=
  ⟨World.cell?_setCell_same _ _ _ h.c0, (World.cell?_setCell_other _ _ _ _ (by simp)).trans h.c1, (World.cell?_setCell_other _ _ _ _ (by simp)).trans h.c2, (World.cell?_setCell_other _ _ _ _ (by simp)).trans h.c3, (World.cell?_setCell_other _ _ _ _ (by simp)).trans h.c4, by simpa using h.z0, by simpa using h.z1, by simpa using h.z2, by simpa using h.z3, by simpa using h.z4⟩
theorem Dx.set1 (h : Dx W d x0 x1 x2 x3 x4) (y : Value) : Dx (W.setCell ⟨d, 1, none⟩ y) d x0 y x2 x3 x4 :=
  ⟨(World.cell?_setCell_other _ _ _ _ (by simp)).trans h.c0, World.cell?_setCell_same _ _ _ h.c1, (World.cell?_setCell_other _ _ _ _ (by simp)).trans h.c2, (World.cell?_setCell_other _ _ _ _ (by simp)).trans h.c3, (World.cell?_setCell_other _ _ _ _ (by simp)).trans h.c4, by simpa using h.z0, by simpa using h.z1, by simpa using h.z2, by simpa using h.z3, by simpa using h.z4⟩
theorem Dx.set2 (h : Dx W d x0 x1 x2 x3 x4) (y : Value) : Dx (W.setCell ⟨d, 2, none⟩ y) d x0 x1 y x3 x4 :=
  ⟨(World.cell?_setCell_other _ _ _ _ (by simp)).trans h.c0, (World.cell?_setCell_other _ _ _ _ (by simp)).trans h.c1, World.cell?_setCell_same _ _ _ h.c2, (World.cell?_setCell_other _ _ _ _ (by simp)).trans h.c3, (World.cell?_setCell_other _ _ _ _ (by simp)).trans h.c4, by simpa using h.z0, by simpa using h.z1, by simpa using h.z2, by simpa using h.z3, by simpa using h.z4⟩
theorem Dx.set3 (h : Dx W d x0 x1 x2 x3 x4) (y : Value) : Dx (W.setCell ⟨d, 3, none⟩ y) d x0 x1 x2 y x4 :=
  ⟨(World.cell?_setCell_other _ _ _ _ (by simp)).trans h.c0, (World.cell?_setCell_other _ _ _ _ (by simp)).trans h.c1, (World.cell?_setCell_other _ _ _ _ (by simp)).trans h.c2, World.cell?_setCell_same _ _ _ h.c3, (World.cell?_setCell_other _ _ _ _ (by simp)).trans h.c4, by simpa using h.z0, by simpa using h.z1, by simpa using h.z2, by simpa using h.z3, by simpa using h.z4⟩
theorem Dx.set4 (h : Dx W d x0 x1 x2 x3 x4) (y : Value) : Dx (W.setCell ⟨d, 4, none⟩ y) d x0 x1 x2 x3 y :=
  ⟨(World.cell?_setCell_other _ _ _ _ (by simp)).trans h.c0, (World.cell?_setCell_other _ _ _ _ (by simp)).trans h.c1, (World.cell?_setCell_other _ _ _ _ (by simp)).trans h.c2, (World.cell?_setCell_other _ _ _ _ (by simp)).trans h.c3, World.cell?_setCell_same _ _ _ h.c4, by simpa using h.z0, by simpa using h.z1, by simpa using h.z2, by simpa using h.z3, by simpa using h.z4⟩
end

/-- The cells of bytes. -/
def cellsB (l : Bs) : List Value := l.map fun b => Value.int .u8 (b.toNat : Int)
theorem cellsB_length (l : Bs) : (cellsB l).length = l.length := by simp [cellsB]
theorem cellsB_one (l : Bs) : ∀ u ∈ cellsB l, u.oneCell' = true := by
  intro u hu
  simp only [cellsB, List.mem_map] at hu
  obtain ⟨b, _, rfl⟩ := hu
  rfl
theorem cellsB_get (l : Bs) (j : Nat) (h : j < l.length) : (cellsB l)[j]? = some (.int .u8 ((l.getD j 0).toNat : Int)) := by
  simp [cellsB, h]
/-- The cells of Writes that wait. -/
def cellsW (l : List (Nat × Bs)) : List Value := l.flatMap fun x => Value.int .i64 (x.1 : Int) :: cellsB x.2
theorem cellsW_append (a b : List (Nat × Bs)) : cellsW (a ++ b) = cellsW a ++ cellsW b := by simp [cellsW]
theorem cellsW_one (l : List (Nat × Bs)) : ∀ u ∈ cellsW l, u.oneCell' = true := by
  intro u hu
  simp only [cellsW, List.mem_flatMap, List.mem_cons] at hu
  obtain ⟨x, _, rfl | h⟩ := hu
  · rfl
  · exact cellsB_one _ u h
theorem cellsW_length : ∀ (l : List (Nat × Bs)), (∀ x ∈ l, x.2.length = 64) → (cellsW l).length = l.length * 65
  | [], _ => rfl
  | x :: l, h => by
    have := cellsW_length l (fun y hy => h y (by simp [hy]))
    have h2 := h x (by simp)
    rw [show cellsW (x :: l) = (Value.int .i64 (x.1 : Int) :: cellsB x.2) ++ cellsW l by simp [cellsW], List.length_append, List.length_cons, cellsB_length, this, List.length_cons]
    omega

/-- The sectors of a disk lie in the block s. -/
structure Secs (W : World) (s : Nat) (secs : List Bs) : Prop where
  at' : ∀ i x, secs[i]? = some x → W.rangeAt s (i * 64) (cellsB x)
  free : ∀ i, i < secs.length → W.there s (i * 64) 64
theorem Secs.block {W W' : World} {s : Nat} {secs : List Bs} (h : Secs W s secs) (e : W'.heap[s]? = W.heap[s]?) : Secs W' s secs :=
  ⟨fun i x hx j v hv => (World.cell?_of_block (a := ⟨s, i * 64 + j, none⟩) e).trans (h.at' i x hx j v hv), fun i hi j hj => by
    rw [World.cell?_of_block (a := ⟨s, i * 64 + j, none⟩) e, World.frozen?_of_block (a := ⟨s, i * 64 + j, none⟩) e]; exact h.free i hi j hj⟩
theorem Secs.set {W : World} {s : Nat} {secs : List Bs} (h : Secs W s secs) (h64 : ∀ x ∈ secs, x.length = 64) {i : Nat} {y : Bs} (hi : i < secs.length) (hy : y.length = 64) : Secs (W.setCells s (i * 64) (cellsB y)) s (secs.set i y) := by
  refine ⟨fun j x hx => ?_, fun j hj => World.there_setCells (h.free j (by simpa using hj)) _ _ _⟩
  by_cases hij : i = j
  · subst hij
    rw [List.getElem?_set_self hi] at hx
    obtain rfl := Option.some.inj hx
    exact World.rangeAt_setCells_same _ _ _ _ (by rw [cellsB_length, hy]; exact h.free i hi)
  · rw [List.getElem?_set_ne hij] at hx
    have hl := h64 x (List.mem_of_getElem? hx)
    exact World.rangeAt_setCells_apart (h.at' j x hx) _ _ _ (by rw [cellsB_length, cellsB_length, hl, hy]; right; omega)

/-- Writes that wait lie in a row of their own, behind the block B. -/
def WRow (t B : Nat) (v : Value) (l : List (Nat × Bs)) (W : World) : Prop := W.ownsRow (B + 1) t 65 v l.length (cellsW l)

/-- The disk of the program at the block d: its sectors' block s, the slice of what waits. -/
structure PD (W : World) (d s : Nat) (wv : Value) (D : Dk) : Prop where
  dx : Dx W d (.slice (some ⟨s, 0, none⟩) D.secs.length D.cap) wv (.bool D.cut) (.int .i64 D.left) (.bool D.off)
  secs : Secs W s D.secs
  wait : WRow 93 d wv D.wait W
  ok : D.Ok
  ne : s ≠ d
  own : wv.ownBlock ≠ some s
  slt : s < W.heap.size
/-- The blocks that are the disk's. -/
def foot (d s : Nat) (wv : Value) : Nat → Prop := fun k => k = d ∨ k = s ∨ wv.ownBlock = some k

end Go.Proofs.Ytnganmekiloigaa
