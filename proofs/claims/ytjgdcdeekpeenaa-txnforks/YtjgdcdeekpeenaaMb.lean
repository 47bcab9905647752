/- Blocks; what stands; maps by lists. -/
import Derived.Shelf.Abstract
import Derived.WalkKit
import Derived.WalkSpells
import Derived.WalkLawsBesides
import Derived.Below
import Derived.OwnWalk
import Derived.Deep.MidRow
import Derived.Deep.RegionHeld3
import Derived.Deep.Cut
import Derived.Maps.OwnSet
import Derived.Maps.RangeWalk
import Derived.Sort.KeysCollected
import Derived.Test.YtjgdcdeekpeenaaProg
namespace Go.Proofs.Ytjgdcdeekpeenaa
open Go.RowKit Go.Shelf
set_option maxRecDepth 100000

theorem al (w : World) (o : Obj) : Below w.heap.size w (w.alloc o) := (Below.refl _ _).alloc (Nat.le_refl _) o
theorem bmore {w w1 w2 : World} (h : Below w.heap.size w w1) (k : Below w1.heap.size w1 w2) : Below w.heap.size w w2 := h.trans (k.mono h.size)

/-- Every old block stands but those of F. -/
structure Keep (F : Nat → Prop) (w w' : World) : Prop where
  os : w'.os = w.os
  tape : w'.tape = w.tape
  output : w'.output = w.output
  size : w.heap.size ≤ w'.heap.size
  block : ∀ k, k < w.heap.size → ¬ F k → w'.heap[k]? = w.heap[k]?
section
variable {F G : Nat → Prop} {a b c : World}
theorem Keep.refl (F : Nat → Prop) (w : World) : Keep F w w := ⟨rfl, rfl, rfl, Nat.le_refl _, fun _ _ _ => rfl⟩
theorem Keep.trans (h : Keep F a b) (k : Keep G b c) (hG : ∀ i, i < a.heap.size → G i → F i) : Keep F a c :=
  ⟨k.os.trans h.os, k.tape.trans h.tape, k.output.trans h.output, Nat.le_trans h.size k.size, fun i hi hf => (k.block i (Nat.lt_of_lt_of_le hi h.size) (fun hg => hf (hG i hi hg))).trans (h.block i hi hf)⟩
theorem Keep.of (h : Below a.heap.size a b) : Keep F a b := ⟨h.os, h.tape, h.output, h.size, fun k hk _ => h.block k hk⟩
theorem Keep.below {B : Nat} (h : Keep F a b) (hB : B ≤ a.heap.size) (hF : ∀ i, i < B → ¬ F i) : Below B a b := ⟨h.os, h.tape, h.output, h.size, fun k hk => h.block k (by omega) (hF k hk)⟩
theorem Keep.alloc (h : Keep F a b) (o : Obj) : Keep F a (b.alloc o) := h.trans (Keep.of (F := F) (al b o)) (fun _ _ h => h)
theorem Keep.drew (h : Keep F a b) : Keep F a b.drew := h.trans (Keep.of (F := F) (Below.refl _ _).drew) (fun _ _ h => h)
theorem Keep.set (h : Keep F a b) {p : Addr} (hp : a.heap.size ≤ p.block ∨ F p.block) (v : Value) : Keep F a (b.setCell p v) :=
  ⟨h.os, h.tape, h.output, by simpa [World.setCell] using h.size, fun k hk hf => by
    have hne : k ≠ p.block := fun e => hp.elim (fun h => by omega) (fun h => hf (e ▸ h))
    rw [Below.heap_setCell _ _ _ _ hne]; exact h.block k hk hf⟩
theorem Keep.cell (h : Keep F a b) {k o : Nat} (hk : k < a.heap.size) (hf : ¬ F k) : b.cell? ⟨k, o, none⟩ = a.cell? ⟨k, o, none⟩ := by
  simp only [World.cell?, h.block k hk hf]
theorem Keep.mono (h : Keep F a b) (hG : ∀ i, i < a.heap.size → F i → G i) : Keep G a b := ⟨h.os, h.tape, h.output, h.size, fun k hk hf => h.block k hk (fun x => hf (hG k hk x))⟩
end

/-- The block b is just these cells. -/
def Blk (W : World) (b : Nat) (l : List Value) (t : TypeId) : Prop := W.heap[b]? = some (.cells l.toArray t (0, 0))
section
variable {W W' : World} {b : Nat} {l : List Value} {t : TypeId}
theorem Blk.lt (h : Blk W b l t) : b < W.heap.size := (Array.getElem?_eq_some_iff.1 h).1
theorem Blk.block (h : Blk W b l t) (e : W'.heap[b]? = W.heap[b]?) : Blk W' b l t := e.trans h
theorem Blk.below (h : Blk W b l t) (e : Below W.heap.size W W') : Blk W' b l t := (e.block b h.lt).trans h
theorem Blk.keep {O : Nat → Prop} (h : Blk W b l t) (e : Keep O W W') (hn : ¬ O b) : Blk W' b l t := (e.block b h.lt hn).trans h
theorem blk_new (W : World) (l : List Value) (t : TypeId) : Blk (W.alloc (.cells l.toArray t)) W.heap.size l t := (MapKept.heap_alloc W _).1
theorem blk_at (W : World) (l : List Value) (t : TypeId) {g : Nat} (h : W.heap.size = g) : Blk (W.alloc (.cells l.toArray t)) g l t := by subst h; exact blk_new W l t
theorem Blk.cell (h : Blk W b l t) (j : Nat) : W.cell? ⟨b, j, none⟩ = l[j]? := by
  unfold Blk at h
  simp [World.cell?, h]
theorem Blk.frozen (h : Blk W b l t) (j : Nat) : W.frozen? ⟨b, j, none⟩ = false := by
  unfold Blk at h
  simp [World.frozen?, h]
theorem Blk.set {o : Nat} (h : Blk W b l t) (v : Value) : Blk (W.setCell ⟨b, o, none⟩ v) b (l.set o v) t := by
  unfold Blk at h ⊢
  simp [World.setCell, Array.getElem?_modify, h]
end
theorem bal {w w1 : World} (h : Below w.heap.size w w1) (o : Obj) : Below w.heap.size w (w1.alloc o) := bmore h (al _ _)

theorem keyed9 : Maps.Keyed Try.prog 9 := Maps.string_keyed Try.underlying9
def heldR (v : Value) : Option (DataW Value × List MemPlace) := some (.held v, [])
/-- The map of the tables, the newest one first. -/
def DT : List (List UInt8 × Value) → DataW Value
  | [] => .map []
  | x :: E => (DT E).put (.string x.1) (.held x.2)
def fnd (E : List (List UInt8 × Value)) (s : List UInt8) : Option (List UInt8 × Value) := E.find? (fun x => x.1 == s)
theorem isMap_DT : ∀ E, Maps.IsMap (DT E)
  | [] => Maps.isMap_empty
  | _ :: E => (isMap_DT E).put _ _
theorem atKey_DT (s : List UInt8) (z : DataW Value) : ∀ E, (DT E).atKey (.string s) z = ((fnd E s).map fun x => DataW.held x.2).getD z
  | [] => rfl
  | x :: E => by
    by_cases h : x.1 = s
    · subst h
      rw [DT, Maps.atKey_put_same (k := .string x.1) (isMap_DT E) trivial]
      simp [fnd]
    · rw [DT, Maps.atKey_put_other (by simpa using Ne.symm h), atKey_DT s z E]
      have : (x.1 == s) = false := by simpa using h
      simp [fnd, this]
theorem keep_of_grown {w w' : World} {o : Option Nat} (g : w.grownBy w' o) : Keep (fun b => o = some b) w w' := ⟨g.os, g.tape, g.output, g.size, fun k hk hn => g.block k hk (fun e => hn e.symm)⟩
def bs (s : ByteArray) : List UInt8 := s.data.toList
theorem has_DT (x : List UInt8) : ∀ E, Maps.has (DT E) (.string x) = (fnd E x).isSome
  | [] => rfl
  | y :: E => by
    by_cases h : y.1 = x
    · subst h
      rw [DT, Maps.has_put_same (k := .string y.1) (isMap_DT E) trivial]
      simp [fnd]
    · rw [DT, Maps.has_put_other (by simpa using Ne.symm h), has_DT x E]
      have : (y.1 == x) = false := by simpa using h
      simp [fnd, this]
def ofL (x : List UInt8) : ByteArray := ⟨x.toArray⟩
theorem bs_ofL (x : List UInt8) : bs (ofL x) = x := rfl
theorem ofL_bs (x : ByteArray) : ofL (bs x) = x := rfl
theorem own_keep {w w' : World} {F : Nat → Prop} {k : TypeId} {m n : Nat} {D : DataW Value} (h : w.ownsMap Try.prog k heldR m n D) (q : Keep F w w') (hF : ¬ F m) : w'.ownsMap Try.prog k heldR m n D := by
  have hl := h.lt
  obtain ⟨es, cl, q1, q2⟩ := h
  exact ⟨es, cl, (q.block m hl hF).trans q1, q2⟩
theorem cell_map {w : World} {m : Nat} {k : TypeId} {n : Nat} {D : DataW Value} (h : w.ownsMap Try.prog k heldR m n D) (o : Nat) : w.cell? ⟨m, o, none⟩ = none := by
  obtain ⟨es, cl, q1, _⟩ := h
  simp [World.cell?, q1]
theorem blk_ne_map {w : World} {b m : Nat} {l : List Value} {t : TypeId} {k : TypeId} {n : Nat} {D : DataW Value} (h : w.ownsMap Try.prog k heldR m n D) (hb : Blk w b l t) : b ≠ m := fun e => by
  subst e
  obtain ⟨es, cl, q1, _⟩ := h
  have hb' : w.heap[b]? = _ := hb
  rw [q1] at hb'
  cases hb'
theorem blk_ne {w : World} {b c : Nat} {l l' : List Value} {t t' : TypeId} (hb : Blk w b l t) (hc : Blk w c l' t') (ht : t ≠ t') : b ≠ c := fun e => by
  subst e
  have hb' : w.heap[b]? = _ := hb
  have hc' : w.heap[b]? = _ := hc
  rw [hb'] at hc'
  simp only [Option.some.injEq, Obj.cells.injEq] at hc'
  exact ht hc'.2.1
end Go.Proofs.Ytjgdcdeekpeenaa
