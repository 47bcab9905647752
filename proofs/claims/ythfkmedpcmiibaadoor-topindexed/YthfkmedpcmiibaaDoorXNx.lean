/- Next. -/
import Derived.Test.YthfkmedpcmiibaaDoorXRg
namespace Go.Proofs.YthfkmedpcmiibaaDoor.T
open Go.RowKit Go.Shelf
set_option maxRecDepth 100000
attribute [local go_sem] Oper.semAt_some
def nextP (kv : List Pr) (k : ByteArray) : Option Pr := (hi kv k).head?
theorem hi_ge (kv : List Pr) (k : ByteArray) : hi kv k = (ge kv k).filter fun p => lt k p.1 := by
  unfold hi ge
  rw [List.filter_filter]
  congr 1
  funext p
  cases h : lt k p.1
  · simp
  · simp [lt_not h]
theorem next_none {kv : List Pr} {k : ByteArray} (h : ∀ p ∈ ge kv k, p.1 = k) : nextP kv k = none := by
  unfold nextP
  rw [hi_ge, filter_none fun p hp => by rw [h p hp]; exact lt_irrefl _]
  rfl
theorem next_some {kv q rest : List Pr} {x : Pr} {k : ByteArray} (e : ge kv k = q ++ x :: rest) (h : ∀ p ∈ q, p.1 = k) (hx : x.1 ≠ k) : nextP kv k = some x := by
  have hge : lt x.1 k = false := by
    have : x ∈ ge kv k := by rw [e]; simp
    have := (List.mem_filter.1 this).2
    simpa using this
  have hlt : lt k x.1 = true := by
    rcases lt_three x.1 k with q | q | q
    · rw [q] at hge; cases hge
    · exact absurd q hx
    · exact q
  unfold nextP
  rw [hi_ge, e, List.filter_append, filter_none fun p hp => by rw [h p hp]; exact lt_irrefl _, List.nil_append, List.filter_cons, if_pos hlt]
  rfl
theorem results_cc {fn : Func} {t u : Tmp} (h : fn.results = #[.cell t 42, .cell u 4]) (tmps : Array Value) (w : World) (b c : Nat) (x y v : Value) (hb : Blk w b [x, y] 42) (hc : Blk w c [v] 4) (ht : tmps.getD t undef = .pointer (some ⟨b, 0, none⟩)) (hu : tmps.getD u undef = .pointer (some ⟨c, 0, none⟩)) :
    (results fn tmps).run Tryd.prog w = .ok (.tuple #[.agg #[x, y], v]) w := by
  have ht' : tmps[t]?.getD undef = .pointer (some ⟨b, 0, none⟩) := by simpa using ht
  have hu' : tmps[u]?.getD undef = .pointer (some ⟨c, 0, none⟩) := by simpa using hu
  have hr := run_loadVar_mid w b 0 42 [x, y] _ hb.whole Tryd.underlying42 rfl (by kernel_rfl)
  have c0 := hc.cell 0
  simp only [List.getElem?_cons_zero] at c0
  have hr2 : (loadVar 4 ⟨c, 0, none⟩).run Tryd.prog w = .ok v w := by simp [loadVar, go_sem, c0]
  simp [results, h, ht', hu', asAddr, hr, hr2]
/-- The boxes. -/
structure In (w : World) (k : ByteArray) (x y v : Value) (O' : Nat → Prop) (q : List Pr) (W' : World) : Prop where
  own : ∀ b, O' b ↔ b = w.heap.size + 1 ∨ b = w.heap.size + 1 + 1
  bk : Blk W' w.heap.size [.string k] 9
  bp : Blk W' (w.heap.size + 1) [x, y] 42
  bb : Blk W' (w.heap.size + 1 + 1) [v] 4
  below : Below w.heap.size w W'
  ok : ∀ p ∈ q, p.1 = k
theorem In.lt {w W' : World} {k : ByteArray} {x y v : Value} {O' : Nat → Prop} {q : List Pr} (h : In w k x y v O' q W') : ∀ b, O' b → b < W'.heap.size := fun b hb => by
  rcases (h.own b).1 hb with rfl | rfl
  · exact h.bp.lt
  · exact h.bb.lt
theorem In.keep {w : World} {k : ByteArray} {x y v : Value} {B : Nat} (hB : w.heap.size + 3 ≤ B) {O' : Nat → Prop} {q : List Pr} {W1 W2 : World} (h : In w k x y v O' q W1) (kk : Keep (fun b => ¬ O' b ∧ B ≤ b) W1 W2) : In w k x y v O' q W2 :=
  ⟨h.own, h.bk.keep kk (by omega), h.bp.keep kk (by omega), h.bb.keep kk (by omega), h.below.trans (kk.below (by have := h.below.size; omega) (fun i hi hn => by omega)), h.ok⟩
def Ixn (w : World) (k : ByteArray) (c : Code) (O' : Nat → Prop) (q : List Pr) (W' : World) : Prop := c = .ret ∧ ∃ q0 x0, q = q0 ++ [x0] ∧ In w k (.string x0.1) (.string x0.2) (.bool true) O' q0 W' ∧ x0.1 ≠ k
end Go.Proofs.YthfkmedpcmiibaaDoor.T
