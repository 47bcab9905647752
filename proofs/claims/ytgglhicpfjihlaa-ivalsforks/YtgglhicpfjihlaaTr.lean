/- Stretches, and places of a tree of them, by plain data. -/
import Derived.Test.YtgglhicpfjihlaaRf
namespace Go.Proofs.Ytgglhicpfjihlaa
open Go.RowKit Go.Shelf
set_option maxRecDepth 100000

/-- The block b is just these cells. -/
def Blk (W : World) (b : Nat) (l : List Value) (t : TypeId) : Prop := W.heap[b]? = some (.cells l.toArray t (0, 0))
section
variable {W W' : World} {b : Nat} {l : List Value} {t : TypeId}
theorem Blk.lt (h : Blk W b l t) : b < W.heap.size := (Array.getElem?_eq_some_iff.1 h).1
theorem Blk.block (h : Blk W b l t) (e : W'.heap[b]? = W.heap[b]?) : Blk W' b l t := e.trans h
theorem Blk.below (h : Blk W b l t) (e : Below W.heap.size W W') : Blk W' b l t := (e.block b h.lt).trans h
theorem Blk.keep {O : Nat → Prop} (h : Blk W b l t) (e : Keep O W W') (hn : ¬ O b) : Blk W' b l t := (e.block b h.lt hn).trans h
theorem blk_new (W : World) (l : List Value) (t : TypeId) : Blk (W.alloc (.cells l.toArray t)) W.heap.size l t := (MapKept.heap_alloc W _).1
theorem blk_at (W : World) (l : List Value) (t : TypeId) {g : Nat} (h : W.heap.size = g) : Blk (W.alloc (.cells l.toArray t)) g l t := by subst h; exact blk_new W l t
theorem Blk.cell (h : Blk W b l t) (j : Nat) : W.cell? ⟨b, j, none⟩ = l[j]? := by
  unfold Blk at h
  simp [World.cell?, h]
theorem Blk.frozen (h : Blk W b l t) (j : Nat) : W.frozen? ⟨b, j, none⟩ = false := by
  unfold Blk at h
  simp [World.frozen?, h]
theorem Blk.set {o : Nat} (h : Blk W b l t) (v : Value) : Blk (W.setCell ⟨b, o, none⟩ v) b (l.set o v) t := by
  unfold Blk at h ⊢
  simp [World.setCell, Array.getElem?_modify, h]
end
theorem bal {w w1 : World} (h : Below w.heap.size w w1) (o : Obj) : Below w.heap.size w (w1.alloc o) := bmore h (al _ _)

/-- A stretch: from, to, and its number. -/
structure St where
  f : Int
  t : Int
  i : Int
deriving DecidableEq
abbrev SV (s : St) : Value := .agg #[.int .i64 s.f, .int .i64 s.t, .int .i64 s.i]

def ci (x y : Int) : Int := if x < y then -1 else if x > y then 1 else 0
def cs (a b : St) : Int := if ci a.f b.f ≠ 0 then ci a.f b.f else if ci a.t b.t ≠ 0 then ci a.t b.t else ci a.i b.i

inductive T where
  | nil
  | node (l : T) (s : St) (r : T)

def least : Int := -9223372036854775808
namespace T
def ht : T → Nat
  | .nil => 0
  | .node l _ r => 1 + max l.ht r.ht
def rc : T → Int
  | .nil => least
  | .node l s r => max (max s.t l.rc) r.rc
def size : T → Nat
  | .nil => 0
  | .node l _ r => l.size + 1 + r.size
def inord : T → List St
  | .nil => []
  | .node l s r => l.inord ++ s :: r.inord
def lean : T → Int
  | .nil => 0
  | .node l _ r => (l.ht : Int) - r.ht
theorem ht_size : ∀ t : T, t.ht ≤ t.size
  | .nil => Nat.le_refl _
  | .node l _ r => by have := ht_size l; have := ht_size r; simp only [ht, size]; omega
theorem inord_length : ∀ t : T, t.inord.length = t.size
  | .nil => rfl
  | .node l _ r => by simp [inord, size, inord_length l, inord_length r]; omega

def turnR : T → T
  | .node (.node a x b) y c => .node a x (.node b y c)
  | t => t
def turnL : T → T
  | .node a x (.node b y c) => .node (.node a x b) y c
  | t => t
def turnRR : T → T
  | .node l x r => turnR (.node (turnL l) x r)
  | t => t
def turnLL : T → T
  | .node l x r => turnL (.node l x (turnR r))
  | t => t
def left : T → T
  | .node l _ _ => l
  | .nil => .nil
def right : T → T
  | .node _ _ r => r
  | .nil => .nil
def bal (t : T) : T :=
  if t.lean > 1 ∧ t.left.lean < 0 then turnRR t
  else if t.lean > 1 then turnR t
  else if t.lean < -1 ∧ t.right.lean > 0 then turnLL t
  else if t.lean < -1 then turnL t
  else t
def ins : T → St → T
  | .nil, s => .node .nil s .nil
  | .node l x r, s => if cs s x < 0 then bal (.node (ins l s) x r) else bal (.node l x (ins r s))
end T

/-- A place as the program holds it. -/
abbrev nodeC (s : St) (pl pr : Option Addr) (h : Nat) (m : Int) : List Value := [.int .i64 s.f, .int .i64 s.t, .int .i64 s.i, .pointer pl, .pointer pr, .int .i64 (h : Int), .int .i64 m]
/-- The tree t lies at p, in blocks below n. -/
def PT (n : Nat) (W : World) : Option Addr → T → Prop
  | p, .nil => p = none
  | p, .node l s r => ∃ b pl pr, p = some ⟨b, 0, none⟩ ∧ b < n ∧ Blk W b (nodeC s pl pr (T.node l s r).ht (T.node l s r).rc) 70 ∧ PT n W pl l ∧ PT n W pr r
theorem PT.keep {n : Nat} {O : Nat → Prop} {A B : World} (h : Keep O A B) (hO : ∀ b, b < n → ¬ O b) : ∀ {t : T} {p : Option Addr}, PT n A p t → PT n B p t
  | .nil, _, ht => ht
  | .node _ _ _, _, ⟨b, pl, pr, hp, hb, h0, hl, hr⟩ => ⟨b, pl, pr, hp, hb, h0.keep h (hO b hb), PT.keep h hO hl, PT.keep h hO hr⟩
theorem PT.mono {n m : Nat} (hn : n ≤ m) {A : World} : ∀ {t : T} {p : Option Addr}, PT n A p t → PT m A p t
  | .nil, _, ht => ht
  | .node _ _ _, _, ⟨b, pl, pr, hp, hb, h0, hl, hr⟩ => ⟨b, pl, pr, hp, by omega, h0, PT.mono hn hl, PT.mono hn hr⟩
abbrev TR (W : World) (p : Option Addr) (t : T) : Prop := PT W.heap.size W p t
theorem TR.below {A B : World} (h : Below A.heap.size A B) {t : T} {p : Option Addr} (ht : TR A p t) : TR B p t := (PT.keep (O := fun _ => False) (Keep.of h) (fun _ _ => id) ht).mono h.size
theorem TR.node {W : World} {b : Nat} {pl pr : Option Addr} {l r : T} {s : St} (hb : Blk W b (nodeC s pl pr (T.node l s r).ht (T.node l s r).rc) 70) (hl : TR W pl l) (hr : TR W pr r) : TR W (some ⟨b, 0, none⟩) (.node l s r) := ⟨b, pl, pr, rfl, hb.lt, hb, hl, hr⟩
end Go.Proofs.Ytgglhicpfjihlaa
