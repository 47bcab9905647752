/- Blocks that are known whole. -/
import Derived.Test.YtgimjjlkniplnaaRf
namespace Go.Proofs.Ytgimjjlkniplnaa
open Go.RowKit Go.Shelf
set_option maxRecDepth 100000

/-- The block b is just these cells. -/
def Blk (W : World) (b : Nat) (l : List Value) (t : TypeId) : Prop := W.heap[b]? = some (.cells l.toArray t (0, 0))
section
variable {W W' : World} {b : Nat} {l : List Value} {t : TypeId}
theorem Blk.lt (h : Blk W b l t) : b < W.heap.size := (Array.getElem?_eq_some_iff.1 h).1
theorem Blk.block (h : Blk W b l t) (e : W'.heap[b]? = W.heap[b]?) : Blk W' b l t := e.trans h
theorem Blk.below (h : Blk W b l t) (e : Below W.heap.size W W') : Blk W' b l t := (e.block b h.lt).trans h
theorem Blk.keep {O : Nat → Prop} (h : Blk W b l t) (e : Keep O W W') (hn : ¬ O b) : Blk W' b l t := (e.block b h.lt hn).trans h
theorem blk_new (W : World) (l : List Value) (t : TypeId) : Blk (W.alloc (.cells l.toArray t)) W.heap.size l t := (MapKept.heap_alloc W _).1
theorem blk_at (W : World) (l : List Value) (t : TypeId) {g : Nat} (h : W.heap.size = g) : Blk (W.alloc (.cells l.toArray t)) g l t := by subst h; exact blk_new W l t
theorem Blk.cell (h : Blk W b l t) (j : Nat) : W.cell? ⟨b, j, none⟩ = l[j]? := by
  unfold Blk at h
  simp [World.cell?, h]
theorem Blk.frozen (h : Blk W b l t) (j : Nat) : W.frozen? ⟨b, j, none⟩ = false := by
  unfold Blk at h
  simp [World.frozen?, h]
theorem Blk.set {o : Nat} (h : Blk W b l t) (v : Value) : Blk (W.setCell ⟨b, o, none⟩ v) b (l.set o v) t := by
  unfold Blk at h ⊢
  simp [World.setCell, Array.getElem?_modify, h]
end
theorem bal {w w1 : World} (h : Below w.heap.size w w1) (o : Obj) : Below w.heap.size w (w1.alloc o) := bmore h (al _ _)

section
variable {W : World} {b o : Nat} {l : List Value} {t : TypeId}
theorem Blk.range (h : Blk W b l t) {cs : List Value} (e : ∀ j v, cs[j]? = some v → l[o + j]? = some v) : W.rangeAt b o cs := fun j v hv => (h.cell (o + j)).trans (e j v hv)
theorem Blk.whole (h : Blk W b l t) : W.rangeAt b 0 l := h.range fun j v hv => by simpa using hv
end
theorem Blk.other {W : World} {b : Nat} {l : List Value} {t : TypeId} (h : Blk W b l t) {p : Addr} (hp : b ≠ p.block) (v : Value) : Blk (W.setCell p v) b l t := h.block (Below.heap_setCell _ _ _ _ hp)
theorem bset {B : Nat} {w w1 : World} (h : Below B w w1) {p : Addr} (hp : B ≤ p.block) (v : Value) : Below B w (w1.setCell p v) := h.trans ⟨rfl, rfl, rfl, by simp [World.setCell], fun k hk => Below.heap_setCell _ _ _ _ (by omega)⟩
theorem results_cell {fn : Func} {t : Tmp} {ty : TypeId} (h : fn.results = #[.cell t ty]) (tmps : Array Value) (P : Program) (w : World) (b : Nat) (l : List Value) (t' : TypeId) (hb : Blk w b l t') (ht : tmps.getD t undef = .pointer (some ⟨b, 0, none⟩)) (d : TypeDesc) (hu : P.underlying ty = some d) (hd : d.isRow = true) (hi : (P.info? ty).map (·.size) = some l.length) :
    (results fn tmps).run P w = .ok (.agg l.toArray) w := by
  have ht' : tmps[t]?.getD undef = .pointer (some ⟨b, 0, none⟩) := by simpa using ht
  simp [results, h, ht', asAddr, run_loadVar_mid w b 0 ty l d hb.whole hu hd hi]
theorem results_cell2 {fn : Func} {t u : Tmp} {ty : TypeId} (h : fn.results = #[.cell t ty, .tmp u]) (tmps : Array Value) (P : Program) (w : World) (b : Nat) (l : List Value) (t' : TypeId) (hb : Blk w b l t') (ht : tmps.getD t undef = .pointer (some ⟨b, 0, none⟩)) (d : TypeDesc) (hu : P.underlying ty = some d) (hd : d.isRow = true) (hi : (P.info? ty).map (·.size) = some l.length) :
    (results fn tmps).run P w = .ok (.tuple #[.agg l.toArray, tmps.getD u undef]) w := by
  have ht' : tmps[t]?.getD undef = .pointer (some ⟨b, 0, none⟩) := by simpa using ht
  simp [results, h, ht', asAddr, run_loadVar_mid w b 0 ty l d hb.whole hu hd hi]
end Go.Proofs.Ytgimjjlkniplnaa
