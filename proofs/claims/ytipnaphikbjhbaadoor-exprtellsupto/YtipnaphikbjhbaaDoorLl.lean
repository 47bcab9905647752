/- live; short; the law LexSigns. -/
import Derived.Test.YtipnaphikbjhbaaDoorLt
namespace Go.Proofs.YtipnaphikbjhbaaDoor
open Go.RowKit Go.Lib Go.Joins
set_option maxRecDepth 100000

theorem trow_cells {B : Nat} {v : Value} {l : List Tk} {w : World} (h : TRow B v l w) (hl : 0 < l.length) : ∃ g c, v = .slice (some ⟨g, 0, none⟩) l.length c ∧ B ≤ g ∧ g < w.heap.size ∧ ∀ j u, (cellsT l)[j]? = some u → w.cell? ⟨g, j, none⟩ = some u := by
  obtain ⟨g, c, rfl⟩ : ∃ g c, v = .slice (some ⟨g, 0, none⟩) l.length c := by
    rcases h.2 with ⟨_, h2⟩ | ⟨g, cap, cur, e, _⟩
    · omega
    · exact ⟨g, cap, e⟩
  refine ⟨g, c, rfl, (World.ownsRow.lt h g rfl).1, (World.ownsRow.lt h g rfl).2, fun j u hu => ?_⟩
  have := World.ownsRow.cells h (g := g) rfl j u hu
  rw [show ((⟨g, 0, none⟩ : Addr).add j) = ⟨g, j, none⟩ by unfold Addr.add; split <;> simp_all] at this
  exact this

def la : Bs := [65, 60, 61, 45, 53, 32, 39, 98, 39, 39, 99, 39]
theorem toks_a : toks la = ([⟨1, [97], 0, 0⟩, ⟨4, [60, 61], 0, 1⟩, ⟨2, [45, 53], -5, 3⟩, ⟨3, [98, 39, 99], 0, 6⟩], 0, 0) := by kernel_rfl
theorem toks_b : toks [97, 32, 95] = ([], 2, 8) := by kernel_rfl

end Go.Proofs.YtipnaphikbjhbaaDoor
