/- Small facts on new blocks and old cells. -/
import Derived.Test.YtgkkknjkgpdcjabJoin
import Derived.Deep.RegionHeld3
namespace Go.Proofs.Ytgkkknjkgpdcjab
open Go.RowKit

theorem box1 (w : World) (a b : Int) : (w.alloc (.cells #[.int .i64 a, .int .i64 b] 23)).cell? ⟨w.heap.size, 0, none⟩ = some (.int .i64 a) ∧ (w.alloc (.cells #[.int .i64 a, .int .i64 b] 23)).cell? ⟨w.heap.size, 1, none⟩ = some (.int .i64 b) := by simp
theorem bc {B : Nat} {w w' : World} (h : Below B w w') (g k : Nat) (hg : g < B) : w'.cell? ⟨g, k, none⟩ = w.cell? ⟨g, k, none⟩ := h.cell (p := ⟨g, k, none⟩) hg

end Go.Proofs.Ytgkkknjkgpdcjab
