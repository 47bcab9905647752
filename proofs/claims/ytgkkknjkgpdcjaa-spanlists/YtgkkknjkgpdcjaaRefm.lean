/- The reference's Minus. -/
import Derived.Test.YtgkkknjkgpdcjaaRefs
namespace Go.Proofs.Ytgkkknjkgpdcjaa
open Go.RowKit

set_option maxHeartbeats 400000 in
theorem minus23 (a b c d : Int) (w : World) :
    Calls Try.prog 23 #[.agg #[.int .i64 a, .int .i64 b], .agg #[.int .i64 c, .int .i64 d]] w fun e w' => ∃ v' gs, e = .returned v' ∧ Canon gs ∧ (∀ p, Pt gs p ↔ hasB a b p = true ∧ ¬ Has [(c, d)] p) ∧ gs.length ≤ 2001 ∧ Own w' w.heap.size v' gs ∧ Below w.heap.size w w' := by
  have hA := gaps27 (.slice (some ⟨w.heap.size + 2, 0, none⟩) 1 1) [(c, d)] a b (((w.alloc (.cells #[.int .i64 a, .int .i64 b] 23)).alloc (.cells #[.int .i64 c, .int .i64 d] 23)).alloc (.cells #[.int .i64 c, .int .i64 d] 23)) (by simp) (by simpa using one_row ((w.alloc (.cells #[.int .i64 a, .int .i64 b] 23)).alloc (.cells #[.int .i64 c, .int .i64 d] 23)) c d)
  have hb3 : Below w.heap.size w (((w.alloc (.cells #[.int .i64 a, .int .i64 b] 23)).alloc (.cells #[.int .i64 c, .int .i64 d] 23)).alloc (.cells #[.int .i64 c, .int .i64 d] 23)) := below_alloc (below_alloc (below1 _ _) _) _
  have k1 := box3 w a b (.cells #[.int .i64 c, .int .i64 d] 23) (.cells #[.int .i64 c, .int .i64 d] 23)
  go_enter Try.func23, Try.ntmps23
  go_wp2_with fail
  refine hA.mono ?_
  rintro e w2 ⟨v2, ys, rfl, hc, hp, hlen, ho, hb2⟩
  go_wp2
  go_ret
  exact ⟨v2, ys, rfl, hc, hp, hlen, ho.base hb3.size, hb3.trans (hb2.mono hb3.size)⟩

end Go.Proofs.Ytgkkknjkgpdcjaa
