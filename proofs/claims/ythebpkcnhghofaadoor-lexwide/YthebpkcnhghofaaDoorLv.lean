/- The law LexWide. -/
import Derived.Test.YthebpkcnhghofaaDoorLva
import Derived.Test.YthebpkcnhghofaaDoorLvb
import Derived.Test.YthebpkcnhghofaaDoorLvc
import Derived.Test.YthebpkcnhghofaaDoorLvd
import Derived.Test.YthebpkcnhghofaaDoorLve
import Derived.Test.YthebpkcnhghofaaDoorLvf
namespace Go.Proofs.YthebpkcnhghofaaDoor
open Go.RowKit Go.Lib Go.Joins

theorem wide6 (s0 : ByteArray) (w : World) (hg : Good w) :
    Calls Tryd.prog 6 #[.string s0] w fun e w' => e = .returned (.bool true) ∧ Below w.heap.size w w' := by
  by_cases h150 : 150 < s0.size
  · obtain ⟨s, hx⟩ : ∃ s, s0.extract 0 150 = s := ⟨_, rfl⟩
    by_cases h4 : (toks (32 :: (wideB 0 (bs s) ++ [10]))).2.2 = 4
    · by_cases hL : 390 < (wideB 0 (bs s)).length
      · exact wide6_live_cut s0 s h150 hx w hg ⟨h4, hL⟩
      · exact wide6_full_cut s0 s h150 hx w hg ⟨h4, hL⟩
    · exact wide6_other_cut s0 s h150 hx w hg h4
  · obtain ⟨s, hx⟩ : ∃ s, s0 = s := ⟨_, rfl⟩
    by_cases h4 : (toks (32 :: (wideB 0 (bs s) ++ [10]))).2.2 = 4
    · by_cases hL : 390 < (wideB 0 (bs s)).length
      · exact wide6_live_all s0 s h150 hx w hg ⟨h4, hL⟩
      · exact wide6_full_all s0 s h150 hx w hg ⟨h4, hL⟩
    · exact wide6_other_all s0 s h150 hx w hg h4
end Go.Proofs.YthebpkcnhghofaaDoor
