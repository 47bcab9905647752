/- Rows of bytes behind a call. -/
import Derived.Test.YthfkmedpcmiibaaDoorBytes
namespace Go.Proofs.YthfkmedpcmiibaaDoor
open Go.RowKit Go.Lib

theorem BRow.below {B : Nat} {v : Value} {l : Bs} {w w' : World} (h : BRow B v l w) (hb : Below w.heap.size w w') : BRow B v l w' := by
  obtain ⟨h1, h2 | ⟨g, cap, cur, rfl, hBg, hw, hn, hcap, hsz, htk⟩⟩ := h
  · exact ⟨h1, .inl h2⟩
  · refine ⟨h1, .inr ⟨g, cap, cur, rfl, hBg, ?_, hn, hcap, hsz, htk⟩⟩
    have hg : g < w.heap.size := (Array.getElem?_eq_some_iff.1 hw).1
    rw [hb.block g hg]; exact hw

end Go.Proofs.YthfkmedpcmiibaaDoor
