/- A value that came in. -/
import Derived.Test.YtipnaphikbjhbaaDoorOu
namespace Go.Proofs.YtipnaphikbjhbaaDoor
open Go.ChangeShapes Go.WideShapes Go.ChangeAt Go.RowKit Go.Lib Go.Joins Go.Deep
set_option maxRecDepth 100000
theorem openVal {H : Type} {enc : TypeId × Value → H} {W : World} {base : Nat} {v : Value} {d : DataW H} {p : List MemPlace} (hv : Value.okWide Tryd.prog W .any base 30 v) (h : DataW.Trod enc Tryd.prog W 0 (fun _ => true) true 30 v d p) : ∃ y : Va, v = vlV y := by
  obtain ⟨vs, rfl, hsz⟩ := okWide_struct Tryd.underlying30 hv
  obtain ⟨fuel, hf⟩ := h
  simp only [Value.cells] at hf
  obtain ⟨y, e, _⟩ := va_cells hf
  exact ⟨y, congrArg Value.agg (Array.ext' e)⟩
end Go.Proofs.YtipnaphikbjhbaaDoor
