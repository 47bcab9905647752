/- A value that came in. -/
import Derived.Test.YtpagnphabchfcaaGreatArh
namespace Go.Proofs.YtpagnphabchfcaaGreat
open Go.ChangeShapes Go.WideShapes Go.ChangeAt Go.RowKit Go.Joins Go.Deep
set_option maxRecDepth 100000
variable {H : Type} {enc : TypeId × Value → H} {W : World}
theorem openVal {base : Nat} {v : Value} {d : DataW H} {p : List MemPlace} (hv : Value.okWide Tryz.prog W .any base 25 v) (h : DataW.Trod enc Tryz.prog W 0 (fun _ => true) true 25 v d p) : ∃ x : Vt, v = V x := by
  obtain ⟨c0, c1, c2, y0, y1, y2, m, rfl, _, _, hy0, hy1, hy2⟩ := open_agg3 Tryz.underlying25 (by kernel_rfl) cellsOf54 hv h
  obtain ⟨a, e0, _, _⟩ := DataW.trod_int Tryz.underlying23 hy0
  obtain ⟨b, e1, _, _⟩ := DataW.trod_int Tryz.underlying2 hy1
  obtain ⟨s, e2, _, _⟩ := DataW.trod_string Tryz.underlying9 hy2
  simp at e0 e1 e2
  subst e0 e1 e2
  exact ⟨(a, b, s), rfl⟩
end Go.Proofs.YtpagnphabchfcaaGreat
