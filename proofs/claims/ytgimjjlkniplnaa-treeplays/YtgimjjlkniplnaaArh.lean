/- Two keys and a number that came in. -/
import Derived.Test.YtgimjjlkniplnaaArg
namespace Go.Proofs.Ytgimjjlkniplnaa
open Go.ChangeShapes Go.WideShapes Go.ChangeAt Go.RowKit Go.Joins Go.Deep
set_option maxRecDepth 100000
theorem cellsOf23 : Try.prog.cellsOf 23 = 2 := by kernel_rfl
variable {H : Type} {enc : TypeId × Value → H} {W : World}
theorem openTwoStr {base : Nat} {v : Value} {d : DataW H} {p : List MemPlace} (hv : Value.okWide Try.prog W .any base 23 v) (h : DataW.Trod enc Try.prog W 0 (fun _ => true) true 23 v d p) : ∃ a b : ByteArray, v = .agg #[.string a, .string b] := by
  obtain ⟨cs, rfl, _⟩ : ∃ cs, v = .agg cs ∧ cs.size = Try.prog.cellsOf 23 := by
    have hu : Try.prog.underlying 23 = _ := Try.underlying23
    simp only [Value.okWide, hu] at hv
    obtain ⟨cs, h1, h2, _⟩ := hv
    exact ⟨cs, h1, h2⟩
  obtain ⟨fuel, hf⟩ := h
  obtain ⟨xs, m, _, hx, hl, hn, hi⟩ := DataW.trod_array Try.underlying23 hf
  rw [cellsOf23] at hl
  obtain ⟨x0, x1, rfl⟩ : ∃ x0 x1, xs = [x0, x1] := by
    match xs, hn with
    | [x0, x1], _ => exact ⟨x0, x1, rfl⟩
  have i0 := hi 0 (by omega)
  have i1 := hi 1 (by omega)
  obtain ⟨l⟩ := cs
  simp only [Value.cells] at i0 i1 hl
  match l, hl with
  | [q0, q1], _ =>
    simp [cellsOf9] at i0 i1
    obtain ⟨a, e0, _⟩ := DataW.trod_string Try.underlying9 i0
    obtain ⟨b, e1, _⟩ := DataW.trod_string Try.underlying9 i1
    simp at e0 e1
    subst e0 e1
    exact ⟨a, b, rfl⟩
theorem openInt {base : Nat} {v : Value} {d : DataW H} {p : List MemPlace} (hv : Value.okWide Try.prog W .any base 3 v) (h : DataW.Trod enc Try.prog W 0 (fun _ => true) true 3 v d p) : ∃ x : Int, v = .int .i64 x := by
  obtain ⟨z, rfl, _, _, wf⟩ := open_int Try.underlying3 hv h
  exact ⟨z, rfl⟩
end Go.Proofs.Ytgimjjlkniplnaa
