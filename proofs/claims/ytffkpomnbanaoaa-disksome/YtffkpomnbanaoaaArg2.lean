/- Two bytes, two truths that came in. -/
import Derived.Test.YtffkpomnbanaoaaArg
namespace Go.Proofs.Ytffkpomnbanaoaa
open Go.ChangeShapes Go.WideShapes Go.ChangeAt Go.RowKit Go.Joins Go.Deep
set_option maxRecDepth 100000
theorem cellsOf39 : Try.prog.cellsOf 39 = 2 := by kernel_rfl
theorem cellsOf40 : Try.prog.cellsOf 40 = 2 := by kernel_rfl
variable {H : Type} {enc : TypeId × Value → H} {W : World}
theorem openBytes2 {base : Nat} {v : Value} {d : DataW H} {p : List MemPlace} (hv : Value.okWide Try.prog W .any base 39 v) (h : DataW.Trod enc Try.prog W 0 (fun _ => true) true 39 v d p) : ∃ a b : UInt8, v = .agg #[.int .u8 (a.toNat : Int), .int .u8 (b.toNat : Int)] := by
  obtain ⟨cs, rfl, _⟩ : ∃ cs, v = .agg cs ∧ cs.size = Try.prog.cellsOf 39 := by
    have hu : Try.prog.underlying 39 = _ := Try.underlying39
    simp only [Value.okWide, hu] at hv
    obtain ⟨cs, h1, h2, _⟩ := hv
    exact ⟨cs, h1, h2⟩
  obtain ⟨fuel, hf⟩ := h
  obtain ⟨xs, m, _, hx, hl, hn, hi⟩ := DataW.trod_array Try.underlying39 hf
  rw [cellsOf39] at hl
  obtain ⟨x0, x1, rfl⟩ : ∃ x0 x1, xs = [x0, x1] := by
    match xs, hn with
    | [x0, x1], _ => exact ⟨x0, x1, rfl⟩
  have i0 := hi 0 (by omega)
  have i1 := hi 1 (by omega)
  obtain ⟨l⟩ := cs
  simp only [Value.cells] at i0 i1 hl
  match l, hl with
  | [q0, q1], _ =>
    simp [cellsOf5] at i0 i1
    obtain ⟨a, e0, _, w0⟩ := DataW.trod_int Try.underlying5 i0
    obtain ⟨b, e1, _, w1⟩ := DataW.trod_int Try.underlying5 i1
    simp at e0 e1
    subst e0 e1
    have h0 := bounds_u8 w0
    have h1 := bounds_u8 w1
    refine ⟨UInt8.ofNat a.toNat, UInt8.ofNat b.toNat, ?_⟩
    rw [UInt8.toNat_ofNat', UInt8.toNat_ofNat', show ((a.toNat % 2 ^ 8 : Nat) : Int) = a by omega, show ((b.toNat % 2 ^ 8 : Nat) : Int) = b by omega]
theorem openTruths2 {base : Nat} {v : Value} {d : DataW H} {p : List MemPlace} (hv : Value.okWide Try.prog W .any base 40 v) (h : DataW.Trod enc Try.prog W 0 (fun _ => true) true 40 v d p) : ∃ a b : Bool, v = .agg #[.bool a, .bool b] := by
  obtain ⟨cs, rfl, _⟩ : ∃ cs, v = .agg cs ∧ cs.size = Try.prog.cellsOf 40 := by
    have hu : Try.prog.underlying 40 = _ := Try.underlying40
    simp only [Value.okWide, hu] at hv
    obtain ⟨cs, h1, h2, _⟩ := hv
    exact ⟨cs, h1, h2⟩
  obtain ⟨fuel, hf⟩ := h
  obtain ⟨xs, m, _, hx, hl, hn, hi⟩ := DataW.trod_array Try.underlying40 hf
  rw [cellsOf40] at hl
  obtain ⟨x0, x1, rfl⟩ : ∃ x0 x1, xs = [x0, x1] := by
    match xs, hn with
    | [x0, x1], _ => exact ⟨x0, x1, rfl⟩
  have i0 := hi 0 (by omega)
  have i1 := hi 1 (by omega)
  obtain ⟨l⟩ := cs
  simp only [Value.cells] at i0 i1 hl
  match l, hl with
  | [q0, q1], _ =>
    simp [cellsOf4] at i0 i1
    obtain ⟨a, e0, _⟩ := DataW.trod_bool Try.underlying4 i0
    obtain ⟨b, e1, _⟩ := DataW.trod_bool Try.underlying4 i1
    simp at e0 e1
    subst e0 e1
    exact ⟨a, b, rfl⟩
end Go.Proofs.Ytffkpomnbanaoaa
