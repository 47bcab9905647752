/- A comparison that came in. -/
import Derived.Test.YtipnaphikbjhbaaDoorUb
import Derived.Test.YtipnaphikbjhbaaDoorUg
namespace Go.Proofs.YtipnaphikbjhbaaDoor
open Go.ChangeShapes Go.WideShapes Go.ChangeAt Go.RowKit Go.Lib Go.Joins Go.Deep
set_option maxRecDepth 100000
theorem cellsOf33 : Tryd.prog.cellsOf 33 = 7 := by kernel_rfl
theorem cellsOf31 : Tryd.prog.cellsOf 31 = 6 := by kernel_rfl
theorem openTwo {H : Type} {enc : TypeId × Value → H} {W : World} {base : Nat} {v : Value} {d : DataW H} {p : List MemPlace} (hv : Value.okWide Tryd.prog W .any base 33 v) (h : DataW.Trod enc Tryd.prog W 0 (fun _ => true) true 33 v d p) : ∃ (o : Nat) (y z : Va), v = twoV o y z := by
  obtain ⟨vs, rfl, hsz⟩ := okWide_struct Tryd.underlying33 hv
  obtain ⟨fuel, hf⟩ := h
  simp only [Value.cells] at hf
  obtain ⟨y0, y1, m, hx, hl, h0, h1⟩ := trod_struct2 Tryd.underlying33 hf
  rw [cellsOf33] at hsz
  obtain ⟨l⟩ := vs
  match l, hsz with
  | [c0, c1, c2, c3, c4, c5, c6], _ =>
    have g0 : DataW.trod enc Tryd.prog W 0 (fun _ => true) true m 27 (([c0, c1, c2, c3, c4, c5, c6].drop 0).take (Tryd.prog.cellsOf 27)) = some y0 := h0
    have g1 : DataW.trod enc Tryd.prog W 0 (fun _ => true) true m 31 (([c0, c1, c2, c3, c4, c5, c6].drop 1).take (Tryd.prog.cellsOf 31)) = some y1 := h1
    rw [cellsOf27] at g0
    rw [cellsOf31] at g1
    obtain ⟨o, e0⟩ := u8_of Tryd.underlying27 (c := c0) g0
    obtain ⟨xs, m', _, _, _, hxl, hxe⟩ := DataW.trod_array Tryd.underlying31 g1
    have he1 := hxe 0 (by decide)
    have he2 := hxe 1 (by decide)
    rw [cellsOf30, List.getElem?_eq_getElem (by omega)] at he1 he2
    obtain ⟨⟨yk, yn, yt⟩, e1, _⟩ := va_cells (cs := [c1, c2, c3]) he1
    obtain ⟨⟨zk, zn, zt⟩, e2, _⟩ := va_cells (cs := [c4, c5, c6]) he2
    simp [EV] at e1 e2
    obtain ⟨rfl, rfl, rfl⟩ := e1
    obtain ⟨rfl, rfl, rfl⟩ := e2
    subst e0
    exact ⟨o, (yk, yn, yt), (zk, zn, zt), rfl⟩
end Go.Proofs.YtipnaphikbjhbaaDoor
