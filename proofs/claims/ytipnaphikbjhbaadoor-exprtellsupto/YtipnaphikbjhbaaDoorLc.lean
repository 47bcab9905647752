/- The cells of tokens in a row. -/
import Derived.Test.YtipnaphikbjhbaaDoorLl
import Derived.Test.YtipnaphikbjhbaaDoorLq
namespace Go.Proofs.YtipnaphikbjhbaaDoor
open Go.RowKit Go.Lib Go.Joins

/-- The cells of one token among others. -/
theorem cellsT_at : ∀ (l : List Tk) (i : Nat) (x : Tk), l[i]? = some x → ∀ j u, (cellT x)[j]? = some u → (cellsT l)[i * 4 + j]? = some u
  | [], i, x, h, _, _, _ => by simp at h
  | y :: l, 0, x, h, j, u, hu => by
    simp only [List.getElem?_cons_zero, Option.some.injEq] at h
    subst h
    rw [show cellsT (y :: l) = cellT y ++ cellsT l by simp [cellsT], Nat.zero_mul, Nat.zero_add, List.getElem?_append_left (List.getElem?_eq_some_iff.1 hu).1]
    exact hu
  | y :: l, i + 1, x, h, j, u, hu => by
    rw [show cellsT (y :: l) = cellT y ++ cellsT l by simp [cellsT], List.getElem?_append_right (by simp [cellT]; omega), show (i + 1) * 4 + j - (cellT y).length = i * 4 + j by simp [cellT]; omega]
    exact cellsT_at l i x (by simpa using h) j u hu
/-- The token x lies at the place i of the block g. -/
def TkAt (w : World) (g i : Nat) (x : Tk) : Prop := w.cell? ⟨g, i * 4, none⟩ = some (.int .u8 (x.k : Int)) ∧ w.cell? ⟨g, i * 4 + 1, none⟩ = some (.string (str x.t)) ∧ w.cell? ⟨g, i * 4 + 2, none⟩ = some (.int .i64 x.n) ∧ w.cell? ⟨g, i * 4 + 3, none⟩ = some (.int .i64 (x.a : Int))
theorem TkAt.below {w w' : World} {g i B : Nat} {x : Tk} (h : TkAt w g i x) (hb : Below B w w') (hg : g < B) : TkAt w' g i x :=
  ⟨(hb.cell (p := ⟨g, i * 4, none⟩) hg).trans h.1, (hb.cell (p := ⟨g, i * 4 + 1, none⟩) hg).trans h.2.1, (hb.cell (p := ⟨g, i * 4 + 2, none⟩) hg).trans h.2.2.1, (hb.cell (p := ⟨g, i * 4 + 3, none⟩) hg).trans h.2.2.2⟩
theorem trow_at {B : Nat} {v : Value} {l : List Tk} {w : World} (h : TRow B v l w) : ∃ a c, v = .slice a l.length c ∧ ∀ (i : Nat) (x : Tk), l[i]? = some x → ∃ g, a = some ⟨g, 0, none⟩ ∧ g < w.heap.size ∧ TkAt w g i x := by
  by_cases h0 : 0 < l.length
  · obtain ⟨g, c, rfl, _, h4, h5⟩ := trow_cells h h0
    exact ⟨_, c, rfl, fun i x hx => ⟨g, rfl, h4, h5 _ _ (cellsT_at _ i x hx 0 _ rfl), h5 _ _ (cellsT_at _ i x hx 1 _ rfl), h5 _ _ (cellsT_at _ i x hx 2 _ rfl), h5 _ _ (cellsT_at _ i x hx 3 _ rfl)⟩⟩
  · have hz : l.length = 0 := by omega
    obtain ⟨a, c, rfl⟩ : ∃ a c, v = .slice a l.length c := by
      rcases h.2 with ⟨h, h'⟩ | ⟨g, cap, cur, h, _⟩
      · rw [h']; exact ⟨_, _, h⟩
      · exact ⟨_, _, h⟩
    exact ⟨a, c, rfl, fun i x hx => by rw [List.eq_nil_of_length_eq_zero hz] at hx; simp at hx⟩
end Go.Proofs.YtipnaphikbjhbaaDoor
