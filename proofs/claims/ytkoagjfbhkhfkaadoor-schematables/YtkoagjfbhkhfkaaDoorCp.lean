/- schema.copied. -/
import Derived.Test.YtkoagjfbhkhfkaaDoorSc
import Derived.Test.YtkoagjfbhkhfkaaDoorBl
namespace Go.Proofs.YtkoagjfbhkhfkaaDoor
open Go.RowKit Go.Lib
set_option maxRecDepth 100000

def cellsC (l : List Cl) : List Value := l.flatMap fun x => [.string (str x.1), .int .u8 (x.2 : Int)]
theorem cellsC_length : ∀ l : List Cl, (cellsC l).length = l.length * 2
  | [] => rfl
  | x :: l => by
    have := cellsC_length l
    rw [show cellsC (x :: l) = .string (str x.1) :: .int .u8 (x.2 : Int) :: cellsC l by simp [cellsC]]
    simp [this]; omega
theorem cellsC_one (l : List Cl) : ∀ u ∈ cellsC l, u.oneCell' = true := by
  intro u hu
  simp only [cellsC, List.mem_flatMap, List.mem_cons, List.not_mem_nil, or_false] at hu
  obtain ⟨x, _, rfl | rfl⟩ := hu <;> rfl
theorem cellsC_get : ∀ (l : List Cl) (i : Nat) (x : Cl), l[i]? = some x → (cellsC l)[i * 2]? = some (.string (str x.1)) ∧ (cellsC l)[i * 2 + 1]? = some (.int .u8 (x.2 : Int))
  | [], i, x, h => by simp at h
  | y :: l, 0, x, h => by
    simp only [List.getElem?_cons_zero, Option.some.injEq] at h
    subst h
    exact ⟨rfl, rfl⟩
  | y :: l, i + 1, x, h => by
    have := cellsC_get l i x (by simpa using h)
    rw [show cellsC (y :: l) = .string (str y.1) :: .int .u8 (y.2 : Int) :: cellsC l by simp [cellsC], show (i + 1) * 2 = i * 2 + 1 + 1 by omega]
    exact this
/-- Columns in a block known whole read as they are. -/
theorem SC.blk {w : World} {g c : Nat} {l : List Cl} {t : TypeId} (h : Blk w g (cellsC l) t) : SC w (.slice (some ⟨g, 0, none⟩) l.length c) l :=
  ⟨_, c, rfl, fun _ => ⟨g, 0, rfl, h.lt, fun i x hx => by
    rw [Nat.zero_add]
    exact ⟨(h.cell _).trans (cellsC_get l i x hx).1, (h.cell _).trans (cellsC_get l i x hx).2⟩⟩⟩
theorem ColsAt.range {w : World} {g o : Nat} : ∀ {l : List Cl}, ColsAt w g o l → w.rangeAt g o (cellsC l) := fun {l} h j v hv => by
  have hj := (List.getElem?_eq_some_iff.1 hv).1
  rw [cellsC_length] at hj
  obtain ⟨x, hx⟩ : ∃ x, l[j / 2]? = some x := ⟨_, List.getElem?_eq_getElem (by omega)⟩
  obtain ⟨h1, h2⟩ := h (j / 2) x hx
  obtain ⟨e1, e2⟩ := cellsC_get l (j / 2) x hx
  by_cases hm : j % 2 = 0
  · rw [show j / 2 * 2 = j by omega] at h1 e1
    rw [e1] at hv
    rw [h1, hv]
  · rw [show o + j / 2 * 2 + 1 = o + j by omega] at h2
    rw [show j / 2 * 2 + 1 = j by omega] at e2
    rw [e2] at hv
    rw [h2, hv]
end Go.Proofs.YtkoagjfbhkhfkaaDoor
