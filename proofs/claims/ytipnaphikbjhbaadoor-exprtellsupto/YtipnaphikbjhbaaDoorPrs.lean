/- A value's text, and the value that a text says: value.Print, value.said, value.Parse. -/
import Derived.Test.YtipnaphikbjhbaaDoorDig2
import Derived.Lib.SmallJoins
namespace Go.Proofs.YtipnaphikbjhbaaDoor
open Go.RowKit Go.Lib Go.Joins

/-- What Print answers: the text, the error. -/
def prV (k n : Int) (l : Bs) : Bs × Nat := if rightV k n l then (printV k n l, 0) else ([], 3)
theorem prV_yes {k n : Int} {l : Bs} (h : rightV k n l = true) : prV k n l = (printV k n l, 0) := by simp [prV, h]
theorem prV_no {k n : Int} {l : Bs} (h : rightV k n l = false) : prV k n l = ([], 3) := by simp [prV, h]

/-- What a text would say: kind, number, text, whether. -/
def saidV (l : Bs) : Int × Int × Bs × Bool :=
  match parseIntB 64 l with
  | .ok n => (1, n, [], true)
  | _ => if (unq l).2.2 = 0 then (2, 0, (unq l).1, true) else (0, 0, [], false)

theorem saidV_num {l : Bs} {n : Int} (h : parseIntB 64 l = .ok n) : saidV l = (1, n, [], true) := by simp [saidV, h]
theorem saidV_text {l : Bs} (h : ∀ n, parseIntB 64 l ≠ .ok n) : saidV l = if (unq l).2.2 = 0 then (2, 0, (unq l).1, true) else (0, 0, [], false) := by
  unfold saidV
  cases hp : parseIntB 64 l with
  | ok n => exact absurd hp (h n)
  | «syntax» => rfl
  | range => rfl

/-- The result's block behind two calls. -/
theorem res_after {w w1 w2 : World} {o : Obj} (h1 : Below (w.alloc o).heap.size (w.alloc o) w1) (h2 : Below w1.heap.size w1 w2) (i : Nat) :
    w2.cell? ⟨w.heap.size, i, none⟩ = (w.alloc o).cell? ⟨w.heap.size, i, none⟩ ∧ w2.frozen? ⟨w.heap.size, i, none⟩ = (w.alloc o).frozen? ⟨w.heap.size, i, none⟩ :=
  new_cells (bmore h1 h2) i

end Go.Proofs.YtipnaphikbjhbaaDoor
