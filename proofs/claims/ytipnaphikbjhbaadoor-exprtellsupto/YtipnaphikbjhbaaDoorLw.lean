/- The small functions of lex: isDigit, isLetter, goesOn, Spaced, run, Signed, number, wordOf, quoted. -/
import Derived.Test.YtipnaphikbjhbaaDoorLx
import Derived.Test.YtipnaphikbjhbaaDoorFold
import Derived.Deep.MidRow
namespace Go.Proofs.YtipnaphikbjhbaaDoor
open Go.RowKit Go.Lib Go.Joins
set_option maxRecDepth 100000

/-! ### tokens -/
abbrev TV (k : Int) (s : ByteArray) (n a : Int) : Value := .agg #[.int .u8 k, .string s, .int .i64 n, .int .i64 a]
theorem set4 {w W : World} (h : Below w.heap.size w W) (x0 x1 x2 x3 : Value) : Below w.heap.size w ((((W.setCell ⟨w.heap.size, 0, none⟩ x0).setCell ⟨w.heap.size, 1, none⟩ x1).setCell ⟨w.heap.size, 2, none⟩ x2).setCell ⟨w.heap.size, 3, none⟩ x3) :=
  (((h.setCell (Nat.le_refl _) x0).setCell (Nat.le_refl _) x1).setCell (Nat.le_refl _) x2).setCell (Nat.le_refl _) x3

end Go.Proofs.YtipnaphikbjhbaaDoor
