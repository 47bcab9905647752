/- lex.begun: the token that a text begins with. -/
import Derived.Test.YtipnaphikbjhbaaDoorLs
namespace Go.Proofs.YtipnaphikbjhbaaDoor
open Go.RowKit Go.Lib Go.Joins
set_option maxRecDepth 100000

/-- The result's block behind a call of the result's form. -/
theorem bs_take (s : ByteArray) (n : Nat) : bs (s.extract 0 n) = (bs s).take n := by rw [ext_take]; simp
theorem bs_drop1 {s : ByteArray} {b : UInt8} {t : Bs} (h : bs s = b :: t) : bs (s.extract 1 s.size) = t := by
  rw [ext_take, List.take_of_length_le (by rw [bs_length]; omega), h]; rfl
/-- What begun answers, given its parts. -/
def BegPost (w : World) (x : Q4) : Ending → World → Prop := fun e w' => e = .returned (.tuple #[TV x.1 (str x.2.1) x.2.2.1 0, .int .i64 (x.2.2.2 : Nat)]) ∧ Below w.heap.size w w'

theorem ext_all (s : ByteArray) : s.extract 0 s.size = s := by
  rw [ext_take, List.take_of_length_le (by rw [bs_length]; omega)]; exact str_of_list s

end Go.Proofs.YtipnaphikbjhbaaDoor
