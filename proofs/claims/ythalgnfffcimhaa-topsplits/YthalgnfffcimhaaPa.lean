/- Which rows a statement without a condition hits: portionOf, Holds of none, looked. -/
import Derived.Test.YthalgnfffcimhaaRh
import Derived.Test.YthalgnfffcimhaaMi
namespace Go.Proofs.Ythalgnfffcimhaa
open Go.RowKit Go.Shelf
set_option maxRecDepth 100000
/-- A statement's cells: a span, sets, no condition; all else is of no matter. -/
abbrev stL (z : Nat → Value) (sets : Value) (pw : Option Addr) (cw : Nat) (a b : Int) : List Value := [z 0, z 1, z 2, z 3, z 4, z 5, z 6, sets, .slice pw 0 cw, .bool true, .int .i64 a, .int .i64 b, z 12, z 13, z 14, z 15, z 16, z 17, z 18, z 19]
abbrev stV (z : Nat → Value) (sets : Value) (pw : Option Addr) (cw : Nat) (a b : Int) : Value := .agg #[z 0, z 1, z 2, z 3, z 4, z 5, z 6, sets, .slice pw 0 cw, .bool true, .int .i64 a, .int .i64 b, z 12, z 13, z 14, z 15, z 16, z 17, z 18, z 19]
theorem portionOf28 (z : Nat → Value) (sets : Value) (pw : Option Addr) (cw : Nat) (a b : Int) (w : World) :
    Calls Try.prog 28 #[stV z sets pw cw a b] w fun e w' => e = .returned (.agg #[.int .i64 a, .int .i64 b]) ∧ Below w.heap.size w w' := by
  go_enter Try.func28, Try.ntmps28
  go_wp2
  exact bodyPost_ret (v := .agg #[.int .i64 a, .int .i64 b]) (by simp [results, Try.results28, go_sem]) rfl ⟨rfl, by repeat (first | exact al _ _ | refine bal ?_ _)⟩
theorem holds44 (pw : Option Addr) (cw : Nat) (ac : Option Addr) (nc cc : Nat) (av : Option Addr) (nv cv : Nat) (w : World) :
    Calls Try.prog 44 #[.slice pw 0 cw, .slice ac nc cc, .slice av nv cv] w fun e w' => e = .returned (.bool true) ∧ Below w.heap.size w w' := by
  go_enter Try.func44, Try.ntmps44
  go_wp2
  go_ret
  exact ⟨rfl, by repeat (first | exact al _ _ | refine bal ?_ _)⟩
end Go.Proofs.Ythalgnfffcimhaa
