/- What rows have at a point. -/
import Derived.Test.YthalgnfffcimhaaCb
namespace Go.Proofs.Ythalgnfffcimhaa
open Go.RowKit Go.Shelf
set_option maxRecDepth 100000
def hasR (p : Int) (r : Rw) : Bool := Sp.hasB r.2.1 r.2.2 p
/-- The values at the runs' beginnings. -/
def valsAt (S : List Rw) (x : Nat × Nat) : List Vt := ((S[x.1]?).map (·.1)).getD []
def atR (l : List Rw) (p : Int) : List (List Vt) := (cuts ((sortR (l.filter (hasR p))).map (·.1))).map (valsAt (sortR (l.filter (hasR p))))
end Go.Proofs.Ythalgnfffcimhaa
