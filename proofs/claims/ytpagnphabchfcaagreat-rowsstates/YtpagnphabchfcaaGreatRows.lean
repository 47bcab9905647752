/-
  No cell of these rows narrows 'for every input' (looked for: loops, veiled, ifaces, maps, wideKeys, modest, calm, conditions, laid).
  DERIVED. THE GIVEN ROWS OF THIS SEAT. 4 by the template 'for every input the law returns true; each argument reads behind the call as it read before'; 0 by the template 'total and deterministic' (their statements: YtpagnphabchfcaaGreatTotals.lean).
  GIVEN WITH THE SEED: the statements are not yours to turn. If you find one false, say at which input.
  Laid BY PROGRAM, IN A SANDBOX (cutbox-rows.mjs): the forced cells as the released guide's own fill.sh prints them over the translation f872d33618635c9c… (all of the seat's roots in one cut). By AI agents, Wed Nov 11 2026. No macro, syntax, notation, axiom, sorry.
-/
import Derived.Test.YtpagnphabchfcaaGreatChecked
import GoSem.Claim
import GoSem.ClaimJoined
import GoSem.ClaimMapViews
import Derived.JoinedTies
import Derived.KernelRfl
namespace Go.Proofs.YtpagnphabchfcaaGreat
/- THE CELL 'sum', in the pinned program and in every row, IS THE sha256 OF THE DUMP (.gsa) THAT YtpagnphabchfcaaGreatProg.lean LOADS. Nothing in Lean hashes anything: it is a label: what it is worth is what the hold of that sum in a sandbox is worth. -/
noncomputable def Tryz.pinned : Pinned := { name := "ytpagnphabchfcaagreat", sum := "f872d33618635c9ca5db8ac9ea8e9af70e2a16f1787263df2d6487ff7ea0d198", checked := Tryz.checked }
namespace Rows
def none {H : Type} : Left H := { results := [], args := [] }

/-- 'regestalaw15.RowsTells': WHATEVER THE INPUT: true; the input reads as it did. -/
def rowsTellsSpec : ChangeSpec := { name := "rowsTells", fn := fun _ => fun
  | [d1, d2, d3] => { results := [.lit (.bool true)], args := [d1, d2, d3] }
  | _ => none }
def rowsTellsRow : OpenClaim := { program := "ytpagnphabchfcaagreat", sum := "f872d33618635c9ca5db8ac9ea8e9af70e2a16f1787263df2d6487ff7ea0d198", func := "regesta/regestalaw15.RowsTells", spec := "rowsTells", inPlace := ["internal/bytealg.abigen_runtime_cmpstring"], unfollowed := true, recurses := true, apart := false }
def RowsTellsSaid : Prop := rowsTellsRow.holds Tryz.pinned (OpenSpec.ofChange rowsTellsSpec)

/-- ITS FALSE NEIGHBOUR: 'it returns false'. Refute it at one input. -/
def rowsTellsWrong : ChangeSpec := { name := "rowsTells", fn := fun _ => fun
  | [d1, d2, d3] => { results := [.lit (.bool false)], args := [d1, d2, d3] }
  | _ => none }
def RowsTellsWrongFalsely : Prop := rowsTellsRow.holds Tryz.pinned (OpenSpec.ofChange rowsTellsWrong)

/-- 'regestalaw15.RowsCanons': WHATEVER THE INPUT: true; the input reads as it did. -/
def rowsCanonsSpec : ChangeSpec := { name := "rowsCanons", fn := fun _ => fun
  | [d1, d2, d3] => { results := [.lit (.bool true)], args := [d1, d2, d3] }
  | _ => none }
def rowsCanonsRow : OpenClaim := { program := "ytpagnphabchfcaagreat", sum := "f872d33618635c9ca5db8ac9ea8e9af70e2a16f1787263df2d6487ff7ea0d198", func := "regesta/regestalaw15.RowsCanons", spec := "rowsCanons", inPlace := ["internal/bytealg.abigen_runtime_cmpstring"], unfollowed := true, recurses := true, apart := false }
def RowsCanonsSaid : Prop := rowsCanonsRow.holds Tryz.pinned (OpenSpec.ofChange rowsCanonsSpec)

/-- ITS FALSE NEIGHBOUR: 'it returns false'. Refute it at one input. -/
def rowsCanonsWrong : ChangeSpec := { name := "rowsCanons", fn := fun _ => fun
  | [d1, d2, d3] => { results := [.lit (.bool false)], args := [d1, d2, d3] }
  | _ => none }
def RowsCanonsWrongFalsely : Prop := rowsCanonsRow.holds Tryz.pinned (OpenSpec.ofChange rowsCanonsWrong)

/-- 'regestalaw15.RowsStates': WHATEVER THE INPUT: true; the input reads as it did. -/
def rowsStatesSpec : ChangeSpec := { name := "rowsStates", fn := fun _ => fun
  | [d1, d2] => { results := [.lit (.bool true)], args := [d1, d2] }
  | _ => none }
def rowsStatesRow : OpenClaim := { program := "ytpagnphabchfcaagreat", sum := "f872d33618635c9ca5db8ac9ea8e9af70e2a16f1787263df2d6487ff7ea0d198", func := "regesta/regestalaw15.RowsStates", spec := "rowsStates", inPlace := ["internal/bytealg.abigen_runtime_cmpstring", "maps.clone"], unfollowed := true, recurses := true, apart := false }
def RowsStatesSaid : Prop := rowsStatesRow.holds Tryz.pinned (OpenSpec.ofChange rowsStatesSpec)

/-- ITS FALSE NEIGHBOUR: 'it returns false'. Refute it at one input. -/
def rowsStatesWrong : ChangeSpec := { name := "rowsStates", fn := fun _ => fun
  | [d1, d2] => { results := [.lit (.bool false)], args := [d1, d2] }
  | _ => none }
def RowsStatesWrongFalsely : Prop := rowsStatesRow.holds Tryz.pinned (OpenSpec.ofChange rowsStatesWrong)

/-- 'regestalaw15.RowsForks': WHATEVER THE INPUT: true; the input reads as it did. -/
def rowsForksSpec : ChangeSpec := { name := "rowsForks", fn := fun _ => fun
  | [d1, d2] => { results := [.lit (.bool true)], args := [d1, d2] }
  | _ => none }
def rowsForksRow : OpenClaim := { program := "ytpagnphabchfcaagreat", sum := "f872d33618635c9ca5db8ac9ea8e9af70e2a16f1787263df2d6487ff7ea0d198", func := "regesta/regestalaw15.RowsForks", spec := "rowsForks", inPlace := ["internal/bytealg.abigen_runtime_cmpstring", "maps.clone"], unfollowed := true, recurses := true, apart := false }
def RowsForksSaid : Prop := rowsForksRow.holds Tryz.pinned (OpenSpec.ofChange rowsForksSpec)

/-- ITS FALSE NEIGHBOUR: 'it returns false'. Refute it at one input. -/
def rowsForksWrong : ChangeSpec := { name := "rowsForks", fn := fun _ => fun
  | [d1, d2] => { results := [.lit (.bool false)], args := [d1, d2] }
  | _ => none }
def RowsForksWrongFalsely : Prop := rowsForksRow.holds Tryz.pinned (OpenSpec.ofChange rowsForksWrong)

/- THE SECOND FORM. 'bulk': how many values and letters a reading holds, each counted each time it is reached (what is shared counts as often as it is met; a slice's spare places count too). A statement '..UptoSaid' is the law's where the arguments, and the package variables that the reading takes, are together of bulk at most 1048576: NARROWER than '..Said'. Prove '..Said' where nothing that the law and all that it calls make is longer than what came in: it says more and counts as full. Else prove '..UptoSaid'. A law counts once. -/
mutual
def uptoBulk {H : Type} : DataW H → Nat
  | .lit (.string bytes) => bytes.length + 1
  | .lit _ => 1
  | .nil => 1
  | .ptr d => uptoBulk d + 1
  | .slice elems spare => uptoBulkAll elems + uptoBulkAll spare + 1
  | .agg parts => uptoBulkAll parts + 1
  | .iface _ d => uptoBulk d + 1
  | .map entries => uptoBulkEntries entries + 1
  | .held _ => 1
def uptoBulkAll {H : Type} : List (DataW H) → Nat
  | [] => 0
  | d :: r => uptoBulk d + uptoBulkAll r
def uptoBulkEntries {H : Type} : List (Lit × DataW H) → Nat
  | [] => 0
  | x :: r => uptoBulkEntry x + uptoBulkEntries r
def uptoBulkEntry {H : Type} : Lit × DataW H → Nat
  | (.string bytes, d) => bytes.length + uptoBulk d + 1
  | (_, d) => uptoBulk d + 1
 end
def uptoSmall : (H : Type) → List (DataW H) → Bool := fun _ ds => decide (uptoBulkAll ds ≤ 1048576)
def OpenSpec.upto (s : _root_.Go.ChangeSpec) : _root_.Go.OpenSpec := { _root_.Go.OpenSpec.ofChange s with cond := some uptoSmall }

/-- 'regestalaw15.RowsTells', WHERE WHAT IT READS IS OF BULK AT MOST 1048576: true; the input reads as it did. -/
def rowsTellsUptoRow : OpenClaim := { program := "ytpagnphabchfcaagreat", sum := "f872d33618635c9ca5db8ac9ea8e9af70e2a16f1787263df2d6487ff7ea0d198", func := "regesta/regestalaw15.RowsTells", spec := "rowsTells", inPlace := ["internal/bytealg.abigen_runtime_cmpstring"], unfollowed := true, recurses := true, apart := false, narrowed := true }
def RowsTellsUptoSaid : Prop := rowsTellsUptoRow.holds Tryz.pinned (OpenSpec.upto rowsTellsSpec)

/-- 'regestalaw15.RowsCanons', WHERE WHAT IT READS IS OF BULK AT MOST 1048576: true; the input reads as it did. -/
def rowsCanonsUptoRow : OpenClaim := { program := "ytpagnphabchfcaagreat", sum := "f872d33618635c9ca5db8ac9ea8e9af70e2a16f1787263df2d6487ff7ea0d198", func := "regesta/regestalaw15.RowsCanons", spec := "rowsCanons", inPlace := ["internal/bytealg.abigen_runtime_cmpstring"], unfollowed := true, recurses := true, apart := false, narrowed := true }
def RowsCanonsUptoSaid : Prop := rowsCanonsUptoRow.holds Tryz.pinned (OpenSpec.upto rowsCanonsSpec)

/-- 'regestalaw15.RowsStates', WHERE WHAT IT READS IS OF BULK AT MOST 1048576: true; the input reads as it did. -/
def rowsStatesUptoRow : OpenClaim := { program := "ytpagnphabchfcaagreat", sum := "f872d33618635c9ca5db8ac9ea8e9af70e2a16f1787263df2d6487ff7ea0d198", func := "regesta/regestalaw15.RowsStates", spec := "rowsStates", inPlace := ["internal/bytealg.abigen_runtime_cmpstring", "maps.clone"], unfollowed := true, recurses := true, apart := false, narrowed := true }
def RowsStatesUptoSaid : Prop := rowsStatesUptoRow.holds Tryz.pinned (OpenSpec.upto rowsStatesSpec)

/-- 'regestalaw15.RowsForks', WHERE WHAT IT READS IS OF BULK AT MOST 1048576: true; the input reads as it did. -/
def rowsForksUptoRow : OpenClaim := { program := "ytpagnphabchfcaagreat", sum := "f872d33618635c9ca5db8ac9ea8e9af70e2a16f1787263df2d6487ff7ea0d198", func := "regesta/regestalaw15.RowsForks", spec := "rowsForks", inPlace := ["internal/bytealg.abigen_runtime_cmpstring", "maps.clone"], unfollowed := true, recurses := true, apart := false, narrowed := true }
def RowsForksUptoSaid : Prop := rowsForksUptoRow.holds Tryz.pinned (OpenSpec.upto rowsForksSpec)

end Rows
end Go.Proofs.YtpagnphabchfcaaGreat
