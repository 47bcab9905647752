/-
  No cell of these rows narrows 'for every input' (looked for: loops, veiled, ifaces, maps, wideKeys, modest, calm, conditions, laid).
  DERIVED. THE GIVEN ROWS OF THIS SEAT. 5 by the template 'for every input the law returns true; each argument reads behind the call as it read before'; 0 by the template 'total and deterministic' (their statements: YtgglhicpfjihlaaTotals.lean).
  GIVEN WITH THE SEED: the statements are not yours to turn. If you find one false, say at which input.
  Laid BY PROGRAM, IN A SANDBOX (cutbox-rows.mjs): the forced cells as the released guide's own fill.sh prints them over the translation 38307ae094fd6f59… (all of the seat's roots in one cut). By AI agents, Wed Nov 11 2026. No macro, syntax, notation, axiom, sorry.
-/
import Derived.Test.YtgglhicpfjihlaaChecked
import GoSem.Claim
import GoSem.ClaimJoined
import GoSem.ClaimMapViews
import Derived.JoinedTies
import Derived.KernelRfl
namespace Go.Proofs.Ytgglhicpfjihlaa
/- THE CELL 'sum', in the pinned program and in every row, IS THE sha256 OF THE DUMP (.gsa) THAT YtgglhicpfjihlaaProg.lean LOADS. Nothing in Lean hashes anything: it is a label: what it is worth is what the hold of that sum in a sandbox is worth. -/
noncomputable def Try.pinned : Pinned := { name := "ytgglhicpfjihlaa", sum := "38307ae094fd6f5970a724f627bbccf8a04d39e83eadf64cbf422cac7b84613e", checked := Try.checked }
namespace Rows
def none {H : Type} : Left H := { results := [], args := [] }

/-- 'regestalaw08.IvalsPlays': WHATEVER THE INPUT: true; the input reads as it did. -/
def ivalsPlaysSpec : ChangeSpec := { name := "ivalsPlays", fn := fun _ => fun
  | [d1, d2] => { results := [.lit (.bool true)], args := [d1, d2] }
  | _ => none }
def ivalsPlaysRow : OpenClaim := { program := "ytgglhicpfjihlaa", sum := "38307ae094fd6f5970a724f627bbccf8a04d39e83eadf64cbf422cac7b84613e", func := "regesta/regestalaw08.IvalsPlays", spec := "ivalsPlays", unfollowed := true, recurses := true, apart := false }
def IvalsPlaysSaid : Prop := ivalsPlaysRow.holds Try.pinned (OpenSpec.ofChange ivalsPlaysSpec)

/-- ITS FALSE NEIGHBOUR: 'it returns false'. Refute it at one input. -/
def ivalsPlaysWrong : ChangeSpec := { name := "ivalsPlays", fn := fun _ => fun
  | [d1, d2] => { results := [.lit (.bool false)], args := [d1, d2] }
  | _ => none }
def IvalsPlaysWrongFalsely : Prop := ivalsPlaysRow.holds Try.pinned (OpenSpec.ofChange ivalsPlaysWrong)

/-- 'regestalaw08.IvalsSound': WHATEVER THE INPUT: true; the input reads as it did. -/
def ivalsSoundSpec : ChangeSpec := { name := "ivalsSound", fn := fun _ => fun
  | [d] => { results := [.lit (.bool true)], args := [d] }
  | _ => none }
def ivalsSoundRow : OpenClaim := { program := "ytgglhicpfjihlaa", sum := "38307ae094fd6f5970a724f627bbccf8a04d39e83eadf64cbf422cac7b84613e", func := "regesta/regestalaw08.IvalsSound", spec := "ivalsSound", unfollowed := true, recurses := true, apart := false }
def IvalsSoundSaid : Prop := ivalsSoundRow.holds Try.pinned (OpenSpec.ofChange ivalsSoundSpec)

/-- ITS FALSE NEIGHBOUR: 'it returns false'. Refute it at one input. -/
def ivalsSoundWrong : ChangeSpec := { name := "ivalsSound", fn := fun _ => fun
  | [d] => { results := [.lit (.bool false)], args := [d] }
  | _ => none }
def IvalsSoundWrongFalsely : Prop := ivalsSoundRow.holds Try.pinned (OpenSpec.ofChange ivalsSoundWrong)

/-- 'regestalaw08.IvalsPoints': WHATEVER THE INPUT: true; the input reads as it did. -/
def ivalsPointsSpec : ChangeSpec := { name := "ivalsPoints", fn := fun _ => fun
  | [d1, d2, d3] => { results := [.lit (.bool true)], args := [d1, d2, d3] }
  | _ => none }
def ivalsPointsRow : OpenClaim := { program := "ytgglhicpfjihlaa", sum := "38307ae094fd6f5970a724f627bbccf8a04d39e83eadf64cbf422cac7b84613e", func := "regesta/regestalaw08.IvalsPoints", spec := "ivalsPoints", unfollowed := true, recurses := true, apart := false }
def IvalsPointsSaid : Prop := ivalsPointsRow.holds Try.pinned (OpenSpec.ofChange ivalsPointsSpec)

/-- ITS FALSE NEIGHBOUR: 'it returns false'. Refute it at one input. -/
def ivalsPointsWrong : ChangeSpec := { name := "ivalsPoints", fn := fun _ => fun
  | [d1, d2, d3] => { results := [.lit (.bool false)], args := [d1, d2, d3] }
  | _ => none }
def IvalsPointsWrongFalsely : Prop := ivalsPointsRow.holds Try.pinned (OpenSpec.ofChange ivalsPointsWrong)

/-- 'regestalaw08.IvalsForks': WHATEVER THE INPUT: true; the input reads as it did. -/
def ivalsForksSpec : ChangeSpec := { name := "ivalsForks", fn := fun _ => fun
  | [d1, d2, d3] => { results := [.lit (.bool true)], args := [d1, d2, d3] }
  | _ => none }
def ivalsForksRow : OpenClaim := { program := "ytgglhicpfjihlaa", sum := "38307ae094fd6f5970a724f627bbccf8a04d39e83eadf64cbf422cac7b84613e", func := "regesta/regestalaw08.IvalsForks", spec := "ivalsForks", unfollowed := true, recurses := true, apart := false }
def IvalsForksSaid : Prop := ivalsForksRow.holds Try.pinned (OpenSpec.ofChange ivalsForksSpec)

/-- ITS FALSE NEIGHBOUR: 'it returns false'. Refute it at one input. -/
def ivalsForksWrong : ChangeSpec := { name := "ivalsForks", fn := fun _ => fun
  | [d1, d2, d3] => { results := [.lit (.bool false)], args := [d1, d2, d3] }
  | _ => none }
def IvalsForksWrongFalsely : Prop := ivalsForksRow.holds Try.pinned (OpenSpec.ofChange ivalsForksWrong)

/-- 'regestatop.TopStretches': WHATEVER THE INPUT: true; the input reads as it did. -/
def topStretchesSpec : ChangeSpec := { name := "topStretches", fn := fun _ => fun
  | [d1, d2] => { results := [.lit (.bool true)], args := [d1, d2] }
  | _ => none }
def topStretchesRow : OpenClaim := { program := "ytgglhicpfjihlaa", sum := "38307ae094fd6f5970a724f627bbccf8a04d39e83eadf64cbf422cac7b84613e", func := "regesta/regestatop.TopStretches", spec := "topStretches", unfollowed := true, recurses := true, apart := false }
def TopStretchesSaid : Prop := topStretchesRow.holds Try.pinned (OpenSpec.ofChange topStretchesSpec)

/-- ITS FALSE NEIGHBOUR: 'it returns false'. Refute it at one input. -/
def topStretchesWrong : ChangeSpec := { name := "topStretches", fn := fun _ => fun
  | [d1, d2] => { results := [.lit (.bool false)], args := [d1, d2] }
  | _ => none }
def TopStretchesWrongFalsely : Prop := topStretchesRow.holds Try.pinned (OpenSpec.ofChange topStretchesWrong)

/- THE SECOND FORM. 'bulk': how many values and letters a reading holds, each counted each time it is reached (what is shared counts as often as it is met; a slice's spare places count too). A statement '..UptoSaid' is the law's where the arguments, and the package variables that the reading takes, are together of bulk at most 1048576: NARROWER than '..Said'. Prove '..Said' where nothing that the law and all that it calls make is longer than what came in: it says more and counts as full. Else prove '..UptoSaid'. A law counts once. -/
mutual
def uptoBulk {H : Type} : DataW H → Nat
  | .lit (.string bytes) => bytes.length + 1
  | .lit _ => 1
  | .nil => 1
  | .ptr d => uptoBulk d + 1
  | .slice elems spare => uptoBulkAll elems + uptoBulkAll spare + 1
  | .agg parts => uptoBulkAll parts + 1
  | .iface _ d => uptoBulk d + 1
  | .map entries => uptoBulkEntries entries + 1
  | .held _ => 1
def uptoBulkAll {H : Type} : List (DataW H) → Nat
  | [] => 0
  | d :: r => uptoBulk d + uptoBulkAll r
def uptoBulkEntries {H : Type} : List (Lit × DataW H) → Nat
  | [] => 0
  | x :: r => uptoBulkEntry x + uptoBulkEntries r
def uptoBulkEntry {H : Type} : Lit × DataW H → Nat
  | (.string bytes, d) => bytes.length + uptoBulk d + 1
  | (_, d) => uptoBulk d + 1
 end
def uptoSmall : (H : Type) → List (DataW H) → Bool := fun _ ds => decide (uptoBulkAll ds ≤ 1048576)
def OpenSpec.upto (s : _root_.Go.ChangeSpec) : _root_.Go.OpenSpec := { _root_.Go.OpenSpec.ofChange s with cond := some uptoSmall }

/-- 'regestalaw08.IvalsPlays', WHERE WHAT IT READS IS OF BULK AT MOST 1048576: true; the input reads as it did. -/
def ivalsPlaysUptoRow : OpenClaim := { program := "ytgglhicpfjihlaa", sum := "38307ae094fd6f5970a724f627bbccf8a04d39e83eadf64cbf422cac7b84613e", func := "regesta/regestalaw08.IvalsPlays", spec := "ivalsPlays", unfollowed := true, recurses := true, apart := false, narrowed := true }
def IvalsPlaysUptoSaid : Prop := ivalsPlaysUptoRow.holds Try.pinned (OpenSpec.upto ivalsPlaysSpec)

/-- 'regestalaw08.IvalsSound', WHERE WHAT IT READS IS OF BULK AT MOST 1048576: true; the input reads as it did. -/
def ivalsSoundUptoRow : OpenClaim := { program := "ytgglhicpfjihlaa", sum := "38307ae094fd6f5970a724f627bbccf8a04d39e83eadf64cbf422cac7b84613e", func := "regesta/regestalaw08.IvalsSound", spec := "ivalsSound", unfollowed := true, recurses := true, apart := false, narrowed := true }
def IvalsSoundUptoSaid : Prop := ivalsSoundUptoRow.holds Try.pinned (OpenSpec.upto ivalsSoundSpec)

/-- 'regestalaw08.IvalsPoints', WHERE WHAT IT READS IS OF BULK AT MOST 1048576: true; the input reads as it did. -/
def ivalsPointsUptoRow : OpenClaim := { program := "ytgglhicpfjihlaa", sum := "38307ae094fd6f5970a724f627bbccf8a04d39e83eadf64cbf422cac7b84613e", func := "regesta/regestalaw08.IvalsPoints", spec := "ivalsPoints", unfollowed := true, recurses := true, apart := false, narrowed := true }
def IvalsPointsUptoSaid : Prop := ivalsPointsUptoRow.holds Try.pinned (OpenSpec.upto ivalsPointsSpec)

/-- 'regestalaw08.IvalsForks', WHERE WHAT IT READS IS OF BULK AT MOST 1048576: true; the input reads as it did. -/
def ivalsForksUptoRow : OpenClaim := { program := "ytgglhicpfjihlaa", sum := "38307ae094fd6f5970a724f627bbccf8a04d39e83eadf64cbf422cac7b84613e", func := "regesta/regestalaw08.IvalsForks", spec := "ivalsForks", unfollowed := true, recurses := true, apart := false, narrowed := true }
def IvalsForksUptoSaid : Prop := ivalsForksUptoRow.holds Try.pinned (OpenSpec.upto ivalsForksSpec)

/-- 'regestatop.TopStretches', WHERE WHAT IT READS IS OF BULK AT MOST 1048576: true; the input reads as it did. -/
def topStretchesUptoRow : OpenClaim := { program := "ytgglhicpfjihlaa", sum := "38307ae094fd6f5970a724f627bbccf8a04d39e83eadf64cbf422cac7b84613e", func := "regesta/regestatop.TopStretches", spec := "topStretches", unfollowed := true, recurses := true, apart := false, narrowed := true }
def TopStretchesUptoSaid : Prop := topStretchesUptoRow.holds Try.pinned (OpenSpec.upto topStretchesSpec)

end Rows
end Go.Proofs.Ytgglhicpfjihlaa
