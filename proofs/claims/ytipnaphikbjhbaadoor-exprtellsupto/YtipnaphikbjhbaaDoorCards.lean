/-
  DERIVED. GIVEN WITH THE SEED: THE CARDS: each row of YtipnaphikbjhbaaDoorRows.lean that lists a variable, with what it lists TIED to the program's text (the seventh form; the later family's looks); each row that meets fmt, with fmt's text TOLD by the authors' own Lean function (tested against real Go, not proved from fmt's source: count such statements apart). THE CARD IS WHAT COUNTS. Prove the row's statement (the work); the ties are given (YtipnaphikbjhbaaDoorTie.lean); close each card by the builder's one call (the guide's Derived/Test/ToyasCard.lean, 'card_holds'). Laid BY PROGRAM, IN A SANDBOX (cutbox-door.mjs). By AI agents, Wed Nov 11 2026. No macro, syntax, notation, axiom, sorry.
-/
import Derived.Test.YtipnaphikbjhbaaDoorRows
import GoSem.ClaimSeven
namespace Go.Proofs.YtipnaphikbjhbaaDoor
namespace Rows

/-- THE TIED CARD OF 'regestalaw14.ExprTells'. -/
def exprTellsCard : Claim7 := { stood := { row := exprTellsRow, standIns := [], harness := (true, "75f0e984225ee2fed40603e35393c21ba6a678366a34f4fa6455cb3f7967f867"), looks := false }, kinds := [], alts := [], laidByText := true, laidKinds := [.data, .pinned], laidTests := true, laidLooks := .later }
def ExprTellsCardSaid : Prop := Claim7.holds Tryd.pinned (.plain (OpenSpec.ofChange exprTellsSpec)) exprTellsCard

/-- THE TIED CARD OF 'regestalaw14.ExprEqual'. -/
def exprEqualCard : Claim7 := { stood := { row := exprEqualRow, standIns := [], harness := (true, "75f0e984225ee2fed40603e35393c21ba6a678366a34f4fa6455cb3f7967f867"), looks := false }, kinds := [], alts := [], laidByText := true, laidKinds := [.data, .pinned], laidTests := true, laidLooks := .later }
def ExprEqualCardSaid : Prop := Claim7.holds Tryd.pinned (.plain (OpenSpec.ofChange exprEqualSpec)) exprEqualCard

/-- THE TIED CARD OF 'regestalaw14.ExprNegated'. -/
def exprNegatedCard : Claim7 := { stood := { row := exprNegatedRow, standIns := [], harness := (true, "75f0e984225ee2fed40603e35393c21ba6a678366a34f4fa6455cb3f7967f867"), looks := false }, kinds := [], alts := [], laidByText := true, laidKinds := [.data, .pinned], laidTests := true, laidLooks := .later }
def ExprNegatedCardSaid : Prop := Claim7.holds Tryd.pinned (.plain (OpenSpec.ofChange exprNegatedSpec)) exprNegatedCard

/-- THE TIED CARD OF 'regestalaw14.ExprHangs'. -/
def exprHangsCard : Claim7 := { stood := { row := exprHangsRow, standIns := [], harness := (true, "75f0e984225ee2fed40603e35393c21ba6a678366a34f4fa6455cb3f7967f867"), looks := false }, kinds := [], alts := [], laidByText := true, laidKinds := [.data, .pinned], laidTests := true, laidLooks := .later }
def ExprHangsCardSaid : Prop := Claim7.holds Tryd.pinned (.plain (OpenSpec.ofChange exprHangsSpec)) exprHangsCard

/-- THE SECOND FORM's CARD OF 'regestalaw14.ExprTells'. -/
def exprTellsUptoCard : Claim7 := { stood := { row := exprTellsUptoRow, standIns := [], harness := (true, "75f0e984225ee2fed40603e35393c21ba6a678366a34f4fa6455cb3f7967f867"), looks := false }, kinds := [], alts := [], laidByText := true, laidKinds := [.data, .pinned], laidTests := true, laidLooks := .later }
def ExprTellsUptoCardSaid : Prop := Claim7.holds Tryd.pinned (.plain (OpenSpec.upto exprTellsSpec)) exprTellsUptoCard

/-- THE SECOND FORM's CARD OF 'regestalaw14.ExprEqual'. -/
def exprEqualUptoCard : Claim7 := { stood := { row := exprEqualUptoRow, standIns := [], harness := (true, "75f0e984225ee2fed40603e35393c21ba6a678366a34f4fa6455cb3f7967f867"), looks := false }, kinds := [], alts := [], laidByText := true, laidKinds := [.data, .pinned], laidTests := true, laidLooks := .later }
def ExprEqualUptoCardSaid : Prop := Claim7.holds Tryd.pinned (.plain (OpenSpec.upto exprEqualSpec)) exprEqualUptoCard

/-- THE SECOND FORM's CARD OF 'regestalaw14.ExprNegated'. -/
def exprNegatedUptoCard : Claim7 := { stood := { row := exprNegatedUptoRow, standIns := [], harness := (true, "75f0e984225ee2fed40603e35393c21ba6a678366a34f4fa6455cb3f7967f867"), looks := false }, kinds := [], alts := [], laidByText := true, laidKinds := [.data, .pinned], laidTests := true, laidLooks := .later }
def ExprNegatedUptoCardSaid : Prop := Claim7.holds Tryd.pinned (.plain (OpenSpec.upto exprNegatedSpec)) exprNegatedUptoCard

/-- THE SECOND FORM's CARD OF 'regestalaw14.ExprHangs'. -/
def exprHangsUptoCard : Claim7 := { stood := { row := exprHangsUptoRow, standIns := [], harness := (true, "75f0e984225ee2fed40603e35393c21ba6a678366a34f4fa6455cb3f7967f867"), looks := false }, kinds := [], alts := [], laidByText := true, laidKinds := [.data, .pinned], laidTests := true, laidLooks := .later }
def ExprHangsUptoCardSaid : Prop := Claim7.holds Tryd.pinned (.plain (OpenSpec.upto exprHangsSpec)) exprHangsUptoCard
end Rows
end Go.Proofs.YtipnaphikbjhbaaDoor
