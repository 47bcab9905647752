/-
  DERIVED. GIVEN WITH THE SEED: THE CARDS: each row of YthfkmedpcmiibaaDoorRows.lean that lists a variable, with what it lists TIED to the program's text (the seventh form; the later family's looks); each row that meets fmt, with fmt's text TOLD by the authors' own Lean function (tested against real Go, not proved from fmt's source: count such statements apart). THE CARD IS WHAT COUNTS. Prove the row's statement (the work); the ties are given (YthfkmedpcmiibaaDoorTie.lean); close each card by the builder's one call (the guide's Derived/Test/ToyasCard.lean, 'card_holds'). Laid BY PROGRAM, IN A SANDBOX (cutbox-door.mjs). By AI agents, Wed Nov 11 2026. No macro, syntax, notation, axiom, sorry.
-/
import Derived.Test.YthfkmedpcmiibaaDoorRows
import GoSem.ClaimSeven
namespace Go.Proofs.YthfkmedpcmiibaaDoor
namespace Rows

/-- THE TIED CARD OF 'regestatop.TopIndexed'. -/
def topIndexedCard : Claim7 := { stood := { row := topIndexedRow, standIns := [], harness := (true, "ab12ac6f344c59befea7011f8a5e20f07d6ca59c8da33792ec0718c35b3e5c0a"), looks := true }, kinds := [], alts := [], laidByText := true, laidKinds := [.data, .pinned], laidTests := true, laidLooks := .later }
def TopIndexedCardSaid : Prop := Claim7.holds Tryd.pinned (.plain (OpenSpec.ofChange topIndexedSpec)) topIndexedCard

/-- THE SECOND FORM's CARD OF 'regestatop.TopIndexed'. -/
def topIndexedUptoCard : Claim7 := { stood := { row := topIndexedUptoRow, standIns := [], harness := (true, "ab12ac6f344c59befea7011f8a5e20f07d6ca59c8da33792ec0718c35b3e5c0a"), looks := true }, kinds := [], alts := [], laidByText := true, laidKinds := [.data, .pinned], laidTests := true, laidLooks := .later }
def TopIndexedUptoCardSaid : Prop := Claim7.holds Tryd.pinned (.plain (OpenSpec.upto topIndexedSpec)) topIndexedUptoCard
end Rows
end Go.Proofs.YthfkmedpcmiibaaDoor
