/-
  DERIVED. GIVEN WITH THE SEED: THE CARDS: each row of YtkoagjfbhkhfkaaDoorRows.lean that lists a variable, with what it lists TIED to the program's text (the seventh form; the later family's looks); each row that meets fmt, with fmt's text TOLD by the authors' own Lean function (tested against real Go, not proved from fmt's source: count such statements apart). THE CARD IS WHAT COUNTS. Prove the row's statement (the work); the ties are given (YtkoagjfbhkhfkaaDoorTie.lean); close each card by the builder's one call (the guide's Derived/Test/ToyasCard.lean, 'card_holds'). Laid BY PROGRAM, IN A SANDBOX (cutbox-door.mjs). By AI agents, Wed Nov 11 2026. No macro, syntax, notation, axiom, sorry.
-/
import Derived.Test.YtkoagjfbhkhfkaaDoorRows
import GoSem.ClaimSeven
namespace Go.Proofs.YtkoagjfbhkhfkaaDoor
namespace Rows

/-- THE TIED CARD OF 'regestalaw09.SchemaPlays'. -/
def schemaPlaysCard : Claim7 := { stood := { row := schemaPlaysRow, standIns := [], harness := (true, "6f2c38548dee9d9d0cf29d35d84958cfb6ed7b34ceebb47efcb36aaf6d47fa40"), looks := false }, kinds := [], alts := [], laidByText := true, laidKinds := [.data, .pinned], laidTests := true, laidLooks := .later }
def SchemaPlaysCardSaid : Prop := Claim7.holds Tryd.pinned (.plain (OpenSpec.ofChange schemaPlaysSpec)) schemaPlaysCard

/-- THE TIED CARD OF 'regestalaw09.SchemaTables'. -/
def schemaTablesCard : Claim7 := { stood := { row := schemaTablesRow, standIns := [], harness := (true, "6f2c38548dee9d9d0cf29d35d84958cfb6ed7b34ceebb47efcb36aaf6d47fa40"), looks := false }, kinds := [], alts := [], laidByText := true, laidKinds := [.data, .pinned], laidTests := true, laidLooks := .later }
def SchemaTablesCardSaid : Prop := Claim7.holds Tryd.pinned (.plain (OpenSpec.ofChange schemaTablesSpec)) schemaTablesCard

/-- THE TIED CARD OF 'regestalaw09.SchemaAhead'. -/
def schemaAheadCard : Claim7 := { stood := { row := schemaAheadRow, standIns := [], harness := (true, "6f2c38548dee9d9d0cf29d35d84958cfb6ed7b34ceebb47efcb36aaf6d47fa40"), looks := false }, kinds := [], alts := [], laidByText := true, laidKinds := [.data, .pinned], laidTests := true, laidLooks := .later }
def SchemaAheadCardSaid : Prop := Claim7.holds Tryd.pinned (.plain (OpenSpec.ofChange schemaAheadSpec)) schemaAheadCard

/-- THE TIED CARD OF 'regestalaw09.SchemaForks'. -/
def schemaForksCard : Claim7 := { stood := { row := schemaForksRow, standIns := [], harness := (true, "6f2c38548dee9d9d0cf29d35d84958cfb6ed7b34ceebb47efcb36aaf6d47fa40"), looks := false }, kinds := [], alts := [], laidByText := true, laidKinds := [.data, .pinned], laidTests := true, laidLooks := .later }
def SchemaForksCardSaid : Prop := Claim7.holds Tryd.pinned (.plain (OpenSpec.ofChange schemaForksSpec)) schemaForksCard

/-- THE SECOND FORM's CARD OF 'regestalaw09.SchemaPlays'. -/
def schemaPlaysUptoCard : Claim7 := { stood := { row := schemaPlaysUptoRow, standIns := [], harness := (true, "6f2c38548dee9d9d0cf29d35d84958cfb6ed7b34ceebb47efcb36aaf6d47fa40"), looks := false }, kinds := [], alts := [], laidByText := true, laidKinds := [.data, .pinned], laidTests := true, laidLooks := .later }
def SchemaPlaysUptoCardSaid : Prop := Claim7.holds Tryd.pinned (.plain (OpenSpec.upto schemaPlaysSpec)) schemaPlaysUptoCard

/-- THE SECOND FORM's CARD OF 'regestalaw09.SchemaTables'. -/
def schemaTablesUptoCard : Claim7 := { stood := { row := schemaTablesUptoRow, standIns := [], harness := (true, "6f2c38548dee9d9d0cf29d35d84958cfb6ed7b34ceebb47efcb36aaf6d47fa40"), looks := false }, kinds := [], alts := [], laidByText := true, laidKinds := [.data, .pinned], laidTests := true, laidLooks := .later }
def SchemaTablesUptoCardSaid : Prop := Claim7.holds Tryd.pinned (.plain (OpenSpec.upto schemaTablesSpec)) schemaTablesUptoCard

/-- THE SECOND FORM's CARD OF 'regestalaw09.SchemaAhead'. -/
def schemaAheadUptoCard : Claim7 := { stood := { row := schemaAheadUptoRow, standIns := [], harness := (true, "6f2c38548dee9d9d0cf29d35d84958cfb6ed7b34ceebb47efcb36aaf6d47fa40"), looks := false }, kinds := [], alts := [], laidByText := true, laidKinds := [.data, .pinned], laidTests := true, laidLooks := .later }
def SchemaAheadUptoCardSaid : Prop := Claim7.holds Tryd.pinned (.plain (OpenSpec.upto schemaAheadSpec)) schemaAheadUptoCard

/-- THE SECOND FORM's CARD OF 'regestalaw09.SchemaForks'. -/
def schemaForksUptoCard : Claim7 := { stood := { row := schemaForksUptoRow, standIns := [], harness := (true, "6f2c38548dee9d9d0cf29d35d84958cfb6ed7b34ceebb47efcb36aaf6d47fa40"), looks := false }, kinds := [], alts := [], laidByText := true, laidKinds := [.data, .pinned], laidTests := true, laidLooks := .later }
def SchemaForksUptoCardSaid : Prop := Claim7.holds Tryd.pinned (.plain (OpenSpec.upto schemaForksSpec)) schemaForksUptoCard
end Rows
end Go.Proofs.YtkoagjfbhkhfkaaDoor
