/-
  DERIVED. GIVEN WITH THE SEED: THE CARDS: each row of YtjppkhphdpbnfaaDoorRows.lean that lists a variable, with what it lists TIED to the program's text (the seventh form; the later family's looks); each row that meets fmt, with fmt's text TOLD by the authors' own Lean function (tested against real Go, not proved from fmt's source: count such statements apart). THE CARD IS WHAT COUNTS. Prove the row's statement (the work); the ties are given (YtjppkhphdpbnfaaDoorTie.lean); close each card by the builder's one call (the guide's Derived/Test/ToyasCard.lean, 'card_holds'). Laid BY PROGRAM, IN A SANDBOX (cutbox-door.mjs). By AI agents, Wed Nov 11 2026. No macro, syntax, notation, axiom, sorry.
-/
import Derived.Test.YtjppkhphdpbnfaaDoorRows
import GoSem.ClaimSeven
namespace Go.Proofs.YtjppkhphdpbnfaaDoor
namespace Rows

/-- THE TIED CARD OF 'regestalaw02.WordTells'. -/
def wordTellsCard : Claim7 := { stood := { row := wordTellsRow, standIns := [], harness := (true, "2b3a24c4ba898c63b19d0c5f27deee4de1491ae944fec105a0b71dcc047c7b41"), looks := false }, kinds := [], alts := [], laidByText := true, laidKinds := [.data, .pinned], laidTests := true, laidLooks := .later }
def WordTellsCardSaid : Prop := Claim7.holds Tryd.pinned (.plain (OpenSpec.ofChange wordTellsSpec)) wordTellsCard

/-- THE TIED CARD OF 'regestalaw02.WordFronts'. -/
def wordFrontsCard : Claim7 := { stood := { row := wordFrontsRow, standIns := [], harness := (true, "2b3a24c4ba898c63b19d0c5f27deee4de1491ae944fec105a0b71dcc047c7b41"), looks := false }, kinds := [], alts := [], laidByText := true, laidKinds := [.data, .pinned], laidTests := true, laidLooks := .later }
def WordFrontsCardSaid : Prop := Claim7.holds Tryd.pinned (.plain (OpenSpec.ofChange wordFrontsSpec)) wordFrontsCard

/-- THE TIED CARD OF 'regestalaw02.WordQuotes'. -/
def wordQuotesCard : Claim7 := { stood := { row := wordQuotesRow, standIns := [], harness := (true, "2b3a24c4ba898c63b19d0c5f27deee4de1491ae944fec105a0b71dcc047c7b41"), looks := false }, kinds := [], alts := [], laidByText := true, laidKinds := [.data, .pinned], laidTests := true, laidLooks := .later }
def WordQuotesCardSaid : Prop := Claim7.holds Tryd.pinned (.plain (OpenSpec.ofChange wordQuotesSpec)) wordQuotesCard

/-- THE TIED CARD OF 'regestalaw02.WordBack'. -/
def wordBackCard : Claim7 := { stood := { row := wordBackRow, standIns := [], harness := (true, "2b3a24c4ba898c63b19d0c5f27deee4de1491ae944fec105a0b71dcc047c7b41"), looks := false }, kinds := [], alts := [], laidByText := true, laidKinds := [.data, .pinned], laidTests := true, laidLooks := .later }
def WordBackCardSaid : Prop := Claim7.holds Tryd.pinned (.plain (OpenSpec.ofChange wordBackSpec)) wordBackCard

/-- THE TIED CARD OF 'regestalaw02.WordFront'. -/
def wordFrontCard : Claim7 := { stood := { row := wordFrontRow, standIns := [], harness := (true, "2b3a24c4ba898c63b19d0c5f27deee4de1491ae944fec105a0b71dcc047c7b41"), looks := false }, kinds := [], alts := [], laidByText := true, laidKinds := [.data, .pinned], laidTests := true, laidLooks := .later }
def WordFrontCardSaid : Prop := Claim7.holds Tryd.pinned (.plain (OpenSpec.ofChange wordFrontSpec)) wordFrontCard

/-- THE TIED CARD OF 'regestatop.TopRunes'. -/
def topRunesCard : Claim7 := { stood := { row := topRunesRow, standIns := [], harness := (true, "2b3a24c4ba898c63b19d0c5f27deee4de1491ae944fec105a0b71dcc047c7b41"), looks := false }, kinds := [], alts := [], laidByText := true, laidKinds := [.data, .pinned], laidTests := true, laidLooks := .later }
def TopRunesCardSaid : Prop := Claim7.holds Tryd.pinned (.plain (OpenSpec.ofChange topRunesSpec)) topRunesCard

/-- THE SECOND FORM's CARD OF 'regestalaw02.WordTells'. -/
def wordTellsUptoCard : Claim7 := { stood := { row := wordTellsUptoRow, standIns := [], harness := (true, "2b3a24c4ba898c63b19d0c5f27deee4de1491ae944fec105a0b71dcc047c7b41"), looks := false }, kinds := [], alts := [], laidByText := true, laidKinds := [.data, .pinned], laidTests := true, laidLooks := .later }
def WordTellsUptoCardSaid : Prop := Claim7.holds Tryd.pinned (.plain (OpenSpec.upto wordTellsSpec)) wordTellsUptoCard

/-- THE SECOND FORM's CARD OF 'regestalaw02.WordFronts'. -/
def wordFrontsUptoCard : Claim7 := { stood := { row := wordFrontsUptoRow, standIns := [], harness := (true, "2b3a24c4ba898c63b19d0c5f27deee4de1491ae944fec105a0b71dcc047c7b41"), looks := false }, kinds := [], alts := [], laidByText := true, laidKinds := [.data, .pinned], laidTests := true, laidLooks := .later }
def WordFrontsUptoCardSaid : Prop := Claim7.holds Tryd.pinned (.plain (OpenSpec.upto wordFrontsSpec)) wordFrontsUptoCard

/-- THE SECOND FORM's CARD OF 'regestalaw02.WordQuotes'. -/
def wordQuotesUptoCard : Claim7 := { stood := { row := wordQuotesUptoRow, standIns := [], harness := (true, "2b3a24c4ba898c63b19d0c5f27deee4de1491ae944fec105a0b71dcc047c7b41"), looks := false }, kinds := [], alts := [], laidByText := true, laidKinds := [.data, .pinned], laidTests := true, laidLooks := .later }
def WordQuotesUptoCardSaid : Prop := Claim7.holds Tryd.pinned (.plain (OpenSpec.upto wordQuotesSpec)) wordQuotesUptoCard

/-- THE SECOND FORM's CARD OF 'regestalaw02.WordBack'. -/
def wordBackUptoCard : Claim7 := { stood := { row := wordBackUptoRow, standIns := [], harness := (true, "2b3a24c4ba898c63b19d0c5f27deee4de1491ae944fec105a0b71dcc047c7b41"), looks := false }, kinds := [], alts := [], laidByText := true, laidKinds := [.data, .pinned], laidTests := true, laidLooks := .later }
def WordBackUptoCardSaid : Prop := Claim7.holds Tryd.pinned (.plain (OpenSpec.upto wordBackSpec)) wordBackUptoCard

/-- THE SECOND FORM's CARD OF 'regestalaw02.WordFront'. -/
def wordFrontUptoCard : Claim7 := { stood := { row := wordFrontUptoRow, standIns := [], harness := (true, "2b3a24c4ba898c63b19d0c5f27deee4de1491ae944fec105a0b71dcc047c7b41"), looks := false }, kinds := [], alts := [], laidByText := true, laidKinds := [.data, .pinned], laidTests := true, laidLooks := .later }
def WordFrontUptoCardSaid : Prop := Claim7.holds Tryd.pinned (.plain (OpenSpec.upto wordFrontSpec)) wordFrontUptoCard

/-- THE SECOND FORM's CARD OF 'regestatop.TopRunes'. -/
def topRunesUptoCard : Claim7 := { stood := { row := topRunesUptoRow, standIns := [], harness := (true, "2b3a24c4ba898c63b19d0c5f27deee4de1491ae944fec105a0b71dcc047c7b41"), looks := false }, kinds := [], alts := [], laidByText := true, laidKinds := [.data, .pinned], laidTests := true, laidLooks := .later }
def TopRunesUptoCardSaid : Prop := Claim7.holds Tryd.pinned (.plain (OpenSpec.upto topRunesSpec)) topRunesUptoCard
end Rows
end Go.Proofs.YtjppkhphdpbnfaaDoor
