/-
  DERIVED. GIVEN WITH THE SEED: THE CARDS: each row of YtegaidfmkfnbnaaGreatDoorRows.lean that lists a variable, with what it lists TIED to the program's text (the seventh form; the later family's looks); each row that meets fmt, with fmt's text TOLD by the authors' own Lean function (tested against real Go, not proved from fmt's source: count such statements apart). THE CARD IS WHAT COUNTS. Prove the row's statement (the work); the ties are given (YtegaidfmkfnbnaaGreatDoorTie.lean); close each card by the builder's one call (the guide's Derived/Test/ToyasCard.lean, 'card_holds'). Laid BY PROGRAM, IN A SANDBOX (cutbox-door.mjs). By AI agents, Wed Nov 11 2026. No macro, syntax, notation, axiom, sorry.
-/
import Derived.Test.YtegaidfmkfnbnaaGreatDoorRows
import GoSem.ClaimSeven
namespace Go.Proofs.YtegaidfmkfnbnaaGreatDoor
namespace Rows

/-- THE TIED CARD OF 'broadsheetlaw10.ScribePrints'. -/
def scribePrintsCard : Claim7 := { stood := { row := scribePrintsRow, standIns := [], harness := (true, "76c9abf4c16ca6d6187beb3c06d97b6e863e078a01e3898abdaaf62d7b085850"), looks := false }, kinds := [], alts := [], laidByText := true, laidKinds := [.data, .data, .data, .data, .data, .data, .pinned, .pinned], laidTests := true, laidLooks := .later }
def ScribePrintsCardSaid : Prop := Claim7.holds Tryz.pinned (.plain (OpenSpec.ofChange scribePrintsSpec)) scribePrintsCard

/-- THE TIED CARD OF 'broadsheetlaw10.ScribeBack'. -/
def scribeBackCard : Claim7 := { stood := { row := scribeBackRow, standIns := [], harness := (true, "76c9abf4c16ca6d6187beb3c06d97b6e863e078a01e3898abdaaf62d7b085850"), looks := false }, kinds := [], alts := [], laidByText := true, laidKinds := [.data, .data, .data, .data, .data, .data, .pinned, .pinned], laidTests := true, laidLooks := .later }
def ScribeBackCardSaid : Prop := Claim7.holds Tryz.pinned (.plain (OpenSpec.ofChange scribeBackSpec)) scribeBackCard

/-- THE TIED CARD OF 'broadsheetlaw10.ScribeAgain'. -/
def scribeAgainCard : Claim7 := { stood := { row := scribeAgainRow, standIns := [], harness := (true, "76c9abf4c16ca6d6187beb3c06d97b6e863e078a01e3898abdaaf62d7b085850"), looks := false }, kinds := [], alts := [], laidByText := true, laidKinds := [.data, .data, .data, .data, .data, .data, .pinned, .pinned], laidTests := true, laidLooks := .later }
def ScribeAgainCardSaid : Prop := Claim7.holds Tryz.pinned (.plain (OpenSpec.ofChange scribeAgainSpec)) scribeAgainCard

/-- THE TIED CARD OF 'broadsheetlaw10.ScribeSmall'. -/
def scribeSmallCard : Claim7 := { stood := { row := scribeSmallRow, standIns := [], harness := (true, "76c9abf4c16ca6d6187beb3c06d97b6e863e078a01e3898abdaaf62d7b085850"), looks := false }, kinds := [], alts := [], laidByText := true, laidKinds := [.data, .data, .data, .data, .data, .data, .pinned, .pinned], laidTests := true, laidLooks := .later }
def ScribeSmallCardSaid : Prop := Claim7.holds Tryz.pinned (.plain (OpenSpec.ofChange scribeSmallSpec)) scribeSmallCard

/-- THE SECOND FORM's CARD OF 'broadsheetlaw10.ScribePrints'. -/
def scribePrintsUptoCard : Claim7 := { stood := { row := scribePrintsUptoRow, standIns := [], harness := (true, "76c9abf4c16ca6d6187beb3c06d97b6e863e078a01e3898abdaaf62d7b085850"), looks := false }, kinds := [], alts := [], laidByText := true, laidKinds := [.data, .data, .data, .data, .data, .data, .pinned, .pinned], laidTests := true, laidLooks := .later }
def ScribePrintsUptoCardSaid : Prop := Claim7.holds Tryz.pinned (.plain (OpenSpec.upto scribePrintsSpec)) scribePrintsUptoCard

/-- THE SECOND FORM's CARD OF 'broadsheetlaw10.ScribeBack'. -/
def scribeBackUptoCard : Claim7 := { stood := { row := scribeBackUptoRow, standIns := [], harness := (true, "76c9abf4c16ca6d6187beb3c06d97b6e863e078a01e3898abdaaf62d7b085850"), looks := false }, kinds := [], alts := [], laidByText := true, laidKinds := [.data, .data, .data, .data, .data, .data, .pinned, .pinned], laidTests := true, laidLooks := .later }
def ScribeBackUptoCardSaid : Prop := Claim7.holds Tryz.pinned (.plain (OpenSpec.upto scribeBackSpec)) scribeBackUptoCard

/-- THE SECOND FORM's CARD OF 'broadsheetlaw10.ScribeAgain'. -/
def scribeAgainUptoCard : Claim7 := { stood := { row := scribeAgainUptoRow, standIns := [], harness := (true, "76c9abf4c16ca6d6187beb3c06d97b6e863e078a01e3898abdaaf62d7b085850"), looks := false }, kinds := [], alts := [], laidByText := true, laidKinds := [.data, .data, .data, .data, .data, .data, .pinned, .pinned], laidTests := true, laidLooks := .later }
def ScribeAgainUptoCardSaid : Prop := Claim7.holds Tryz.pinned (.plain (OpenSpec.upto scribeAgainSpec)) scribeAgainUptoCard

/-- THE SECOND FORM's CARD OF 'broadsheetlaw10.ScribeSmall'. -/
def scribeSmallUptoCard : Claim7 := { stood := { row := scribeSmallUptoRow, standIns := [], harness := (true, "76c9abf4c16ca6d6187beb3c06d97b6e863e078a01e3898abdaaf62d7b085850"), looks := false }, kinds := [], alts := [], laidByText := true, laidKinds := [.data, .data, .data, .data, .data, .data, .pinned, .pinned], laidTests := true, laidLooks := .later }
def ScribeSmallUptoCardSaid : Prop := Claim7.holds Tryz.pinned (.plain (OpenSpec.upto scribeSmallSpec)) scribeSmallUptoCard
end Rows
end Go.Proofs.YtegaidfmkfnbnaaGreatDoor
