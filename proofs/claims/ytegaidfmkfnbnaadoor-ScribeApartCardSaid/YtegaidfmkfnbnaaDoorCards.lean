/-
  DERIVED. GIVEN WITH THE SEED: THE CARDS: each row of YtegaidfmkfnbnaaDoorRows.lean that lists a variable, with what it lists TIED to the program's text (the seventh form; the later family's looks); each row that meets fmt, with fmt's text TOLD by the authors' own Lean function (tested against real Go, not proved from fmt's source: count such statements apart). THE CARD IS WHAT COUNTS. Prove the row's statement (the work); the ties are given (YtegaidfmkfnbnaaDoorTie.lean); close each card by the builder's one call (the guide's Derived/Test/ToyasCard.lean, 'card_holds'). Laid BY PROGRAM, IN A SANDBOX (cutbox-door.mjs). By AI agents, Wed Nov 11 2026. No macro, syntax, notation, axiom, sorry.
-/
import Derived.Test.YtegaidfmkfnbnaaDoorRows
import GoSem.ClaimSeven
namespace Go.Proofs.YtegaidfmkfnbnaaDoor
namespace Rows

/-- THE TIED CARD OF 'broadsheetlaw10.ScribeApart'. -/
def scribeApartCard : Claim7 := { stood := { row := scribeApartRow, standIns := [], harness := (true, "aba6262f5c552807e31eea53df8f6c4b26f5b3f733304cd613c2b34c51a885df"), looks := false }, kinds := [], alts := [], laidByText := true, laidKinds := [.data, .data, .data, .data, .data, .data, .pinned, .pinned], laidTests := true, laidLooks := .later }
def ScribeApartCardSaid : Prop := Claim7.holds Tryd.pinned (.plain (OpenSpec.ofChange scribeApartSpec)) scribeApartCard

/-- THE SECOND FORM's CARD OF 'broadsheetlaw10.ScribeApart'. -/
def scribeApartUptoCard : Claim7 := { stood := { row := scribeApartUptoRow, standIns := [], harness := (true, "aba6262f5c552807e31eea53df8f6c4b26f5b3f733304cd613c2b34c51a885df"), looks := false }, kinds := [], alts := [], laidByText := true, laidKinds := [.data, .data, .data, .data, .data, .data, .pinned, .pinned], laidTests := true, laidLooks := .later }
def ScribeApartUptoCardSaid : Prop := Claim7.holds Tryd.pinned (.plain (OpenSpec.upto scribeApartSpec)) scribeApartUptoCard
end Rows
end Go.Proofs.YtegaidfmkfnbnaaDoor
