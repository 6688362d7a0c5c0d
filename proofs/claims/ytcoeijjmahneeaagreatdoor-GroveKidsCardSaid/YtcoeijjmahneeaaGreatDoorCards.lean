/-
  DERIVED. GIVEN WITH THE SEED: THE CARDS: each row of YtcoeijjmahneeaaGreatDoorRows.lean that lists a variable, with what it lists TIED to the program's text (the seventh form; the later family's looks); each row that meets fmt, with fmt's text TOLD by the authors' own Lean function (tested against real Go, not proved from fmt's source: count such statements apart). THE CARD IS WHAT COUNTS. Prove the row's statement (the work); the ties are given (YtcoeijjmahneeaaGreatDoorTie.lean); close each card by the builder's one call (the guide's Derived/Test/ToyasCard.lean, 'card_holds'). Laid BY PROGRAM, IN A SANDBOX (cutbox-door.mjs). By AI agents, Wed Nov 11 2026. No macro, syntax, notation, axiom, sorry.
-/
import Derived.Test.YtcoeijjmahneeaaGreatDoorRows
import GoSem.ClaimSeven
namespace Go.Proofs.YtcoeijjmahneeaaGreatDoor
namespace Rows

/-- THE TIED CARD OF 'broadsheetlaw09.GroveDeep'. -/
def groveDeepCard : Claim7 := { stood := { row := groveDeepRow, standIns := [], harness := (true, "f0dac5589e63860a8d0fccb6022bfcd9a8634b755ab7df051c038bd5ab460589"), looks := true }, kinds := [], alts := [], laidByText := true, laidKinds := [.data, .data, .data, .data, .sentinel, .sentinel, .data, .data, .sentinel, .pinned, .pinned], laidTests := true, laidLooks := .later }
def GroveDeepCardSaid : Prop := Claim7.holds Tryz.pinned (.plain (OpenSpec.ofChange groveDeepSpec)) groveDeepCard

/-- THE TIED CARD OF 'broadsheetlaw09.GroveAbout'. -/
def groveAboutCard : Claim7 := { stood := { row := groveAboutRow, standIns := [], harness := (true, "f0dac5589e63860a8d0fccb6022bfcd9a8634b755ab7df051c038bd5ab460589"), looks := true }, kinds := [], alts := [], laidByText := true, laidKinds := [.data, .data, .data, .data, .sentinel, .sentinel, .data, .data, .sentinel, .pinned, .pinned], laidTests := true, laidLooks := .later }
def GroveAboutCardSaid : Prop := Claim7.holds Tryz.pinned (.plain (OpenSpec.ofChange groveAboutSpec)) groveAboutCard

/-- THE TIED CARD OF 'broadsheetlaw09.GroveKids'. -/
def groveKidsCard : Claim7 := { stood := { row := groveKidsRow, standIns := [], harness := (true, "f0dac5589e63860a8d0fccb6022bfcd9a8634b755ab7df051c038bd5ab460589"), looks := true }, kinds := [], alts := [], laidByText := true, laidKinds := [.data, .data, .data, .data, .sentinel, .sentinel, .data, .data, .sentinel, .pinned, .pinned], laidTests := true, laidLooks := .later }
def GroveKidsCardSaid : Prop := Claim7.holds Tryz.pinned (.plain (OpenSpec.ofChange groveKidsSpec)) groveKidsCard

/-- THE TIED CARD OF 'broadsheetlaw09.GrovePrefix'. -/
def grovePrefixCard : Claim7 := { stood := { row := grovePrefixRow, standIns := [], harness := (true, "f0dac5589e63860a8d0fccb6022bfcd9a8634b755ab7df051c038bd5ab460589"), looks := true }, kinds := [], alts := [], laidByText := true, laidKinds := [.data, .data, .data, .data, .sentinel, .sentinel, .data, .data, .sentinel, .pinned, .pinned], laidTests := true, laidLooks := .later }
def GrovePrefixCardSaid : Prop := Claim7.holds Tryz.pinned (.plain (OpenSpec.ofChange grovePrefixSpec)) grovePrefixCard

/-- THE SECOND FORM's CARD OF 'broadsheetlaw09.GroveDeep'. -/
def groveDeepUptoCard : Claim7 := { stood := { row := groveDeepUptoRow, standIns := [], harness := (true, "f0dac5589e63860a8d0fccb6022bfcd9a8634b755ab7df051c038bd5ab460589"), looks := true }, kinds := [], alts := [], laidByText := true, laidKinds := [.data, .data, .data, .data, .sentinel, .sentinel, .data, .data, .sentinel, .pinned, .pinned], laidTests := true, laidLooks := .later }
def GroveDeepUptoCardSaid : Prop := Claim7.holds Tryz.pinned (.plain (OpenSpec.upto groveDeepSpec)) groveDeepUptoCard

/-- THE SECOND FORM's CARD OF 'broadsheetlaw09.GroveAbout'. -/
def groveAboutUptoCard : Claim7 := { stood := { row := groveAboutUptoRow, standIns := [], harness := (true, "f0dac5589e63860a8d0fccb6022bfcd9a8634b755ab7df051c038bd5ab460589"), looks := true }, kinds := [], alts := [], laidByText := true, laidKinds := [.data, .data, .data, .data, .sentinel, .sentinel, .data, .data, .sentinel, .pinned, .pinned], laidTests := true, laidLooks := .later }
def GroveAboutUptoCardSaid : Prop := Claim7.holds Tryz.pinned (.plain (OpenSpec.upto groveAboutSpec)) groveAboutUptoCard

/-- THE SECOND FORM's CARD OF 'broadsheetlaw09.GroveKids'. -/
def groveKidsUptoCard : Claim7 := { stood := { row := groveKidsUptoRow, standIns := [], harness := (true, "f0dac5589e63860a8d0fccb6022bfcd9a8634b755ab7df051c038bd5ab460589"), looks := true }, kinds := [], alts := [], laidByText := true, laidKinds := [.data, .data, .data, .data, .sentinel, .sentinel, .data, .data, .sentinel, .pinned, .pinned], laidTests := true, laidLooks := .later }
def GroveKidsUptoCardSaid : Prop := Claim7.holds Tryz.pinned (.plain (OpenSpec.upto groveKidsSpec)) groveKidsUptoCard

/-- THE SECOND FORM's CARD OF 'broadsheetlaw09.GrovePrefix'. -/
def grovePrefixUptoCard : Claim7 := { stood := { row := grovePrefixUptoRow, standIns := [], harness := (true, "f0dac5589e63860a8d0fccb6022bfcd9a8634b755ab7df051c038bd5ab460589"), looks := true }, kinds := [], alts := [], laidByText := true, laidKinds := [.data, .data, .data, .data, .sentinel, .sentinel, .data, .data, .sentinel, .pinned, .pinned], laidTests := true, laidLooks := .later }
def GrovePrefixUptoCardSaid : Prop := Claim7.holds Tryz.pinned (.plain (OpenSpec.upto grovePrefixSpec)) grovePrefixUptoCard
end Rows
end Go.Proofs.YtcoeijjmahneeaaGreatDoor
