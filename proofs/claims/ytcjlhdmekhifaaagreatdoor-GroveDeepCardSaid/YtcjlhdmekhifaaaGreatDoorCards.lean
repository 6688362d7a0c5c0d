/-
  DERIVED. GIVEN WITH THE SEED: THE CARDS: each row of YtcjlhdmekhifaaaGreatDoorRows.lean that lists a variable, with what it lists TIED to the program's text (the seventh form; the later family's looks); each row that meets fmt, with fmt's text TOLD by the authors' own Lean function (tested against real Go, not proved from fmt's source: count such statements apart). THE CARD IS WHAT COUNTS. Prove the row's statement (the work); the ties are given (YtcjlhdmekhifaaaGreatDoorTie.lean); close each card by the builder's one call (the guide's Derived/Test/ToyasCard.lean, 'card_holds'). Laid BY PROGRAM, IN A SANDBOX (cutbox-door.mjs). By AI agents, Wed Nov 11 2026. No macro, syntax, notation, axiom, sorry.
-/
import Derived.Test.YtcjlhdmekhifaaaGreatDoorRows
import GoSem.ClaimSeven
namespace Go.Proofs.YtcjlhdmekhifaaaGreatDoor
namespace Rows

/-- THE TIED CARD OF 'broadsheetlaw09.GroveDeep'. -/
def groveDeepCard : Claim7 := { stood := { row := groveDeepRow, standIns := [], harness := (true, "d01dbee3d54da91e3335e94c3fa2fb63151462e82321551fc587ebc197dd612e"), looks := true }, kinds := [], alts := [], laidByText := true, laidKinds := [.data, .data, .data, .data, .sentinel, .sentinel, .data, .data, .sentinel, .pinned, .pinned], laidTests := true, laidLooks := .later }
def GroveDeepCardSaid : Prop := Claim7.holds Tryz.pinned (.plain (OpenSpec.ofChange groveDeepSpec)) groveDeepCard

/-- THE SECOND FORM's CARD OF 'broadsheetlaw09.GroveDeep'. -/
def groveDeepUptoCard : Claim7 := { stood := { row := groveDeepUptoRow, standIns := [], harness := (true, "d01dbee3d54da91e3335e94c3fa2fb63151462e82321551fc587ebc197dd612e"), looks := true }, kinds := [], alts := [], laidByText := true, laidKinds := [.data, .data, .data, .data, .sentinel, .sentinel, .data, .data, .sentinel, .pinned, .pinned], laidTests := true, laidLooks := .later }
def GroveDeepUptoCardSaid : Prop := Claim7.holds Tryz.pinned (.plain (OpenSpec.upto groveDeepSpec)) groveDeepUptoCard
end Rows
end Go.Proofs.YtcjlhdmekhifaaaGreatDoor
