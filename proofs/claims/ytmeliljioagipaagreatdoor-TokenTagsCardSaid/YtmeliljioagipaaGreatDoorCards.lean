/-
  DERIVED. GIVEN WITH THE SEED: THE CARDS: each row of YtmeliljioagipaaGreatDoorRows.lean that lists a variable, with what it lists TIED to the program's text (the seventh form; the later family's looks); each row that meets fmt, with fmt's text TOLD by the authors' own Lean function (tested against real Go, not proved from fmt's source: count such statements apart). THE CARD IS WHAT COUNTS. Prove the row's statement (the work); the ties are given (YtmeliljioagipaaGreatDoorTie.lean); close each card by the builder's one call (the guide's Derived/Test/ToyasCard.lean, 'card_holds'). Laid BY PROGRAM, IN A SANDBOX (cutbox-door.mjs). By AI agents, Wed Nov 11 2026. No macro, syntax, notation, axiom, sorry.
-/
import Derived.Test.YtmeliljioagipaaGreatDoorRows
import GoSem.ClaimSeven
namespace Go.Proofs.YtmeliljioagipaaGreatDoor
namespace Rows

/-- THE TIED CARD OF 'broadsheetlaw07.TokenTwo'. -/
def tokenTwoCard : Claim7 := { stood := { row := tokenTwoRow, standIns := [], harness := (true, "f0bf4b3110df7c7b940228bc738888f0c057c6da8bde035afac04598828dc566"), looks := true }, kinds := [], alts := [], laidByText := true, laidKinds := [.data, .data, .data, .data, .sentinel, .sentinel, .data, .data, .sentinel, .pinned, .pinned], laidTests := true, laidLooks := .later }
def TokenTwoCardSaid : Prop := Claim7.holds Tryz.pinned (.plain (OpenSpec.ofChange tokenTwoSpec)) tokenTwoCard

/-- THE TIED CARD OF 'broadsheetlaw07.TokenTags'. -/
def tokenTagsCard : Claim7 := { stood := { row := tokenTagsRow, standIns := [], harness := (true, "f0bf4b3110df7c7b940228bc738888f0c057c6da8bde035afac04598828dc566"), looks := true }, kinds := [], alts := [], laidByText := true, laidKinds := [.data, .data, .data, .data, .sentinel, .sentinel, .data, .data, .sentinel, .pinned, .pinned], laidTests := true, laidLooks := .later }
def TokenTagsCardSaid : Prop := Claim7.holds Tryz.pinned (.plain (OpenSpec.ofChange tokenTagsSpec)) tokenTagsCard

/-- THE TIED CARD OF 'broadsheetlaw07.TokenDeclares'. -/
def tokenDeclaresCard : Claim7 := { stood := { row := tokenDeclaresRow, standIns := [], harness := (true, "f0bf4b3110df7c7b940228bc738888f0c057c6da8bde035afac04598828dc566"), looks := true }, kinds := [], alts := [], laidByText := true, laidKinds := [.data, .data, .data, .data, .sentinel, .sentinel, .data, .data, .sentinel, .pinned, .pinned], laidTests := true, laidLooks := .later }
def TokenDeclaresCardSaid : Prop := Claim7.holds Tryz.pinned (.plain (OpenSpec.ofChange tokenDeclaresSpec)) tokenDeclaresCard

/-- THE SECOND FORM's CARD OF 'broadsheetlaw07.TokenTwo'. -/
def tokenTwoUptoCard : Claim7 := { stood := { row := tokenTwoUptoRow, standIns := [], harness := (true, "f0bf4b3110df7c7b940228bc738888f0c057c6da8bde035afac04598828dc566"), looks := true }, kinds := [], alts := [], laidByText := true, laidKinds := [.data, .data, .data, .data, .sentinel, .sentinel, .data, .data, .sentinel, .pinned, .pinned], laidTests := true, laidLooks := .later }
def TokenTwoUptoCardSaid : Prop := Claim7.holds Tryz.pinned (.plain (OpenSpec.upto tokenTwoSpec)) tokenTwoUptoCard

/-- THE SECOND FORM's CARD OF 'broadsheetlaw07.TokenTags'. -/
def tokenTagsUptoCard : Claim7 := { stood := { row := tokenTagsUptoRow, standIns := [], harness := (true, "f0bf4b3110df7c7b940228bc738888f0c057c6da8bde035afac04598828dc566"), looks := true }, kinds := [], alts := [], laidByText := true, laidKinds := [.data, .data, .data, .data, .sentinel, .sentinel, .data, .data, .sentinel, .pinned, .pinned], laidTests := true, laidLooks := .later }
def TokenTagsUptoCardSaid : Prop := Claim7.holds Tryz.pinned (.plain (OpenSpec.upto tokenTagsSpec)) tokenTagsUptoCard

/-- THE SECOND FORM's CARD OF 'broadsheetlaw07.TokenDeclares'. -/
def tokenDeclaresUptoCard : Claim7 := { stood := { row := tokenDeclaresUptoRow, standIns := [], harness := (true, "f0bf4b3110df7c7b940228bc738888f0c057c6da8bde035afac04598828dc566"), looks := true }, kinds := [], alts := [], laidByText := true, laidKinds := [.data, .data, .data, .data, .sentinel, .sentinel, .data, .data, .sentinel, .pinned, .pinned], laidTests := true, laidLooks := .later }
def TokenDeclaresUptoCardSaid : Prop := Claim7.holds Tryz.pinned (.plain (OpenSpec.upto tokenDeclaresSpec)) tokenDeclaresUptoCard
end Rows
end Go.Proofs.YtmeliljioagipaaGreatDoor
