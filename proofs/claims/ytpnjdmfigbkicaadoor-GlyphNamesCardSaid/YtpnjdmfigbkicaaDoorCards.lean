/-
  DERIVED. GIVEN WITH THE SEED: THE CARDS: each row of YtpnjdmfigbkicaaDoorRows.lean that lists a variable, with what it lists TIED to the program's text (the seventh form; the later family's looks); each row that meets fmt, with fmt's text TOLD by the authors' own Lean function (tested against real Go, not proved from fmt's source: count such statements apart). THE CARD IS WHAT COUNTS. Prove the row's statement (the work); the ties are given (YtpnjdmfigbkicaaDoorTie.lean); close each card by the builder's one call (the guide's Derived/Test/ToyasCard.lean, 'card_holds'). Laid BY PROGRAM, IN A SANDBOX (cutbox-door.mjs). By AI agents, Wed Nov 11 2026. No macro, syntax, notation, axiom, sorry.
-/
import Derived.Test.YtpnjdmfigbkicaaDoorRows
import GoSem.ClaimSeven
namespace Go.Proofs.YtpnjdmfigbkicaaDoor
namespace Rows

/-- THE TIED CARD OF 'broadsheetlaw05.GlyphChars'. -/
def glyphCharsCard : Claim7 := { stood := { row := glyphCharsRow, standIns := [], harness := (true, "5d08014f1110aa836bc55a1101aaefe97b1174482678a254f33cae8f20c67317"), looks := false }, kinds := [], alts := [], laidByText := true, laidKinds := [.data, .pinned], laidTests := true, laidLooks := .later }
def GlyphCharsCardSaid : Prop := Claim7.holds Tryd.pinned (.plain (OpenSpec.ofChange glyphCharsSpec)) glyphCharsCard

/-- THE TIED CARD OF 'broadsheetlaw05.GlyphNear'. -/
def glyphNearCard : Claim7 := { stood := { row := glyphNearRow, standIns := [], harness := (true, "5d08014f1110aa836bc55a1101aaefe97b1174482678a254f33cae8f20c67317"), looks := false }, kinds := [], alts := [], laidByText := true, laidKinds := [.data, .pinned], laidTests := true, laidLooks := .later }
def GlyphNearCardSaid : Prop := Claim7.holds Tryd.pinned (.plain (OpenSpec.ofChange glyphNearSpec)) glyphNearCard

/-- THE TIED CARD OF 'broadsheetlaw05.GlyphTexts'. -/
def glyphTextsCard : Claim7 := { stood := { row := glyphTextsRow, standIns := [], harness := (true, "5d08014f1110aa836bc55a1101aaefe97b1174482678a254f33cae8f20c67317"), looks := false }, kinds := [], alts := [], laidByText := true, laidKinds := [.data, .pinned], laidTests := true, laidLooks := .later }
def GlyphTextsCardSaid : Prop := Claim7.holds Tryd.pinned (.plain (OpenSpec.ofChange glyphTextsSpec)) glyphTextsCard

/-- THE TIED CARD OF 'broadsheetlaw05.GlyphNames'. -/
def glyphNamesCard : Claim7 := { stood := { row := glyphNamesRow, standIns := [], harness := (true, "5d08014f1110aa836bc55a1101aaefe97b1174482678a254f33cae8f20c67317"), looks := false }, kinds := [], alts := [], laidByText := true, laidKinds := [.data, .pinned], laidTests := true, laidLooks := .later }
def GlyphNamesCardSaid : Prop := Claim7.holds Tryd.pinned (.plain (OpenSpec.ofChange glyphNamesSpec)) glyphNamesCard

/-- THE TIED CARD OF 'broadsheetlaw05.GlyphLines'. -/
def glyphLinesCard : Claim7 := { stood := { row := glyphLinesRow, standIns := [], harness := (true, "5d08014f1110aa836bc55a1101aaefe97b1174482678a254f33cae8f20c67317"), looks := false }, kinds := [], alts := [], laidByText := true, laidKinds := [.data, .pinned], laidTests := true, laidLooks := .later }
def GlyphLinesCardSaid : Prop := Claim7.holds Tryd.pinned (.plain (OpenSpec.ofChange glyphLinesSpec)) glyphLinesCard

/-- THE TIED CARD OF 'broadsheetlaw05.GlyphSmall'. -/
def glyphSmallCard : Claim7 := { stood := { row := glyphSmallRow, standIns := [], harness := (true, "5d08014f1110aa836bc55a1101aaefe97b1174482678a254f33cae8f20c67317"), looks := false }, kinds := [], alts := [], laidByText := true, laidKinds := [.data, .pinned], laidTests := true, laidLooks := .later }
def GlyphSmallCardSaid : Prop := Claim7.holds Tryd.pinned (.plain (OpenSpec.ofChange glyphSmallSpec)) glyphSmallCard

/-- THE SECOND FORM's CARD OF 'broadsheetlaw05.GlyphChars'. -/
def glyphCharsUptoCard : Claim7 := { stood := { row := glyphCharsUptoRow, standIns := [], harness := (true, "5d08014f1110aa836bc55a1101aaefe97b1174482678a254f33cae8f20c67317"), looks := false }, kinds := [], alts := [], laidByText := true, laidKinds := [.data, .pinned], laidTests := true, laidLooks := .later }
def GlyphCharsUptoCardSaid : Prop := Claim7.holds Tryd.pinned (.plain (OpenSpec.upto glyphCharsSpec)) glyphCharsUptoCard

/-- THE SECOND FORM's CARD OF 'broadsheetlaw05.GlyphNear'. -/
def glyphNearUptoCard : Claim7 := { stood := { row := glyphNearUptoRow, standIns := [], harness := (true, "5d08014f1110aa836bc55a1101aaefe97b1174482678a254f33cae8f20c67317"), looks := false }, kinds := [], alts := [], laidByText := true, laidKinds := [.data, .pinned], laidTests := true, laidLooks := .later }
def GlyphNearUptoCardSaid : Prop := Claim7.holds Tryd.pinned (.plain (OpenSpec.upto glyphNearSpec)) glyphNearUptoCard

/-- THE SECOND FORM's CARD OF 'broadsheetlaw05.GlyphTexts'. -/
def glyphTextsUptoCard : Claim7 := { stood := { row := glyphTextsUptoRow, standIns := [], harness := (true, "5d08014f1110aa836bc55a1101aaefe97b1174482678a254f33cae8f20c67317"), looks := false }, kinds := [], alts := [], laidByText := true, laidKinds := [.data, .pinned], laidTests := true, laidLooks := .later }
def GlyphTextsUptoCardSaid : Prop := Claim7.holds Tryd.pinned (.plain (OpenSpec.upto glyphTextsSpec)) glyphTextsUptoCard

/-- THE SECOND FORM's CARD OF 'broadsheetlaw05.GlyphNames'. -/
def glyphNamesUptoCard : Claim7 := { stood := { row := glyphNamesUptoRow, standIns := [], harness := (true, "5d08014f1110aa836bc55a1101aaefe97b1174482678a254f33cae8f20c67317"), looks := false }, kinds := [], alts := [], laidByText := true, laidKinds := [.data, .pinned], laidTests := true, laidLooks := .later }
def GlyphNamesUptoCardSaid : Prop := Claim7.holds Tryd.pinned (.plain (OpenSpec.upto glyphNamesSpec)) glyphNamesUptoCard

/-- THE SECOND FORM's CARD OF 'broadsheetlaw05.GlyphLines'. -/
def glyphLinesUptoCard : Claim7 := { stood := { row := glyphLinesUptoRow, standIns := [], harness := (true, "5d08014f1110aa836bc55a1101aaefe97b1174482678a254f33cae8f20c67317"), looks := false }, kinds := [], alts := [], laidByText := true, laidKinds := [.data, .pinned], laidTests := true, laidLooks := .later }
def GlyphLinesUptoCardSaid : Prop := Claim7.holds Tryd.pinned (.plain (OpenSpec.upto glyphLinesSpec)) glyphLinesUptoCard

/-- THE SECOND FORM's CARD OF 'broadsheetlaw05.GlyphSmall'. -/
def glyphSmallUptoCard : Claim7 := { stood := { row := glyphSmallUptoRow, standIns := [], harness := (true, "5d08014f1110aa836bc55a1101aaefe97b1174482678a254f33cae8f20c67317"), looks := false }, kinds := [], alts := [], laidByText := true, laidKinds := [.data, .pinned], laidTests := true, laidLooks := .later }
def GlyphSmallUptoCardSaid : Prop := Claim7.holds Tryd.pinned (.plain (OpenSpec.upto glyphSmallSpec)) glyphSmallUptoCard
end Rows
end Go.Proofs.YtpnjdmfigbkicaaDoor
