/-
  DERIVED. GIVEN WITH THE SEED: THE CARDS: each row of YtojbhokneemeaaaDoorRows.lean that lists a variable, with what it lists TIED to the program's text (the seventh form; the later family's looks); each row that meets fmt, with fmt's text TOLD by the authors' own Lean function (tested against real Go, not proved from fmt's source: count such statements apart). THE CARD IS WHAT COUNTS. Prove the row's statement (the work); the ties are given (YtojbhokneemeaaaDoorTie.lean); close each card by the builder's one call (the guide's Derived/Test/ToyasCard.lean, 'card_holds'). Laid BY PROGRAM, IN A SANDBOX (cutbox-door.mjs). By AI agents, Wed Nov 11 2026. No macro, syntax, notation, axiom, sorry.
-/
import Derived.Test.YtojbhokneemeaaaDoorRows
import GoSem.ClaimSeven
namespace Go.Proofs.YtojbhokneemeaaaDoor
namespace Rows

/-- THE TIED CARD OF 'broadsheetlaw17.ETagLists'. -/
def eTagListsCard : Claim7 := { stood := { row := eTagListsRow, standIns := [], harness := (true, "f971017c3162804d4a5c3c13834be046fa39a76c91a99e45551b30a9ccb810e3"), looks := false }, kinds := [], alts := [], laidByText := true, laidKinds := [.data, .pinned], laidTests := true, laidLooks := .later }
def ETagListsCardSaid : Prop := Claim7.holds Tryd.pinned (.plain (OpenSpec.ofChange eTagListsSpec)) eTagListsCard

/-- THE TIED CARD OF 'broadsheetlaw17.ETagMays'. -/
def eTagMaysCard : Claim7 := { stood := { row := eTagMaysRow, standIns := [], harness := (true, "f971017c3162804d4a5c3c13834be046fa39a76c91a99e45551b30a9ccb810e3"), looks := false }, kinds := [], alts := [], laidByText := true, laidKinds := [.data, .pinned], laidTests := true, laidLooks := .later }
def ETagMaysCardSaid : Prop := Claim7.holds Tryd.pinned (.plain (OpenSpec.ofChange eTagMaysSpec)) eTagMaysCard

/-- THE TIED CARD OF 'broadsheetlaw17.ETagBack'. -/
def eTagBackCard : Claim7 := { stood := { row := eTagBackRow, standIns := [], harness := (true, "f971017c3162804d4a5c3c13834be046fa39a76c91a99e45551b30a9ccb810e3"), looks := false }, kinds := [], alts := [], laidByText := true, laidKinds := [.data, .pinned], laidTests := true, laidLooks := .later }
def ETagBackCardSaid : Prop := Claim7.holds Tryd.pinned (.plain (OpenSpec.ofChange eTagBackSpec)) eTagBackCard

/-- THE TIED CARD OF 'broadsheetlaw17.ETagMatches'. -/
def eTagMatchesCard : Claim7 := { stood := { row := eTagMatchesRow, standIns := [], harness := (true, "f971017c3162804d4a5c3c13834be046fa39a76c91a99e45551b30a9ccb810e3"), looks := false }, kinds := [], alts := [], laidByText := true, laidKinds := [.data, .pinned], laidTests := true, laidLooks := .later }
def ETagMatchesCardSaid : Prop := Claim7.holds Tryd.pinned (.plain (OpenSpec.ofChange eTagMatchesSpec)) eTagMatchesCard

/-- THE TIED CARD OF 'broadsheetlaw17.ETagSmall'. -/
def eTagSmallCard : Claim7 := { stood := { row := eTagSmallRow, standIns := [], harness := (true, "f971017c3162804d4a5c3c13834be046fa39a76c91a99e45551b30a9ccb810e3"), looks := false }, kinds := [], alts := [], laidByText := true, laidKinds := [.data, .pinned], laidTests := true, laidLooks := .later }
def ETagSmallCardSaid : Prop := Claim7.holds Tryd.pinned (.plain (OpenSpec.ofChange eTagSmallSpec)) eTagSmallCard

/-- THE SECOND FORM's CARD OF 'broadsheetlaw17.ETagLists'. -/
def eTagListsUptoCard : Claim7 := { stood := { row := eTagListsUptoRow, standIns := [], harness := (true, "f971017c3162804d4a5c3c13834be046fa39a76c91a99e45551b30a9ccb810e3"), looks := false }, kinds := [], alts := [], laidByText := true, laidKinds := [.data, .pinned], laidTests := true, laidLooks := .later }
def ETagListsUptoCardSaid : Prop := Claim7.holds Tryd.pinned (.plain (OpenSpec.upto eTagListsSpec)) eTagListsUptoCard

/-- THE SECOND FORM's CARD OF 'broadsheetlaw17.ETagMays'. -/
def eTagMaysUptoCard : Claim7 := { stood := { row := eTagMaysUptoRow, standIns := [], harness := (true, "f971017c3162804d4a5c3c13834be046fa39a76c91a99e45551b30a9ccb810e3"), looks := false }, kinds := [], alts := [], laidByText := true, laidKinds := [.data, .pinned], laidTests := true, laidLooks := .later }
def ETagMaysUptoCardSaid : Prop := Claim7.holds Tryd.pinned (.plain (OpenSpec.upto eTagMaysSpec)) eTagMaysUptoCard

/-- THE SECOND FORM's CARD OF 'broadsheetlaw17.ETagBack'. -/
def eTagBackUptoCard : Claim7 := { stood := { row := eTagBackUptoRow, standIns := [], harness := (true, "f971017c3162804d4a5c3c13834be046fa39a76c91a99e45551b30a9ccb810e3"), looks := false }, kinds := [], alts := [], laidByText := true, laidKinds := [.data, .pinned], laidTests := true, laidLooks := .later }
def ETagBackUptoCardSaid : Prop := Claim7.holds Tryd.pinned (.plain (OpenSpec.upto eTagBackSpec)) eTagBackUptoCard

/-- THE SECOND FORM's CARD OF 'broadsheetlaw17.ETagMatches'. -/
def eTagMatchesUptoCard : Claim7 := { stood := { row := eTagMatchesUptoRow, standIns := [], harness := (true, "f971017c3162804d4a5c3c13834be046fa39a76c91a99e45551b30a9ccb810e3"), looks := false }, kinds := [], alts := [], laidByText := true, laidKinds := [.data, .pinned], laidTests := true, laidLooks := .later }
def ETagMatchesUptoCardSaid : Prop := Claim7.holds Tryd.pinned (.plain (OpenSpec.upto eTagMatchesSpec)) eTagMatchesUptoCard

/-- THE SECOND FORM's CARD OF 'broadsheetlaw17.ETagSmall'. -/
def eTagSmallUptoCard : Claim7 := { stood := { row := eTagSmallUptoRow, standIns := [], harness := (true, "f971017c3162804d4a5c3c13834be046fa39a76c91a99e45551b30a9ccb810e3"), looks := false }, kinds := [], alts := [], laidByText := true, laidKinds := [.data, .pinned], laidTests := true, laidLooks := .later }
def ETagSmallUptoCardSaid : Prop := Claim7.holds Tryd.pinned (.plain (OpenSpec.upto eTagSmallSpec)) eTagSmallUptoCard
end Rows
end Go.Proofs.YtojbhokneemeaaaDoor
