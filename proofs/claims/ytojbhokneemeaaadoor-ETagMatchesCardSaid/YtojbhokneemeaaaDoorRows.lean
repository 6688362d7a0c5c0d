/-
  NARROWER THAN 'FOR EVERY INPUT', by the rows' own cells (each row's printed sentence says how): ETagLists: laid · ETagMays: laid · ETagBack: laid · ETagMatches: laid · ETagSmall: laid.
  DERIVED. THE GIVEN ROWS OF THIS SEAT. 5 by the template 'for every input the law returns true; each argument reads behind the call as it read before'; 0 by the template 'total and deterministic' (their statements: YtojbhokneemeaaaDoorTotals.lean).
  GIVEN WITH THE SEED: the statements are not yours to turn. If you find one false, say at which input.
  Laid BY PROGRAM, IN A SANDBOX (cutbox-rows.mjs): the forced cells as the released guide's own fill.sh prints them over the translation 86de27fa20713321… (all of the seat's roots in one cut). By AI agents, Wed Nov 11 2026. No macro, syntax, notation, axiom, sorry.
-/
import Derived.Test.YtojbhokneemeaaaDoorChecked
import GoSem.PinnedTables
import GoSem.Claim
import GoSem.ClaimJoined
import GoSem.ClaimMapViews
import Derived.JoinedTies
import Derived.KernelRfl
namespace Go.Proofs.YtojbhokneemeaaaDoor
/- THE CELL 'sum', in the pinned program and in every row, IS THE sha256 OF THE DUMP (.gsa) THAT YtojbhokneemeaaaDoorProg.lean LOADS. Nothing in Lean hashes anything: it is a label: what it is worth is what the hold of that sum in a sandbox is worth. -/
noncomputable def Tryd.pinned : Pinned := { name := "ytojbhokneemeaaadoor", sum := "86de27fa20713321acba8d0a53b3317e059c622480eff1ea59ca973c11eb2e1f", checked := Tryd.checked }
namespace Rows
def none {H : Type} : Left H := { results := [], args := [] }

/- WHAT THE LISTED PACKAGE-LEVEL VARIABLES READ AS WHEN THE CALL BEGINS. Each datum BY PROGRAM (the guide's laid-datum.mjs) off the statement by which the dump's own 'gosem.cut.vars' lays the variable. In a bare row this is a premise. The card (YtojbhokneemeaaaDoorCards.lean) ties it to the program's text. -/
def laid_unicode_utf8_acceptRanges {H : Type} : DataW H := .agg [.agg [.lit (.int .u8 128), .lit (.int .u8 191)], .agg [.lit (.int .u8 160), .lit (.int .u8 191)], .agg [.lit (.int .u8 128), .lit (.int .u8 159)], .agg [.lit (.int .u8 144), .lit (.int .u8 191)], .agg [.lit (.int .u8 128), .lit (.int .u8 143)], .agg [.lit (.int .u8 0), .lit (.int .u8 0)], .agg [.lit (.int .u8 0), .lit (.int .u8 0)], .agg [.lit (.int .u8 0), .lit (.int .u8 0)], .agg [.lit (.int .u8 0), .lit (.int .u8 0)], .agg [.lit (.int .u8 0), .lit (.int .u8 0)], .agg [.lit (.int .u8 0), .lit (.int .u8 0)], .agg [.lit (.int .u8 0), .lit (.int .u8 0)], .agg [.lit (.int .u8 0), .lit (.int .u8 0)], .agg [.lit (.int .u8 0), .lit (.int .u8 0)], .agg [.lit (.int .u8 0), .lit (.int .u8 0)], .agg [.lit (.int .u8 0), .lit (.int .u8 0)]]
/-- One of Go's own tables, pinned by name: the form's constant. -/
def laid_unicode_utf8_first : DataW Unit := Go.Pinned.utf8First

/-- 'broadsheetlaw17.ETagLists': WHATEVER THE INPUT: true; the input reads as it did. -/
def eTagListsSpec : ChangeSpec := { name := "eTagLists", fn := fun _ => fun
  | [d1, d2] => { results := [.lit (.bool true)], args := [d1, d2] }
  | _ => none }
def eTagListsRow : OpenClaim := { program := "ytojbhokneemeaaadoor", sum := "86de27fa20713321acba8d0a53b3317e059c622480eff1ea59ca973c11eb2e1f", func := "broadsheet/broadsheetlaw17.ETagLists", spec := "eTagLists", inPlace := ["internal/bytealg.IndexByteString", "internal/bytealg.IndexString"], unfollowed := true, recurses := true, named := ["unicode/utf8.first", "unicode/utf8.acceptRanges", "internal/bytealg.MaxLen"], apart := false, laid := [("unicode/utf8.acceptRanges", laid_unicode_utf8_acceptRanges), ("unicode/utf8.first", laid_unicode_utf8_first)] }
def ETagListsSaid : Prop := eTagListsRow.holds Tryd.pinned (OpenSpec.ofChange eTagListsSpec)

/-- ITS FALSE NEIGHBOUR: 'it returns false'. Refute it at one input. -/
def eTagListsWrong : ChangeSpec := { name := "eTagLists", fn := fun _ => fun
  | [d1, d2] => { results := [.lit (.bool false)], args := [d1, d2] }
  | _ => none }
def ETagListsWrongFalsely : Prop := eTagListsRow.holds Tryd.pinned (OpenSpec.ofChange eTagListsWrong)

/-- 'broadsheetlaw17.ETagMays': WHATEVER THE INPUT: true; the input reads as it did. -/
def eTagMaysSpec : ChangeSpec := { name := "eTagMays", fn := fun _ => fun
  | [d1, d2, d3, d4, d5, d6] => { results := [.lit (.bool true)], args := [d1, d2, d3, d4, d5, d6] }
  | _ => none }
def eTagMaysRow : OpenClaim := { program := "ytojbhokneemeaaadoor", sum := "86de27fa20713321acba8d0a53b3317e059c622480eff1ea59ca973c11eb2e1f", func := "broadsheet/broadsheetlaw17.ETagMays", spec := "eTagMays", inPlace := ["internal/bytealg.IndexByteString", "internal/bytealg.IndexString"], unfollowed := true, recurses := true, named := ["unicode/utf8.first", "unicode/utf8.acceptRanges", "internal/bytealg.MaxLen"], apart := false, laid := [("unicode/utf8.acceptRanges", laid_unicode_utf8_acceptRanges), ("unicode/utf8.first", laid_unicode_utf8_first)] }
def ETagMaysSaid : Prop := eTagMaysRow.holds Tryd.pinned (OpenSpec.ofChange eTagMaysSpec)

/-- ITS FALSE NEIGHBOUR: 'it returns false'. Refute it at one input. -/
def eTagMaysWrong : ChangeSpec := { name := "eTagMays", fn := fun _ => fun
  | [d1, d2, d3, d4, d5, d6] => { results := [.lit (.bool false)], args := [d1, d2, d3, d4, d5, d6] }
  | _ => none }
def ETagMaysWrongFalsely : Prop := eTagMaysRow.holds Tryd.pinned (OpenSpec.ofChange eTagMaysWrong)

/-- 'broadsheetlaw17.ETagBack': WHATEVER THE INPUT: true; the input reads as it did. -/
def eTagBackSpec : ChangeSpec := { name := "eTagBack", fn := fun _ => fun
  | [d1, d2] => { results := [.lit (.bool true)], args := [d1, d2] }
  | _ => none }
def eTagBackRow : OpenClaim := { program := "ytojbhokneemeaaadoor", sum := "86de27fa20713321acba8d0a53b3317e059c622480eff1ea59ca973c11eb2e1f", func := "broadsheet/broadsheetlaw17.ETagBack", spec := "eTagBack", inPlace := ["internal/bytealg.IndexByteString", "internal/bytealg.IndexString"], unfollowed := true, recurses := true, named := ["unicode/utf8.first", "unicode/utf8.acceptRanges", "internal/bytealg.MaxLen"], apart := false, laid := [("unicode/utf8.acceptRanges", laid_unicode_utf8_acceptRanges), ("unicode/utf8.first", laid_unicode_utf8_first)] }
def ETagBackSaid : Prop := eTagBackRow.holds Tryd.pinned (OpenSpec.ofChange eTagBackSpec)

/-- ITS FALSE NEIGHBOUR: 'it returns false'. Refute it at one input. -/
def eTagBackWrong : ChangeSpec := { name := "eTagBack", fn := fun _ => fun
  | [d1, d2] => { results := [.lit (.bool false)], args := [d1, d2] }
  | _ => none }
def ETagBackWrongFalsely : Prop := eTagBackRow.holds Tryd.pinned (OpenSpec.ofChange eTagBackWrong)

/-- 'broadsheetlaw17.ETagMatches': WHATEVER THE INPUT: true; the input reads as it did. -/
def eTagMatchesSpec : ChangeSpec := { name := "eTagMatches", fn := fun _ => fun
  | [d1, d2, d3] => { results := [.lit (.bool true)], args := [d1, d2, d3] }
  | _ => none }
def eTagMatchesRow : OpenClaim := { program := "ytojbhokneemeaaadoor", sum := "86de27fa20713321acba8d0a53b3317e059c622480eff1ea59ca973c11eb2e1f", func := "broadsheet/broadsheetlaw17.ETagMatches", spec := "eTagMatches", inPlace := ["internal/bytealg.IndexByteString", "internal/bytealg.IndexString"], unfollowed := true, recurses := true, named := ["unicode/utf8.first", "unicode/utf8.acceptRanges", "internal/bytealg.MaxLen"], apart := false, laid := [("unicode/utf8.acceptRanges", laid_unicode_utf8_acceptRanges), ("unicode/utf8.first", laid_unicode_utf8_first)] }
def ETagMatchesSaid : Prop := eTagMatchesRow.holds Tryd.pinned (OpenSpec.ofChange eTagMatchesSpec)

/-- ITS FALSE NEIGHBOUR: 'it returns false'. Refute it at one input. -/
def eTagMatchesWrong : ChangeSpec := { name := "eTagMatches", fn := fun _ => fun
  | [d1, d2, d3] => { results := [.lit (.bool false)], args := [d1, d2, d3] }
  | _ => none }
def ETagMatchesWrongFalsely : Prop := eTagMatchesRow.holds Tryd.pinned (OpenSpec.ofChange eTagMatchesWrong)

/-- 'broadsheetlaw17.ETagSmall': WHATEVER THE INPUT: true; the input reads as it did. -/
def eTagSmallSpec : ChangeSpec := { name := "eTagSmall", fn := fun _ => fun
  | [d1, d2, d3, d4, d5] => { results := [.lit (.bool true)], args := [d1, d2, d3, d4, d5] }
  | _ => none }
def eTagSmallRow : OpenClaim := { program := "ytojbhokneemeaaadoor", sum := "86de27fa20713321acba8d0a53b3317e059c622480eff1ea59ca973c11eb2e1f", func := "broadsheet/broadsheetlaw17.ETagSmall", spec := "eTagSmall", inPlace := ["internal/bytealg.IndexByteString", "internal/bytealg.IndexString"], unfollowed := true, recurses := true, named := ["unicode/utf8.first", "unicode/utf8.acceptRanges", "internal/bytealg.MaxLen"], apart := false, laid := [("unicode/utf8.acceptRanges", laid_unicode_utf8_acceptRanges), ("unicode/utf8.first", laid_unicode_utf8_first)] }
def ETagSmallSaid : Prop := eTagSmallRow.holds Tryd.pinned (OpenSpec.ofChange eTagSmallSpec)

/-- ITS FALSE NEIGHBOUR: 'it returns false'. Refute it at one input. -/
def eTagSmallWrong : ChangeSpec := { name := "eTagSmall", fn := fun _ => fun
  | [d1, d2, d3, d4, d5] => { results := [.lit (.bool false)], args := [d1, d2, d3, d4, d5] }
  | _ => none }
def ETagSmallWrongFalsely : Prop := eTagSmallRow.holds Tryd.pinned (OpenSpec.ofChange eTagSmallWrong)

/- THE SECOND FORM. 'bulk': how many values and letters a reading holds, each counted each time it is reached (what is shared counts as often as it is met; a slice's spare places count too). A statement '..UptoSaid' is the law's where the arguments, and the package variables that the reading takes, are together of bulk at most 1048576: NARROWER than '..Said'. Prove '..Said' where nothing that the law and all that it calls make is longer than what came in: it says more and counts as full. Else prove '..UptoSaid'. A law counts once. -/
mutual
def uptoBulk {H : Type} : DataW H → Nat
  | .lit (.string bytes) => bytes.length + 1
  | .lit _ => 1
  | .nil => 1
  | .ptr d => uptoBulk d + 1
  | .slice elems spare => uptoBulkAll elems + uptoBulkAll spare + 1
  | .agg parts => uptoBulkAll parts + 1
  | .iface _ d => uptoBulk d + 1
  | .map entries => uptoBulkEntries entries + 1
  | .held _ => 1
def uptoBulkAll {H : Type} : List (DataW H) → Nat
  | [] => 0
  | d :: r => uptoBulk d + uptoBulkAll r
def uptoBulkEntries {H : Type} : List (Lit × DataW H) → Nat
  | [] => 0
  | x :: r => uptoBulkEntry x + uptoBulkEntries r
def uptoBulkEntry {H : Type} : Lit × DataW H → Nat
  | (.string bytes, d) => bytes.length + uptoBulk d + 1
  | (_, d) => uptoBulk d + 1
 end
def uptoSmall : (H : Type) → List (DataW H) → Bool := fun _ ds => decide (uptoBulkAll ds ≤ 1048576)
def OpenSpec.upto (s : _root_.Go.ChangeSpec) : _root_.Go.OpenSpec := { _root_.Go.OpenSpec.ofChange s with cond := some uptoSmall }

/-- 'broadsheetlaw17.ETagLists', WHERE WHAT IT READS IS OF BULK AT MOST 1048576: true; the input reads as it did. -/
def eTagListsUptoRow : OpenClaim := { program := "ytojbhokneemeaaadoor", sum := "86de27fa20713321acba8d0a53b3317e059c622480eff1ea59ca973c11eb2e1f", func := "broadsheet/broadsheetlaw17.ETagLists", spec := "eTagLists", inPlace := ["internal/bytealg.IndexByteString", "internal/bytealg.IndexString"], unfollowed := true, recurses := true, named := ["unicode/utf8.first", "unicode/utf8.acceptRanges", "internal/bytealg.MaxLen"], apart := false, laid := [("unicode/utf8.acceptRanges", laid_unicode_utf8_acceptRanges), ("unicode/utf8.first", laid_unicode_utf8_first)], narrowed := true }
def ETagListsUptoSaid : Prop := eTagListsUptoRow.holds Tryd.pinned (OpenSpec.upto eTagListsSpec)

/-- 'broadsheetlaw17.ETagMays', WHERE WHAT IT READS IS OF BULK AT MOST 1048576: true; the input reads as it did. -/
def eTagMaysUptoRow : OpenClaim := { program := "ytojbhokneemeaaadoor", sum := "86de27fa20713321acba8d0a53b3317e059c622480eff1ea59ca973c11eb2e1f", func := "broadsheet/broadsheetlaw17.ETagMays", spec := "eTagMays", inPlace := ["internal/bytealg.IndexByteString", "internal/bytealg.IndexString"], unfollowed := true, recurses := true, named := ["unicode/utf8.first", "unicode/utf8.acceptRanges", "internal/bytealg.MaxLen"], apart := false, laid := [("unicode/utf8.acceptRanges", laid_unicode_utf8_acceptRanges), ("unicode/utf8.first", laid_unicode_utf8_first)], narrowed := true }
def ETagMaysUptoSaid : Prop := eTagMaysUptoRow.holds Tryd.pinned (OpenSpec.upto eTagMaysSpec)

/-- 'broadsheetlaw17.ETagBack', WHERE WHAT IT READS IS OF BULK AT MOST 1048576: true; the input reads as it did. -/
def eTagBackUptoRow : OpenClaim := { program := "ytojbhokneemeaaadoor", sum := "86de27fa20713321acba8d0a53b3317e059c622480eff1ea59ca973c11eb2e1f", func := "broadsheet/broadsheetlaw17.ETagBack", spec := "eTagBack", inPlace := ["internal/bytealg.IndexByteString", "internal/bytealg.IndexString"], unfollowed := true, recurses := true, named := ["unicode/utf8.first", "unicode/utf8.acceptRanges", "internal/bytealg.MaxLen"], apart := false, laid := [("unicode/utf8.acceptRanges", laid_unicode_utf8_acceptRanges), ("unicode/utf8.first", laid_unicode_utf8_first)], narrowed := true }
def ETagBackUptoSaid : Prop := eTagBackUptoRow.holds Tryd.pinned (OpenSpec.upto eTagBackSpec)

/-- 'broadsheetlaw17.ETagMatches', WHERE WHAT IT READS IS OF BULK AT MOST 1048576: true; the input reads as it did. -/
def eTagMatchesUptoRow : OpenClaim := { program := "ytojbhokneemeaaadoor", sum := "86de27fa20713321acba8d0a53b3317e059c622480eff1ea59ca973c11eb2e1f", func := "broadsheet/broadsheetlaw17.ETagMatches", spec := "eTagMatches", inPlace := ["internal/bytealg.IndexByteString", "internal/bytealg.IndexString"], unfollowed := true, recurses := true, named := ["unicode/utf8.first", "unicode/utf8.acceptRanges", "internal/bytealg.MaxLen"], apart := false, laid := [("unicode/utf8.acceptRanges", laid_unicode_utf8_acceptRanges), ("unicode/utf8.first", laid_unicode_utf8_first)], narrowed := true }
def ETagMatchesUptoSaid : Prop := eTagMatchesUptoRow.holds Tryd.pinned (OpenSpec.upto eTagMatchesSpec)

/-- 'broadsheetlaw17.ETagSmall', WHERE WHAT IT READS IS OF BULK AT MOST 1048576: true; the input reads as it did. -/
def eTagSmallUptoRow : OpenClaim := { program := "ytojbhokneemeaaadoor", sum := "86de27fa20713321acba8d0a53b3317e059c622480eff1ea59ca973c11eb2e1f", func := "broadsheet/broadsheetlaw17.ETagSmall", spec := "eTagSmall", inPlace := ["internal/bytealg.IndexByteString", "internal/bytealg.IndexString"], unfollowed := true, recurses := true, named := ["unicode/utf8.first", "unicode/utf8.acceptRanges", "internal/bytealg.MaxLen"], apart := false, laid := [("unicode/utf8.acceptRanges", laid_unicode_utf8_acceptRanges), ("unicode/utf8.first", laid_unicode_utf8_first)], narrowed := true }
def ETagSmallUptoSaid : Prop := eTagSmallUptoRow.holds Tryd.pinned (OpenSpec.upto eTagSmallSpec)

end Rows
end Go.Proofs.YtojbhokneemeaaaDoor
