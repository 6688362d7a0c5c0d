/-
  NARROWER THAN 'FOR EVERY INPUT', by the rows' own cells (each row's printed sentence says how): MediaParses: laid · MediaFits: laid · MediaTexts: laid · MediaBack: laid · MediaWide: laid · MediaSmall: laid.
  DERIVED. THE GIVEN ROWS OF THIS SEAT. 6 by the template 'for every input the law returns true; each argument reads behind the call as it read before'; 0 by the template 'total and deterministic' (their statements: YtbaodnmgggdcjaaDoorTotals.lean).
  GIVEN WITH THE SEED: the statements are not yours to turn. If you find one false, say at which input.
  Laid BY PROGRAM, IN A SANDBOX (cutbox-rows.mjs): the forced cells as the released guide's own fill.sh prints them over the translation 0711e7803fe8a163… (all of the seat's roots in one cut). By AI agents, Wed Nov 11 2026. No macro, syntax, notation, axiom, sorry.
-/
import Derived.Test.YtbaodnmgggdcjaaDoorChecked
import GoSem.PinnedTables
import GoSem.Claim
import GoSem.ClaimJoined
import GoSem.ClaimMapViews
import Derived.JoinedTies
import Derived.KernelRfl
namespace Go.Proofs.YtbaodnmgggdcjaaDoor
/- THE CELL 'sum', in the pinned program and in every row, IS THE sha256 OF THE DUMP (.gsa) THAT YtbaodnmgggdcjaaDoorProg.lean LOADS. Nothing in Lean hashes anything: it is a label: what it is worth is what the hold of that sum in a sandbox is worth. -/
noncomputable def Tryd.pinned : Pinned := { name := "ytbaodnmgggdcjaadoor", sum := "0711e7803fe8a163e02222fc659184140a535cfca5e1573e398aab52f155c70c", checked := Tryd.checked }
namespace Rows
def none {H : Type} : Left H := { results := [], args := [] }

/- WHAT THE LISTED PACKAGE-LEVEL VARIABLES READ AS WHEN THE CALL BEGINS. Each datum BY PROGRAM (the guide's laid-datum.mjs) off the statement by which the dump's own 'gosem.cut.vars' lays the variable. In a bare row this is a premise. The card (YtbaodnmgggdcjaaDoorCards.lean) ties it to the program's text. -/
def laid_unicode_utf8_acceptRanges {H : Type} : DataW H := .agg [.agg [.lit (.int .u8 128), .lit (.int .u8 191)], .agg [.lit (.int .u8 160), .lit (.int .u8 191)], .agg [.lit (.int .u8 128), .lit (.int .u8 159)], .agg [.lit (.int .u8 144), .lit (.int .u8 191)], .agg [.lit (.int .u8 128), .lit (.int .u8 143)], .agg [.lit (.int .u8 0), .lit (.int .u8 0)], .agg [.lit (.int .u8 0), .lit (.int .u8 0)], .agg [.lit (.int .u8 0), .lit (.int .u8 0)], .agg [.lit (.int .u8 0), .lit (.int .u8 0)], .agg [.lit (.int .u8 0), .lit (.int .u8 0)], .agg [.lit (.int .u8 0), .lit (.int .u8 0)], .agg [.lit (.int .u8 0), .lit (.int .u8 0)], .agg [.lit (.int .u8 0), .lit (.int .u8 0)], .agg [.lit (.int .u8 0), .lit (.int .u8 0)], .agg [.lit (.int .u8 0), .lit (.int .u8 0)], .agg [.lit (.int .u8 0), .lit (.int .u8 0)]]
/-- One of Go's own tables, pinned by name: the form's constant. -/
def laid_unicode_utf8_first : DataW Unit := Go.Pinned.utf8First

/-- 'broadsheetlaw13.MediaParses': WHATEVER THE INPUT: true; the input reads as it did. -/
def mediaParsesSpec : ChangeSpec := { name := "mediaParses", fn := fun _ => fun
  | [d] => { results := [.lit (.bool true)], args := [d] }
  | _ => none }
def mediaParsesRow : OpenClaim := { program := "ytbaodnmgggdcjaadoor", sum := "0711e7803fe8a163e02222fc659184140a535cfca5e1573e398aab52f155c70c", func := "broadsheet/broadsheetlaw13.MediaParses", spec := "mediaParses", inPlace := ["internal/bytealg.IndexByteString", "internal/bytealg.IndexString", "internal/abi.NoEscape", "internal/bytealg.CountString", "internal/bytealg.MakeNoZero"], named := ["unicode/utf8.first", "unicode/utf8.acceptRanges", "internal/bytealg.MaxLen"], apart := false, laid := [("unicode/utf8.acceptRanges", laid_unicode_utf8_acceptRanges), ("unicode/utf8.first", laid_unicode_utf8_first)] }
def MediaParsesSaid : Prop := mediaParsesRow.holds Tryd.pinned (OpenSpec.ofChange mediaParsesSpec)

/-- ITS FALSE NEIGHBOUR: 'it returns false'. Refute it at one input. -/
def mediaParsesWrong : ChangeSpec := { name := "mediaParses", fn := fun _ => fun
  | [d] => { results := [.lit (.bool false)], args := [d] }
  | _ => none }
def MediaParsesWrongFalsely : Prop := mediaParsesRow.holds Tryd.pinned (OpenSpec.ofChange mediaParsesWrong)

/-- 'broadsheetlaw13.MediaFits': WHATEVER THE INPUT: true; the input reads as it did. -/
def mediaFitsSpec : ChangeSpec := { name := "mediaFits", fn := fun _ => fun
  | [d1, d2, d3] => { results := [.lit (.bool true)], args := [d1, d2, d3] }
  | _ => none }
def mediaFitsRow : OpenClaim := { program := "ytbaodnmgggdcjaadoor", sum := "0711e7803fe8a163e02222fc659184140a535cfca5e1573e398aab52f155c70c", func := "broadsheet/broadsheetlaw13.MediaFits", spec := "mediaFits", inPlace := ["internal/bytealg.IndexByteString", "internal/bytealg.IndexString", "internal/abi.NoEscape", "internal/bytealg.CountString", "internal/bytealg.MakeNoZero"], named := ["unicode/utf8.first", "unicode/utf8.acceptRanges", "internal/bytealg.MaxLen"], apart := false, laid := [("unicode/utf8.acceptRanges", laid_unicode_utf8_acceptRanges), ("unicode/utf8.first", laid_unicode_utf8_first)] }
def MediaFitsSaid : Prop := mediaFitsRow.holds Tryd.pinned (OpenSpec.ofChange mediaFitsSpec)

/-- ITS FALSE NEIGHBOUR: 'it returns false'. Refute it at one input. -/
def mediaFitsWrong : ChangeSpec := { name := "mediaFits", fn := fun _ => fun
  | [d1, d2, d3] => { results := [.lit (.bool false)], args := [d1, d2, d3] }
  | _ => none }
def MediaFitsWrongFalsely : Prop := mediaFitsRow.holds Tryd.pinned (OpenSpec.ofChange mediaFitsWrong)

/-- 'broadsheetlaw13.MediaTexts': WHATEVER THE INPUT: true; the input reads as it did. -/
def mediaTextsSpec : ChangeSpec := { name := "mediaTexts", fn := fun _ => fun
  | [d1, d2, d3] => { results := [.lit (.bool true)], args := [d1, d2, d3] }
  | _ => none }
def mediaTextsRow : OpenClaim := { program := "ytbaodnmgggdcjaadoor", sum := "0711e7803fe8a163e02222fc659184140a535cfca5e1573e398aab52f155c70c", func := "broadsheet/broadsheetlaw13.MediaTexts", spec := "mediaTexts", inPlace := ["internal/bytealg.IndexByteString", "internal/bytealg.IndexString", "internal/abi.NoEscape", "internal/bytealg.CountString", "internal/bytealg.MakeNoZero"], named := ["unicode/utf8.first", "unicode/utf8.acceptRanges", "internal/bytealg.MaxLen"], apart := false, laid := [("unicode/utf8.acceptRanges", laid_unicode_utf8_acceptRanges), ("unicode/utf8.first", laid_unicode_utf8_first)] }
def MediaTextsSaid : Prop := mediaTextsRow.holds Tryd.pinned (OpenSpec.ofChange mediaTextsSpec)

/-- ITS FALSE NEIGHBOUR: 'it returns false'. Refute it at one input. -/
def mediaTextsWrong : ChangeSpec := { name := "mediaTexts", fn := fun _ => fun
  | [d1, d2, d3] => { results := [.lit (.bool false)], args := [d1, d2, d3] }
  | _ => none }
def MediaTextsWrongFalsely : Prop := mediaTextsRow.holds Tryd.pinned (OpenSpec.ofChange mediaTextsWrong)

/-- 'broadsheetlaw13.MediaBack': WHATEVER THE INPUT: true; the input reads as it did. -/
def mediaBackSpec : ChangeSpec := { name := "mediaBack", fn := fun _ => fun
  | [d] => { results := [.lit (.bool true)], args := [d] }
  | _ => none }
def mediaBackRow : OpenClaim := { program := "ytbaodnmgggdcjaadoor", sum := "0711e7803fe8a163e02222fc659184140a535cfca5e1573e398aab52f155c70c", func := "broadsheet/broadsheetlaw13.MediaBack", spec := "mediaBack", inPlace := ["internal/bytealg.IndexByteString", "internal/bytealg.IndexString", "internal/abi.NoEscape", "internal/bytealg.CountString", "internal/bytealg.MakeNoZero"], named := ["unicode/utf8.first", "unicode/utf8.acceptRanges", "internal/bytealg.MaxLen"], apart := false, laid := [("unicode/utf8.acceptRanges", laid_unicode_utf8_acceptRanges), ("unicode/utf8.first", laid_unicode_utf8_first)] }
def MediaBackSaid : Prop := mediaBackRow.holds Tryd.pinned (OpenSpec.ofChange mediaBackSpec)

/-- ITS FALSE NEIGHBOUR: 'it returns false'. Refute it at one input. -/
def mediaBackWrong : ChangeSpec := { name := "mediaBack", fn := fun _ => fun
  | [d] => { results := [.lit (.bool false)], args := [d] }
  | _ => none }
def MediaBackWrongFalsely : Prop := mediaBackRow.holds Tryd.pinned (OpenSpec.ofChange mediaBackWrong)

/-- 'broadsheetlaw13.MediaWide': WHATEVER THE INPUT: true; the input reads as it did. -/
def mediaWideSpec : ChangeSpec := { name := "mediaWide", fn := fun _ => fun
  | [d1, d2] => { results := [.lit (.bool true)], args := [d1, d2] }
  | _ => none }
def mediaWideRow : OpenClaim := { program := "ytbaodnmgggdcjaadoor", sum := "0711e7803fe8a163e02222fc659184140a535cfca5e1573e398aab52f155c70c", func := "broadsheet/broadsheetlaw13.MediaWide", spec := "mediaWide", inPlace := ["internal/bytealg.IndexByteString", "internal/bytealg.IndexString", "internal/abi.NoEscape", "internal/bytealg.CountString", "internal/bytealg.MakeNoZero"], named := ["unicode/utf8.first", "unicode/utf8.acceptRanges", "internal/bytealg.MaxLen"], apart := false, laid := [("unicode/utf8.acceptRanges", laid_unicode_utf8_acceptRanges), ("unicode/utf8.first", laid_unicode_utf8_first)] }
def MediaWideSaid : Prop := mediaWideRow.holds Tryd.pinned (OpenSpec.ofChange mediaWideSpec)

/-- ITS FALSE NEIGHBOUR: 'it returns false'. Refute it at one input. -/
def mediaWideWrong : ChangeSpec := { name := "mediaWide", fn := fun _ => fun
  | [d1, d2] => { results := [.lit (.bool false)], args := [d1, d2] }
  | _ => none }
def MediaWideWrongFalsely : Prop := mediaWideRow.holds Tryd.pinned (OpenSpec.ofChange mediaWideWrong)

/-- 'broadsheetlaw13.MediaSmall': WHATEVER THE INPUT: true; the input reads as it did. -/
def mediaSmallSpec : ChangeSpec := { name := "mediaSmall", fn := fun _ => fun
  | [d1, d2] => { results := [.lit (.bool true)], args := [d1, d2] }
  | _ => none }
def mediaSmallRow : OpenClaim := { program := "ytbaodnmgggdcjaadoor", sum := "0711e7803fe8a163e02222fc659184140a535cfca5e1573e398aab52f155c70c", func := "broadsheet/broadsheetlaw13.MediaSmall", spec := "mediaSmall", inPlace := ["internal/bytealg.IndexByteString", "internal/bytealg.IndexString", "internal/abi.NoEscape", "internal/bytealg.CountString", "internal/bytealg.MakeNoZero"], named := ["unicode/utf8.first", "unicode/utf8.acceptRanges", "internal/bytealg.MaxLen"], apart := false, laid := [("unicode/utf8.acceptRanges", laid_unicode_utf8_acceptRanges), ("unicode/utf8.first", laid_unicode_utf8_first)] }
def MediaSmallSaid : Prop := mediaSmallRow.holds Tryd.pinned (OpenSpec.ofChange mediaSmallSpec)

/-- ITS FALSE NEIGHBOUR: 'it returns false'. Refute it at one input. -/
def mediaSmallWrong : ChangeSpec := { name := "mediaSmall", fn := fun _ => fun
  | [d1, d2] => { results := [.lit (.bool false)], args := [d1, d2] }
  | _ => none }
def MediaSmallWrongFalsely : Prop := mediaSmallRow.holds Tryd.pinned (OpenSpec.ofChange mediaSmallWrong)

/- THE SECOND FORM. 'bulk': how many values and letters a reading holds, each counted each time it is reached (what is shared counts as often as it is met; a slice's spare places count too). A statement '..UptoSaid' is the law's where the arguments, and the package variables that the reading takes, are together of bulk at most 1048576: NARROWER than '..Said'. Prove '..Said' where nothing that the law and all that it calls make is longer than what came in: it says more and counts as full. Else prove '..UptoSaid'. A law counts once. -/
mutual
def uptoBulk {H : Type} : DataW H → Nat
  | .lit (.string bytes) => bytes.length + 1
  | .lit _ => 1
  | .nil => 1
  | .ptr d => uptoBulk d + 1
  | .slice elems spare => uptoBulkAll elems + uptoBulkAll spare + 1
  | .agg parts => uptoBulkAll parts + 1
  | .iface _ d => uptoBulk d + 1
  | .map entries => uptoBulkEntries entries + 1
  | .held _ => 1
def uptoBulkAll {H : Type} : List (DataW H) → Nat
  | [] => 0
  | d :: r => uptoBulk d + uptoBulkAll r
def uptoBulkEntries {H : Type} : List (Lit × DataW H) → Nat
  | [] => 0
  | x :: r => uptoBulkEntry x + uptoBulkEntries r
def uptoBulkEntry {H : Type} : Lit × DataW H → Nat
  | (.string bytes, d) => bytes.length + uptoBulk d + 1
  | (_, d) => uptoBulk d + 1
 end
def uptoSmall : (H : Type) → List (DataW H) → Bool := fun _ ds => decide (uptoBulkAll ds ≤ 1048576)
def OpenSpec.upto (s : _root_.Go.ChangeSpec) : _root_.Go.OpenSpec := { _root_.Go.OpenSpec.ofChange s with cond := some uptoSmall }

/-- 'broadsheetlaw13.MediaParses', WHERE WHAT IT READS IS OF BULK AT MOST 1048576: true; the input reads as it did. -/
def mediaParsesUptoRow : OpenClaim := { program := "ytbaodnmgggdcjaadoor", sum := "0711e7803fe8a163e02222fc659184140a535cfca5e1573e398aab52f155c70c", func := "broadsheet/broadsheetlaw13.MediaParses", spec := "mediaParses", inPlace := ["internal/bytealg.IndexByteString", "internal/bytealg.IndexString", "internal/abi.NoEscape", "internal/bytealg.CountString", "internal/bytealg.MakeNoZero"], named := ["unicode/utf8.first", "unicode/utf8.acceptRanges", "internal/bytealg.MaxLen"], apart := false, laid := [("unicode/utf8.acceptRanges", laid_unicode_utf8_acceptRanges), ("unicode/utf8.first", laid_unicode_utf8_first)], narrowed := true }
def MediaParsesUptoSaid : Prop := mediaParsesUptoRow.holds Tryd.pinned (OpenSpec.upto mediaParsesSpec)

/-- 'broadsheetlaw13.MediaFits', WHERE WHAT IT READS IS OF BULK AT MOST 1048576: true; the input reads as it did. -/
def mediaFitsUptoRow : OpenClaim := { program := "ytbaodnmgggdcjaadoor", sum := "0711e7803fe8a163e02222fc659184140a535cfca5e1573e398aab52f155c70c", func := "broadsheet/broadsheetlaw13.MediaFits", spec := "mediaFits", inPlace := ["internal/bytealg.IndexByteString", "internal/bytealg.IndexString", "internal/abi.NoEscape", "internal/bytealg.CountString", "internal/bytealg.MakeNoZero"], named := ["unicode/utf8.first", "unicode/utf8.acceptRanges", "internal/bytealg.MaxLen"], apart := false, laid := [("unicode/utf8.acceptRanges", laid_unicode_utf8_acceptRanges), ("unicode/utf8.first", laid_unicode_utf8_first)], narrowed := true }
def MediaFitsUptoSaid : Prop := mediaFitsUptoRow.holds Tryd.pinned (OpenSpec.upto mediaFitsSpec)

/-- 'broadsheetlaw13.MediaTexts', WHERE WHAT IT READS IS OF BULK AT MOST 1048576: true; the input reads as it did. -/
def mediaTextsUptoRow : OpenClaim := { program := "ytbaodnmgggdcjaadoor", sum := "0711e7803fe8a163e02222fc659184140a535cfca5e1573e398aab52f155c70c", func := "broadsheet/broadsheetlaw13.MediaTexts", spec := "mediaTexts", inPlace := ["internal/bytealg.IndexByteString", "internal/bytealg.IndexString", "internal/abi.NoEscape", "internal/bytealg.CountString", "internal/bytealg.MakeNoZero"], named := ["unicode/utf8.first", "unicode/utf8.acceptRanges", "internal/bytealg.MaxLen"], apart := false, laid := [("unicode/utf8.acceptRanges", laid_unicode_utf8_acceptRanges), ("unicode/utf8.first", laid_unicode_utf8_first)], narrowed := true }
def MediaTextsUptoSaid : Prop := mediaTextsUptoRow.holds Tryd.pinned (OpenSpec.upto mediaTextsSpec)

/-- 'broadsheetlaw13.MediaBack', WHERE WHAT IT READS IS OF BULK AT MOST 1048576: true; the input reads as it did. -/
def mediaBackUptoRow : OpenClaim := { program := "ytbaodnmgggdcjaadoor", sum := "0711e7803fe8a163e02222fc659184140a535cfca5e1573e398aab52f155c70c", func := "broadsheet/broadsheetlaw13.MediaBack", spec := "mediaBack", inPlace := ["internal/bytealg.IndexByteString", "internal/bytealg.IndexString", "internal/abi.NoEscape", "internal/bytealg.CountString", "internal/bytealg.MakeNoZero"], named := ["unicode/utf8.first", "unicode/utf8.acceptRanges", "internal/bytealg.MaxLen"], apart := false, laid := [("unicode/utf8.acceptRanges", laid_unicode_utf8_acceptRanges), ("unicode/utf8.first", laid_unicode_utf8_first)], narrowed := true }
def MediaBackUptoSaid : Prop := mediaBackUptoRow.holds Tryd.pinned (OpenSpec.upto mediaBackSpec)

/-- 'broadsheetlaw13.MediaWide', WHERE WHAT IT READS IS OF BULK AT MOST 1048576: true; the input reads as it did. -/
def mediaWideUptoRow : OpenClaim := { program := "ytbaodnmgggdcjaadoor", sum := "0711e7803fe8a163e02222fc659184140a535cfca5e1573e398aab52f155c70c", func := "broadsheet/broadsheetlaw13.MediaWide", spec := "mediaWide", inPlace := ["internal/bytealg.IndexByteString", "internal/bytealg.IndexString", "internal/abi.NoEscape", "internal/bytealg.CountString", "internal/bytealg.MakeNoZero"], named := ["unicode/utf8.first", "unicode/utf8.acceptRanges", "internal/bytealg.MaxLen"], apart := false, laid := [("unicode/utf8.acceptRanges", laid_unicode_utf8_acceptRanges), ("unicode/utf8.first", laid_unicode_utf8_first)], narrowed := true }
def MediaWideUptoSaid : Prop := mediaWideUptoRow.holds Tryd.pinned (OpenSpec.upto mediaWideSpec)

/-- 'broadsheetlaw13.MediaSmall', WHERE WHAT IT READS IS OF BULK AT MOST 1048576: true; the input reads as it did. -/
def mediaSmallUptoRow : OpenClaim := { program := "ytbaodnmgggdcjaadoor", sum := "0711e7803fe8a163e02222fc659184140a535cfca5e1573e398aab52f155c70c", func := "broadsheet/broadsheetlaw13.MediaSmall", spec := "mediaSmall", inPlace := ["internal/bytealg.IndexByteString", "internal/bytealg.IndexString", "internal/abi.NoEscape", "internal/bytealg.CountString", "internal/bytealg.MakeNoZero"], named := ["unicode/utf8.first", "unicode/utf8.acceptRanges", "internal/bytealg.MaxLen"], apart := false, laid := [("unicode/utf8.acceptRanges", laid_unicode_utf8_acceptRanges), ("unicode/utf8.first", laid_unicode_utf8_first)], narrowed := true }
def MediaSmallUptoSaid : Prop := mediaSmallUptoRow.holds Tryd.pinned (OpenSpec.upto mediaSmallSpec)

end Rows
end Go.Proofs.YtbaodnmgggdcjaaDoor
