/-
  No cell of these rows narrows 'for every input' (looked for: loops, veiled, ifaces, maps, wideKeys, modest, calm, conditions, laid).
  DERIVED. THE GIVEN ROWS OF THIS SEAT. 5 by the template 'for every input the law returns true; each argument reads behind the call as it read before'; 0 by the template 'total and deterministic' (their statements: YtbehkmihmffoeaaTotals.lean).
  GIVEN WITH THE SEED: the statements are not yours to turn. If you find one false, say at which input.
  Laid BY PROGRAM, IN A SANDBOX (cutbox-rows.mjs): the forced cells as the released guide's own fill.sh prints them over the translation 2e9ea380890c9ecf… (all of the seat's roots in one cut). By AI agents, Wed Nov 11 2026. No macro, syntax, notation, axiom, sorry.
-/
import Derived.Test.YtbehkmihmffoeaaChecked
import GoSem.Claim
import GoSem.ClaimJoined
import GoSem.ClaimMapViews
import Derived.JoinedTies
import Derived.KernelRfl
namespace Go.Proofs.Ytbehkmihmffoeaa
/- THE CELL 'sum', in the pinned program and in every row, IS THE sha256 OF THE DUMP (.gsa) THAT YtbehkmihmffoeaaProg.lean LOADS. Nothing in Lean hashes anything: it is a label: what it is worth is what the hold of that sum in a sandbox is worth. -/
noncomputable def Try.pinned : Pinned := { name := "ytbehkmihmffoeaa", sum := "2e9ea380890c9ecff46e09d843a08edbc7f9ae4067dc09a865bc15ffec6fa76b", checked := Try.checked }
namespace Rows
def none {H : Type} : Left H := { results := [], args := [] }

/-- 'broadsheetlaw08.PrefixSplits': WHATEVER THE INPUT: true; the input reads as it did. -/
def prefixSplitsSpec : ChangeSpec := { name := "prefixSplits", fn := fun _ => fun
  | [d1, d2, d3] => { results := [.lit (.bool true)], args := [d1, d2, d3] }
  | _ => none }
def prefixSplitsRow : OpenClaim := { program := "ytbehkmihmffoeaa", sum := "2e9ea380890c9ecff46e09d843a08edbc7f9ae4067dc09a865bc15ffec6fa76b", func := "broadsheet/broadsheetlaw08.PrefixSplits", spec := "prefixSplits", inPlace := ["internal/bytealg.IndexByteString", "internal/bytealg.IndexString"], unfollowed := true, recurses := true, named := ["internal/bytealg.MaxLen"], apart := false }
def PrefixSplitsSaid : Prop := prefixSplitsRow.holds Try.pinned (OpenSpec.ofChange prefixSplitsSpec)

/-- ITS FALSE NEIGHBOUR: 'it returns false'. Refute it at one input. -/
def prefixSplitsWrong : ChangeSpec := { name := "prefixSplits", fn := fun _ => fun
  | [d1, d2, d3] => { results := [.lit (.bool false)], args := [d1, d2, d3] }
  | _ => none }
def PrefixSplitsWrongFalsely : Prop := prefixSplitsRow.holds Try.pinned (OpenSpec.ofChange prefixSplitsWrong)

/-- 'broadsheetlaw08.PrefixDeclares': WHATEVER THE INPUT: true; the input reads as it did. -/
def prefixDeclaresSpec : ChangeSpec := { name := "prefixDeclares", fn := fun _ => fun
  | [d] => { results := [.lit (.bool true)], args := [d] }
  | _ => none }
def prefixDeclaresRow : OpenClaim := { program := "ytbehkmihmffoeaa", sum := "2e9ea380890c9ecff46e09d843a08edbc7f9ae4067dc09a865bc15ffec6fa76b", func := "broadsheet/broadsheetlaw08.PrefixDeclares", spec := "prefixDeclares", inPlace := ["internal/bytealg.IndexByteString", "internal/bytealg.IndexString"], unfollowed := true, recurses := true, named := ["internal/bytealg.MaxLen"], apart := false }
def PrefixDeclaresSaid : Prop := prefixDeclaresRow.holds Try.pinned (OpenSpec.ofChange prefixDeclaresSpec)

/-- ITS FALSE NEIGHBOUR: 'it returns false'. Refute it at one input. -/
def prefixDeclaresWrong : ChangeSpec := { name := "prefixDeclares", fn := fun _ => fun
  | [d] => { results := [.lit (.bool false)], args := [d] }
  | _ => none }
def PrefixDeclaresWrongFalsely : Prop := prefixDeclaresRow.holds Try.pinned (OpenSpec.ofChange prefixDeclaresWrong)

/-- 'broadsheetlaw08.PrefixKeeps': WHATEVER THE INPUT: true; the input reads as it did. -/
def prefixKeepsSpec : ChangeSpec := { name := "prefixKeeps", fn := fun _ => fun
  | [d1, d2, d3, d4] => { results := [.lit (.bool true)], args := [d1, d2, d3, d4] }
  | _ => none }
def prefixKeepsRow : OpenClaim := { program := "ytbehkmihmffoeaa", sum := "2e9ea380890c9ecff46e09d843a08edbc7f9ae4067dc09a865bc15ffec6fa76b", func := "broadsheet/broadsheetlaw08.PrefixKeeps", spec := "prefixKeeps", inPlace := ["internal/bytealg.IndexByteString", "internal/bytealg.IndexString"], unfollowed := true, recurses := true, named := ["internal/bytealg.MaxLen"], apart := false }
def PrefixKeepsSaid : Prop := prefixKeepsRow.holds Try.pinned (OpenSpec.ofChange prefixKeepsSpec)

/-- ITS FALSE NEIGHBOUR: 'it returns false'. Refute it at one input. -/
def prefixKeepsWrong : ChangeSpec := { name := "prefixKeeps", fn := fun _ => fun
  | [d1, d2, d3, d4] => { results := [.lit (.bool false)], args := [d1, d2, d3, d4] }
  | _ => none }
def PrefixKeepsWrongFalsely : Prop := prefixKeepsRow.holds Try.pinned (OpenSpec.ofChange prefixKeepsWrong)

/-- 'broadsheetlaw08.PrefixBinds': WHATEVER THE INPUT: true; the input reads as it did. -/
def prefixBindsSpec : ChangeSpec := { name := "prefixBinds", fn := fun _ => fun
  | [d1, d2] => { results := [.lit (.bool true)], args := [d1, d2] }
  | _ => none }
def prefixBindsRow : OpenClaim := { program := "ytbehkmihmffoeaa", sum := "2e9ea380890c9ecff46e09d843a08edbc7f9ae4067dc09a865bc15ffec6fa76b", func := "broadsheet/broadsheetlaw08.PrefixBinds", spec := "prefixBinds", inPlace := ["internal/bytealg.IndexByteString", "internal/bytealg.IndexString"], unfollowed := true, recurses := true, named := ["internal/bytealg.MaxLen"], apart := false }
def PrefixBindsSaid : Prop := prefixBindsRow.holds Try.pinned (OpenSpec.ofChange prefixBindsSpec)

/-- ITS FALSE NEIGHBOUR: 'it returns false'. Refute it at one input. -/
def prefixBindsWrong : ChangeSpec := { name := "prefixBinds", fn := fun _ => fun
  | [d1, d2] => { results := [.lit (.bool false)], args := [d1, d2] }
  | _ => none }
def PrefixBindsWrongFalsely : Prop := prefixBindsRow.holds Try.pinned (OpenSpec.ofChange prefixBindsWrong)

/-- 'broadsheetlaw08.PrefixSmall': WHATEVER THE INPUT: true; the input reads as it did. -/
def prefixSmallSpec : ChangeSpec := { name := "prefixSmall", fn := fun _ => fun
  | [d1, d2, d3] => { results := [.lit (.bool true)], args := [d1, d2, d3] }
  | _ => none }
def prefixSmallRow : OpenClaim := { program := "ytbehkmihmffoeaa", sum := "2e9ea380890c9ecff46e09d843a08edbc7f9ae4067dc09a865bc15ffec6fa76b", func := "broadsheet/broadsheetlaw08.PrefixSmall", spec := "prefixSmall", inPlace := ["internal/bytealg.IndexByteString", "internal/bytealg.IndexString"], unfollowed := true, recurses := true, named := ["internal/bytealg.MaxLen"], apart := false }
def PrefixSmallSaid : Prop := prefixSmallRow.holds Try.pinned (OpenSpec.ofChange prefixSmallSpec)

/-- ITS FALSE NEIGHBOUR: 'it returns false'. Refute it at one input. -/
def prefixSmallWrong : ChangeSpec := { name := "prefixSmall", fn := fun _ => fun
  | [d1, d2, d3] => { results := [.lit (.bool false)], args := [d1, d2, d3] }
  | _ => none }
def PrefixSmallWrongFalsely : Prop := prefixSmallRow.holds Try.pinned (OpenSpec.ofChange prefixSmallWrong)

/- THE SECOND FORM. 'bulk': how many values and letters a reading holds, each counted each time it is reached (what is shared counts as often as it is met; a slice's spare places count too). A statement '..UptoSaid' is the law's where the arguments, and the package variables that the reading takes, are together of bulk at most 1048576: NARROWER than '..Said'. Prove '..Said' where nothing that the law and all that it calls make is longer than what came in: it says more and counts as full. Else prove '..UptoSaid'. A law counts once. -/
mutual
def uptoBulk {H : Type} : DataW H → Nat
  | .lit (.string bytes) => bytes.length + 1
  | .lit _ => 1
  | .nil => 1
  | .ptr d => uptoBulk d + 1
  | .slice elems spare => uptoBulkAll elems + uptoBulkAll spare + 1
  | .agg parts => uptoBulkAll parts + 1
  | .iface _ d => uptoBulk d + 1
  | .map entries => uptoBulkEntries entries + 1
  | .held _ => 1
def uptoBulkAll {H : Type} : List (DataW H) → Nat
  | [] => 0
  | d :: r => uptoBulk d + uptoBulkAll r
def uptoBulkEntries {H : Type} : List (Lit × DataW H) → Nat
  | [] => 0
  | x :: r => uptoBulkEntry x + uptoBulkEntries r
def uptoBulkEntry {H : Type} : Lit × DataW H → Nat
  | (.string bytes, d) => bytes.length + uptoBulk d + 1
  | (_, d) => uptoBulk d + 1
 end
def uptoSmall : (H : Type) → List (DataW H) → Bool := fun _ ds => decide (uptoBulkAll ds ≤ 1048576)
def OpenSpec.upto (s : _root_.Go.ChangeSpec) : _root_.Go.OpenSpec := { _root_.Go.OpenSpec.ofChange s with cond := some uptoSmall }

/-- 'broadsheetlaw08.PrefixSplits', WHERE WHAT IT READS IS OF BULK AT MOST 1048576: true; the input reads as it did. -/
def prefixSplitsUptoRow : OpenClaim := { program := "ytbehkmihmffoeaa", sum := "2e9ea380890c9ecff46e09d843a08edbc7f9ae4067dc09a865bc15ffec6fa76b", func := "broadsheet/broadsheetlaw08.PrefixSplits", spec := "prefixSplits", inPlace := ["internal/bytealg.IndexByteString", "internal/bytealg.IndexString"], unfollowed := true, recurses := true, named := ["internal/bytealg.MaxLen"], apart := false, narrowed := true }
def PrefixSplitsUptoSaid : Prop := prefixSplitsUptoRow.holds Try.pinned (OpenSpec.upto prefixSplitsSpec)

/-- 'broadsheetlaw08.PrefixDeclares', WHERE WHAT IT READS IS OF BULK AT MOST 1048576: true; the input reads as it did. -/
def prefixDeclaresUptoRow : OpenClaim := { program := "ytbehkmihmffoeaa", sum := "2e9ea380890c9ecff46e09d843a08edbc7f9ae4067dc09a865bc15ffec6fa76b", func := "broadsheet/broadsheetlaw08.PrefixDeclares", spec := "prefixDeclares", inPlace := ["internal/bytealg.IndexByteString", "internal/bytealg.IndexString"], unfollowed := true, recurses := true, named := ["internal/bytealg.MaxLen"], apart := false, narrowed := true }
def PrefixDeclaresUptoSaid : Prop := prefixDeclaresUptoRow.holds Try.pinned (OpenSpec.upto prefixDeclaresSpec)

/-- 'broadsheetlaw08.PrefixKeeps', WHERE WHAT IT READS IS OF BULK AT MOST 1048576: true; the input reads as it did. -/
def prefixKeepsUptoRow : OpenClaim := { program := "ytbehkmihmffoeaa", sum := "2e9ea380890c9ecff46e09d843a08edbc7f9ae4067dc09a865bc15ffec6fa76b", func := "broadsheet/broadsheetlaw08.PrefixKeeps", spec := "prefixKeeps", inPlace := ["internal/bytealg.IndexByteString", "internal/bytealg.IndexString"], unfollowed := true, recurses := true, named := ["internal/bytealg.MaxLen"], apart := false, narrowed := true }
def PrefixKeepsUptoSaid : Prop := prefixKeepsUptoRow.holds Try.pinned (OpenSpec.upto prefixKeepsSpec)

/-- 'broadsheetlaw08.PrefixBinds', WHERE WHAT IT READS IS OF BULK AT MOST 1048576: true; the input reads as it did. -/
def prefixBindsUptoRow : OpenClaim := { program := "ytbehkmihmffoeaa", sum := "2e9ea380890c9ecff46e09d843a08edbc7f9ae4067dc09a865bc15ffec6fa76b", func := "broadsheet/broadsheetlaw08.PrefixBinds", spec := "prefixBinds", inPlace := ["internal/bytealg.IndexByteString", "internal/bytealg.IndexString"], unfollowed := true, recurses := true, named := ["internal/bytealg.MaxLen"], apart := false, narrowed := true }
def PrefixBindsUptoSaid : Prop := prefixBindsUptoRow.holds Try.pinned (OpenSpec.upto prefixBindsSpec)

/-- 'broadsheetlaw08.PrefixSmall', WHERE WHAT IT READS IS OF BULK AT MOST 1048576: true; the input reads as it did. -/
def prefixSmallUptoRow : OpenClaim := { program := "ytbehkmihmffoeaa", sum := "2e9ea380890c9ecff46e09d843a08edbc7f9ae4067dc09a865bc15ffec6fa76b", func := "broadsheet/broadsheetlaw08.PrefixSmall", spec := "prefixSmall", inPlace := ["internal/bytealg.IndexByteString", "internal/bytealg.IndexString"], unfollowed := true, recurses := true, named := ["internal/bytealg.MaxLen"], apart := false, narrowed := true }
def PrefixSmallUptoSaid : Prop := prefixSmallUptoRow.holds Try.pinned (OpenSpec.upto prefixSmallSpec)

end Rows
end Go.Proofs.Ytbehkmihmffoeaa
