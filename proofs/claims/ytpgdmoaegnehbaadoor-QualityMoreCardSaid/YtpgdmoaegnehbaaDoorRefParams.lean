/-
  What the document's own word of parameters comes to: contract of Params.
-/
import Derived.Test.YtpgdmoaegnehbaaDoorRefVal
namespace Go.Proofs.YtpgdmoaegnehbaaDoor
open Go.RowKit

/-- Params' answers. -/
def prL (s : ByteArray) : List Pair := (Md.paramsG [] s.data.toList).getD []
def prC (s : ByteArray) : Bool := (Md.paramsG [] s.data.toList).isSome
theorem pr_none {s : ByteArray} (h : Md.paramsG [] s.data.toList = none) : prL s = [] ∧ prC s = false := by unfold prL prC; rw [h]; exact ⟨rfl, rfl⟩
theorem pr_some {s : ByteArray} {l : List Pair} (h : Md.paramsG [] s.data.toList = some l) : prL s = l ∧ prC s = true := by unfold prL prC; rw [h]; exact ⟨rfl, rfl⟩

end Go.Proofs.YtpgdmoaegnehbaaDoor
