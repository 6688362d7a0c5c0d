/-
  What the document's own words of quoted texts and of values come to: contracts of Quoted, value.
-/
import Derived.Test.YtpgdmoaegnehbaaDoorRefLow
namespace Go.Proofs.YtpgdmoaegnehbaaDoor
open Go.RowKit

/-- Quoted's answers. -/
def quA (s : ByteArray) : ByteArray := match Md.quo [] s.data.toList with | some x => ⟨x.1.toArray⟩ | none => ⟨#[]⟩
def quB (s : ByteArray) : ByteArray := match Md.quo [] s.data.toList with | some x => ⟨x.2.toArray⟩ | none => ⟨#[]⟩
def quC (s : ByteArray) : Bool := (Md.quo [] s.data.toList).isSome
theorem qu_none {s : ByteArray} (h : Md.quo [] s.data.toList = none) : quA s = ⟨#[]⟩ ∧ quB s = ⟨#[]⟩ ∧ quC s = false := by unfold quA quB quC; rw [h]; exact ⟨rfl, rfl, rfl⟩
theorem qu_some {s : ByteArray} {v r : List UInt8} (h : Md.quo [] s.data.toList = some (v, r)) : quA s = ⟨v.toArray⟩ ∧ quB s = ⟨r.toArray⟩ ∧ quC s = true := by unfold quA quB quC; rw [h]; exact ⟨rfl, rfl, rfl⟩

theorem ret_quo {a b c d : ByteArray} {x y : Bool} (h1 : a = c) (h2 : b = d) (h3 : x = y) : Ending.returned (.tuple #[.string a, .string b, .bool x]) = .returned (.tuple #[.string c, .string d, .bool y]) := by rw [h1, h2, h3]

end Go.Proofs.YtpgdmoaegnehbaaDoor
