/-
  What the document's own words of points of time come to: contracts of Print and Cmp.
-/
import Derived.Test.YtdhondndidoniaaGreatDoorG33
namespace Go.Proofs.YtdhondndidoniaaGreatDoor
open Go.RowKit

theorem ret_text {a b : ByteArray} {x y : Int} (h1 : a = b) (h2 : x = y) : Ending.returned (.tuple #[.string a, .int .i64 x]) = .returned (.tuple #[.string b, .int .i64 y]) := by rw [h1, h2]
namespace D
theorem text_no {sec nano : Int} (h : okB sec nano = false) : (⟨#[]⟩ : ByteArray) = ⟨(text sec nano).toArray⟩ ∧ (110 : Int) = textE sec nano := by
  unfold text textE; rw [h]; exact ⟨rfl, rfl⟩
theorem text_yes {sec nano : Int} (h : okB sec nano = true) {t : ByteArray} (ht : t.data.toList = head sec ++ (frac nano ++ [90])) : t = ⟨(text sec nano).toArray⟩ ∧ (0 : Int) = textE sec nano := by
  unfold text textE; rw [if_pos h, if_pos h, ← ht]
  exact ⟨(array_toList t).symm, rfl⟩
end D
namespace D
end D

end Go.Proofs.YtdhondndidoniaaGreatDoor
