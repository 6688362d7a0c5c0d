/-
  What the document's own words of texts come to: contracts of Plain, Lines.
-/
import Derived.Test.YtmeliljioagipaaGreatDoorRefNames
namespace Go.Proofs.YtmeliljioagipaaGreatDoor
open Go.RowKit

namespace G
theorem plain_no (l : List UInt8) (h : name l = 0 ∨ name l ≠ l.length) : plain l = false := by
  unfold plain
  rcases h with h | h
  · by_cases hl : l = []
    · simp [hl]
    · have := List.length_pos_iff.2 hl
      simp [h]; intro _ h1; omega
  · simp [h]
theorem plain_all (l : List UInt8) (h : name l = l.length) (h0 : name l ≠ 0) : plain l = l.all (fun b => decide (b ≠ 58)) := by
  have hl : l ≠ [] := by rintro rfl; exact h0 rfl
  unfold plain
  simp [h, hl]
end G

end Go.Proofs.YtmeliljioagipaaGreatDoor
