/-
  What the document's own words of code points come to: contracts of Start, Part.
-/
import Derived.Test.YtmeliljioagipaaGreatDoorRanges
namespace Go.Proofs.YtmeliljioagipaaGreatDoor
open Go.RowKit

end Go.Proofs.YtmeliljioagipaaGreatDoor
