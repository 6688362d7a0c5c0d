/-
  What the document's own words of code points come to: contracts of Start, Part.
-/
import Derived.Test.YtbaclacfadkjdaaGreatDoorG01
namespace Go.Proofs.YtbaclacfadkjdaaGreatDoor
open Go.RowKit
end Go.Proofs.YtbaclacfadkjdaaGreatDoor
