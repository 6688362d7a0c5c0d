/-
  What the document's own words of code points come to: contracts of Start, Part.
-/
import Derived.Test.YtdhondndidoniaaGreatDoorG04
namespace Go.Proofs.YtdhondndidoniaaGreatDoor
open Go.RowKit

end Go.Proofs.YtdhondndidoniaaGreatDoor
