/-
  What the document's own word of the code point at a text's head comes to: contract of First.
-/
import Derived.Test.YtmeliljioagipaaGreatDoorParts
import Derived.Test.YtmeliljioagipaaGreatDoorFirst
namespace Go.Proofs.YtmeliljioagipaaGreatDoor
open Go.RowKit

end Go.Proofs.YtmeliljioagipaaGreatDoor
