/-
  A byte written into a builder.
-/
import Derived.Test.YtmeliljioagipaaGreatDoorBuilder
namespace Go.Proofs.YtmeliljioagipaaGreatDoor
open Go.RowKit

end Go.Proofs.YtmeliljioagipaaGreatDoor
