/-
  What the document's own words of code points come to: contracts of Start, Part.
-/
import Derived.Test.YtmfmgbjkbadndaaRanges
namespace Go.Proofs.Ytmfmgbjkbadndaa
open Go.RowKit

end Go.Proofs.Ytmfmgbjkbadndaa
