/-
  What a text of pieces comes to: contract of Pieces.
-/
import Derived.Test.YtpgdmoaegnehbaaDoorTexts
namespace Go.Proofs.YtpgdmoaegnehbaaDoor
open Go.RowKit

end Go.Proofs.YtpgdmoaegnehbaaDoor
