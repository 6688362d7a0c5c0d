/-
  The environment's facts, out of the world's shape.
-/
import Derived.Test.YtmfmgbjkbadndaaLocLaw2
import Derived.Test.YtmfmgbjkbadndaaLocLaw3
import Derived.Test.YtmfmgbjkbadndaaLocLaw4
import Derived.Test.YtmfmgbjkbadndaaLocLaw5
import Derived.Test.YtmfmgbjkbadndaaLocLaw6
import Derived.Test.YtmfmgbjkbadndaaLocLaw7
import Derived.Test.YtmfmgbjkbadndaaLocOpen
import Derived.Test.YtmfmgbjkbadndaaLift
import Derived.Test.YtmfmgbjkbadndaaShaped
namespace Go.Proofs.Ytmfmgbjkbadndaa
open Go.ChangeShapes Go.WideShapes Go.ChangeAt Go.RowKit Go.Deep
theorem mostCell {w : World} (h : w.ShapedOpen Try.prog) : ∃ m, w.cell? ⟨0, 0, none⟩ = some (.int .i64 m) :=
  cell_of_shapedOpen_int (zero := #[.int .i64 0]) (t := 3) h (of_decide_eq_true (by kernel_rfl)) (by kernel_rfl) (by kernel_rfl) (by kernel_rfl) (by kernel_rfl) (by kernel_rfl)
theorem envAt_of {W : World} (h : W.ShapedOpen Try.prog) : EnvAt W := mostCell h
end Go.Proofs.Ytmfmgbjkbadndaa
