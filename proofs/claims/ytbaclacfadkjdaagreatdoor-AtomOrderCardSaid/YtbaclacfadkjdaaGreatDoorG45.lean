/-
  The environment's facts, out of the world's shape.
-/
import Derived.Test.YtbaclacfadkjdaaGreatDoorG29
import Derived.Test.YtbaclacfadkjdaaGreatDoorG33
import Derived.Test.YtbaclacfadkjdaaGreatDoorRows
namespace Go.Proofs.YtbaclacfadkjdaaGreatDoor
open Go.ChangeShapes Go.WideShapes Go.ChangeAt Go.RowKit Go.Deep
theorem mostCell {w : World} (h : w.ShapedOpen Tryz.prog) : ∃ m, w.cell? ⟨0, 0, none⟩ = some (.int .i64 m) :=
  cell_of_shapedOpen_int (zero := #[.int .i64 0]) (t := 3) h (of_decide_eq_true (by kernel_rfl)) (by kernel_rfl) (by kernel_rfl) (by kernel_rfl) (by kernel_rfl) (by kernel_rfl)
theorem envAt_of {W : World} {l : List (String × DataW Unit)} (_ : laidMetH Tryz.prog l W) (h : W.ShapedOpen Tryz.prog) : EnvAt W := mostCell h
end Go.Proofs.YtbaclacfadkjdaaGreatDoor
