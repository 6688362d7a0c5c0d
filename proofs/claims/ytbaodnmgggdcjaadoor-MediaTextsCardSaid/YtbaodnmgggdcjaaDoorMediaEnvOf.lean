/-
  The environment's facts, out of the world's shape.
-/
import Derived.Test.YtbaodnmgggdcjaaDoorMediaOpen
namespace Go.Proofs.YtbaodnmgggdcjaaDoor
open Go.ChangeShapes Go.WideShapes Go.ChangeAt Go.RowKit Go.Deep
theorem mostCell {w : World} (h : w.ShapedOpen Tryd.prog) : ∃ m, w.cell? ⟨2, 0, none⟩ = some (.int .i64 m) :=
  cell_of_shapedOpen_int (zero := #[.int .i64 0]) (t := 3) h (of_decide_eq_true (by kernel_rfl)) (by kernel_rfl) (by kernel_rfl) (by kernel_rfl) (by kernel_rfl) (by kernel_rfl)
theorem envAt_of {L : List (String × DataW Unit)} {W : World} (_ : laidMetH Tryd.prog L W) (h : W.ShapedOpen Tryd.prog) : EnvAt W := mostCell h
end Go.Proofs.YtbaodnmgggdcjaaDoor
