/-
  From a reading of small numbers handed over to what the walks ask; a tree handed over, with its row's capacity.
  The environment's facts, out of the world's shape and of what the rows list.
-/
import Derived.Test.YtdhondndidoniaaGreatDoorG40
import Derived.Test.YtdhondndidoniaaGreatDoorG17
import Derived.Test.YtdhondndidoniaaGreatDoorG31
import Derived.Test.YtdhondndidoniaaGreatDoorRows
import Derived.Lib.LaidTab
import Derived.Lib.AppendIntMem
namespace Go.Proofs.YtdhondndidoniaaGreatDoor
open Go.ChangeShapes Go.WideShapes Go.ChangeAt Go.RowKit Go.Deep

end Go.Proofs.YtdhondndidoniaaGreatDoor
namespace Go.Proofs.YtdhondndidoniaaGreatDoor
open Go.ChangeShapes Go.WideShapes Go.ChangeAt Go.RowKit Go.Deep
theorem mostCell {w : World} (h : w.ShapedOpen Tryz.prog) : ∃ m, w.cell? ⟨1, 0, none⟩ = some (.int .i64 m) :=
  cell_of_shapedOpen_int (zero := #[.int .i64 0]) (t := 3) h (of_decide_eq_true (by kernel_rfl)) (by kernel_rfl) (by kernel_rfl) (by kernel_rfl) (by kernel_rfl) (by kernel_rfl)
/-- What the rows list. -/
abbrev listed : List (String × DataW Unit) := Rows.pressStripsRow.laid
theorem envAt_of {W : World} (h : laidMetH Tryz.prog listed W) (hs : W.ShapedOpen Tryz.prog) : EnvAt W := by
  refine ⟨mostCell hs, ?_⟩
  rw [MakeChecks.laidMetH_plain _ _ _ (by kernel_rfl)] at h
  exact Lib.tabIs_of_head (g := 0) (t := 202) (e := 185) (n := 20) (by kernel_rfl) (by kernel_rfl) Tryz.underlying202 Tryz.underlying185 (by kernel_rfl) (by kernel_rfl) h.tail.tail
end Go.Proofs.YtdhondndidoniaaGreatDoor
