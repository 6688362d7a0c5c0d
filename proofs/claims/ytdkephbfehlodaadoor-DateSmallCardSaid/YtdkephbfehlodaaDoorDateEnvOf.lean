/-
  The environment's facts, out of what the rows list.
-/
import Derived.Test.YtdkephbfehlodaaDoorDateLaw6
import Derived.Test.YtdkephbfehlodaaDoorLift
import Derived.Lib.LaidTab
import Derived.Lib.AppendIntMem
namespace Go.Proofs.YtdkephbfehlodaaDoor
open Go.RowKit

/-- What the rows list. -/
abbrev listed : List (String × DataW Unit) := Rows.dateParsesRow.laid
theorem envAt_of {W : World} (h : laidMetH Tryd.prog listed W) (_ : W.ShapedOpen Tryd.prog) : EnvAt W := by
  rw [MakeChecks.laidMetH_plain _ _ _ (by kernel_rfl)] at h
  exact Lib.tabIs_of_head (g := 3) (t := 116) (e := 96) (n := 20) (by kernel_rfl) (by kernel_rfl) Tryd.underlying116 Tryd.underlying96 (by kernel_rfl) (by kernel_rfl) h.tail.tail
theorem env_of {W : World} (h : EnvAt W) : Env W := fun w' hb => Lib.tabBelow_of_tabIs h w' hb
end Go.Proofs.YtdkephbfehlodaaDoor
