/-
  What the packages' variables hold that the library's functions read: some number (the library's bound of a search), and the table of powers of ten.
-/
import Derived.Test.YtdhondndidoniaaGreatDoorG06
import Derived.Test.YtdhondndidoniaaGreatDoorG02
import Derived.Lib.ItoaNum
import Derived.Lib.LaidTab
import Derived.Lib.AppendIntMem
namespace Go.Proofs.YtdhondndidoniaaGreatDoor
open Go.RowKit

/-- WHAT THE PACKAGES' VARIABLES HOLD that the library's functions read. -/
def EnvAt (w : World) : Prop := (∃ m, w.cell? ⟨1, 0, none⟩ = some (.int .i64 m)) ∧ Lib.TabIs Tryz.prog w "internal/strconv.uint64pow10" .u64 Lib.pow10Tab
/-- .. and go on holding, whatever is made. -/
def Env (w : World) : Prop := ∀ w', Below w.heap.size w w' → EnvAt w'
theorem Env.at {w : World} (h : Env w) : EnvAt w := h w (Below.refl _ _)
theorem Env.most {w : World} (h : Env w) : ∃ m, w.cell? ⟨1, 0, none⟩ = some (.int .i64 m) := h.at.1
theorem Env.tab {w : World} (h : Env w) : Lib.TabIs Tryz.prog w "internal/strconv.uint64pow10" .u64 Lib.pow10Tab := h.at.2
theorem Env.on {w w1 : World} (h : Env w) (b : Below w.heap.size w w1) : Env w1 := fun w' h' => h w' (b.trans (h'.mono b.size))
theorem env_of {W : World} (h : EnvAt W) : Env W := by
  intro w' hb
  obtain ⟨⟨m, hm⟩, ht⟩ := h
  exact ⟨⟨m, (hb.cell (World.block_lt_of_cell? W _ hm)).trans hm⟩, Lib.tabBelow_of_tabIs ht w' hb⟩
end Go.Proofs.YtdhondndidoniaaGreatDoor
