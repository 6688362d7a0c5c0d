/-
  What the packages' variables hold that the library's functions read: the table of powers of ten.
-/
import Derived.Test.YtdkephbfehlodaaDoorRefParse
import Derived.Test.YtdkephbfehlodaaDoorRefPrint
import Derived.Test.YtdkephbfehlodaaDoorOrder
import Derived.Lib.ItoaNum
namespace Go.Proofs.YtdkephbfehlodaaDoor
open Go.RowKit

/-- WHAT THE PACKAGES' VARIABLES HOLD that the library's functions read. -/
def EnvAt (w : World) : Prop := Lib.TabIs Tryd.prog w "internal/strconv.uint64pow10" .u64 Lib.pow10Tab
/-- .. and go on holding, whatever is made. -/
def Env (w : World) : Prop := ∀ w', Below w.heap.size w w' → EnvAt w'
theorem Env.at {w : World} (h : Env w) : EnvAt w := h w (Below.refl _ _)
theorem Env.on {w w1 : World} (h : Env w) (b : Below w.heap.size w w1) : Env w1 := fun w' h' => h w' (b.trans (h'.mono b.size))
end Go.Proofs.YtdkephbfehlodaaDoor
