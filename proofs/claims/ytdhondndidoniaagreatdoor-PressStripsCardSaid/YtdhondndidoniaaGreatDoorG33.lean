/-
  What the document's own words of numbers' texts come to: contracts of digits, Digits, pad.
-/
import Derived.Test.YtdhondndidoniaaGreatDoorG20
import Derived.Lib.ItoaLen
import Derived.Lib.AppendStr
import Derived.Maps.AppendAt
import Derived.Laws.IdiomStrings
import Derived.Deep.DeepCutAuto
import Derived.Lib.OthersKept
namespace Go.Proofs.YtdhondndidoniaaGreatDoor
open Go.RowKit

theorem D.itoa_nn {n : Int} (h : 0 ≤ n) : Lib.itoa n = Lib.decDigits n.toNat := by unfold Lib.itoa; rw [if_neg (by omega)]
theorem array_toList (t : ByteArray) : (⟨t.data.toList.toArray⟩ : ByteArray) = t := by simp
end Go.Proofs.YtdhondndidoniaaGreatDoor
