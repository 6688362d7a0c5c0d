/-
  What the document's own words of references come to: contracts of Escape, expand, Expand, Value.
-/
import Derived.Test.YtcjlhdmekhifaaaGreatDoorD04
namespace Go.Proofs.YtcjlhdmekhifaaaGreatDoor
open Go.RowKit

namespace E
theorem one_byte (s : ByteArray) (k : Nat) (h : k < s.size) : (s.extract k (k + 1)).data.toList = [s[k]] := by
  rw [extract_list, List.drop_take, Nat.add_sub_cancel_left, drop_cons s k h]
  rfl
end E

end Go.Proofs.YtcjlhdmekhifaaaGreatDoor
