/-
  What the document's own words of references come to: contracts of Escape, expand, Expand, Value.
-/
import Derived.Test.YtmeliljioagipaaGreatDoorRefEscape2
namespace Go.Proofs.YtmeliljioagipaaGreatDoor
open Go.RowKit

namespace E
theorem escape_take (attr : Bool) (s : ByteArray) (k : Nat) (h : k < s.size) : escape attr (s.data.toList.take (k + 1)) = escape attr (s.data.toList.take k) ++ esc attr s[k] := by
  have h1 : k < s.data.toList.length := by rw [list_len]; exact h
  unfold escape
  rw [List.take_succ_eq_append_getElem h1, List.flatMap_append, List.flatMap_cons, List.flatMap_nil, List.append_nil]
  rfl
theorem acc_esc {attr : Bool} {s t u : ByteArray} {k : Nat} (h : k < s.size) (ht : t.data.toList = escape attr (s.data.toList.take k)) (hu : u.data.toList = esc attr s[k]) : (t ++ u).data.toList = escape attr (s.data.toList.take (k + 1)) := by
  rw [ByteArray.toList_data_append, ht, hu, escape_take attr s k h]
theorem six {t u : ByteArray} {k : Nat} (hu : u.size ≤ 6) (ht : t.size ≤ 6 * k) : (t ++ u).size ≤ 6 * (k + 1) := by
  rw [ByteArray.size_append]; omega
theorem one_byte (s : ByteArray) (k : Nat) (h : k < s.size) : (s.extract k (k + 1)).data.toList = [s[k]] := by
  rw [extract_list, List.drop_take, Nat.add_sub_cancel_left, drop_cons s k h]
  rfl
end E

end Go.Proofs.YtmeliljioagipaaGreatDoor
