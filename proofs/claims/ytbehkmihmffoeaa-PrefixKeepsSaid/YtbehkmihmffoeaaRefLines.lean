/-
  What the document's own words of texts come to: contract of Lines.
-/
import Derived.Test.YtbehkmihmffoeaaBytes
import Derived.Test.YtbehkmihmffoeaaRefPlain
namespace Go.Proofs.Ytbehkmihmffoeaa
open Go.RowKit

namespace G
theorem lines_at (s : ByteArray) (k : Nat) (h : k < s.size) (hb : (s[k]).toNat ≠ 13) : lines (s.data.toList.drop k) = s[k] :: lines (s.data.toList.drop (k + 1)) := by
  rw [drop_cons s k h, lines_cons _ _ (fun e => hb (by rw [e]; rfl))]
theorem lines_two (s : ByteArray) (k : Nat) (h : k < s.size) (h1 : k + 1 < s.size) (hb : (s[k]).toNat = 13) (hc : (s[k + 1]).toNat = 10) : lines (s.data.toList.drop k) = 10 :: lines (s.data.toList.drop (k + 2)) := by
  rw [drop_cons s k h, drop_cons s (k + 1) h1, byte_is (c := 13) hb, byte_is (c := 10) hc, lines_crlf]
theorem lines_one (s : ByteArray) (k : Nat) (h : k < s.size) (hb : (s[k]).toNat = 13) (hc : (h1 : k + 1 < s.size) → (s[k + 1]).toNat ≠ 10) : lines (s.data.toList.drop k) = 10 :: lines (s.data.toList.drop (k + 1)) := by
  rw [drop_cons s k h, byte_is (c := 13) hb, lines_cr]
  by_cases h1 : k + 1 < s.size
  · rw [drop_cons s (k + 1) h1, List.head?_cons]
    intro e
    exact hc h1 (by rw [Option.some.inj e]; rfl)
  · rw [List.drop_of_length_le (by rw [list_len]; omega)]; simp
theorem acc_step {L acc : List UInt8} {x y : List UInt8} {b : UInt8} (h : L = acc ++ x) (e : x = b :: y) : L = (acc ++ [b]) ++ y := by rw [h, e]; simp
theorem acc_end {L acc x : List UInt8} (h : L = acc ++ lines x) (e : x = []) : L = acc := by rw [h, e]; simp [lines]
end G

end Go.Proofs.Ytbehkmihmffoeaa
