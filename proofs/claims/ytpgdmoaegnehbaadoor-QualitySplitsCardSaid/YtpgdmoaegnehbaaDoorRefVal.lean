/-
  What the document's own word of values comes to: contract of value.
-/
import Derived.Test.YtpgdmoaegnehbaaDoorRefQuo
namespace Go.Proofs.YtpgdmoaegnehbaaDoor
open Go.RowKit

/-- value's answers. -/
def vaA (s : ByteArray) : ByteArray := if s.data.toList.head? = some 34 then quA (s.extract 1 s.size) else tkA s
def vaB (s : ByteArray) : ByteArray := if s.data.toList.head? = some 34 then quB (s.extract 1 s.size) else tkB s
def vaC (s : ByteArray) : Bool := if s.data.toList.head? = some 34 then quC (s.extract 1 s.size) else !(tkA s).toList.isEmpty
theorem va_none {s : ByteArray} (h : Md.value s.data.toList = none) : vaC s = false := by
  unfold Md.value at h
  unfold vaC
  split at h
  · rename_i h34
    rw [if_pos h34]
    exact (qu_none (by rw [drop_list]; exact h)).2.2
  · rename_i h34
    rw [if_neg h34]
    split at h
    · rename_i ht
      rw [ByteArray.toList_eq, tkA_list, ht]; rfl
    · cases h
theorem va_some {s : ByteArray} {v r : List UInt8} (h : Md.value s.data.toList = some (v, r)) : vaA s = ⟨v.toArray⟩ ∧ vaB s = ⟨r.toArray⟩ ∧ vaC s = true := by
  unfold Md.value at h
  unfold vaA vaB vaC
  split at h
  · rename_i h34
    rw [if_pos h34, if_pos h34, if_pos h34]
    exact qu_some (by rw [drop_list]; exact h)
  · rename_i h34
    rw [if_neg h34, if_neg h34, if_neg h34]
    split at h
    · cases h
    · rename_i ht
      injection h with h; injection h with h1 h2
      subst h1; subst h2
      refine ⟨rfl, rfl, ?_⟩
      rw [ByteArray.toList_eq, tkA_list]
      simpa using ht

end Go.Proofs.YtpgdmoaegnehbaaDoor
