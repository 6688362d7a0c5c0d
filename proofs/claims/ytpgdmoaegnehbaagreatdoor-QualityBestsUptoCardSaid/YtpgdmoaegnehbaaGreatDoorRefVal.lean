/-
  What the document's own word of values comes to: contract of value.
-/
import Derived.Test.YtpgdmoaegnehbaaGreatDoorRefQuo
namespace Go.Proofs.YtpgdmoaegnehbaaGreatDoor
open Go.RowKit

/-- value's answers. -/
def vaA (s : ByteArray) : ByteArray := if s.data.toList.head? = some 34 then quA (s.extract 1 s.size) else tkA s
def vaB (s : ByteArray) : ByteArray := if s.data.toList.head? = some 34 then quB (s.extract 1 s.size) else tkB s
def vaC (s : ByteArray) : Bool := if s.data.toList.head? = some 34 then quC (s.extract 1 s.size) else !(tkA s).toList.isEmpty
theorem va_none {s : ByteArray} (h : Md.value s.data.toList = none) : vaC s = false := by
  unfold Md.value at h
  unfold vaC
  split at h
  · rename_i h34
    rw [if_pos h34]
    exact (qu_none (by rw [drop_list]; exact h)).2.2
  · rename_i h34
    rw [if_neg h34]
    split at h
    · rename_i ht
      rw [ByteArray.toList_eq, tkA_list, ht]; rfl
    · cases h
theorem va_some {s : ByteArray} {v r : List UInt8} (h : Md.value s.data.toList = some (v, r)) : vaA s = ⟨v.toArray⟩ ∧ vaB s = ⟨r.toArray⟩ ∧ vaC s = true := by
  unfold Md.value at h
  unfold vaA vaB vaC
  split at h
  · rename_i h34
    rw [if_pos h34, if_pos h34, if_pos h34]
    exact qu_some (by rw [drop_list]; exact h)
  · rename_i h34
    rw [if_neg h34, if_neg h34, if_neg h34]
    split at h
    · cases h
    · rename_i ht
      injection h with h; injection h with h1 h2
      subst h1; subst h2
      refine ⟨rfl, rfl, ?_⟩
      rw [ByteArray.toList_eq, tkA_list]
      simpa using ht

set_option maxHeartbeats 800000 in
theorem refValue_any (s : ByteArray) (w : World) (hs : s.size ≤ 70368744177664) :
    Calls Tryz.prog 73 #[.string s] w fun e w' => e = .returned (.tuple #[.string (vaA s), .string (vaB s), .bool (vaC s)]) ∧ Below w.heap.size w w' := by
  have hsm : s.size ≤ maxLen := by unfold maxLen; omega
  go_enter Tryz.func73, Tryz.ntmps73
  by_cases h0 : s.size = 0
  · obtain rfl : s = ByteArray.empty := ByteArray.size_eq_zero_iff.1 h0
    go_wp2_with fail
    (with_reducible refine (refToken_any ByteArray.empty _ hsm).mono ?_); rintro e w1 ⟨rfl, b1⟩
    go_wp2
    go_ret3
    exact ⟨rfl, b1⟩
  · have h1 : 0 < s.size := by omega
    have hne := ne_empty h1
    have hh := head_byte h1
    by_cases h34 : (s[0]).toNat = 34
    · have hc : s.data.toList.head? = some 34 := by rw [hh, byte_is (c := 34) h34]
      have r1 := Lib.hid (show vaA s = quA (s.extract 1 s.size) from if_pos hc)
      have r2 := Lib.hid (show vaB s = quB (s.extract 1 s.size) from if_pos hc)
      have r3 := Lib.hid (show vaC s = quC (s.extract 1 s.size) from if_pos hc)
      have h34b : (((s[0]).toNat : Int) == 34) = true := by rw [h34]; rfl
      clear hc hh h34
      go_wp2_with fail
      (with_reducible refine (refQuoted_any (s.extract 1 s.size) _ (by simp; omega)).mono ?_); rintro e w1 ⟨rfl, b1⟩
      go_wp2
      go_ret3
      exact ⟨ret_quo r1.out.symm r2.out.symm r3.out.symm, b1⟩
    · have hc : ¬ s.data.toList.head? = some 34 := by
        rw [hh]; intro e; exact h34 (by rw [Option.some.inj e]; rfl)
      have r1 := Lib.hid (show vaA s = tkA s from if_neg hc)
      have r2 := Lib.hid (show vaB s = tkB s from if_neg hc)
      have r3 := Lib.hid (show vaC s = !(tkA s).toList.isEmpty from if_neg hc)
      have h34b : (((s[0]).toNat : Int) == 34) = false := beq_false_of_ne (fun e => h34 (by omega))
      clear hc hh h34
      go_wp2_with fail
      (with_reducible refine (refToken_any s _ hsm).mono ?_); rintro e w1 ⟨rfl, b1⟩
      go_wp2
      go_ret3
      exact ⟨ret_quo r1.out.symm r2.out.symm r3.out.symm, b1⟩
end Go.Proofs.YtpgdmoaegnehbaaGreatDoor
