/-
  What the document's own words of told values come to: contracts of quote, Print.
-/
import Derived.Test.YtpgdmoaegnehbaaDoorRefFits
namespace Go.Proofs.YtpgdmoaegnehbaaDoor
open Go.RowKit

namespace Md
theorem isTok_iff {l : List UInt8} : isTok l = true ↔ tok l ≠ [] ∧ tokR l = [] := by
  unfold isTok tok tokR
  rw [Bool.and_eq_true]
  constructor
  · rintro ⟨h1, h2⟩
    have hl : l ≠ [] := by intro e; rw [e] at h1; simp at h1
    refine ⟨?_, ?_⟩
    · cases l with
      | nil => exact absurd rfl hl
      | cons b t =>
        simp only [List.all_cons, Bool.and_eq_true] at h2
        rw [List.takeWhile_cons_of_pos h2.1]; simp
    · clear h1 hl
      induction l with
      | nil => rfl
      | cons b t ih =>
        simp only [List.all_cons, Bool.and_eq_true] at h2
        rw [List.dropWhile_cons_of_pos h2.1, ih h2.2]
  · rintro ⟨h1, h2⟩
    have hl : l ≠ [] := by rintro rfl; exact h1 rfl
    refine ⟨by simpa using hl, ?_⟩
    have e := tok_tokR l
    rw [show tokR l = [] from h2, List.append_nil] at e
    rw [← e]
    unfold tok
    clear h1 h2 hl e
    induction l with
    | nil => rfl
    | cons b t ih =>
      by_cases hb : tokB b = true
      · rw [List.takeWhile_cons_of_pos hb, List.all_cons, hb, ih]; rfl
      · rw [List.takeWhile_cons_of_neg hb]; rfl
theorem esc_take (l : List UInt8) (k : Nat) (h : k < l.length) : esc (l.take (k + 1)) = esc (l.take k) ++ (if l[k] = 34 ∨ l[k] = 92 then [92, l[k]] else [l[k]]) := by
  unfold esc
  rw [List.take_succ_eq_append_getElem h, List.flatMap_append]
  simp
end Md

theorem extract_one (s : ByteArray) (k : Nat) (h : k < s.size) : (s.extract k (k + 1)).data.toList = [s[k]] := by
  rw [extract_list, List.drop_take, drop_cons s k h, Nat.add_sub_cancel_left]; rfl
/-- quote's answer. -/
def qoA (s : ByteArray) : ByteArray := ⟨(Md.quote s.data.toList).toArray⟩
theorem qoA_list (s : ByteArray) : (qoA s).data.toList = Md.quote s.data.toList := mk_list _
theorem esc_length (l : List UInt8) : (Md.esc l).length ≤ 2 * l.length := by
  unfold Md.esc
  induction l with
  | nil => simp
  | cons b t ih =>
    rw [List.flatMap_cons, List.length_append, List.length_cons]
    have : (if b = 34 ∨ b = 92 then [92, b] else [b] : List UInt8).length ≤ 2 := by split <;> simp
    omega
theorem qoA_size (s : ByteArray) : (qoA s).size ≤ 2 * s.size + 2 := by
  have hl := list_len s
  rw [← list_len, qoA_list]
  unfold Md.quote
  split
  · omega
  · have := esc_length s.data.toList
    rw [List.length_cons, List.length_append, List.length_singleton]; omega

end Go.Proofs.YtpgdmoaegnehbaaDoor
