/-
  What the document's own words of tokens come to: contracts of TokenByte, Token, Skip, Lower.
-/
import Derived.Test.YtojbhokneemeaaaDoorMedia
import Derived.BigQuiet
import Derived.Deep.QuietTactic
import Derived.WalkSmall
namespace Go.Proofs.YtojbhokneemeaaaDoor
open Go.RowKit

namespace Md
theorem tok_at {l : List UInt8} {k : Nat} (h : (l.take k).all tokB = true) (h2 : ∀ h : k < l.length, tokB l[k] = false) : tok l = l.take k ∧ tokR l = l.drop k := by
  unfold tok tokR
  induction l generalizing k with
  | nil => simp
  | cons b m ih =>
    cases k with
    | zero =>
      have := h2 (by simp)
      simp only [List.getElem_cons_zero] at this
      rw [List.takeWhile_cons_of_neg (by rw [this]; simp), List.dropWhile_cons_of_neg (by rw [this]; simp)]
      exact ⟨rfl, rfl⟩
    | succ k =>
      simp only [List.take_succ_cons, List.all_cons, Bool.and_eq_true] at h
      have := ih h.2 (fun hk => by
        have := h2 (by simp; omega)
        rw [List.getElem_cons_succ] at this; exact this)
      rw [List.takeWhile_cons_of_pos h.1, List.dropWhile_cons_of_pos h.1, List.take_succ_cons, this.1, this.2]
      exact ⟨rfl, rfl⟩
theorem skip_stop (b : UInt8) (t : List UInt8) (h : blankB b = false) : skip (b :: t) = b :: t := List.dropWhile_cons_of_neg (by rw [h]; simp)
theorem skip_one (b : UInt8) (t : List UInt8) (h : blankB b = true) : skip (b :: t) = skip t := List.dropWhile_cons_of_pos h
end Md

theorem ret_strs {a b c d : ByteArray} (h1 : a = c) (h2 : b = d) : Ending.returned (.tuple #[.string a, .string b]) = .returned (.tuple #[.string c, .string d]) := by rw [h1, h2]
/-- Token's answers, Skip's, Lower's. -/
def tkA (s : ByteArray) : ByteArray := ⟨(Md.tok s.data.toList).toArray⟩
def tkB (s : ByteArray) : ByteArray := ⟨(Md.tokR s.data.toList).toArray⟩
def skA (s : ByteArray) : ByteArray := ⟨(Md.skip s.data.toList).toArray⟩
def loA (s : ByteArray) : ByteArray := ⟨(Md.lower s.data.toList).toArray⟩
theorem mk_list (l : List UInt8) : (⟨l.toArray⟩ : ByteArray).data.toList = l := by simp
theorem tkA_list (s : ByteArray) : (tkA s).data.toList = Md.tok s.data.toList := mk_list _
theorem tkB_list (s : ByteArray) : (tkB s).data.toList = Md.tokR s.data.toList := mk_list _
theorem skA_list (s : ByteArray) : (skA s).data.toList = Md.skip s.data.toList := mk_list _
theorem loA_list (s : ByteArray) : (loA s).data.toList = Md.lower s.data.toList := mk_list _
theorem size_le {a b : ByteArray} (h : a.data.toList.length ≤ b.data.toList.length) : a.size ≤ b.size := by rw [list_len, list_len] at h; exact h
theorem tkA_size (s : ByteArray) : (tkA s).size ≤ s.size := size_le (by rw [tkA_list]; exact Md.tok_length _)
theorem tkB_size (s : ByteArray) : (tkB s).size ≤ s.size := size_le (by rw [tkB_list]; exact Md.tokR_length _)
theorem skA_size (s : ByteArray) : (skA s).size ≤ s.size := size_le (by rw [skA_list]; exact Md.skip_length _)
theorem loA_size (s : ByteArray) : (loA s).size = s.size := by
  rw [← list_len, loA_list, Md.lower, List.length_map, list_len]

end Go.Proofs.YtojbhokneemeaaaDoor
