/-
  The document's Ranges.
-/
import Derived.Test.YtpgdmoaegnehbaaDoorRgs
import Derived.Test.YtpgdmoaegnehbaaDoorCells
import Derived.Test.YtpgdmoaegnehbaaDoorMediaSize
import Derived.Deep.DeepCutAuto
namespace Go.Proofs.YtpgdmoaegnehbaaDoor
open Go.RowKit

namespace Ql
theorem param_find (ps : List Pair) : (match Md.param ps qn with | some v => weight v.data.toList | none => some 1000) = weigh ps := rfl
theorem rest_more {ps : List Pair} {k : Nat} (h : k < ps.length) : rest (ps.take (k + 1)) = rest (ps.take k) + (if ps[k].name = qn then 0 else 1) := by
  unfold rest
  rw [List.take_succ_eq_append_getElem h, List.filter_append, List.length_append]
  by_cases hq : ps[k].name = qn
  · simp [hq]
  · simp [hq]
theorem rest_le (ps : List Pair) : rest ps ≤ ps.length := List.length_filter_le _ _
end Ql
/-- Where Ranges stands: what the pieces so far make. -/
def Ql.upto (l : List (List UInt8)) : List Ql.Rg := l.filterMap fun p => (Md.parse p).map Ql.rg
theorem Ql.upto_more {l : List (List UInt8)} {k : Nat} (h : k < l.length) : Ql.upto (l.take (k + 1)) = Ql.upto (l.take k) ++ (match Md.parse l[k] with | some m => [Ql.rg m] | none => []) := by
  unfold Ql.upto
  rw [List.take_succ_eq_append_getElem h, List.filterMap_append]
  congr 1
  simp only [List.filterMap_cons, List.filterMap_nil]
  cases Md.parse l[k] <;> rfl
theorem Ql.upto_len (l : List (List UInt8)) (k : Nat) : (Ql.upto (l.take k)).length ≤ k := by
  have h1 := List.length_filterMap_le (fun p => (Md.parse p).map Ql.rg) (l.take k)
  have h2 : (l.take k).length ≤ k := by rw [List.length_take]; omega
  unfold Ql.upto
  omega

/-- How long the pieces are, and how many. -/
theorem Ql.splitG_small : ∀ (n : Nat) (l cur : List UInt8) (q : Bool), l.length ≤ n → (∀ p ∈ Ql.splitG cur q l, p.length ≤ cur.length + l.length) ∧ (Ql.splitG cur q l).length ≤ l.length + 1
  | n, [], cur, q, _ => by
    unfold Ql.splitG Ql.keep
    split
    · simp
    · simp
  | 0, b :: t, _, _, h => by simp at h
  | n + 1, b :: t, cur, q, h => by
    simp only [List.length_cons] at h
    unfold Ql.splitG
    split
    · have := Ql.splitG_small n t [] false (by omega)
      unfold Ql.keep
      split
      · refine ⟨fun p hp => ?_, ?_⟩
        · have := this.1 p hp; simp only [List.length_nil, List.length_cons] at *; omega
        · have := this.2; simp only [List.length_cons]; omega
      · refine ⟨fun p hp => ?_, ?_⟩
        · rcases List.mem_cons.1 hp with rfl | hp
          · simp
          · have := this.1 p hp; simp only [List.length_nil, List.length_cons] at *; omega
        · have := this.2; simp only [List.length_cons]; omega
    split
    · have := Ql.splitG_small n t (cur ++ [b]) (!q) (by omega)
      refine ⟨fun p hp => ?_, ?_⟩
      · have := this.1 p hp; simp only [List.length_append, List.length_cons, List.length_nil] at *; omega
      · have := this.2; simp only [List.length_cons]; omega
    cases t with
    | nil =>
      simp only
      unfold Ql.keep
      split <;> simp
    | cons c u =>
      simp only
      split
      · have := Ql.splitG_small n u (cur ++ [b, c]) q (by simp only [List.length_cons] at h; omega)
        refine ⟨fun p hp => ?_, ?_⟩
        · have := this.1 p hp; simp only [List.length_append, List.length_cons, List.length_nil] at *; omega
        · have := this.2; simp only [List.length_cons]; omega
      · have := Ql.splitG_small n (c :: u) (cur ++ [b]) q (by omega)
        refine ⟨fun p hp => ?_, ?_⟩
        · have := this.1 p hp; simp only [List.length_append, List.length_cons, List.length_nil] at *; omega
        · have := this.2; simp only [List.length_cons] at *; omega
theorem Ql.split_small (l : List UInt8) : (∀ p ∈ Ql.split l, p.length ≤ l.length) ∧ (Ql.split l).length ≤ l.length + 1 := by
  have := Ql.splitG_small l.length l [] false (Nat.le_refl _)
  exact ⟨fun p hp => by have := this.1 p hp; simpa using this, this.2⟩

theorem star_yes {x : ByteArray} (h : x = Md.star) : (x.toList == [42]) = true ∧ (x.toList != [42]) = false ∧ x.toList = [42] := by
  have e : x.toList = [42] := by rw [h, ByteArray.toList_eq]; rfl
  exact ⟨by rw [e]; rfl, by rw [e]; rfl, e⟩
theorem star_no {x : ByteArray} (h : ¬ x = Md.star) : (x.toList == [42]) = false ∧ (x.toList != [42]) = true ∧ ¬ x.toList = [42] := by
  have e : (x.toList == [42]) = false := by
    rw [show ([42] : List UInt8) = Md.star.toList from by rw [ByteArray.toList_eq]; rfl]
    exact not_str h
  exact ⟨e, by rw [bne, e]; rfl, beq_eq_false_iff_ne.1 e⟩
theorem star_test (x : ByteArray) : (x.toList != [42]) = !decide (x = Md.star) := by
  rw [show ([42] : List UInt8) = Md.star.toList from by rw [ByteArray.toList_eq]; rfl]
  by_cases h : x = Md.star
  · rw [bne, same_str h]; simp [h]
  · rw [bne, not_str h]; simp [h]
theorem par_none {ps : List Pair} (h : Md.param ps Ql.qn = none) : paB ps Ql.qn = false ∧ Ql.weigh ps = some 1000 := by
  unfold paB Ql.weigh; rw [h]; exact ⟨rfl, rfl⟩
theorem par_some {ps : List Pair} {v : ByteArray} (h : Md.param ps Ql.qn = some v) : paB ps Ql.qn = true ∧ paA ps Ql.qn = v ∧ Ql.weigh ps = Ql.weight v.data.toList := by
  unfold paB paA Ql.weigh; rw [h]; exact ⟨rfl, rfl, rfl⟩
theorem par_mem {ps : List Pair} {v : ByteArray} (h : Md.param ps Ql.qn = some v) : ∃ p ∈ ps, p.value = v := by
  unfold Md.param at h
  cases hf : ps.find? (fun p => decide (p.name = Ql.qn)) with
  | none => rw [hf] at h; cases h
  | some p =>
    rw [hf] at h
    injection h with h
    exact ⟨p, List.mem_of_find?_eq_some hf, h⟩

end Go.Proofs.YtpgdmoaegnehbaaDoor
