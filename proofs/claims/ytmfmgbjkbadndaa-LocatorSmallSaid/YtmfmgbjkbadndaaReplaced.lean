/-
  strings.ReplaceAll and strings.Contains of the library's own words, step by step: what stands at the head is replaced, or goes on; and plain lines as two replacings.
-/
import Derived.Test.YtmfmgbjkbadndaaGlyph
import Derived.Lib.ReplaceLaws
import Derived.Lib.IndexMore
namespace Go.Proofs.Ytmfmgbjkbadndaa
namespace G
open Lib

theorem ra_def {old new : List UInt8} (hne : (old == new) = false) (s : List UInt8) : replaceAll s old new = replaceK old new (count s old) s := by
  unfold replaceAll replace
  rw [if_neg (by rw [hne]; exact Bool.false_ne_true)]
  unfold replaceNum
  rw [if_pos (by omega)]

theorem ra_nil {old new : List UInt8} (hne : (old == new) = false) (h1 : old ≠ []) : replaceAll [] old new = [] := by
  have hi : index [] old = -1 := by
    unfold index
    rw [if_neg (by simpa using h1)]
  rw [ra_def hne, count_miss hi, replaceK]

theorem ra_head {old new : List UInt8} (hne : (old == new) = false) (h1 : old ≠ []) (t : List UInt8) : replaceAll (old ++ t) old new = new ++ replaceAll t old new := by
  have hi : index (old ++ t) old = ((0 : Nat) : Int) := by
    obtain ⟨b, l, e⟩ : ∃ b l, old ++ t = b :: l := by
      cases old with
      | nil => exact absurd rfl h1
      | cons b l => exact ⟨b, l ++ t, rfl⟩
    rw [e]
    unfold index
    rw [if_pos (by rw [← e]; simp)]
    rfl
  rw [ra_def hne, ra_def hne, count_hit h1 hi, Nat.add_comm 1, replaceK_hit old new _ _ 0 hi]
  simp

theorem ra_past {old new : List UInt8} (hne : (old == new) = false) (h1 : old ≠ []) (b : UInt8) (t : List UInt8) (hp : old.isPrefixOf (b :: t) = false) : replaceAll (b :: t) old new = b :: replaceAll t old new := by
  have he : index (b :: t) old = if index t old == -1 then -1 else index t old + 1 := by
    conv => lhs; unfold index
    rw [if_neg (by rw [hp]; exact Bool.false_ne_true)]
  rw [ra_def hne, ra_def hne]
  by_cases hm : index t old = -1
  · rw [hm] at he
    rw [count_miss hm, count_miss (show index (b :: t) old = -1 by rw [he]; rfl)]
    rfl
  · have hge := index_ge t old
    obtain ⟨i, hi⟩ : ∃ i : Nat, index t old = i := ⟨(index t old).toNat, by omega⟩
    have hi2 : index (b :: t) old = ((i + 1 : Nat) : Int) := by
      rw [he, if_neg (by rw [beq_iff_eq]; exact hm), hi]
      rfl
    rw [count_hit h1 hi, count_hit h1 hi2, show i + 1 + old.length = (i + old.length) + 1 by omega, List.drop_succ_cons, Nat.add_comm 1, replaceK_hit old new _ _ i hi, replaceK_hit old new _ _ (i + 1) hi2,
      show i + 1 + old.length = (i + old.length) + 1 by omega, List.drop_succ_cons, List.take_succ_cons]
    rfl

/-- Pairs of 13 and 10 made 10. -/
def pairs (l : List UInt8) : List UInt8 := replaceAll l [13, 10] [10]

theorem pairs_cons (b : UInt8) (t : List UInt8) (h : ¬ (b = 13 ∧ t.head? = some 10)) : pairs (b :: t) = b :: pairs t := by
  unfold pairs
  refine ra_past (by decide) (by decide) b t ?_
  cases t with
  | nil => exact Bool.and_false _
  | cons c t =>
    simp only [List.isPrefixOf, Bool.and_true, Bool.and_eq_false_iff, beq_eq_false_iff_ne]
    by_cases hb : b = 13
    · right; intro hc; exact h ⟨hb, by rw [← hc]; rfl⟩
    · left; intro e; exact hb e.symm

theorem pairs_head (t : List UInt8) : pairs (13 :: 10 :: t) = 10 :: pairs t := ra_head (old := [13, 10]) (new := [10]) (by decide) (by decide) t

theorem ones_cons (b : UInt8) (t : List UInt8) (h : b ≠ 13) : replaceAll (b :: t) [13] [10] = b :: replaceAll t [13] [10] := by
  refine ra_past (by decide) (by decide) b t ?_
  simp only [List.isPrefixOf, Bool.and_true, beq_eq_false_iff_ne]
  exact fun e => h e.symm

theorem ones_head (t : List UInt8) : replaceAll (13 :: t) [13] [10] = 10 :: replaceAll t [13] [10] := ra_head (old := [13]) (new := [10]) (by decide) (by decide) t

theorem lines_replaced (l : List UInt8) : replaceAll (replaceAll l [13, 10] [10]) [13] [10] = lines l := by
  show replaceAll (pairs l) [13] [10] = lines l
  induction l using lines_induct with
  | nil =>
    show replaceAll (replaceAll [] [13, 10] [10]) [13] [10] = _
    rw [ra_nil (by decide) (by decide), ra_nil (by decide) (by decide)]; rfl
  | plain b t hb ih => rw [lines_cons b t hb, pairs_cons b t (fun e => hb e.1), ones_cons b _ hb, ih]
  | cr t ht ih => rw [lines_cr t ht, pairs_cons 13 t (fun e => ht e.2), ones_head, ih]
  | crlf t ih => rw [lines_crlf, pairs_head, ones_cons 10 _ (by decide), ih]

theorem pairs_length (l : List UInt8) : (replaceAll l [13, 10] [10]).length ≤ l.length := by
  show (pairs l).length ≤ l.length
  induction l using lines_induct with
  | nil =>
    show (replaceAll [] [13, 10] [10]).length ≤ _
    rw [ra_nil (by decide) (by decide)]; exact Nat.le_refl _
  | plain b t hb ih => rw [pairs_cons b t (fun e => hb e.1)]; simp; exact ih
  | cr t ht ih => rw [pairs_cons 13 t (fun e => ht e.2)]; simp; exact ih
  | crlf t ih => rw [pairs_head]; simp; omega

theorem contains_one (l : List UInt8) (c : UInt8) : contains l [c] = l.any (fun b => decide (b = c)) := by
  unfold contains
  induction l with
  | nil => rfl
  | cons b t ih =>
    unfold index
    rw [List.any_cons, ← ih]
    by_cases hb : b = c
    · subst hb
      rw [if_pos (by simp)]; simp
    · rw [if_neg (by simp; exact fun e => hb e.symm), decide_eq_false hb, Bool.false_or]
      have hge := index_ge t [c]
      by_cases hm : index t [c] = -1
      · rw [hm]; rfl
      · rw [if_neg (by rw [beq_iff_eq]; exact hm)]
        simp only [decide_eq_decide]; omega

theorem contains_all (l : List UInt8) : (!contains l [58]) = l.all (fun b => decide (b ≠ 58)) := by
  rw [contains_one, List.all_eq_not_any_not]
  congr 2
  funext b
  simp
end G
end Go.Proofs.Ytmfmgbjkbadndaa
