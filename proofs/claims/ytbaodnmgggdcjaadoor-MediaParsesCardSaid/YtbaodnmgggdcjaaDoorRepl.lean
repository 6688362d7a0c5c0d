/-
  strings.ReplaceAll of the library's own words, of one byte: each such byte is replaced.
-/
import Derived.Test.YtbaodnmgggdcjaaDoorTexts
import Derived.Lib.ReplaceLaws
import Derived.Lib.IndexMore
import Derived.Lib.SplitLaws
namespace Go.Proofs.YtbaodnmgggdcjaaDoor
namespace Rp
open Lib

theorem ra_def {old new : List UInt8} (hne : (old == new) = false) (s : List UInt8) : replaceAll s old new = replaceK old new (count s old) s := by
  unfold replaceAll replace
  rw [if_neg (by rw [hne]; exact Bool.false_ne_true)]
  unfold replaceNum
  rw [if_pos (by omega)]
theorem ra_nil {old new : List UInt8} (hne : (old == new) = false) (h1 : old ≠ []) : replaceAll [] old new = [] := by
  have hi : index [] old = -1 := by
    unfold index
    rw [if_neg (by simpa using h1)]
  rw [ra_def hne, count_miss hi, replaceK]
theorem ra_head {old new : List UInt8} (hne : (old == new) = false) (h1 : old ≠ []) (t : List UInt8) : replaceAll (old ++ t) old new = new ++ replaceAll t old new := by
  have hi : index (old ++ t) old = ((0 : Nat) : Int) := by
    obtain ⟨b, l, e⟩ : ∃ b l, old ++ t = b :: l := by
      cases old with
      | nil => exact absurd rfl h1
      | cons b l => exact ⟨b, l ++ t, rfl⟩
    rw [e]
    unfold index
    rw [if_pos (by rw [← e]; simp)]
    rfl
  rw [ra_def hne, ra_def hne, count_hit h1 hi, Nat.add_comm 1, replaceK_hit old new _ _ 0 hi]
  simp
theorem ra_past {old new : List UInt8} (hne : (old == new) = false) (h1 : old ≠ []) (b : UInt8) (t : List UInt8) (hp : old.isPrefixOf (b :: t) = false) : replaceAll (b :: t) old new = b :: replaceAll t old new := by
  have he : index (b :: t) old = if index t old == -1 then -1 else index t old + 1 := by
    conv => lhs; unfold index
    rw [if_neg (by rw [hp]; exact Bool.false_ne_true)]
  rw [ra_def hne, ra_def hne]
  by_cases hm : index t old = -1
  · rw [hm] at he
    rw [count_miss hm, count_miss (show index (b :: t) old = -1 by rw [he]; rfl)]
    rfl
  · have hge := index_ge t old
    obtain ⟨i, hi⟩ : ∃ i : Nat, index t old = i := ⟨(index t old).toNat, by omega⟩
    have hi2 : index (b :: t) old = ((i + 1 : Nat) : Int) := by
      rw [he, if_neg (by rw [beq_iff_eq]; exact hm), hi]
      rfl
    rw [count_hit h1 hi, count_hit h1 hi2, show i + 1 + old.length = (i + old.length) + 1 by omega, List.drop_succ_cons, Nat.add_comm 1, replaceK_hit old new _ _ i hi, replaceK_hit old new _ _ (i + 1) hi2,
      show i + 1 + old.length = (i + old.length) + 1 by omega, List.drop_succ_cons, List.take_succ_cons]
    rfl
/-- Each such byte is replaced. -/
theorem one (c : UInt8) (new : List UInt8) (hne : ([c] == new) = false) : ∀ l : List UInt8, replaceAll l [c] new = l.flatMap fun b => if b = c then new else [b]
  | [] => ra_nil hne (by simp)
  | b :: t => by
    rw [List.flatMap_cons]
    by_cases h : b = c
    · subst h
      rw [if_pos rfl, ← one b new hne t]
      exact ra_head hne (by simp) t
    · rw [if_neg h, ← one c new hne t]
      exact ra_past hne (by simp) b t (by simp [List.isPrefixOf]; exact fun e => h e.symm)
theorem one_length (c : UInt8) (x y : UInt8) (l : List UInt8) : (l.flatMap fun b => if b = c then [x, y] else [b]).length ≤ 2 * l.length := by
  induction l with
  | nil => simp
  | cons b t ih =>
    rw [List.flatMap_cons, List.length_append, List.length_cons]
    have : (if b = c then [x, y] else [b] : List UInt8).length ≤ 2 := by split <;> simp
    omega
end Rp
end Go.Proofs.YtbaodnmgggdcjaaDoor
