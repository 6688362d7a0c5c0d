/-
  References in plain Lean, as the program goes about them: cut at a byte, the number that stands for a reference.
-/
import Derived.Test.YtmeliljioagipaaGreatDoorProgNum
import Derived.Lib.IndexMore
import Derived.Lib.Strings
namespace Go.Proofs.YtmeliljioagipaaGreatDoor
open Go.RowKit
namespace E

/-- What stands ahead of the first such byte, and behind it. -/
def parts (c : UInt8) (t : List UInt8) : Option (List UInt8 × List UInt8) :=
  match t.drop (t.takeWhile (· ≠ c)).length with
  | [] => none
  | _ :: r => some (t.takeWhile (· ≠ c), r)

theorem parts_nil (c : UInt8) : parts c [] = none := rfl
theorem parts_hit (c : UInt8) (t : List UInt8) : parts c (c :: t) = some ([], t) := by simp [parts]
theorem parts_step {c b : UInt8} (h : b ≠ c) (t : List UInt8) : parts c (b :: t) = (parts c t).map fun x => (b :: x.1, x.2) := by
  unfold parts
  rw [List.takeWhile_cons_of_pos (by simpa using h)]
  simp only [List.length_cons, List.drop_succ_cons]
  cases t.drop (t.takeWhile (· ≠ c)).length <;> rfl
theorem semi_parts (t : List UInt8) : semi t = parts 59 t := rfl

theorem index_parts (c : UInt8) : ∀ l : List UInt8, Lib.index l [c] = match parts c l with | some x => (x.1.length : Int) | none => -1
  | [] => rfl
  | b :: t => by
    by_cases h : b = c
    · subst h
      rw [parts_hit]
      simp [Lib.index, List.isPrefixOf]
    · rw [parts_step h]
      have ih := index_parts c t
      simp only [Lib.index]
      have hp : [c].isPrefixOf (b :: t) = false := by simp [List.isPrefixOf, Ne.symm h]
      rw [hp, ih]
      cases parts c t with
      | none => rfl
      | some x =>
        have : ((x.1.length : Int) == -1) = false := by rw [beq_eq_false_iff_ne]; omega
        simp [this]

theorem parts_append {c : UInt8} {l a r : List UInt8} (h : parts c l = some (a, r)) : l = a ++ c :: r := by
  induction l generalizing a with
  | nil => cases h
  | cons b t ih =>
    by_cases e : b = c
    · subst e
      rw [parts_hit] at h
      cases h; rfl
    · rw [parts_step e] at h
      cases hp : parts c t with
      | none => rw [hp] at h; cases h
      | some x =>
        rw [hp] at h
        cases h
        rw [List.cons_append, ← ih hp]

theorem cut_hit {c : UInt8} {l a r : List UInt8} (h : parts c l = some (a, r)) : Lib.cut l [c] = (a, r, true) := by
  have e := parts_append h
  unfold Lib.cut
  rw [index_parts, h]
  simp only []
  rw [if_pos (by omega)]
  subst e
  simp
theorem cut_miss {c : UInt8} {l : List UInt8} (h : parts c l = none) : Lib.cut l [c] = (l, [], false) := by
  unfold Lib.cut
  rw [index_parts, h]
  rfl

theorem expand_miss (attr : Bool) : ∀ l : List UInt8, parts 38 l = none → expand attr l = some (l.map (blank attr))
  | [], _ => rfl
  | b :: t, h => by
    by_cases e : b = 38
    · subst e; rw [parts_hit] at h; cases h
    · rw [parts_step e] at h
      rw [expand_byte attr b t e, expand_miss attr t (by cases hp : parts 38 t with | none => rfl | some x => rw [hp] at h; cases h)]
      rfl
theorem expand_hit (attr : Bool) : ∀ (l a r : List UInt8), parts 38 l = some (a, r) → expand attr l = (expand attr (38 :: r)).map fun t => a.map (blank attr) ++ t
  | [], _, _, h => by cases h
  | b :: t, a, r, h => by
    by_cases e : b = 38
    · subst e; rw [parts_hit] at h; cases h
      cases expand attr (38 :: t) <;> rfl
    · rw [parts_step e] at h
      cases hp : parts 38 t with
      | none => rw [hp] at h; cases h
      | some x =>
        rw [hp] at h
        cases h
        rw [expand_byte attr b t e, expand_hit attr t x.1 x.2 hp]
        cases expand attr (38 :: x.2) <;> rfl

theorem numGo_val (base : Nat) (hb : 1 ≤ base) : ∀ (l : List UInt8) (n : Nat), numGo base (min n 1114112) l = (valGo base n l).map (min · 1114112)
  | [], n => rfl
  | c :: t, n => by
    simp only [numGo, valGo]
    cases digit c base with
    | none => rfl
    | some d =>
      simp only [Option.bind_some]
      rw [← numGo_val base hb t]
      congr 1
      by_cases h : n ≤ 1114112
      · rw [Nat.min_eq_left h]
      · rw [Nat.min_eq_right (show 1114112 ≤ n by omega)]
        have h1 : 1114112 ≤ 1114112 * base := Nat.le_mul_of_pos_right _ (by omega)
        have h2 : n ≤ n * base := Nat.le_mul_of_pos_right _ (by omega)
        omega

theorem char_zero : G.char 0 = false := by decide
theorem char_big {n : Nat} (h : 1114112 ≤ n) : G.char (n : Int) = false := by
  simp [G.char, G.inR]; omega

theorem number_val (base : Nat) (hb : 1 ≤ base) (l : List UInt8) : number base l = if G.char (val32 base l : Nat) then some (val32 base l) else none := by
  unfold number val32
  by_cases h : l = []
  · rw [if_pos h, if_pos h]
    rw [show ((0 : Nat) : Int) = 0 from rfl, char_zero]
    rfl
  · rw [if_neg h, if_neg h]
    have hn := numGo_val base hb l 0
    rw [Nat.min_eq_left (by omega)] at hn
    rw [hn]
    cases valGo base 0 l with
    | none => simp [char_zero]
    | some m =>
      simp only [Option.map_some, Option.bind_some]
      by_cases hm : m < 1114112
      · rw [Nat.min_eq_left (by omega), if_pos (show m ≤ 4294967295 by omega)]
      · rw [Nat.min_eq_right (by omega), if_neg (by rw [char_big (Nat.le_refl _)]; decide)]
        rw [if_neg]
        split
        · rw [char_big (by omega)]; decide
        · rw [show ((0 : Nat) : Int) = 0 from rfl, char_zero]; decide

/-- The code point of a reference that is a name; 0: none. -/
def nameN (l : List UInt8) : Nat := if l = [108, 116] then 60 else if l = [103, 116] then 62 else if l = [97, 109, 112] then 38 else if l = [113, 117, 111, 116] then 34 else if l = [97, 112, 111, 115] then 39 else 0
theorem nameN_le (l : List UInt8) : nameN l ≤ 62 := by
  unfold nameN
  repeat' split
  all_goals omega
/-- The number that stands for a reference. -/
def pointN (l : List UInt8) : Nat :=
  if Lib.hasPrefix l [35] then (if Lib.hasPrefix (l.drop 1) [120] then val32 16 (l.drop 2) else val32 10 (l.drop 1)) else nameN l
theorem val32_le (base : Nat) (l : List UInt8) : val32 base l ≤ 4294967295 := by
  unfold val32
  split
  · omega
  · split
    · split <;> omega
    · omega
theorem pointN_le (l : List UInt8) : pointN l ≤ 4294967295 := by
  unfold pointN
  split
  · split
    · exact val32_le _ _
    · exact val32_le _ _
  · have := nameN_le l; omega

theorem named_point (l : List UInt8) : named l = if G.char (pointN l : Nat) then some (Lib.encodeRune (pointN l : Nat)) else none := by
  by_cases h1 : l = [108, 116]
  · subst h1; decide
  by_cases h2 : l = [103, 116]
  · subst h2; decide
  by_cases h3 : l = [97, 109, 112]
  · subst h3; decide
  by_cases h4 : l = [113, 117, 111, 116]
  · subst h4; decide
  by_cases h5 : l = [97, 112, 111, 115]
  · subst h5; decide
  unfold named
  rw [if_neg h1, if_neg h2, if_neg h3, if_neg h4, if_neg h5]
  match l, h1, h2, h3, h4, h5 with
  | [], _, _, _, _, _ => decide
  | b :: t, h1, h2, h3, h4, h5 =>
    by_cases hb : b = 35
    · subst hb
      match t with
      | [] => decide
      | c :: t =>
        by_cases hc : c = 120
        · subst hc
          match t with
          | [] =>
            have e1 : number 10 [120] = none := by decide
            have e2 : pointN [35, 120] = 0 := by decide
            rw [if_neg (by simp), if_pos (by simp), e2]
            simp only [List.drop_succ_cons, List.drop_zero]
            rw [e1]
            simp [char_zero]
          | d :: t =>
            have hp : pointN (35 :: 120 :: d :: t) = val32 16 (d :: t) := by simp [pointN, Lib.hasPrefix, List.isPrefixOf]
            rw [if_pos (by simp), hp]
            simp only [List.drop_succ_cons, List.drop_zero]
            rw [number_val 16 (by decide)]
            split <;> simp_all
        · have hp : pointN (35 :: c :: t) = val32 10 (c :: t) := by simp [pointN, Lib.hasPrefix, List.isPrefixOf, Ne.symm hc]
          rw [if_neg (by simp [hc]), if_pos (by simp), hp]
          simp only [List.drop_succ_cons, List.drop_zero]
          rw [number_val 10 (by decide)]
          split <;> simp_all
    · have hp : pointN (b :: t) = 0 := by
        have : Lib.hasPrefix (b :: t) [35] = false := by simp [Lib.hasPrefix, List.isPrefixOf, Ne.symm hb]
        unfold pointN
        rw [this]
        simp only [Bool.false_eq_true, if_false]
        unfold nameN
        rw [if_neg h1, if_neg h2, if_neg h3, if_neg h4, if_neg h5]
      rw [if_neg (by simp [hb]), if_neg (by simp [hb]), hp]
      simp [char_zero]
end E
end Go.Proofs.YtmeliljioagipaaGreatDoor
