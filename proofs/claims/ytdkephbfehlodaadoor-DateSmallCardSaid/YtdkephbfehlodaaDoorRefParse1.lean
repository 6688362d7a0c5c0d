/-
  What the document's own Parse of dates comes to, in plain Lean.
-/
import Derived.Test.YtdkephbfehlodaaDoorRefZone
namespace Go.Proofs.YtdkephbfehlodaaDoor
open Go.RowKit

namespace D
/-- The five signs between the numbers. -/
def signs (l : List UInt8) : Bool := sign l 4 45 && sign l 7 45 && sign l 10 84 && sign l 13 58 && sign l 16 58
/-- The six numbers are a day and a time of it. -/
def inBounds (y mo d h mi se : Int) : Bool :=
  decide (0 ≤ y) && decide (1 ≤ mo) && decide (mo ≤ 12) && decide (1 ≤ d) && decide (d ≤ mlen y mo) && decide (0 ≤ h) && decide (h ≤ 23) && decide (0 ≤ mi) && decide (mi ≤ 59) && decide (0 ≤ se) && decide (se ≤ 59)
/-- A text, read: seconds and billionths. -/
def parse (l : List UInt8) : Option (Int × Int) :=
  if signs l = true then
    if inBounds (num l 0 4) (num l 5 2) (num l 8 2) (num l 11 2) (num l 14 2) (num l 17 2) = true then
      if fracE l 19 < 0 then none
      else match zone (l.drop (fracE l 19).toNat) with
        | none => none
        | some z => some (days (num l 0 4) (num l 5 2) (num l 8 2) * 86400 + num l 11 2 * 3600 + num l 14 2 * 60 + num l 17 2 - z, fracN l 19)
    else none
  else none
def paS (l : List UInt8) : Int := ((parse l).map (·.1)).getD 0
def paN (l : List UInt8) : Int := ((parse l).map (·.2)).getD 0
def paE (l : List UInt8) : Int := if (parse l).isSome = true then 0 else 110
theorem pa_none {l : List UInt8} (h : parse l = none) : paS l = 0 ∧ paN l = 0 ∧ paE l = 110 := by unfold paS paN paE; rw [h]; exact ⟨rfl, rfl, rfl⟩
theorem pa_some {l : List UInt8} {x y : Int} (h : parse l = some (x, y)) : paS l = x ∧ paN l = y ∧ paE l = 0 := by unfold paS paN paE; rw [h]; exact ⟨rfl, rfl, rfl⟩
theorem pa_sign {l : List UInt8} (h : signs l = false) : parse l = none := by unfold parse; rw [if_neg (by rw [h]; simp)]
theorem pa_bound {l : List UInt8} (h : inBounds (num l 0 4) (num l 5 2) (num l 8 2) (num l 11 2) (num l 14 2) (num l 17 2) = false) : parse l = none := by
  unfold parse
  split
  · rw [if_neg (by rw [h]; simp)]
  · rfl
theorem pa_frac {l : List UInt8} (h : fracE l 19 < 0) : parse l = none := by
  unfold parse
  repeat' split
  all_goals first | rfl | omega
theorem pa_zone {l : List UInt8} (h : zone (l.drop (fracE l 19).toNat) = none) : parse l = none := by
  unfold parse
  rw [h]
  repeat' split
  all_goals first | rfl | contradiction
theorem pa_is {l : List UInt8} {z : Int} (h1 : signs l = true) (h2 : inBounds (num l 0 4) (num l 5 2) (num l 8 2) (num l 11 2) (num l 14 2) (num l 17 2) = true) (h3 : ¬ fracE l 19 < 0) (h4 : zone (l.drop (fracE l 19).toNat) = some z) :
    parse l = some (days (num l 0 4) (num l 5 2) (num l 8 2) * 86400 + num l 11 2 * 3600 + num l 14 2 * 60 + num l 17 2 - z, fracN l 19) := by
  unfold parse
  rw [if_pos h1, if_pos h2, if_neg h3, h4]
theorem bounds_of {y mo d h mi se : Int} (e : inBounds y mo d h mi se = true) : 0 ≤ y ∧ 1 ≤ mo ∧ mo ≤ 12 ∧ 1 ≤ d ∧ d ≤ mlen y mo ∧ 0 ≤ h ∧ h ≤ 23 ∧ 0 ≤ mi ∧ mi ≤ 59 ∧ 0 ≤ se ∧ se ≤ 59 := by
  simp only [inBounds, Bool.and_eq_true, decide_eq_true_eq] at e
  omega
theorem zone_bd {l : List UInt8} {z : Int} (h : zone l = some z) : -86400 < z ∧ z < 86400 := by
  unfold zone at h
  split at h
  · have := Option.some.inj h; omega
  · split at h
    · split at h
      · cases h
      · split at h <;> · have := Option.some.inj h; omega
    · cases h
theorem days_bd {y m d : Int} (h0 : 0 ≤ y) (h1 : y ≤ 9999) (hm1 : 1 ≤ m) (hm2 : m ≤ 12) (hd1 : 1 ≤ d) (hd2 : d ≤ mlen y m) : -2000000 ≤ days y m d ∧ days y m d ≤ 20000000 := by
  have a := yd_bd (y := y) h0 (by omega)
  have b := md_bd y hm1 hm2
  have c := mlen_le y m
  unfold days
  omega
theorem fracN_bd (l : List UInt8) (a : Nat) : 0 ≤ fracN l a := by
  unfold fracN
  repeat' split
  all_goals omega
theorem num_len {l : List UInt8} {a n : Nat} (h : 0 ≤ num l a n) : a + n ≤ l.length := by
  refine Nat.le_of_not_lt (fun e => ?_)
  rw [num_short e] at h
  omega
theorem fracE_nat {l : List UInt8} {a : Nat} (ha : a ≤ l.length) (h : ¬ fracE l a < 0) : ∃ k : Nat, fracE l a = (k : Int) ∧ k ≤ l.length := by
  unfold fracE at h ⊢
  by_cases hs : sign l a 46 = true
  · rw [if_pos hs] at h ⊢
    by_cases h0 : (fdig l a).length = 0
    · rw [if_pos h0] at h; omega
    · rw [if_neg h0]
      refine ⟨_, rfl, ?_⟩
      have h1 : (fdig l a).length ≤ (l.drop (a + 1)).length := (List.takeWhile_sublist _).length_le
      rw [List.length_drop] at h1
      omega
  · rw [if_neg hs]
    exact ⟨a, rfl, ha⟩
end D
end Go.Proofs.YtdkephbfehlodaaDoor
