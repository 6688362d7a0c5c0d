/-
  What the document's own words of the calendar come to: contracts of leap, days, since.
-/
import Derived.Test.YtdkephbfehlodaaDoorTexts
import Derived.Test.YtdkephbfehlodaaDoorDate
namespace Go.Proofs.YtdkephbfehlodaaDoor
open Go.RowKit

theorem refLeap_any (y : Int) (w : World) (h0 : 0 ≤ y) :
    Calls Tryd.prog 42 #[.int .i64 y] w fun e w' => e = .returned (.bool (D.leap y)) ∧ w = w' := by
  have H : D.leap y = (decide (y % 4 = 0) && (decide (y % 100 ≠ 0) || decide (y % 400 = 0))) := rfl
  have HH := Lib.hid H
  clear H
  have e1 : y.tmod 4 = y % 4 := Int.tmod_eq_emod_of_nonneg h0
  have e2 : y.tmod 100 = y % 100 := Int.tmod_eq_emod_of_nonneg h0
  have e3 : y.tmod 400 = y % 400 := Int.tmod_eq_emod_of_nonneg h0
  generalize y % 4 = a at *
  generalize y % 100 = b at *
  generalize y % 400 = c at *
  go_enter Tryd.func42, Tryd.ntmps42
  by_cases ha : a = 0 <;> by_cases hb : b = 0 <;> by_cases hc : c = 0 <;> go_wp2 <;> go_ret <;> exact ⟨ret_bool (by rw [HH.out]; simp [ha, hb, hc]), rfl⟩

set_option maxHeartbeats 800000 in
theorem refDays_any (y m : Int) (w : World) (h0 : 0 ≤ y) (hm1 : 1 ≤ m) (hm2 : m ≤ 12) :
    Calls Tryd.prog 25 #[.int .i64 y, .int .i64 m] w fun e w' => e = .returned (.int .i64 (D.mlen y m)) ∧ w = w' := by
  have H : D.mlen y m = if m = 4 ∨ m = 6 ∨ m = 9 ∨ m = 11 then 30 else if m = 2 then 28 + D.lp y else 31 := rfl
  have HL : D.lp y = if D.leap y = true then 1 else 0 := rfl
  by_cases hm : m = 4 ∨ m = 6 ∨ m = 9 ∨ m = 11
  · rw [if_pos hm] at H
    have H := Lib.hid H
    clear HL
    go_enter Tryd.func25, Tryd.ntmps25
    rcases hm with rfl | rfl | rfl | rfl <;> go_wp2 <;> go_ret <;> exact ⟨ret_int H.out.symm, rfl⟩
  · rw [if_neg hm] at H
    have n4 : ¬ m = 4 := fun e => hm (.inl e)
    have n6 : ¬ m = 6 := fun e => hm (.inr (.inl e))
    have n9 : ¬ m = 9 := fun e => hm (.inr (.inr (.inl e)))
    have n11 : ¬ m = 11 := fun e => hm (.inr (.inr (.inr e)))
    clear hm
    go_enter Tryd.func25, Tryd.ntmps25
    by_cases h2 : m = 2
    · rw [if_pos h2] at H
      subst h2
      go_wp2_with fail
      (with_reducible refine (refLeap_any y _ h0).mono ?_); rintro e w1 ⟨rfl, rfl⟩
      cases hl : D.leap y
      · rw [hl] at HL
        have H := Lib.hid (H.trans (by rw [HL]))
        clear HL hl
        go_wp2
        go_ret
        exact ⟨ret_int H.out.symm, rfl⟩
      · rw [hl] at HL
        have H := Lib.hid (H.trans (by rw [HL]))
        clear HL hl
        go_wp2
        go_ret
        exact ⟨ret_int H.out.symm, rfl⟩
    · rw [if_neg h2] at H
      have H := Lib.hid H
      clear HL
      go_wp2
      go_ret
      exact ⟨ret_int H.out.symm, rfl⟩
end Go.Proofs.YtdkephbfehlodaaDoor
