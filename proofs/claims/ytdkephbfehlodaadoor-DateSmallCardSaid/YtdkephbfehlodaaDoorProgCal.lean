/-
  What the program's own words of the calendar come to: contracts of isWithin, isLeap, lastDay, monthStart, dayOf, dateOf.
-/
import Derived.Test.YtdkephbfehlodaaDoorTexts
import Derived.Test.YtdkephbfehlodaaDoorProgDays
namespace Go.Proofs.YtdkephbfehlodaaDoor
open Go.RowKit

theorem gWithin_yes (n a b : Int) (w : World) (h1 : a ≤ n) (h2 : n ≤ b) :
    Calls Tryd.prog 29 #[.int .i64 n, .int .i64 a, .int .i64 b] w fun e w' => e = .returned (.bool true) ∧ w = w' := by
  go_enter Tryd.func29, Tryd.ntmps29
  go_wp2
  go_ret
  exact ⟨rfl, rfl⟩
theorem gWithin_no (n a b : Int) (w : World) (h : n < a ∨ b < n) :
    Calls Tryd.prog 29 #[.int .i64 n, .int .i64 a, .int .i64 b] w fun e w' => e = .returned (.bool false) ∧ w = w' := by
  go_enter Tryd.func29, Tryd.ntmps29
  by_cases h1 : n < a
  · clear h
    go_wp2
    go_ret
    exact ⟨rfl, rfl⟩
  · have h2 : b < n := by omega
    have h3 : a ≤ n := by omega
    clear h h1
    go_wp2
    go_ret
    exact ⟨ret_bool (decide_eq_false (by omega)), rfl⟩

theorem gLeap_any (y : Int) (w : World) (h0 : 0 ≤ y) :
    Calls Tryd.prog 53 #[.int .i64 y] w fun e w' => e = .returned (.bool (D.leap y)) ∧ w = w' := by
  have H : D.leap y = (decide (y % 4 = 0) && (decide (y % 100 ≠ 0) || decide (y % 400 = 0))) := rfl
  have e1 : y.tmod 4 = y % 4 := Int.tmod_eq_emod_of_nonneg h0
  have e2 : y.tmod 100 = y % 100 := Int.tmod_eq_emod_of_nonneg h0
  have e3 : y.tmod 400 = y % 400 := Int.tmod_eq_emod_of_nonneg h0
  have h4 : y % 400 = 0 → y % 4 = 0 := by omega
  have HH := Lib.hid H
  replace h4 := Lib.hid h4
  clear H
  generalize y % 4 = a at *
  generalize y % 100 = b at *
  generalize y % 400 = c at *
  go_enter Tryd.func53, Tryd.ntmps53
  by_cases ha : a = 0 <;> by_cases hb : b = 0 <;> by_cases hc : c = 0 <;> first | exact absurd (h4.out hc) ha | (go_wp2 <;> go_ret <;> exact ⟨ret_bool (by rw [HH.out]; simp [ha, hb, hc]), rfl⟩)

set_option maxHeartbeats 800000 in
theorem gLastDay_any (y m : Int) (w : World) (h0 : 0 ≤ y) :
    Calls Tryd.prog 40 #[.int .i64 y, .int .i64 m] w fun e w' => e = .returned (.int .i64 (D.mlen y m)) ∧ w = w' := by
  have H : D.mlen y m = if m = 4 ∨ m = 6 ∨ m = 9 ∨ m = 11 then 30 else if m = 2 then 28 + D.lp y else 31 := rfl
  have HL : D.lp y = if D.leap y = true then 1 else 0 := rfl
  by_cases hm : m = 4 ∨ m = 6 ∨ m = 9 ∨ m = 11
  · rw [if_pos hm] at H
    have H := Lib.hid H
    clear HL
    go_enter Tryd.func40, Tryd.ntmps40
    rcases hm with rfl | rfl | rfl | rfl <;> go_wp2 <;> go_ret <;> exact ⟨ret_int H.out.symm, rfl⟩
  · rw [if_neg hm] at H
    have n4 : ¬ m = 4 := fun e => hm (.inl e)
    have n6 : ¬ m = 6 := fun e => hm (.inr (.inl e))
    have n9 : ¬ m = 9 := fun e => hm (.inr (.inr (.inl e)))
    have n11 : ¬ m = 11 := fun e => hm (.inr (.inr (.inr e)))
    clear hm
    go_enter Tryd.func40, Tryd.ntmps40
    by_cases h2 : m = 2
    · rw [if_pos h2] at H
      subst h2
      go_wp2_with fail
      (with_reducible refine (gLeap_any y _ h0).mono ?_); rintro e w1 ⟨rfl, rfl⟩
      cases hl : D.leap y
      · rw [hl] at HL
        have H := Lib.hid (H.trans (by rw [HL]))
        clear HL hl
        go_wp2
        go_ret
        exact ⟨ret_int H.out.symm, rfl⟩
      · rw [hl] at HL
        have H := Lib.hid (H.trans (by rw [HL]))
        clear HL hl
        go_wp2
        go_ret
        exact ⟨ret_int H.out.symm, rfl⟩
    · rw [if_neg h2] at H
      have H := Lib.hid H
      clear HL
      go_wp2
      go_ret
      exact ⟨ret_int H.out.symm, rfl⟩

theorem gMonthStart_any (k : Int) (w : World) (h0 : 0 ≤ k) (h1 : k ≤ 11) :
    Calls Tryd.prog 54 #[.int .i64 k] w fun e w' => e = .returned (.int .i64 (D.mst k)) ∧ w = w' := by
  have H := Lib.hid (show D.mst k = (153 * k + 2) / 5 from rfl)
  go_enter Tryd.func54, Tryd.ntmps54
  go_wp2
  go_ret
  exact ⟨ret_int H.out.symm, rfl⟩
theorem D.mst_bd {k : Int} (h0 : 0 ≤ k) (h1 : k ≤ 11) : 0 ≤ D.mst k ∧ D.mst k ≤ 337 := by unfold D.mst; omega

set_option maxHeartbeats 800000 in
theorem gDayOf_any (y m d : Int) (w : World) (h0 : 0 ≤ y) (h1 : y ≤ 9999) (hm1 : 1 ≤ m) (hm2 : m ≤ 12) (hd1 : 1 ≤ d) (hd2 : d ≤ 31) :
    Calls Tryd.prog 41 #[.int .i64 y, .int .i64 m, .int .i64 d] w fun e w' => e = .returned (.int .i64 (D.days y m d)) ∧ w = w' := by
  obtain ⟨k, hk, k0, k1⟩ : ∃ k, (m + 9) % 12 = k ∧ 0 ≤ k ∧ k ≤ 11 := ⟨_, rfl, by omega, by omega⟩
  obtain ⟨s, hs⟩ : ∃ s, D.mst k = s := ⟨_, rfl⟩
  have hsb := D.mst_bd k0 k1
  rw [hs] at hsb
  by_cases hlt : m < 3
  · have e1 := D.cnt_early (y := y) (d := d) hm1 hlt
    rw [hk] at e1
    have e2 : D.cnt (y + 400 - 1) k d = 365 * (y + 400 - 1) + (y + 400 - 1) / 4 - (y + 400 - 1) / 100 + (y + 400 - 1) / 400 + D.mst k + d - 1 - 865565 := rfl
    rw [e1, hs] at e2
    have e2 := Lib.hid e2
    clear e1
    go_enter Tryd.func41, Tryd.ntmps41
    go_wp2_with fail
    (with_reducible refine (gMonthStart_any k _ k0 k1).mono ?_); rintro e w1 ⟨rfl, rfl⟩
    rw [hs]
    clear hk hs
    go_wp2
    go_ret
    exact ⟨ret_int e2.out.symm, rfl⟩
  · have e1 := D.cnt_late (y := y) (d := d) (by omega) hm2
    rw [hk] at e1
    have e2 : D.cnt (y + 400) k d = 365 * (y + 400) + (y + 400) / 4 - (y + 400) / 100 + (y + 400) / 400 + D.mst k + d - 1 - 865565 := rfl
    rw [e1, hs] at e2
    have e2 := Lib.hid e2
    clear e1
    go_enter Tryd.func41, Tryd.ntmps41
    go_wp2_with fail
    (with_reducible refine (gMonthStart_any k _ k0 k1).mono ?_); rintro e w1 ⟨rfl, rfl⟩
    rw [hs]
    clear hk hs
    go_wp2
    go_ret
    exact ⟨ret_int e2.out.symm, rfl⟩

theorem ret_three {a b c x y z : Int} (h1 : a = x) (h2 : b = y) (h3 : c = z) : Ending.returned (.tuple #[.int .i64 a, .int .i64 b, .int .i64 c]) = .returned (.tuple #[.int .i64 x, .int .i64 y, .int .i64 z]) := by rw [h1, h2, h3]

set_option maxHeartbeats 1600000 in
theorem gDateOf_any (n : Int) (w : World) (h1 : -719528 ≤ n) (h2 : n < 2932897) :
    Calls Tryd.prog 43 #[.int .i64 n] w fun e w' => e = .returned (.tuple #[.int .i64 (D.yOf n), .int .i64 (D.mOf n), .int .i64 (D.dOf n)]) ∧ w = w' := by
  obtain ⟨q, hq⟩ : ∃ q, 4 * (n + 865565) + 3 = q := ⟨_, rfl⟩
  obtain ⟨c, hc⟩ : ∃ c, q / 146097 = c := ⟨_, rfl⟩
  obtain ⟨l1, hl1⟩ : ∃ l1, q % 146097 / 4 = l1 := ⟨_, rfl⟩
  obtain ⟨y, hy⟩ : ∃ y, (4 * l1 + 3) / 1461 = y := ⟨_, rfl⟩
  obtain ⟨l, hl⟩ : ∃ l, (4 * l1 + 3) % 1461 / 4 = l := ⟨_, rfl⟩
  obtain ⟨k, hk⟩ : ∃ k, (5 * l + 2) / 153 = k := ⟨_, rfl⟩
  obtain ⟨r1, r2, r3, k0, k1⟩ := D.back_is (n := n) (c := c) (l := l) (y := y) (k := k) ⟨by rw [hq, hc], by rw [hq, hl1, hy], by rw [hq, hl1, hl], hk.symm⟩ h1 h2
  obtain ⟨s, hs⟩ : ∃ s, D.mst k = s := ⟨_, rfl⟩
  have hsb := D.mst_bd k0 k1
  rw [hs] at hsb r3
  have q0 : 0 ≤ q ∧ q ≤ 20000000 := by omega
  have c0 : 0 ≤ c ∧ c ≤ 200 := by omega
  have l10 : 0 ≤ l1 ∧ l1 ≤ 40000 := by omega
  have y0 : 0 ≤ y ∧ y ≤ 200 := by omega
  have l0 : 0 ≤ l ∧ l ≤ 366 := by omega
  obtain ⟨q0, q1⟩ := q0
  obtain ⟨c0, c1⟩ := c0
  obtain ⟨l10, l11⟩ := l10
  obtain ⟨y0, y1⟩ := y0
  obtain ⟨l0, l2⟩ := l0
  have hl' := Lib.hid hl
  replace r2 := Lib.hid r2
  replace r3 := Lib.hid r3
  replace r1 := Lib.hid r1
  go_enter Tryd.func43, Tryd.ntmps43
  by_cases hk9 : k > 9
  · have r1 := Lib.hid (r1.out.trans (if_pos hk9))
    go_wp2_with fail
    (with_reducible refine (gMonthStart_any k _ k0 k1).mono ?_); rintro e w1 ⟨rfl, rfl⟩
    rw [hs]
    clear hq hc hl1 hy hl hk hs
    go_wp2
    go_ret3
    exact ⟨ret_three r1.out.symm r2.out.symm (by first | exact r3.out.symm | (rw [hl'.out]; exact r3.out.symm)), rfl⟩
  · have r1 := Lib.hid (r1.out.trans (if_neg hk9))
    go_wp2_with fail
    (with_reducible refine (gMonthStart_any k _ k0 k1).mono ?_); rintro e w1 ⟨rfl, rfl⟩
    rw [hs]
    clear hq hc hl1 hy hl hk hs
    go_wp2
    go_ret3
    exact ⟨ret_three r1.out.symm r2.out.symm (by first | exact r3.out.symm | (rw [hl'.out]; exact r3.out.symm)), rfl⟩
end Go.Proofs.YtdkephbfehlodaaDoor
