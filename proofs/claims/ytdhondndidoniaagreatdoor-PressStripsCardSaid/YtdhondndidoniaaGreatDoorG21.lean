/-
  The program's closed forms of the calendar, in plain Lean: years that begin in March; they are the calendar's days.
  What the program's own words of the calendar come to: contracts of isWithin, isLeap, lastDay, monthStart, dayOf, dateOf.
  What the program's own words of forms and numbers come to: contracts of isDigit, cut, number, minutes; the words themselves, in plain Lean.
-/
import Derived.Test.YtdhondndidoniaaGreatDoorG20
import Derived.Test.YtdhondndidoniaaGreatDoorG01
import Derived.Test.YtdhondndidoniaaGreatDoorG06
import Derived.Laws.IdiomStrings
import Derived.BigQuiet
namespace Go.Proofs.YtdhondndidoniaaGreatDoor
namespace D

/-- Days of a year that begins in March, ahead of a month of it. -/
def mst (k : Int) : Int := (153 * k + 2) / 5
/-- The program's count of days. -/
def cnt (Y k d : Int) : Int := 365 * Y + Y / 4 - Y / 100 + Y / 400 + mst k + d - 1 - 865565

theorem cnt_early {y m d : Int} (h1 : 1 ≤ m) (h2 : m < 3) : cnt (y + 400 - 1) ((m + 9) % 12) d = days y m d := by
  have : m = 1 ∨ m = 2 := by omega
  rcases this with rfl | rfl <;> simp [cnt, mst, days, yd, md, md0] <;> omega

theorem cnt_late {y m d : Int} (h1 : 3 ≤ m) (h2 : m ≤ 12) : cnt (y + 400) ((m + 9) % 12) d = days y m d := by
  have e : yd y + lp y = 365 * (y - 1970) + (y / 4 - y / 100 + y / 400) - 477 := by
    have := yd_succ y
    have h : yd (y + 1) = 365 * (y + 1 - 1970) + ((y + 1 - 1) / 4 - (y + 1 - 1) / 100 + (y + 1 - 1) / 400) - 477 := rfl
    rw [show y + 1 - 1 = y by omega] at h
    omega
  have : m = 3 ∨ m = 4 ∨ m = 5 ∨ m = 6 ∨ m = 7 ∨ m = 8 ∨ m = 9 ∨ m = 10 ∨ m = 11 ∨ m = 12 := by omega
  rcases this with rfl | rfl | rfl | rfl | rfl | rfl | rfl | rfl | rfl | rfl <;> simp [cnt, mst, days, md, md0] <;> omega

/-- What the program's way back comes to. -/
structure Back (n c l y k : Int) : Prop where
  cI : c = (4 * (n + 865565) + 3) / 146097
  yI : y = (4 * ((4 * (n + 865565) + 3) % 146097 / 4) + 3) / 1461
  lI : l = (4 * ((4 * (n + 865565) + 3) % 146097 / 4) + 3) % 1461 / 4
  kI : k = (5 * l + 2) / 153

theorem Back.at {n c l y k : Int} (h : Back n c l y k) : n + 865565 = 365 * (100 * c + y) + (100 * c + y) / 4 - (100 * c + y) / 100 + (100 * c + y) / 400 + l ∧ 0 ≤ y ∧ y ≤ 99 ∧ 0 ≤ l ∧ l ≤ 365 ∧ (l = 365 → (y % 4 = 3 ∧ (y = 99 → c % 4 = 3))) := by
  obtain ⟨hc, hy, hl, -⟩ := h
  obtain ⟨N, hN⟩ : ∃ N, n + 865565 = N := ⟨_, rfl⟩
  rw [hN] at hc hy hl ⊢
  obtain ⟨r, hr⟩ : ∃ r, (4 * N + 3) % 146097 = r := ⟨_, rfl⟩
  rw [hr] at hy hl
  have h1 : 4 * N + 3 = 146097 * c + r := by omega
  have h2 : 0 ≤ r ∧ r < 146097 := by omega
  clear hr hc
  obtain ⟨p, hp⟩ : ∃ p, r / 4 = p := ⟨_, rfl⟩
  rw [hp] at hy hl
  have h3 : p = N - 36524 * c - c / 4 := by omega
  obtain ⟨r2, hr2⟩ : ∃ r2, (4 * p + 3) % 1461 = r2 := ⟨_, rfl⟩
  rw [hr2] at hl
  have h4 : 4 * p + 3 = 1461 * y + r2 := by omega
  have h5 : 0 ≤ r2 ∧ r2 < 1461 := by omega
  clear hr2 hy
  have h6 : l = p - 365 * y - y / 4 := by omega
  have h7 : 0 ≤ p ∧ p ≤ 36524 := by omega
  have h8 : 0 ≤ y ∧ y ≤ 99 := by omega
  have e4 : (100 * c + y) / 4 = 25 * c + y / 4 := by omega
  have e100 : (100 * c + y) / 100 = c := by omega
  have e400 : (100 * c + y) / 400 = c / 4 := by omega
  rw [e4, e100, e400]
  refine ⟨by omega, h8.1, h8.2, by omega, by omega, fun hl => ⟨by omega, fun hy => by omega⟩⟩

theorem leap_mod4 {y : Int} (h1 : y % 4 = 0) (h2 : y % 100 = 0 → y % 400 = 0) : lp y = 1 := by
  unfold lp leap
  by_cases h : y % 100 = 0
  · simp [h1, h, h2 h]
  · simp [h1, h]

theorem back_day {n c l y k : Int} (h : Back n c l y k) :
    (k > 9 → Day (100 * c + y - 400 + 1) ((k + 2) % 12 + 1) (l - mst k + 1) ∧ days (100 * c + y - 400 + 1) ((k + 2) % 12 + 1) (l - mst k + 1) = n) ∧
    (¬ k > 9 → Day (100 * c + y - 400) ((k + 2) % 12 + 1) (l - mst k + 1) ∧ days (100 * c + y - 400) ((k + 2) % 12 + 1) (l - mst k + 1) = n) ∧ 0 ≤ k ∧ k ≤ 11 := by
  obtain ⟨e, hy0, hy9, hl0, hl5, hlp⟩ := h.at
  have hk := h.kI
  have hk0 : 0 ≤ k ∧ k ≤ 11 := by omega
  clear h
  have hc : ∀ d, cnt (100 * c + y) k d = 365 * (100 * c + y) + (100 * c + y) / 4 - (100 * c + y) / 100 + (100 * c + y) / 400 + mst k + d - 1 - 865565 := fun _ => rfl
  refine ⟨fun hk9 => ?_, fun hk9 => ?_, hk0.1, hk0.2⟩
  · have : k = 10 ∨ k = 11 := by omega
    have hc1 := hc (l - mst k + 1)
    rcases this with rfl | rfl
    · have e1 := cnt_early (y := 100 * c + y - 400 + 1) (m := 1) (d := l - mst 10 + 1) (by omega) (by omega)
      rw [show 100 * c + y - 400 + 1 + 400 - 1 = 100 * c + y by omega, show ((1 : Int) + 9) % 12 = 10 by decide] at e1
      have e2 : mst 10 = 306 := by decide
      rw [e2] at e1 hc1 ⊢
      refine ⟨⟨by decide, by decide, by omega, ?_⟩, ?_⟩
      · show l - 306 + 1 ≤ mlen (100 * c + y - 400 + 1) 1
        simp only [mlen]; simp; omega
      · show days (100 * c + y - 400 + 1) 1 (l - 306 + 1) = n
        rw [← e1]; omega
    · have e1 := cnt_early (y := 100 * c + y - 400 + 1) (m := 2) (d := l - mst 11 + 1) (by omega) (by omega)
      rw [show 100 * c + y - 400 + 1 + 400 - 1 = 100 * c + y by omega, show ((2 : Int) + 9) % 12 = 11 by decide] at e1
      have e2 : mst 11 = 337 := by decide
      rw [e2] at e1 hc1 ⊢
      refine ⟨⟨by decide, by decide, by omega, ?_⟩, ?_⟩
      · show l - 337 + 1 ≤ mlen (100 * c + y - 400 + 1) 2
        have hml : mlen (100 * c + y - 400 + 1) 2 = 28 + lp (100 * c + y - 400 + 1) := by simp [mlen]
        rw [hml]
        by_cases h5 : l = 365
        · obtain ⟨a, b⟩ := hlp h5
          rw [leap_mod4 (by omega) (fun h => by have := b (by omega); omega)]
          omega
        · have := lp_01 (100 * c + y - 400 + 1)
          omega
      · show days (100 * c + y - 400 + 1) 2 (l - 337 + 1) = n
        rw [← e1]; omega
  · have hc1 := hc (l - mst k + 1)
    have e1 := cnt_late (y := 100 * c + y - 400) (m := k + 3) (d := l - mst k + 1) (by omega) (by omega)
    rw [show 100 * c + y - 400 + 400 = 100 * c + y by omega, show (k + 3 + 9) % 12 = k by omega] at e1
    have e3 : (k + 2) % 12 + 1 = k + 3 := by omega
    rw [e3]
    refine ⟨⟨by omega, by omega, ?_, ?_⟩, by rw [← e1]; omega⟩
    · unfold mst; omega
    · have : k = 0 ∨ k = 1 ∨ k = 2 ∨ k = 3 ∨ k = 4 ∨ k = 5 ∨ k = 6 ∨ k = 7 ∨ k = 8 ∨ k = 9 := by omega
      rcases this with rfl | rfl | rfl | rfl | rfl | rfl | rfl | rfl | rfl | rfl <;> simp [mlen, mst] <;> omega

theorem back_is {n c l y k : Int} (h : Back n c l y k) (h1 : -719528 ≤ n) (h2 : n < 2932897) :
    yOf n = (if k > 9 then 100 * c + y - 400 + 1 else 100 * c + y - 400) ∧ mOf n = (k + 2) % 12 + 1 ∧ dOf n = l - mst k + 1 ∧ 0 ≤ k ∧ k ≤ 11 := by
  obtain ⟨hD, hdays⟩ := day_of h1 h2
  obtain ⟨a, b, k0, k1⟩ := back_day h
  by_cases hk : k > 9
  · rw [if_pos hk]
    obtain ⟨x1, x2⟩ := a hk
    obtain ⟨e1, e2, e3⟩ := hD.inj x1 (hdays.trans x2.symm)
    exact ⟨e1, e2, e3, k0, k1⟩
  · rw [if_neg hk]
    obtain ⟨x1, x2⟩ := b hk
    obtain ⟨e1, e2, e3⟩ := hD.inj x1 (hdays.trans x2.symm)
    exact ⟨e1, e2, e3, k0, k1⟩
end D
end Go.Proofs.YtdhondndidoniaaGreatDoor
namespace Go.Proofs.YtdhondndidoniaaGreatDoor
open Go.RowKit

theorem gWithin_yes (n a b : Int) (w : World) (h1 : a ≤ n) (h2 : n ≤ b) :
    Calls Tryz.prog 45 #[.int .i64 n, .int .i64 a, .int .i64 b] w fun e w' => e = .returned (.bool true) ∧ w = w' := by
  go_enter Tryz.func45, Tryz.ntmps45
  go_wp2
  go_ret
  exact ⟨rfl, rfl⟩
theorem gWithin_no (n a b : Int) (w : World) (h : n < a ∨ b < n) :
    Calls Tryz.prog 45 #[.int .i64 n, .int .i64 a, .int .i64 b] w fun e w' => e = .returned (.bool false) ∧ w = w' := by
  go_enter Tryz.func45, Tryz.ntmps45
  by_cases h1 : n < a
  · clear h
    go_wp2
    go_ret
    exact ⟨rfl, rfl⟩
  · have h2 : b < n := by omega
    have h3 : a ≤ n := by omega
    clear h h1
    go_wp2
    go_ret
    exact ⟨ret_bool (decide_eq_false (by omega)), rfl⟩

theorem gLeap_any (y : Int) (w : World) (h0 : 0 ≤ y) :
    Calls Tryz.prog 211 #[.int .i64 y] w fun e w' => e = .returned (.bool (D.leap y)) ∧ w = w' := by
  have H : D.leap y = (decide (y % 4 = 0) && (decide (y % 100 ≠ 0) || decide (y % 400 = 0))) := rfl
  have e1 : y.tmod 4 = y % 4 := Int.tmod_eq_emod_of_nonneg h0
  have e2 : y.tmod 100 = y % 100 := Int.tmod_eq_emod_of_nonneg h0
  have e3 : y.tmod 400 = y % 400 := Int.tmod_eq_emod_of_nonneg h0
  have h4 : y % 400 = 0 → y % 4 = 0 := by omega
  have HH := Lib.hid H
  replace h4 := Lib.hid h4
  clear H
  generalize y % 4 = a at *
  generalize y % 100 = b at *
  generalize y % 400 = c at *
  go_enter Tryz.func211, Tryz.ntmps211
  by_cases ha : a = 0 <;> by_cases hb : b = 0 <;> by_cases hc : c = 0 <;> first | exact absurd (h4.out hc) ha | (go_wp2 <;> go_ret <;> exact ⟨ret_bool (by rw [HH.out]; simp [ha, hb, hc]), rfl⟩)

set_option maxHeartbeats 800000 in
theorem gLastDay_any (y m : Int) (w : World) (h0 : 0 ≤ y) :
    Calls Tryz.prog 183 #[.int .i64 y, .int .i64 m] w fun e w' => e = .returned (.int .i64 (D.mlen y m)) ∧ w = w' := by
  have H : D.mlen y m = if m = 4 ∨ m = 6 ∨ m = 9 ∨ m = 11 then 30 else if m = 2 then 28 + D.lp y else 31 := rfl
  have HL : D.lp y = if D.leap y = true then 1 else 0 := rfl
  by_cases hm : m = 4 ∨ m = 6 ∨ m = 9 ∨ m = 11
  · rw [if_pos hm] at H
    have H := Lib.hid H
    clear HL
    go_enter Tryz.func183, Tryz.ntmps183
    rcases hm with rfl | rfl | rfl | rfl <;> go_wp2 <;> go_ret <;> exact ⟨ret_int H.out.symm, rfl⟩
  · rw [if_neg hm] at H
    have n4 : ¬ m = 4 := fun e => hm (.inl e)
    have n6 : ¬ m = 6 := fun e => hm (.inr (.inl e))
    have n9 : ¬ m = 9 := fun e => hm (.inr (.inr (.inl e)))
    have n11 : ¬ m = 11 := fun e => hm (.inr (.inr (.inr e)))
    clear hm
    go_enter Tryz.func183, Tryz.ntmps183
    by_cases h2 : m = 2
    · rw [if_pos h2] at H
      subst h2
      go_wp2_with fail
      (with_reducible refine (gLeap_any y _ h0).mono ?_); rintro e w1 ⟨rfl, rfl⟩
      cases hl : D.leap y
      · rw [hl] at HL
        have H := Lib.hid (H.trans (by rw [HL]))
        clear HL hl
        go_wp2
        go_ret
        exact ⟨ret_int H.out.symm, rfl⟩
      · rw [hl] at HL
        have H := Lib.hid (H.trans (by rw [HL]))
        clear HL hl
        go_wp2
        go_ret
        exact ⟨ret_int H.out.symm, rfl⟩
    · rw [if_neg h2] at H
      have H := Lib.hid H
      clear HL
      go_wp2
      go_ret
      exact ⟨ret_int H.out.symm, rfl⟩

theorem gMonthStart_any (k : Int) (w : World) (h0 : 0 ≤ k) (h1 : k ≤ 11) :
    Calls Tryz.prog 123 #[.int .i64 k] w fun e w' => e = .returned (.int .i64 (D.mst k)) ∧ w = w' := by
  have H := Lib.hid (show D.mst k = (153 * k + 2) / 5 from rfl)
  go_enter Tryz.func123, Tryz.ntmps123
  go_wp2
  go_ret
  exact ⟨ret_int H.out.symm, rfl⟩
theorem D.mst_bd {k : Int} (h0 : 0 ≤ k) (h1 : k ≤ 11) : 0 ≤ D.mst k ∧ D.mst k ≤ 337 := by unfold D.mst; omega

set_option maxHeartbeats 800000 in
theorem gDayOf_any (y m d : Int) (w : World) (h0 : 0 ≤ y) (h1 : y ≤ 9999) (hm1 : 1 ≤ m) (hm2 : m ≤ 12) (hd1 : 1 ≤ d) (hd2 : d ≤ 31) :
    Calls Tryz.prog 184 #[.int .i64 y, .int .i64 m, .int .i64 d] w fun e w' => e = .returned (.int .i64 (D.days y m d)) ∧ w = w' := by
  obtain ⟨k, hk, k0, k1⟩ : ∃ k, (m + 9) % 12 = k ∧ 0 ≤ k ∧ k ≤ 11 := ⟨_, rfl, by omega, by omega⟩
  obtain ⟨s, hs⟩ : ∃ s, D.mst k = s := ⟨_, rfl⟩
  have hsb := D.mst_bd k0 k1
  rw [hs] at hsb
  by_cases hlt : m < 3
  · have e1 := D.cnt_early (y := y) (d := d) hm1 hlt
    rw [hk] at e1
    have e2 : D.cnt (y + 400 - 1) k d = 365 * (y + 400 - 1) + (y + 400 - 1) / 4 - (y + 400 - 1) / 100 + (y + 400 - 1) / 400 + D.mst k + d - 1 - 865565 := rfl
    rw [e1, hs] at e2
    have e2 := Lib.hid e2
    clear e1
    go_enter Tryz.func184, Tryz.ntmps184
    go_wp2_with fail
    (with_reducible refine (gMonthStart_any k _ k0 k1).mono ?_); rintro e w1 ⟨rfl, rfl⟩
    rw [hs]
    clear hk hs
    go_wp2
    go_ret
    exact ⟨ret_int e2.out.symm, rfl⟩
  · have e1 := D.cnt_late (y := y) (d := d) (by omega) hm2
    rw [hk] at e1
    have e2 : D.cnt (y + 400) k d = 365 * (y + 400) + (y + 400) / 4 - (y + 400) / 100 + (y + 400) / 400 + D.mst k + d - 1 - 865565 := rfl
    rw [e1, hs] at e2
    have e2 := Lib.hid e2
    clear e1
    go_enter Tryz.func184, Tryz.ntmps184
    go_wp2_with fail
    (with_reducible refine (gMonthStart_any k _ k0 k1).mono ?_); rintro e w1 ⟨rfl, rfl⟩
    rw [hs]
    clear hk hs
    go_wp2
    go_ret
    exact ⟨ret_int e2.out.symm, rfl⟩

theorem ret_three {a b c x y z : Int} (h1 : a = x) (h2 : b = y) (h3 : c = z) : Ending.returned (.tuple #[.int .i64 a, .int .i64 b, .int .i64 c]) = .returned (.tuple #[.int .i64 x, .int .i64 y, .int .i64 z]) := by rw [h1, h2, h3]

set_option maxHeartbeats 1600000 in
theorem gDateOf_any (n : Int) (w : World) (h1 : -719528 ≤ n) (h2 : n < 2932897) :
    Calls Tryz.prog 92 #[.int .i64 n] w fun e w' => e = .returned (.tuple #[.int .i64 (D.yOf n), .int .i64 (D.mOf n), .int .i64 (D.dOf n)]) ∧ w = w' := by
  obtain ⟨q, hq⟩ : ∃ q, 4 * (n + 865565) + 3 = q := ⟨_, rfl⟩
  obtain ⟨c, hc⟩ : ∃ c, q / 146097 = c := ⟨_, rfl⟩
  obtain ⟨l1, hl1⟩ : ∃ l1, q % 146097 / 4 = l1 := ⟨_, rfl⟩
  obtain ⟨y, hy⟩ : ∃ y, (4 * l1 + 3) / 1461 = y := ⟨_, rfl⟩
  obtain ⟨l, hl⟩ : ∃ l, (4 * l1 + 3) % 1461 / 4 = l := ⟨_, rfl⟩
  obtain ⟨k, hk⟩ : ∃ k, (5 * l + 2) / 153 = k := ⟨_, rfl⟩
  obtain ⟨r1, r2, r3, k0, k1⟩ := D.back_is (n := n) (c := c) (l := l) (y := y) (k := k) ⟨by rw [hq, hc], by rw [hq, hl1, hy], by rw [hq, hl1, hl], hk.symm⟩ h1 h2
  obtain ⟨s, hs⟩ : ∃ s, D.mst k = s := ⟨_, rfl⟩
  have hsb := D.mst_bd k0 k1
  rw [hs] at hsb r3
  have q0 : 0 ≤ q ∧ q ≤ 20000000 := by omega
  have c0 : 0 ≤ c ∧ c ≤ 200 := by omega
  have l10 : 0 ≤ l1 ∧ l1 ≤ 40000 := by omega
  have y0 : 0 ≤ y ∧ y ≤ 200 := by omega
  have l0 : 0 ≤ l ∧ l ≤ 366 := by omega
  obtain ⟨q0, q1⟩ := q0
  obtain ⟨c0, c1⟩ := c0
  obtain ⟨l10, l11⟩ := l10
  obtain ⟨y0, y1⟩ := y0
  obtain ⟨l0, l2⟩ := l0
  have hl' := Lib.hid hl
  replace r2 := Lib.hid r2
  replace r3 := Lib.hid r3
  replace r1 := Lib.hid r1
  go_enter Tryz.func92, Tryz.ntmps92
  by_cases hk9 : k > 9
  · have r1 := Lib.hid (r1.out.trans (if_pos hk9))
    go_wp2_with fail
    (with_reducible refine (gMonthStart_any k _ k0 k1).mono ?_); rintro e w1 ⟨rfl, rfl⟩
    rw [hs]
    clear hq hc hl1 hy hl hk hs
    go_wp2
    go_ret3
    exact ⟨ret_three r1.out.symm r2.out.symm (by first | exact r3.out.symm | (rw [hl'.out]; exact r3.out.symm)), rfl⟩
  · have r1 := Lib.hid (r1.out.trans (if_neg hk9))
    go_wp2_with fail
    (with_reducible refine (gMonthStart_any k _ k0 k1).mono ?_); rintro e w1 ⟨rfl, rfl⟩
    rw [hs]
    clear hq hc hl1 hy hl hk hs
    go_wp2
    go_ret3
    exact ⟨ret_three r1.out.symm r2.out.symm (by first | exact r3.out.symm | (rw [hl'.out]; exact r3.out.symm)), rfl⟩
end Go.Proofs.YtdhondndidoniaaGreatDoor
namespace Go.Proofs.YtdhondndidoniaaGreatDoor
open Go.RowKit

namespace D
/-- A byte fits a sign of a form, in which a nought stands for any digit. -/
def okc (c b : UInt8) : Bool := if c = 48 then dg b else decide (c = b)
/-- A text begins with that form. -/
def Fits (f l : List UInt8) : Prop := ∃ h : f.length ≤ l.length, ∀ j (hj : j < f.length), okc f[j] (l[j]'(Nat.lt_of_lt_of_le hj h)) = true
end D

theorem gDigit_any (b : UInt8) (w : World) : Calls Tryz.prog 179 #[.int .u8 (b.toNat : Int)] w fun e w' => e = .returned (.bool (D.dg b)) ∧ w = w' := by
  have H := Lib.hid (show D.dg b = decide (48 ≤ b.toNat ∧ b.toNat ≤ 57) from rfl)
  have hb := b.toNat_lt
  go_enter Tryz.func179, Tryz.ntmps179
  by_cases h1 : 48 ≤ b.toNat
  · by_cases h2 : b.toNat ≤ 57
    · go_wp2
      go_ret
      exact ⟨ret_bool (by rw [H.out]; simp only [decide_eq_decide]; omega), rfl⟩
    · go_wp2
      go_ret
      exact ⟨ret_bool (by rw [H.out]; simp only [decide_eq_decide]; omega), rfl⟩
  · go_wp2
    go_ret
    exact ⟨ret_bool (by rw [H.out]; symm; apply decide_eq_false; omega), rfl⟩

theorem bytes_of_text (s : ByteArray) (w : World) : ∃ cap C, (convert 9 123 (.string s)).run Tryz.prog w = .ok (.slice (some ⟨w.heap.size, 0, none⟩) s.size cap) (w.drew.alloc (.cells C 5 (C.size, C.size + 1))) ∧
    ∀ j (h : j < s.size), (w.alloc (.cells C 5 (C.size, C.size + 1))).cell? ⟨w.heap.size, j, none⟩ = some (.int .u8 (s[j].toNat : Int)) :=
  ⟨_, _, run_bytes_of_string w 9 123 5 s Tryz.underlying9 Tryz.underlying123 Tryz.underlying5, fun j h => by
    rw [World.cell?_alloc_mark, bytesRow_at s _ j h]; rfl⟩
theorem bytes_of_part (s : ByteArray) (w : World) : ∃ cap C, (convert 155 123 (.string s)).run Tryz.prog w = .ok (.slice (some ⟨w.heap.size, 0, none⟩) s.size cap) (w.drew.alloc (.cells C 5 (C.size, C.size + 1))) ∧
    ∀ j (h : j < s.size), (w.alloc (.cells C 5 (C.size, C.size + 1))).cell? ⟨w.heap.size, j, none⟩ = some (.int .u8 (s[j].toNat : Int)) :=
  ⟨_, _, run_bytes_of_string w 155 123 5 s Tryz.underlying155 Tryz.underlying123 Tryz.underlying5, fun j h => by
    rw [World.cell?_alloc_mark, bytesRow_at s _ j h]; rfl⟩

theorem okc_zero {c b : UInt8} (h : c.toNat = 48) : D.okc c b = D.dg b := by
  unfold D.okc
  rw [if_pos (UInt8.toNat_inj.1 h)]
theorem okc_else {c b : UInt8} (h : ¬ c.toNat = 48) : D.okc c b = decide (c.toNat = b.toNat) := by
  unfold D.okc
  rw [if_neg (fun e => h (by rw [e]; rfl))]
  by_cases hc : c = b
  · rw [hc]; simp
  · rw [decide_eq_false hc, decide_eq_false (fun e => hc (UInt8.toNat_inj.1 e))]
/-- So far it fits. -/
def FitTo (f s : ByteArray) (k : Nat) : Prop := ∀ j (h1 : j < f.size) (h2 : j < s.size), j < k → D.okc f[j] s[j] = true
theorem FitTo.zero (f s : ByteArray) : FitTo f s 0 := fun _ _ _ h => absurd h (by omega)
theorem FitTo.succ {f s : ByteArray} {k : Nat} (h : FitTo f s k) (h1 : k < f.size) (h2 : k < s.size) (hk : D.okc f[k] s[k] = true) : FitTo f s (k + 1) := fun j a b c => by
  by_cases e : j = k
  · subst e; exact hk
  · exact h j a b (by omega)
theorem FitTo.fits {f s : ByteArray} (h : FitTo f s f.size) (hl : f.size ≤ s.size) : D.Fits f.data.toList s.data.toList :=
  ⟨by rw [list_len, list_len]; exact hl, fun j hj => by rw [list_len] at hj; exact h j hj (by omega) hj⟩
theorem fits_at {f s : ByteArray} (h : D.Fits f.data.toList s.data.toList) {k : Nat} (h1 : k < f.size) (h2 : k < s.size) : D.okc f[k] s[k] = true := h.2 k (by rw [list_len]; exact h1)
theorem fits_le {f s : ByteArray} (h : D.Fits f.data.toList s.data.toList) : f.size ≤ s.size := by have := h.1; rwa [list_len, list_len] at this

theorem ret_cut {a b c d : ByteArray} (h1 : a = c) (h2 : b = d) : Ending.returned (.tuple #[.string a, .string b, .bool true]) = .returned (.tuple #[.string c, .string d, .bool true]) := by rw [h1, h2]
theorem below_dateText (w : World) (C : Array Value) (t : TypeId) : Below w.heap.size w ((w.alloc (.cells C t (C.size, C.size + 1))).drew) := ((Below.refl _ _).alloc (Nat.le_refl _) _).drew

set_option maxRecDepth 100000 in
set_option maxHeartbeats 1600000 in
theorem gCut_no (s f : ByteArray) (w : World) (hs : s.size ≤ maxLen) (hf : f.size ≤ maxLen) (hn : ¬ D.Fits f.data.toList s.data.toList) :
    Calls Tryz.prog 152 #[.string s, .string f] w fun e w' => e = .returned (.tuple #[.string ⟨#[]⟩, .string ⟨#[]⟩, .bool false]) ∧ Below w.heap.size w w' := by
  have hsm : s.size ≤ 9223372036854775807 := hs
  have hfm : f.size ≤ 9223372036854775807 := hf
  have hn := Lib.hid hn
  obtain ⟨cap, C, hconv, hcell⟩ := bytes_of_text f w
  go_enter Tryz.func152, Tryz.ntmps152
  by_cases hlt : s.size < f.size
  · go_wp2
    go_ret3
    exact ⟨rfl, Below.refl _ _⟩
  go_wp2
  go_loop [17] (fun i => ∃ k : Nat, k ≤ f.size ∧ i = .int .i64 k ∧ Hid (FitTo f s k)) (fun i => f.size - (intOf i).toNat)
  case atStart => exact ⟨0, Nat.zero_le _, rfl, Lib.hid (FitTo.zero _ _)⟩
  case round =>
    obtain ⟨k, hk, rfl, hall⟩ := hrel
    by_cases hkf : k < f.size
    · have hc := hcell k hkf
      have hks : k < s.size := by omega
      have h1 := (f[k]).toNat_lt
      have h2 := (s[k]).toNat_lt
      have hst := Lib.hid (fun h => hall.out.succ hkf hks h)
      clear hall hcell hconv hn
      by_cases h48 : f[k].toNat = 48
      · rw [okc_zero h48] at hst
        cases hd : D.dg s[k] with
        | true =>
          rw [hd] at hst
          replace hst := Lib.hid (hst.out rfl)
          go_wp2_with fail
          (with_reducible refine (gDigit_any _ _).mono ?_); rintro e w1 ⟨rfl, rfl⟩
          rw [hd]
          clear hd
          go_wp2
          go_round
          case rel => exact ⟨k + 1, by omega, by go_num, hst⟩
          case measure => simp [intOf]; omega
        | false =>
          clear hst
          go_wp2_with fail
          (with_reducible refine (gDigit_any _ _).mono ?_); rintro e w1 ⟨rfl, rfl⟩
          rw [hd]
          clear hd
          go_wp2
          go_ret3
          exact ⟨rfl, below_dateText _ _ _⟩
      · rw [okc_else h48] at hst
        by_cases he : f[k].toNat = s[k].toNat
        · replace hst := Lib.hid (hst.out (decide_eq_true he))
          have h49 : ¬ s[k].toNat = 48 := by omega
          rw [he] at hc
          clear h48 he
          go_wp2
          go_round
          case rel => exact ⟨k + 1, by omega, by go_num, hst⟩
          case measure => simp [intOf]; omega
        · clear hst
          have n1 : ((f[k].toNat : Int) == 48) = false := by simp; omega
          have n2 : ((f[k].toNat : Int) != 48) = true := by simp; omega
          have n3 : ((f[k].toNat : Int) != (s[k].toNat : Int)) = true := by simp; omega
          clear h48 he
          go_wp2
          go_ret3
          exact ⟨rfl, below_dateText _ _ _⟩
    · obtain rfl : k = f.size := by omega
      exact absurd (hall.out.fits (by omega)) hn.out

set_option maxRecDepth 100000 in
set_option maxHeartbeats 1600000 in
theorem gCut_yes (s f p r : ByteArray) (w : World) (hs : s.size ≤ maxLen) (hf : f.size ≤ maxLen) (hn : D.Fits f.data.toList s.data.toList) (hp : p.data.toList = s.data.toList.take f.size) (hr : r.data.toList = s.data.toList.drop f.size) :
    Calls Tryz.prog 152 #[.string s, .string f] w fun e w' => e = .returned (.tuple #[.string p, .string r, .bool true]) ∧ Below w.heap.size w w' := by
  have hsm : s.size ≤ 9223372036854775807 := hs
  have hfm : f.size ≤ 9223372036854775807 := hf
  have hle := fits_le hn
  have hlt : ¬ s.size < f.size := by omega
  have hn := Lib.hid hn
  have hpp := Lib.hid (show s.extract 0 f.size = p from bytes_eq (by rw [take_list, hp]))
  have hrr := Lib.hid (show s.extract f.size s.size = r from bytes_eq (by rw [drop_list, hr]))
  clear hp hr
  obtain ⟨cap, C, hconv, hcell⟩ := bytes_of_text f w
  go_enter Tryz.func152, Tryz.ntmps152
  go_wp2
  go_loop [17] (fun i => ∃ k : Nat, k ≤ f.size ∧ i = .int .i64 k ∧ Hid (FitTo f s k)) (fun i => f.size - (intOf i).toNat)
  case atStart => exact ⟨0, Nat.zero_le _, rfl, Lib.hid (FitTo.zero _ _)⟩
  case round =>
    obtain ⟨k, hk, rfl, hall⟩ := hrel
    by_cases hkf : k < f.size
    · have hc := hcell k hkf
      have hks : k < s.size := by omega
      have h1 := (f[k]).toNat_lt
      have h2 := (s[k]).toNat_lt
      have hst := fits_at hn.out hkf hks
      replace hall := Lib.hid (hall.out.succ hkf hks hst)
      clear hcell hconv hn
      by_cases h48 : f[k].toNat = 48
      · rw [okc_zero h48] at hst
        go_wp2_with fail
        (with_reducible refine (gDigit_any _ _).mono ?_); rintro e w1 ⟨rfl, rfl⟩
        rw [hst]
        clear hst
        go_wp2
        go_round
        case rel => exact ⟨k + 1, by omega, by go_num, hall⟩
        case measure => simp [intOf]; omega
      · rw [okc_else h48] at hst
        have he := of_decide_eq_true hst
        have h49 : ¬ s[k].toNat = 48 := by omega
        rw [he] at hc
        clear h48 he hst
        go_wp2
        go_round
        case rel => exact ⟨k + 1, by omega, by go_num, hall⟩
        case measure => simp [intOf]; omega
    · clear hcell hconv
      go_wp2_with fail
      go_quiet (fail)
      go_wp2
      go_ret3
      exact ⟨ret_cut hpp.out hrr.out, (fun h => ⟨h.os, h.tape, h.output, h.size, h.block⟩ : ∀ {W : World}, Below w.heap.size w W → Below w.heap.size w (W.drewN _)) (below_dateText _ _ _)⟩

/-- Digits at a place. -/
theorem NumAll.at {l : List UInt8} {a n k : Nat} (h : ((l.drop a).take n).all D.dg = true) (hk : k < n) (hl : a + k < l.length) : 48 ≤ l[a + k].toNat ∧ l[a + k].toNat ≤ 57 := by
  rw [List.all_eq_true] at h
  have hm : l[a + k] ∈ (l.drop a).take n := by
    rw [List.mem_iff_getElem?]
    exact ⟨k, by rw [List.getElem?_take, if_pos hk, List.getElem?_drop, List.getElem?_eq_getElem hl]⟩
  have := h _ hm
  simp [D.dg] at this
  exact this
theorem pow_le9 {k : Nat} (h : k ≤ 9) : 10 ^ k ≤ 1000000000 := Nat.pow_le_pow_right (n := 10) (by omega) h

set_option maxRecDepth 100000 in
set_option maxHeartbeats 1600000 in
theorem gNumber_any (s : ByteArray) (a n : Nat) {x y : Int} (w : World) (hs : s.size ≤ maxLen) (h : a + n ≤ s.size) (hn : n ≤ 9) (hd : ((s.data.toList.drop a).take n).all D.dg = true) (hx : x = (a : Int)) (hy : y = ((a + n : Nat) : Int)) :
    Calls Tryz.prog 181 #[.string s, .int .i64 x, .int .i64 y] w fun e w' => e = .returned (.int .i64 (D.dv ((s.data.toList.drop a).take n) : Nat)) ∧ Below w.heap.size w w' := by
  subst hx hy
  unfold maxLen at hs
  obtain ⟨b, hb⟩ : ∃ b, a + n = b := ⟨_, rfl⟩
  have hab : a ≤ b := by omega
  have hbs : b ≤ s.size := by omega
  have hln : (s.extract a b).size = n := by rw [ByteArray.size_extract]; omega
  have hgt : ∀ k (hk : k < n), (s.extract a b)[k]'(by omega) = s[a + k]'(by omega) := fun k hk => by rw [ByteArray.getElem_extract]
  have hlen : s.data.toList.length = s.size := list_len s
  obtain ⟨t, ht⟩ : ∃ t, s.extract a b = t := ⟨_, rfl⟩
  obtain ⟨cap, C, hconv, hcell⟩ := bytes_of_part t w
  have hgt' : ∀ k (_ : k < n) (h2 : k < t.size) (h3 : a + k < s.size), t[k] = s[a + k] := fun k hk h2 h3 => by subst ht; exact hgt k hk
  rw [ht] at hln
  clear hgt
  replace hgt' := Lib.hid hgt'
  replace hlen := Lib.hid hlen
  replace hd := Lib.hid hd
  replace hcell := Lib.hid hcell
  rw [hb]
  have hb0 := Lib.hid hb
  clear hb
  go_enter Tryz.func181, Tryz.ntmps181
  go_wp2
  replace ht := Lib.hid ht
  clear hconv
  go_loop [7, 16] (fun nv iv => ∃ k x : Nat, k ≤ n ∧ nv = .int .i64 (x : Int) ∧ iv = .int .i64 (k : Int) ∧ Hid (D.NumAt s.data.toList a k x)) (fun _ iv => n - (intOf iv).toNat)
  case atStart => exact ⟨0, 0, Nat.zero_le _, rfl, rfl, Lib.hid (D.NumAt.zero _ _)⟩
  case round =>
    obtain ⟨k, x, hk, rfl, rfl, hx⟩ := hrel
    have hxb : x ≤ 1000000000 := by
      have a := hx.out.lt
      have b := pow_le9 (k := k) (by omega)
      omega
    by_cases hlt : k < n
    · have hkt : k < t.size := by omega
      have hin : a + k < s.data.toList.length := by rw [hlen.out]; omega
      obtain ⟨d1, d2⟩ := NumAll.at hd.out hlt hin
      have hst := Lib.hid (hx.out.succ hin d1 d2)
      have hgk : s.data.toList[a + k]'hin = t[k]'hkt := by rw [hgt'.out k hlt hkt (by omega)]; rfl
      rw [hgk] at d1 d2 hst
      have hc := hcell.out k hkt
      clear hgk hin hx hcell hgt' hlen hd ht
      go_wp2
      go_round
      case rel => exact ⟨k + 1, x * 10 + (t[k].toNat - 48), by omega, by go_num, by go_num, hst⟩
      case measure => simp [intOf]; omega
    · obtain rfl : k = n := by omega
      have hr := Lib.hid hx.out.val
      clear hcell hgt' hd ht hx
      go_wp2
      go_ret
      exact ⟨ret_int (by rw [hr.out]), below_dateText _ _ _⟩
end Go.Proofs.YtdhondndidoniaaGreatDoor
