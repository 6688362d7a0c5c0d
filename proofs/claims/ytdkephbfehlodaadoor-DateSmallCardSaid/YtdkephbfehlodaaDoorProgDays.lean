/-
  The program's closed forms of the calendar, in plain Lean: years that begin in March; they are the calendar's days.
-/
import Derived.Test.YtdkephbfehlodaaDoorTold
namespace Go.Proofs.YtdkephbfehlodaaDoor
namespace D

/-- Days of a year that begins in March, ahead of a month of it. -/
def mst (k : Int) : Int := (153 * k + 2) / 5
/-- The program's count of days. -/
def cnt (Y k d : Int) : Int := 365 * Y + Y / 4 - Y / 100 + Y / 400 + mst k + d - 1 - 865565

theorem cnt_early {y m d : Int} (h1 : 1 ≤ m) (h2 : m < 3) : cnt (y + 400 - 1) ((m + 9) % 12) d = days y m d := by
  have : m = 1 ∨ m = 2 := by omega
  rcases this with rfl | rfl <;> simp [cnt, mst, days, yd, md, md0] <;> omega

theorem cnt_late {y m d : Int} (h1 : 3 ≤ m) (h2 : m ≤ 12) : cnt (y + 400) ((m + 9) % 12) d = days y m d := by
  have e : yd y + lp y = 365 * (y - 1970) + (y / 4 - y / 100 + y / 400) - 477 := by
    have := yd_succ y
    have h : yd (y + 1) = 365 * (y + 1 - 1970) + ((y + 1 - 1) / 4 - (y + 1 - 1) / 100 + (y + 1 - 1) / 400) - 477 := rfl
    rw [show y + 1 - 1 = y by omega] at h
    omega
  have : m = 3 ∨ m = 4 ∨ m = 5 ∨ m = 6 ∨ m = 7 ∨ m = 8 ∨ m = 9 ∨ m = 10 ∨ m = 11 ∨ m = 12 := by omega
  rcases this with rfl | rfl | rfl | rfl | rfl | rfl | rfl | rfl | rfl | rfl <;> simp [cnt, mst, days, md, md0] <;> omega

/-- What the program's way back comes to. -/
structure Back (n c l y k : Int) : Prop where
  cI : c = (4 * (n + 865565) + 3) / 146097
  yI : y = (4 * ((4 * (n + 865565) + 3) % 146097 / 4) + 3) / 1461
  lI : l = (4 * ((4 * (n + 865565) + 3) % 146097 / 4) + 3) % 1461 / 4
  kI : k = (5 * l + 2) / 153

theorem Back.at {n c l y k : Int} (h : Back n c l y k) : n + 865565 = 365 * (100 * c + y) + (100 * c + y) / 4 - (100 * c + y) / 100 + (100 * c + y) / 400 + l ∧ 0 ≤ y ∧ y ≤ 99 ∧ 0 ≤ l ∧ l ≤ 365 ∧ (l = 365 → (y % 4 = 3 ∧ (y = 99 → c % 4 = 3))) := by
  obtain ⟨hc, hy, hl, -⟩ := h
  obtain ⟨N, hN⟩ : ∃ N, n + 865565 = N := ⟨_, rfl⟩
  rw [hN] at hc hy hl ⊢
  obtain ⟨r, hr⟩ : ∃ r, (4 * N + 3) % 146097 = r := ⟨_, rfl⟩
  rw [hr] at hy hl
  have h1 : 4 * N + 3 = 146097 * c + r := by omega
  have h2 : 0 ≤ r ∧ r < 146097 := by omega
  clear hr hc
  obtain ⟨p, hp⟩ : ∃ p, r / 4 = p := ⟨_, rfl⟩
  rw [hp] at hy hl
  have h3 : p = N - 36524 * c - c / 4 := by omega
  obtain ⟨r2, hr2⟩ : ∃ r2, (4 * p + 3) % 1461 = r2 := ⟨_, rfl⟩
  rw [hr2] at hl
  have h4 : 4 * p + 3 = 1461 * y + r2 := by omega
  have h5 : 0 ≤ r2 ∧ r2 < 1461 := by omega
  clear hr2 hy
  have h6 : l = p - 365 * y - y / 4 := by omega
  have h7 : 0 ≤ p ∧ p ≤ 36524 := by omega
  have h8 : 0 ≤ y ∧ y ≤ 99 := by omega
  have e4 : (100 * c + y) / 4 = 25 * c + y / 4 := by omega
  have e100 : (100 * c + y) / 100 = c := by omega
  have e400 : (100 * c + y) / 400 = c / 4 := by omega
  rw [e4, e100, e400]
  refine ⟨by omega, h8.1, h8.2, by omega, by omega, fun hl => ⟨by omega, fun hy => by omega⟩⟩

theorem leap_mod4 {y : Int} (h1 : y % 4 = 0) (h2 : y % 100 = 0 → y % 400 = 0) : lp y = 1 := by
  unfold lp leap
  by_cases h : y % 100 = 0
  · simp [h1, h, h2 h]
  · simp [h1, h]

theorem back_day {n c l y k : Int} (h : Back n c l y k) :
    (k > 9 → Day (100 * c + y - 400 + 1) ((k + 2) % 12 + 1) (l - mst k + 1) ∧ days (100 * c + y - 400 + 1) ((k + 2) % 12 + 1) (l - mst k + 1) = n) ∧
    (¬ k > 9 → Day (100 * c + y - 400) ((k + 2) % 12 + 1) (l - mst k + 1) ∧ days (100 * c + y - 400) ((k + 2) % 12 + 1) (l - mst k + 1) = n) ∧ 0 ≤ k ∧ k ≤ 11 := by
  obtain ⟨e, hy0, hy9, hl0, hl5, hlp⟩ := h.at
  have hk := h.kI
  have hk0 : 0 ≤ k ∧ k ≤ 11 := by omega
  clear h
  have hc : ∀ d, cnt (100 * c + y) k d = 365 * (100 * c + y) + (100 * c + y) / 4 - (100 * c + y) / 100 + (100 * c + y) / 400 + mst k + d - 1 - 865565 := fun _ => rfl
  refine ⟨fun hk9 => ?_, fun hk9 => ?_, hk0.1, hk0.2⟩
  · have : k = 10 ∨ k = 11 := by omega
    have hc1 := hc (l - mst k + 1)
    rcases this with rfl | rfl
    · have e1 := cnt_early (y := 100 * c + y - 400 + 1) (m := 1) (d := l - mst 10 + 1) (by omega) (by omega)
      rw [show 100 * c + y - 400 + 1 + 400 - 1 = 100 * c + y by omega, show ((1 : Int) + 9) % 12 = 10 by decide] at e1
      have e2 : mst 10 = 306 := by decide
      rw [e2] at e1 hc1 ⊢
      refine ⟨⟨by decide, by decide, by omega, ?_⟩, ?_⟩
      · show l - 306 + 1 ≤ mlen (100 * c + y - 400 + 1) 1
        simp only [mlen]; simp; omega
      · show days (100 * c + y - 400 + 1) 1 (l - 306 + 1) = n
        rw [← e1]; omega
    · have e1 := cnt_early (y := 100 * c + y - 400 + 1) (m := 2) (d := l - mst 11 + 1) (by omega) (by omega)
      rw [show 100 * c + y - 400 + 1 + 400 - 1 = 100 * c + y by omega, show ((2 : Int) + 9) % 12 = 11 by decide] at e1
      have e2 : mst 11 = 337 := by decide
      rw [e2] at e1 hc1 ⊢
      refine ⟨⟨by decide, by decide, by omega, ?_⟩, ?_⟩
      · show l - 337 + 1 ≤ mlen (100 * c + y - 400 + 1) 2
        have hml : mlen (100 * c + y - 400 + 1) 2 = 28 + lp (100 * c + y - 400 + 1) := by simp [mlen]
        rw [hml]
        by_cases h5 : l = 365
        · obtain ⟨a, b⟩ := hlp h5
          rw [leap_mod4 (by omega) (fun h => by have := b (by omega); omega)]
          omega
        · have := lp_01 (100 * c + y - 400 + 1)
          omega
      · show days (100 * c + y - 400 + 1) 2 (l - 337 + 1) = n
        rw [← e1]; omega
  · have hc1 := hc (l - mst k + 1)
    have e1 := cnt_late (y := 100 * c + y - 400) (m := k + 3) (d := l - mst k + 1) (by omega) (by omega)
    rw [show 100 * c + y - 400 + 400 = 100 * c + y by omega, show (k + 3 + 9) % 12 = k by omega] at e1
    have e3 : (k + 2) % 12 + 1 = k + 3 := by omega
    rw [e3]
    refine ⟨⟨by omega, by omega, ?_, ?_⟩, by rw [← e1]; omega⟩
    · unfold mst; omega
    · have : k = 0 ∨ k = 1 ∨ k = 2 ∨ k = 3 ∨ k = 4 ∨ k = 5 ∨ k = 6 ∨ k = 7 ∨ k = 8 ∨ k = 9 := by omega
      rcases this with rfl | rfl | rfl | rfl | rfl | rfl | rfl | rfl | rfl | rfl <;> simp [mlen, mst] <;> omega

theorem back_is {n c l y k : Int} (h : Back n c l y k) (h1 : -719528 ≤ n) (h2 : n < 2932897) :
    yOf n = (if k > 9 then 100 * c + y - 400 + 1 else 100 * c + y - 400) ∧ mOf n = (k + 2) % 12 + 1 ∧ dOf n = l - mst k + 1 ∧ 0 ≤ k ∧ k ≤ 11 := by
  obtain ⟨hD, hdays⟩ := day_of h1 h2
  obtain ⟨a, b, k0, k1⟩ := back_day h
  by_cases hk : k > 9
  · rw [if_pos hk]
    obtain ⟨x1, x2⟩ := a hk
    obtain ⟨e1, e2, e3⟩ := hD.inj x1 (hdays.trans x2.symm)
    exact ⟨e1, e2, e3, k0, k1⟩
  · rw [if_neg hk]
    obtain ⟨x1, x2⟩ := b hk
    obtain ⟨e1, e2, e3⟩ := hD.inj x1 (hdays.trans x2.symm)
    exact ⟨e1, e2, e3, k0, k1⟩
end D
end Go.Proofs.YtdkephbfehlodaaDoor
