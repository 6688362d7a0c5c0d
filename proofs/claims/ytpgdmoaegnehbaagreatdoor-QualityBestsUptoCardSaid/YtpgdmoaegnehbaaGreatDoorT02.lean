/-
  The order of all floats, and what is clamped: in plain Lean.
  The statements' walks: QualityOrder.
-/
import Derived.Test.YtpgdmoaegnehbaaGreatDoorRefRank
import Derived.Test.YtpgdmoaegnehbaaGreatDoorT01
namespace Go.Proofs.YtpgdmoaegnehbaaGreatDoor
namespace Fl
/-- How a float stands, in three. -/
structure St (x : Nat) : Prop where
  nn : nan x = true → rank x = 3
  n3 : rank x = 3 → nan x = true
  r2 : rank x = 2 → val x < 0 ∧ sgn x = true
  r1 : rank x = 1 → val x = 0 ∧ sgn x = true
  r0 : rank x = 0 → 0 ≤ val x ∧ sgn x = false
  le : rank x ≤ 3
theorem st (x : Nat) : St x := by
  have hp := @val_pos x
  have hg := @val_neg x
  have hrank : rank x = if nan x then 3 else if val x < 0 then 2 else if val x = 0 ∧ sgn x = true then 1 else 0 := rfl
  cases hn : nan x
  · rw [hn] at hrank
    simp only [Bool.false_eq_true, if_false] at hrank
    by_cases h1 : val x < 0
    · rw [if_pos h1] at hrank
      exact ⟨fun h => absurd h (by rw [hn]; simp), fun h => by omega, fun _ => ⟨h1, hg h1⟩, fun h => by omega, fun h => by omega, by omega⟩
    · rw [if_neg h1] at hrank
      by_cases h2 : val x = 0 ∧ sgn x = true
      · rw [if_pos h2] at hrank
        exact ⟨fun h => absurd h (by rw [hn]; simp), fun h => by omega, fun h => by omega, fun _ => h2, fun h => by omega, by omega⟩
      · rw [if_neg h2] at hrank
        refine ⟨fun h => absurd h (by rw [hn]; simp), fun h => by omega, fun h => by omega, fun h => by omega, fun _ => ⟨by omega, ?_⟩, by omega⟩
        by_cases h3 : val x = 0
        · cases hs : sgn x
          · rfl
          · exact absurd ⟨h3, hs⟩ h2
        · exact hp (by omega)
  · rw [hn, if_pos rfl] at hrank
    exact ⟨fun _ => hrank, fun _ => hn, fun h => by omega, fun h => by omega, fun h => by omega, by omega⟩
theorem ahead_iff (x y : Nat) : ahead x y = true ↔ rank x < rank y ∨ (rank x = rank y ∧ rank x ≠ 3 ∧ val y < val x) := by
  unfold ahead
  split
  · next h => rw [decide_eq_true_eq]; omega
  · next h => rw [decide_eq_true_eq]; omega
theorem ahead_not (x y : Nat) : ¬ (ahead x y = true ∧ ahead y x = true) := by
  rw [ahead_iff, ahead_iff]; omega
theorem ahead_trans {x y z : Nat} (h1 : ahead x y = true) (h2 : ahead y z = true) : ahead x z = true := by
  rw [ahead_iff] at *; omega
theorem same_iff (x y : Nat) : same x y = true ↔ (nan x = true ∧ nan y = true) ∨ (nan x = false ∧ nan y = false ∧ val x = val y ∧ sgn x = sgn y) := by
  unfold same
  cases nan x <;> cases nan y <;> simp
theorem ahead_same (x y : Nat) : (!ahead x y && !ahead y x) = same x y := by
  have sx := st x
  have sy := st y
  have h1 := ahead_iff x y
  have h2 := ahead_iff y x
  have h3 := same_iff x y
  have e0 : ∀ z, nan z = false → rank z ≠ 3 := fun z hz e => by rw [(st z).n3 e] at hz; cases hz
  have n0 : ∀ z, rank z ≠ 3 → nan z = false := fun z hz => by rw [Bool.eq_false_iff]; exact fun e => hz ((st z).nn e)
  rw [Bool.eq_iff_iff, h3, Bool.and_eq_true, Bool.not_eq_true', Bool.not_eq_true', ← Bool.not_eq_true, ← Bool.not_eq_true, h1, h2]
  constructor
  · rintro ⟨a, b⟩
    have hr : rank x = rank y := by omega
    by_cases hr3 : rank x = 3
    · exact .inl ⟨sx.n3 hr3, sy.n3 (by omega)⟩
    · refine .inr ⟨n0 x hr3, n0 y (by omega), by omega, ?_⟩
      have hx := sx.le
      have : rank x = 0 ∨ rank x = 1 ∨ rank x = 2 := by omega
      rcases this with h | h | h
      · rw [(sx.r0 h).2, (sy.r0 (by omega)).2]
      · rw [(sx.r1 h).2, (sy.r1 (by omega)).2]
      · rw [(sx.r2 h).2, (sy.r2 (by omega)).2]
  · rintro (⟨a, b⟩ | ⟨a, b, c, d⟩)
    · have := sx.nn a
      have := sy.nn b
      omega
    · have hr : rank x = rank y := by
        unfold rank
        rw [a, b, c, d]
      omega
/-- What is clamped stands from nought to one. -/
structure Cl (x : Nat) : Prop where
  num : nan (clamp x) = false
  ge : 0 ≤ val (clamp x)
  le : val (clamp x) ≤ val one
  up : sgn (clamp x) = false
  twice : clamp (clamp x) = clamp x
  is : nan x = false → 0 < val x → val x < val one → clamp x = x
theorem sgn_zero : sgn 0 = false := by decide
theorem sgn_one : sgn one = false := by decide
theorem clamp_one : clamp one = one := by unfold clamp; rw [if_pos ⟨nan_one, Int.le_refl _⟩]
theorem clamp_zero : clamp 0 = 0 := by
  unfold clamp
  rw [val_zero, if_neg (by rintro ⟨_, h⟩; have := val_one; omega), if_neg (by rintro ⟨_, h⟩; omega)]
theorem cl (x : Nat) : Cl x := by
  have v1 := val_one
  have hc : clamp x = if nan x = false ∧ val one ≤ val x then one else if nan x = false ∧ 0 < val x then x else 0 := rfl
  by_cases h1 : nan x = false ∧ val one ≤ val x
  · rw [if_pos h1] at hc
    refine ⟨by rw [hc]; exact nan_one, by rw [hc]; omega, by rw [hc]; exact Int.le_refl _, by rw [hc]; exact sgn_one, by rw [hc]; exact clamp_one, fun _ _ h => by omega⟩
  · rw [if_neg h1] at hc
    by_cases h2 : nan x = false ∧ 0 < val x
    · rw [if_pos h2] at hc
      refine ⟨by rw [hc]; exact h2.1, by rw [hc]; omega, by rw [hc]; by_cases h : val one ≤ val x; exact absurd ⟨h2.1, h⟩ h1; omega, by rw [hc]; exact val_pos h2.2, by rw [hc]; exact hc, fun _ _ _ => hc⟩
    · rw [if_neg h2] at hc
      exact ⟨by rw [hc]; exact nan_zero, by rw [hc, val_zero]; exact Int.le_refl _, by rw [hc, val_zero]; omega, by rw [hc]; exact sgn_zero, by rw [hc]; exact clamp_zero, fun h h' _ => absurd ⟨h, h'⟩ h2⟩
end Fl
end Go.Proofs.YtpgdmoaegnehbaaGreatDoor
namespace Go.Proofs.YtpgdmoaegnehbaaGreatDoor
open Go.RowKit

end Go.Proofs.YtpgdmoaegnehbaaGreatDoor
