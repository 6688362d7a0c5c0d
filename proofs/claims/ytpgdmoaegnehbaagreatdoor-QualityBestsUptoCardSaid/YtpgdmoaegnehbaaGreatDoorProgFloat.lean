/-
  The program's own order of floats, and what is clamped.
-/
import Derived.Test.YtpgdmoaegnehbaaGreatDoorRefRank
namespace Go.Proofs.YtpgdmoaegnehbaaGreatDoor
open Go.RowKit

namespace Fl
theorem rank_nan {x : Nat} (h : nan x = true) : rank x = 3 := by unfold rank; rw [if_pos h]
theorem rank_is {x : Nat} (h : nan x = false) : rank x = if val x < 0 then 2 else if val x = 0 ∧ sgn x = true then 1 else 0 := by
  unfold rank
  rw [if_neg (by simp [h])]
theorem rank_le {x : Nat} (h : nan x = false) : rank x ≤ 2 := by
  rw [rank_is h]
  split
  · exact Nat.le_refl _
  split <;> omega
theorem ahead_nan {x y : Nat} (h : nan y = true) : ahead x y = !nan x := by
  unfold ahead
  rw [rank_nan h]
  cases hx : nan x
  · have := rank_le hx
    rw [if_neg (by omega), decide_eq_true (by omega)]
    rfl
  · rw [rank_nan hx, if_pos rfl]
    simp
theorem rank_low {x : Nat} (h : nan x = false) (hv : val x < 0) : rank x = 2 := by rw [rank_is h, if_pos hv]
theorem rank_high {x : Nat} (h : nan x = false) (hv : 0 < val x) : rank x = 0 := by rw [rank_is h, if_neg (by omega), if_neg (fun g => by have := g.1; omega)]
theorem rank_nought {x : Nat} (h : nan x = false) (hv : val x = 0) : rank x = if sgn x = true then 1 else 0 := by
  rw [rank_is h, if_neg (by omega)]
  cases hs : sgn x <;> simp [hv]
theorem ahead_is (x y : Nat) : ahead x y = if rank x = rank y then decide (rank x ≠ 3 ∧ val y < val x) else decide (rank x < rank y) := rfl
theorem ahead_like {x y : Nat} (hx : nan x = false) (hy : nan y = false) (h : val x = val y) : ahead x y = (!sgn x && sgn y) := by
  rw [ahead_is]
  rcases Int.lt_trichotomy (val x) 0 with hv | hv | hv
  · have hv2 : val y < 0 := by omega
    rw [rank_low hx hv, rank_low hy hv2, if_pos rfl, val_neg hv, val_neg hv2, decide_eq_false (by omega)]
    rfl
  · have hv2 : val y = 0 := by omega
    rw [rank_nought hx hv, rank_nought hy hv2, hv, hv2]
    cases sgn x <;> cases sgn y <;> decide
  · have hv2 : 0 < val y := by omega
    rw [rank_high hx hv, rank_high hy hv2, if_pos rfl, val_pos hv, val_pos hv2, decide_eq_false (by omega)]
    rfl
theorem rank_two {x : Nat} (h : nan x = false) (hv : val x = 0) : rank x ≤ 1 := by
  rw [rank_nought h hv]
  split <;> omega
theorem ahead_else {x y : Nat} (hy : nan y = false) (h : ¬ (nan x = false ∧ val x = val y)) : ahead x y = (!nan x && !nan y && decide (val y < val x)) := by
  cases hx : nan x
  · have hne : val x ≠ val y := fun e => h ⟨hx, e⟩
    simp only [hy, Bool.not_false, Bool.true_and]
    rw [ahead_is]
    rcases Int.lt_trichotomy (val x) 0 with x1 | x1 | x1 <;> rcases Int.lt_trichotomy (val y) 0 with y1 | y1 | y1
    · rw [rank_low hx x1, rank_low hy y1, if_pos rfl]; simp
    · have := rank_two hy y1
      rw [rank_low hx x1, if_neg (by omega), decide_eq_false (by omega), decide_eq_false (by omega)]
    · rw [rank_low hx x1, rank_high hy y1, if_neg (by omega), decide_eq_false (by omega), decide_eq_false (by omega)]
    · have := rank_two hx x1
      rw [rank_low hy y1, if_neg (by omega), decide_eq_true (by omega), decide_eq_true (by omega)]
    · omega
    · rw [rank_high hy y1, decide_eq_false (p := val y < val x) (by omega)]
      split
      · rw [decide_eq_false]; omega
      · rw [decide_eq_false]; omega
    · rw [rank_high hx x1, rank_low hy y1, if_neg (by omega), decide_eq_true (by omega), decide_eq_true (by omega)]
    · rw [rank_high hx x1, decide_eq_true (p := val y < val x) (by omega)]
      split
      · rw [decide_eq_true]; omega
      · rw [decide_eq_true]; omega
    · rw [rank_high hx x1, rank_high hy y1, if_pos rfl]; simp
  · rw [show ahead x y = false from ?_]
    · simp
    have := rank_le hy
    rw [ahead_is, rank_nan hx, if_neg (by omega), decide_eq_false (by omega)]
end Fl

set_option maxRecDepth 100000 in
set_option maxHeartbeats 1600000 in
theorem isNan_any (x : Nat) (w : World) : Calls Tryz.prog 34 #[.float .f64 x] w fun e w' => e = .returned (.bool (Fl.nan x)) ∧ w = w' := by
  have o1 := Fl.ord_ne x x
  replace o1 : (FloatKind.f64.format.order x x != some .eq) = Fl.nan x := by rw [o1]; cases Fl.nan x <;> simp
  go_enter Tryz.func34, Tryz.ntmps34
  go_wp2_with fail
  go_ret
  exact ⟨rfl, rfl⟩

set_option maxRecDepth 100000 in
set_option maxHeartbeats 3200000 in
theorem qAhead_at (x y : Nat) (w : World) : Calls Tryz.prog 20 #[.float .f64 x, .float .f64 y] w fun e w' => e = .returned (.bool (Fl.ahead x y)) ∧ w = w' := by
  obtain ⟨Q, hQ⟩ : ∃ Q, Q = Fl.ahead x y := ⟨_, rfl⟩
  rw [← hQ]
  have nx := Lib.hid (fun W => isNan_any x W)
  have ny := Lib.hid (fun W => isNan_any y W)
  have sx := Lib.hid (fun W => signbit_any x W)
  have sy := Lib.hid (fun W => signbit_any y W)
  have o1 := Fl.ord_eq x y
  have o2 := Fl.ord_gt x y
  by_cases hy : Fl.nan y = true
  · have hq : Hid (Q = !Fl.nan x) := Lib.hid (hQ.trans (Fl.ahead_nan hy))
    rw [hy] at ny
    replace hy := Lib.hid hy
    clear o1 o2
    replace hQ := Lib.hid hQ
    go_enter Tryz.func20, Tryz.ntmps20
    go_wp2_with fail
    (refine (ny.out _).mono ?_); rintro e w1 ⟨rfl, rfl⟩
    go_wp2_with fail
    (refine (nx.out _).mono ?_); rintro e w1 ⟨rfl, rfl⟩
    go_wp2_with fail
    go_ret
    exact ⟨ret_bool hq.out.symm, rfl⟩
  replace hy : Fl.nan y = false := by simpa using hy
  rw [hy] at ny o1 o2
  by_cases he : Fl.nan x = false ∧ Fl.val x = Fl.val y
  · have hq : Hid (Q = (!Fl.sgn x && Fl.sgn y)) := Lib.hid (hQ.trans (Fl.ahead_like he.1 hy he.2))
    replace o1 : (FloatKind.f64.format.order x y == some .eq) = true := by rw [o1, he.1, decide_eq_true he.2]; rfl
    clear o2
    replace hy := Lib.hid hy
    replace he := Lib.hid he
    replace hQ := Lib.hid hQ
    generalize Fl.sgn x = a at *
    generalize Fl.sgn y = b at *
    go_enter Tryz.func20, Tryz.ntmps20
    go_wp2_with fail
    (refine (ny.out _).mono ?_); rintro e w1 ⟨rfl, rfl⟩
    go_wp2_with fail
    (refine (sx.out _).mono ?_); rintro e w1 ⟨rfl, rfl⟩
    cases a with
    | true =>
      go_wp2_with fail
      go_ret
      exact ⟨ret_bool hq.out.symm, rfl⟩
    | false =>
      go_wp2_with fail
      (refine (sy.out _).mono ?_); rintro e w1 ⟨rfl, rfl⟩
      go_wp2_with fail
      go_ret
      exact ⟨ret_bool hq.out.symm, rfl⟩
  · have hq : Hid (Q = (FloatKind.f64.format.order x y == some .gt)) := Lib.hid (by rw [hQ, Fl.ahead_else hy he, Fl.ord_gt])
    replace o1 : (FloatKind.f64.format.order x y == some .eq) = false := by
      rw [o1, Bool.eq_false_iff]
      intro e
      rw [Bool.and_eq_true, decide_eq_true_eq] at e
      exact he ⟨by simpa using e.1, e.2⟩
    clear o2
    replace hy := Lib.hid hy
    replace he := Lib.hid he
    replace hQ := Lib.hid hQ
    go_enter Tryz.func20, Tryz.ntmps20
    go_wp2_with fail
    (refine (ny.out _).mono ?_); rintro e w1 ⟨rfl, rfl⟩
    go_wp2_with fail
    all_goals
      go_ret
      exact ⟨ret_bool (by rw [hq.out]), rfl⟩

set_option maxRecDepth 100000 in
set_option maxHeartbeats 3200000 in
theorem qClamp_at (x : Nat) (w : World) : Calls Tryz.prog 17 #[.float .f64 x] w fun e w' => e = .returned (.float .f64 (Fl.clamp x)) ∧ w = w' := by
  obtain ⟨Q, hQ⟩ : ∃ Q, Q = Fl.clamp x := ⟨_, rfl⟩
  rw [← hQ]
  unfold Fl.clamp at hQ
  have o1 := Fl.ord_gt x Fl.one
  have o2 := Fl.ord_eq x Fl.one
  have o3 := Fl.ord_gt x 0
  rw [Fl.nan_one] at o1 o2
  rw [Fl.nan_zero, Fl.val_zero] at o3
  have hge : (FloatKind.f64.format.order x 4607182418800017408 == some .gt || FloatKind.f64.format.order x 4607182418800017408 == some .eq) = (!Fl.nan x && decide (Fl.val Fl.one ≤ Fl.val x)) := by
    rw [show (4607182418800017408 : Nat) = Fl.one from rfl, o1, o2]
    cases Fl.nan x
    · simp only [Bool.not_false, Bool.true_and]
      rw [Bool.eq_iff_iff]
      simp only [Bool.or_eq_true, decide_eq_true_eq]
      omega
    · simp
  clear o1 o2
  by_cases h1 : Fl.nan x = false ∧ Fl.val Fl.one ≤ Fl.val x
  · rw [if_pos h1] at hQ
    rw [h1.1, decide_eq_true h1.2] at hge
    replace hge : (FloatKind.f64.format.order x 4607182418800017408 == some .gt || FloatKind.f64.format.order x 4607182418800017408 == some .eq) = true := hge
    clear o3
    replace h1 := Lib.hid h1
    replace hQ := Lib.hid hQ
    rw [Bool.or_eq_true] at hge
    rcases hge with hg | hg
    all_goals
      go_enter Tryz.func17, Tryz.ntmps17
      go_wp2_with fail
      go_ret
      exact ⟨by rw [hQ.out]; rfl, rfl⟩
  rw [if_neg h1] at hQ
  replace hge : (FloatKind.f64.format.order x 4607182418800017408 == some .gt || FloatKind.f64.format.order x 4607182418800017408 == some .eq) = false := by
    rw [hge, Bool.eq_false_iff]
    intro e
    rw [Bool.and_eq_true, decide_eq_true_eq] at e
    exact h1 ⟨by simpa using e.1, e.2⟩
  rw [Bool.or_eq_false_iff] at hge
  obtain ⟨hg1, hg2⟩ := hge
  by_cases h2 : Fl.nan x = false ∧ 0 < Fl.val x
  · rw [if_pos h2] at hQ
    replace o3 : (FloatKind.f64.format.order x 0 == some .gt) = true := by rw [o3, h2.1, decide_eq_true h2.2]; rfl
    replace h1 := Lib.hid h1
    replace h2 := Lib.hid h2
    subst hQ
    go_enter Tryz.func17, Tryz.ntmps17
    go_wp2_with fail
    go_ret
    exact ⟨rfl, rfl⟩
  · rw [if_neg h2] at hQ
    replace o3 : (FloatKind.f64.format.order x 0 == some .gt) = false := by
      rw [o3, Bool.eq_false_iff]
      intro e
      rw [Bool.and_eq_true, decide_eq_true_eq] at e
      exact h2 ⟨by simpa using e.1, e.2⟩
    replace h1 := Lib.hid h1
    replace h2 := Lib.hid h2
    subst hQ
    go_enter Tryz.func17, Tryz.ntmps17
    go_wp2_with fail
    go_ret
    exact ⟨rfl, rfl⟩
end Go.Proofs.YtpgdmoaegnehbaaGreatDoor
