/-
  What the document's own words of floats come to: rank, Ahead, Clamp; whether a sign stands ahead; two floats alike.
-/
import Derived.Test.YtpgdmoaegnehbaaGreatDoorFloats
import Derived.WalkSmall
import Derived.Laws.FloatArith
import Derived.Laws.Cover2
namespace Go.Proofs.YtpgdmoaegnehbaaGreatDoor
open Go.RowKit

namespace Fl
theorem ord_lt (x y : Nat) : (FloatKind.f64.format.order x y == some .lt) = (!nan x && !nan y && decide (val x < val y)) := by
  show (Ieee.double.order x y == some .lt) = _
  rw [order_is]
  cases nan x <;> cases nan y <;> simp
  rcases Int.lt_trichotomy (val x) (val y) with h | h | h
  · rw [Int.compare_eq_lt.2 h]; simp [h]
  · rw [h, Int.compare_eq_eq.2 rfl]; simp
  · rw [Int.compare_eq_gt.2 h]; simp; omega
theorem ord_gt (x y : Nat) : (FloatKind.f64.format.order x y == some .gt) = (!nan x && !nan y && decide (val y < val x)) := by
  show (Ieee.double.order x y == some .gt) = _
  rw [order_is]
  cases nan x <;> cases nan y <;> simp
  rcases Int.lt_trichotomy (val x) (val y) with h | h | h
  · rw [Int.compare_eq_lt.2 h]; simp; omega
  · rw [h, Int.compare_eq_eq.2 rfl]; simp
  · rw [Int.compare_eq_gt.2 h]; simp [h]
theorem ord_eq (x y : Nat) : (FloatKind.f64.format.order x y == some .eq) = (!nan x && !nan y && decide (val x = val y)) := by
  show (Ieee.double.order x y == some .eq) = _
  rw [order_is]
  cases nan x <;> cases nan y <;> simp
  rcases Int.lt_trichotomy (val x) (val y) with h | h | h
  · rw [Int.compare_eq_lt.2 h]; simp; omega
  · rw [h, Int.compare_eq_eq.2 rfl]; simp
  · rw [Int.compare_eq_gt.2 h]; simp; omega
theorem ord_ne (x y : Nat) : (FloatKind.f64.format.order x y != some .eq) = !(!nan x && !nan y && decide (val x = val y)) := by rw [← ord_eq]; rfl
theorem nan_zero : nan 0 = false := by decide
theorem val_zero : val 0 = 0 := by decide
def one : Nat := 4607182418800017408
theorem nan_one : nan one = false := by decide
theorem val_one : 0 < val one := by
  unfold val one
  rw [show Ieee.double.read 4607182418800017408 = .number false 4503599627370496 (-52) by decide]
  show (0 : Int) < ((4503599627370496 <<< _ : Nat) : Int)
  rw [Nat.shiftLeft_eq]
  exact Int.natCast_pos.2 (Nat.mul_pos (by decide) (Nat.pow_pos (Nat.zero_lt_succ 1)))

/-- Where a float stands. -/
def rank (x : Nat) : Nat := if nan x then 3 else if val x < 0 then 2 else if val x = 0 ∧ sgn x = true then 1 else 0
def ahead (x y : Nat) : Bool := if rank x = rank y then decide (rank x ≠ 3 ∧ val y < val x) else decide (rank x < rank y)
def clamp (x : Nat) : Nat := if nan x = false ∧ val one ≤ val x then one else if nan x = false ∧ 0 < val x then x else 0
def same (x y : Nat) : Bool := (nan x && nan y) || (!nan x && !nan y && decide (val x = val y) && (sgn x == sgn y))
end Fl
theorem ret_nat {a b : Nat} (h : a = b) : Ending.returned (.int .i64 (a : Int)) = .returned (.int .i64 (b : Int)) := by rw [h]

set_option maxRecDepth 100000 in
set_option maxHeartbeats 3200000 in
theorem refClamp_any (x : Nat) (w : World) : Calls Tryz.prog 39 #[.float .f64 x] w fun e w' => e = .returned (.float .f64 (Fl.clamp x)) ∧ w = w' := by
  obtain ⟨Q, hQ⟩ : ∃ Q, Q = Fl.clamp x := ⟨_, rfl⟩
  rw [← hQ]
  unfold Fl.clamp at hQ
  have o1 := Fl.ord_gt x Fl.one
  have o2 := Fl.ord_eq x Fl.one
  have o3 := Fl.ord_gt x 0
  rw [Fl.nan_one] at o1 o2
  rw [Fl.nan_zero, Fl.val_zero] at o3
  have hge : (FloatKind.f64.format.order x 4607182418800017408 == some .gt || FloatKind.f64.format.order x 4607182418800017408 == some .eq) = (!Fl.nan x && decide (Fl.val Fl.one ≤ Fl.val x)) := by
    rw [show (4607182418800017408 : Nat) = Fl.one from rfl, o1, o2]
    cases Fl.nan x
    · simp only [Bool.not_false, Bool.true_and]
      rw [Bool.eq_iff_iff]
      simp only [Bool.or_eq_true, decide_eq_true_eq]
      omega
    · simp
  clear o1 o2
  by_cases h1 : Fl.nan x = false ∧ Fl.val Fl.one ≤ Fl.val x
  · rw [if_pos h1] at hQ
    rw [h1.1, decide_eq_true h1.2] at hge
    replace hge : (FloatKind.f64.format.order x 4607182418800017408 == some .gt || FloatKind.f64.format.order x 4607182418800017408 == some .eq) = true := hge
    clear o3
    replace h1 := Lib.hid h1
    replace hQ := Lib.hid hQ
    rw [Bool.or_eq_true] at hge
    rcases hge with hg | hg
    all_goals
      go_enter Tryz.func39, Tryz.ntmps39
      go_wp2_with fail
      go_ret
      exact ⟨by rw [hQ.out]; rfl, rfl⟩
  rw [if_neg h1] at hQ
  replace hge : (FloatKind.f64.format.order x 4607182418800017408 == some .gt || FloatKind.f64.format.order x 4607182418800017408 == some .eq) = false := by
    rw [hge, Bool.eq_false_iff]
    intro e
    rw [Bool.and_eq_true, decide_eq_true_eq] at e
    exact h1 ⟨by simpa using e.1, e.2⟩
  rw [Bool.or_eq_false_iff] at hge
  obtain ⟨hg1, hg2⟩ := hge
  by_cases h2 : Fl.nan x = false ∧ 0 < Fl.val x
  · rw [if_pos h2] at hQ
    replace o3 : (FloatKind.f64.format.order x 0 == some .gt) = true := by rw [o3, h2.1, decide_eq_true h2.2]; rfl
    replace h1 := Lib.hid h1
    replace h2 := Lib.hid h2
    subst hQ
    go_enter Tryz.func39, Tryz.ntmps39
    go_wp2_with fail
    go_ret
    exact ⟨rfl, rfl⟩
  · rw [if_neg h2] at hQ
    replace o3 : (FloatKind.f64.format.order x 0 == some .gt) = false := by
      rw [o3, Bool.eq_false_iff]
      intro e
      rw [Bool.and_eq_true, decide_eq_true_eq] at e
      exact h2 ⟨by simpa using e.1, e.2⟩
    replace h1 := Lib.hid h1
    replace h2 := Lib.hid h2
    subst hQ
    go_enter Tryz.func39, Tryz.ntmps39
    go_wp2_with fail
    go_ret
    exact ⟨rfl, rfl⟩

theorem Fl.sgn_is (x : Nat) : Fl.sgn x = (x / 9223372036854775808 % 2 == 1) := by
  unfold Fl.sgn Ieee.Format.read
  rw [show Ieee.double.signWeight = 9223372036854775808 from rfl]
  dsimp only
  split
  · rfl
  split
  · rfl
  split <;> rfl
theorem wrap_sign (x : Nat) : decide (wrap64 (x : Int) < 0) = Fl.sgn x := by
  rw [Fl.sgn_is, Bool.eq_iff_iff, decide_eq_true_eq, beq_iff_eq]
  unfold wrap64
  omega
set_option maxRecDepth 100000 in
set_option maxHeartbeats 3200000 in
theorem signbit_any (x : Nat) (w : World) : Calls Tryz.prog 23 #[.float .f64 x] w fun e w' => e = .returned (.bool (Fl.sgn x)) ∧ w = w' := by
  have hs := wrap_sign x
  replace hs := Lib.hid hs
  go_enter Tryz.func23, Tryz.ntmps23
  go_wp2
  rw [run_callFunc_extern Tryz.func40 (by kernel_rfl) (by kernel_rfl) (by kernel_rfl) (e := Extern.MathFloatBits.float64bits) (by kernel_rfl)]
  rw [show (Extern.MathFloatBits.float64bits #[.float .f64 x]).run Tryz.prog w = .ok (.int .u64 x) w from rfl]
  simp only [Result.andThen]
  rw [Oper.upon_value]
  go_wp2
  all_goals
    go_ret
    first
      | exact ⟨ret_bool hs.out, rfl⟩
      | (refine ⟨ret_bool ?_, rfl⟩; rw [← hs.out]; symm; rw [decide_eq_true_eq]; assumption)
      | (refine ⟨ret_bool ?_, rfl⟩; rw [← hs.out]; symm; rw [decide_eq_false_iff_not]; first | assumption | omega)

set_option maxRecDepth 100000 in
set_option maxHeartbeats 3200000 in
theorem same_any (x y : Nat) (w : World) : Calls Tryz.prog 10 #[.float .f64 x, .float .f64 y] w fun e w' => e = .returned (.bool (Fl.same x y)) ∧ w = w' := by
  obtain ⟨Q, hQ⟩ : ∃ Q, Q = Fl.same x y := ⟨_, rfl⟩
  rw [← hQ]
  unfold Fl.same at hQ
  have o1 := Fl.ord_ne x x
  have o2 := Fl.ord_ne y y
  have o3 := Fl.ord_eq x y
  replace o1 : (FloatKind.f64.format.order x x != some .eq) = Fl.nan x := by rw [o1]; cases Fl.nan x <;> simp
  replace o2 : (FloatKind.f64.format.order y y != some .eq) = Fl.nan y := by rw [o2]; cases Fl.nan y <;> simp
  have sx := Lib.hid (fun W => signbit_any x W)
  have sy := Lib.hid (fun W => signbit_any y W)
  obtain ⟨a, ha⟩ : ∃ a, a = Fl.nan x := ⟨_, rfl⟩
  obtain ⟨b, hb⟩ : ∃ b, b = Fl.nan y := ⟨_, rfl⟩
  obtain ⟨c, hc⟩ : ∃ c, c = (FloatKind.f64.format.order x y == some .eq) := ⟨_, rfl⟩
  rw [← ha] at o1 o3 hQ
  rw [← hb] at o2 o3 hQ
  have hq : Hid (Q = ((a && b) || (c && (Fl.sgn x == Fl.sgn y)))) := Lib.hid (by rw [hQ, hc, o3])
  rw [← hc] at o3
  replace o3 := Lib.hid o3
  replace ha := Lib.hid ha
  replace hb := Lib.hid hb
  have hc2 : (FloatKind.f64.format.order x y == some .eq) = c := hc.symm
  replace hc := Lib.hid hc
  replace hQ := Lib.hid hQ
  go_enter Tryz.func10, Tryz.ntmps10
  cases a with
  | true => cases b with
    | true =>
      have hf : Hid (Q = true) := Lib.hid (by rw [hq.out]; rfl)
      go_wp2_with fail
      go_ret
      exact ⟨ret_bool hf.out.symm, rfl⟩
    | false =>
      have hcf : c = false := by have := hc.out; have := o3.out; simpa using this
      subst hcf
      have hf : Hid (Q = false) := Lib.hid (by rw [hq.out]; rfl)
      go_wp2_with fail
      go_ret
      exact ⟨ret_bool hf.out.symm, rfl⟩
  | false => cases c with
    | false =>
      have hf : Hid (Q = false) := Lib.hid (by rw [hq.out]; rfl)
      go_wp2_with fail
      go_ret
      exact ⟨ret_bool hf.out.symm, rfl⟩
    | true =>
      have hf : Hid (Q = (Fl.sgn x == Fl.sgn y)) := Lib.hid (by rw [hq.out]; rfl)
      go_wp2_with fail
      (refine (sx.out _).mono ?_); rintro e w1 ⟨rfl, rfl⟩
      go_wp2_with fail
      (refine (sy.out _).mono ?_); rintro e w1 ⟨rfl, rfl⟩
      go_wp2_with fail
      all_goals
        go_ret
        exact ⟨ret_bool (by rw [hf.out]), rfl⟩
end Go.Proofs.YtpgdmoaegnehbaaGreatDoor
