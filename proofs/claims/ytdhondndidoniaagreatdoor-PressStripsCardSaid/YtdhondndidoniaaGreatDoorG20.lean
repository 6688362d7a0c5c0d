/-
  How a point of time is told, in plain Lean: digits of a fixed number, the day of a point of time, the text; what is told is read.
-/
import Derived.Test.YtdhondndidoniaaGreatDoorG06
import Derived.Lib.ItoaNum
namespace Go.Proofs.YtdhondndidoniaaGreatDoor
open Go.RowKit

namespace D
/-! ### digits -/
def dig : Nat → Nat → List UInt8
  | 0, _ => []
  | k + 1, n => dig k (n / 10) ++ [UInt8.ofNat (48 + n % 10)]
theorem dig_length (k n : Nat) : (dig k n).length = k := by
  induction k generalizing n with
  | zero => rfl
  | succ k ih => rw [dig, List.length_append, ih]; rfl
theorem dig_zero (k : Nat) : dig k 0 = List.replicate k 48 := by
  induction k with
  | zero => rfl
  | succ k ih => rw [dig, Nat.zero_div, ih, List.replicate_succ']; rfl
theorem pad_dig (k n : Nat) (h : n < 10 ^ (k + 1)) : List.replicate (k + 1 - (Lib.decDigits n).length) 48 ++ Lib.decDigits n = dig (k + 1) n := by
  induction k generalizing n with
  | zero =>
    have h10 : n < 10 := by simpa using h
    rw [Lib.decDigits, dif_pos h10, dig, dig]
    simp
    rw [Nat.mod_eq_of_lt h10]
  | succ k ih =>
    by_cases h10 : n < 10
    · rw [Lib.decDigits, dif_pos h10, dig, Nat.div_eq_of_lt h10, dig_zero, Nat.mod_eq_of_lt h10]
      simp
    · rw [Lib.decDigits, dif_neg h10, dig, ← ih (n / 10) (by rw [Nat.pow_succ] at h; omega)]
      simp
theorem dec_length {k n : Nat} (h : n < 10 ^ (k + 1)) : (Lib.decDigits n).length ≤ k + 1 := by
  induction k generalizing n with
  | zero =>
    have h10 : n < 10 := by simpa using h
    rw [Lib.decDigits, dif_pos h10]; simp
  | succ k ih =>
    by_cases h10 : n < 10
    · rw [Lib.decDigits, dif_pos h10]; simp
    · rw [Lib.decDigits, dif_neg h10]
      have := ih (n := n / 10) (by rw [Nat.pow_succ] at h; omega)
      simp; omega

/-! ### the day of a point of time -/
def climb (f : Int → Int) (day : Int) : Nat → Int → Int
  | 0, y => y
  | n + 1, y => if f (y + 1) ≤ day then climb f day n (y + 1) else y
theorem climb_spec (f : Int → Int) (day : Int) (n : Nat) (y : Int) (h : f y ≤ day) : f (climb f day n y) ≤ day ∧ y ≤ climb f day n y ∧ climb f day n y ≤ y + n ∧ (climb f day n y < y + n → day < f (climb f day n y + 1)) := by
  induction n generalizing y with
  | zero => simp [climb]; exact h
  | succ n ih =>
    unfold climb
    split
    · rename_i h1
      have := ih (y + 1) h1
      omega
    · refine ⟨h, by omega, by omega, fun _ => by omega⟩
def yOf (day : Int) : Int := climb yd day 10000 0
def mOf (day : Int) : Int := climb (fun m => yd (yOf day) + md (yOf day) m) day 11 1
def dOf (day : Int) : Int := day - yd (yOf day) - md (yOf day) (mOf day) + 1
theorem yd_0 : yd 0 = -719528 := by decide
theorem yd_10000 : yd 10000 = 2932897 := by decide
theorem y_spec {day : Int} (h1 : -719528 ≤ day) (h2 : day < 2932897) : yd (yOf day) ≤ day ∧ day < yd (yOf day + 1) ∧ 0 ≤ yOf day ∧ yOf day ≤ 9999 := by
  have := climb_spec yd day 10000 0 (by rw [yd_0]; exact h1)
  have h3 : yOf day ≠ 10000 := by
    intro e
    have h4 : yd (yOf day) ≤ day := this.1
    rw [e, yd_10000] at h4; omega
  unfold yOf at h3 ⊢
  omega
theorem day_of {day : Int} (h1 : -719528 ≤ day) (h2 : day < 2932897) : Day (yOf day) (mOf day) (dOf day) ∧ days (yOf day) (mOf day) (dOf day) = day := by
  obtain ⟨a, b, c, d⟩ := y_spec h1 h2
  have hm := climb_spec (fun m => yd (yOf day) + md (yOf day) m) day 11 1 (by show yd (yOf day) + md (yOf day) 1 ≤ day; rw [md_1]; omega)
  have hm' : climb (fun m => yd (yOf day) + md (yOf day) m) day 11 1 = mOf day := rfl
  rw [hm'] at hm
  rw [yd_succ] at b
  have h12 := md_12 (yOf day)
  have hl := mlen_le (yOf day) (mOf day)
  have hd : day < yd (yOf day) + md (yOf day) (mOf day) + mlen (yOf day) (mOf day) := by
    by_cases h : mOf day = 12
    · rw [h]; omega
    · have := hm.2.2.2 (by omega)
      rw [md_succ (yOf day) (mOf day) (by omega) (by omega)] at this
      omega
  refine ⟨⟨by omega, by omega, ?_, ?_⟩, ?_⟩
  · unfold dOf; omega
  · unfold dOf; omega
  · unfold days dOf; omega

/-! ### the text -/
def strip (l : List UInt8) : List UInt8 := (l.reverse.dropWhile (fun b => decide (b = 48))).reverse
/-- the day, and the second of it. -/
def hms (r : Nat) : List UInt8 := dig 2 (r / 3600) ++ 58 :: (dig 2 (r / 60 % 60) ++ 58 :: dig 2 (r % 60))
def ymd (y m d : Nat) : List UInt8 := dig 4 y ++ 45 :: (dig 2 m ++ 45 :: dig 2 d)
def head (sec : Int) : List UInt8 := ymd (yOf (sec / 86400)).toNat (mOf (sec / 86400)).toNat (dOf (sec / 86400)).toNat ++ 84 :: hms (sec % 86400).toNat
def frac (nano : Int) : List UInt8 := if 0 < nano then 46 :: strip (dig 9 nano.toNat) else []
def okB (sec nano : Int) : Bool := decide (-62167219200 ≤ sec) && decide (sec ≤ 253402300799) && decide (0 ≤ nano) && decide (nano ≤ 999999999)
def text (sec nano : Int) : List UInt8 := if okB sec nano = true then head sec ++ (frac nano ++ [90]) else []
def textE (sec nano : Int) : Int := if okB sec nano = true then 0 else 110
theorem ok_iff {sec nano : Int} : okB sec nano = true ↔ (-62167219200 ≤ sec ∧ sec ≤ 253402300799 ∧ 0 ≤ nano ∧ nano ≤ 999999999) := by
  simp only [okB, Bool.and_eq_true, decide_eq_true_eq, and_assoc]

/-! ### what is told is read -/
/-- noughts at the end are taken away, and no others. -/
theorem strip_spec (l : List UInt8) : ∃ j, l = strip l ++ List.replicate j 48 ∧ (strip l = [] ∨ ∃ q c, strip l = q ++ [c] ∧ c ≠ 48) := by
  suffices H : ∀ r : List UInt8, ∃ j, r = List.replicate j 48 ++ r.dropWhile (fun b => decide (b = 48)) ∧ (r.dropWhile (fun b => decide (b = 48)) = [] ∨ ∃ q c, r.dropWhile (fun b => decide (b = 48)) = c :: q ∧ c ≠ 48) by
    obtain ⟨j, h1, h2⟩ := H l.reverse
    refine ⟨j, ?_, ?_⟩
    · have := congrArg List.reverse h1
      rw [List.reverse_reverse, List.reverse_append, List.reverse_replicate] at this
      exact this
    · rcases h2 with h2 | ⟨q, c, h2, hc⟩
      · left; unfold strip; rw [h2]; rfl
      · right; exact ⟨q.reverse, c, by unfold strip; rw [h2]; simp, hc⟩
  intro r
  induction r with
  | nil => exact ⟨0, rfl, .inl rfl⟩
  | cons b r ih =>
    by_cases hb : b = 48
    · subst hb
      obtain ⟨j, h1, h2⟩ := ih
      have e : (48 :: r).dropWhile (fun b => decide (b = 48)) = r.dropWhile (fun b => decide (b = 48)) := by rw [List.dropWhile_cons_of_pos (by simp)]
      refine ⟨j + 1, ?_, ?_⟩
      · rw [e, List.replicate_succ, List.cons_append, ← h1]
      · rw [e]; exact h2
    · have e : (b :: r).dropWhile (fun b => decide (b = 48)) = b :: r := by rw [List.dropWhile_cons_of_neg (by simp [hb])]
      exact ⟨0, by rw [e]; rfl, .inr ⟨r, b, e, hb⟩⟩

end D
end Go.Proofs.YtdhondndidoniaaGreatDoor
