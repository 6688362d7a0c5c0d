/-
  Floats as words: how two stand to each other, by whole numbers.
-/
import Derived.Test.YtpgdmoaegnehbaaGreatDoorTexts
import Ieee.Arith
namespace Go.Proofs.YtpgdmoaegnehbaaGreatDoor
namespace Fl
open Ieee

/-- The unit that all finite numbers are counted in. -/
def least : Int := Ieee.double.leastPlace
/-- More than any number. -/
def ex : Nat := 3000
def E : Nat := 2 ^ ex
theorem E_is : E = 2 ^ ex := by unfold E; rfl
theorem E_pos : 0 < E := Nat.pow_pos (Nat.zero_lt_succ 1)
/-- What a datum counts to; an endless one more than any number. -/
def num : Datum → Int
  | .number s m i => signed s m (i - least).toNat
  | .infinity s => if s then -(E : Int) else (E : Int)
  | .nan .. => 0
def Big : Datum → Prop
  | .number _ m i => least ≤ i ∧ m <<< (i - least).toNat < E
  | _ => True
theorem signed_scale (s : Bool) (m a k : Nat) : signed s m (a + k) = signed s m a * 2 ^ k := by
  unfold signed
  have h : ((m <<< (a + k) : Nat) : Int) = ((m <<< a : Nat) : Int) * 2 ^ k := by
    rw [Nat.shiftLeft_eq, Nat.shiftLeft_eq, Nat.pow_add, ← Nat.mul_assoc]
    push_cast
    rfl
  cases s
  · simpa using h
  · simp only [if_true, h]
    rw [Int.neg_mul]
theorem compare_scale (a b : Int) (k : Nat) : compare (a * 2 ^ k) (b * 2 ^ k) = compare a b := by
  have hk : (0 : Int) < 2 ^ k := Int.pow_pos (by decide)
  rcases Int.lt_trichotomy a b with h | h | h
  · rw [Int.compare_eq_lt.2 h, Int.compare_eq_lt.2 (Int.mul_lt_mul_of_pos_right h hk)]
  · subst h; rw [Int.compare_eq_eq.2 rfl, Int.compare_eq_eq.2 rfl]
  · rw [Int.compare_eq_gt.2 h, Int.compare_eq_gt.2 (Int.mul_lt_mul_of_pos_right h hk)]
theorem signed_abs (s : Bool) (m a : Nat) (h : m <<< a < E) : -(E : Int) < signed s m a ∧ signed s m a < (E : Int) := by
  unfold signed
  generalize m <<< a = x at *
  cases s
  · simp only [Bool.false_eq_true, if_false]; omega
  · simp only [if_true]; omega
/-- Two data that are numbers stand as their counts do. -/
theorem order_num {c d : Datum} (hc : Big c) (hd : Big d) (nc : c.isNaN = false) (nd : d.isNaN = false) : c.order d = some (compare (num c) (num d)) := by
  cases c with
  | nan => cases nc
  | infinity s =>
    cases d with
    | nan => cases nd
    | infinity t =>
      have hE := E_pos
      have e1 : compare (-(E : Int)) (E : Int) = .lt := Int.compare_eq_lt.2 (by omega)
      have e2 : compare (E : Int) (-(E : Int)) = .gt := Int.compare_eq_gt.2 (by omega)
      have e3 : ∀ x : Int, compare x x = .eq := fun x => Int.compare_eq_eq.2 rfl
      cases s <;> cases t
      · show _ = some (compare (E : Int) (E : Int)); rw [e3]; rfl
      · show _ = some (compare (E : Int) (-(E : Int))); rw [e2]; rfl
      · show _ = some (compare (-(E : Int)) (E : Int)); rw [e1]; rfl
      · show _ = some (compare (-(E : Int)) (-(E : Int))); rw [e3]; rfl
    | number t n j =>
      have h : least ≤ j ∧ n <<< (j - least).toNat < E := hd
      obtain ⟨h1, h2⟩ := signed_abs t n _ h.2
      cases s
      · show some Ordering.gt = some (compare (E : Int) (signed t n (j - least).toNat))
        rw [Int.compare_eq_gt.2 h2]
      · show some Ordering.lt = some (compare (-(E : Int)) (signed t n (j - least).toNat))
        rw [Int.compare_eq_lt.2 h1]
  | number s m i =>
    have h : least ≤ i ∧ m <<< (i - least).toNat < E := hc
    obtain ⟨h1, h2⟩ := signed_abs s m _ h.2
    cases d with
    | nan => cases nd
    | infinity t =>
      cases t
      · show some Ordering.lt = some (compare (signed s m (i - least).toNat) (E : Int))
        rw [Int.compare_eq_lt.2 h2]
      · show some Ordering.gt = some (compare (signed s m (i - least).toNat) (-(E : Int)))
        rw [Int.compare_eq_gt.2 h1]
    | number t n j =>
      have g : least ≤ j ∧ n <<< (j - least).toNat < E := hd
      show some (compare (signed s m (i - min i j).toNat) (signed t n (j - min i j).toNat)) = some (compare (signed s m (i - least).toNat) (signed t n (j - least).toNat))
      have e1 : (i - least).toNat = (i - min i j).toNat + (min i j - least).toNat := by have := g.1; have := h.1; omega
      have e2 : (j - least).toNat = (j - min i j).toNat + (min i j - least).toNat := by have := g.1; have := h.1; omega
      rw [e1, e2, signed_scale, signed_scale, compare_scale]
theorem order_nan {c d : Datum} (h : c.isNaN = true ∨ d.isNaN = true) : c.order d = none := by
  cases c <;> cases d <;> simp [Datum.isNaN] at h <;> rfl
/-! Words of 64 bits. -/
def nan (x : Nat) : Bool := (Ieee.double.read x).isNaN
def val (x : Nat) : Int := num (Ieee.double.read x)
def sgn (x : Nat) : Bool := (Ieee.double.read x).neg
theorem shift_lt {m a : Nat} (hm : m < 2 ^ 53) (ha : a ≤ 2046) : m <<< a < E := by
  rw [Nat.shiftLeft_eq]
  have h1 : m * 2 ^ a < 2 ^ 53 * 2 ^ a := Nat.mul_lt_mul_of_pos_right hm (Nat.pow_pos (Nat.zero_lt_succ 1))
  rw [← Nat.pow_add] at h1
  have key : ∀ e : Nat, 53 + a ≤ e → 2 ^ (53 + a) ≤ 2 ^ e := fun e h => Nat.pow_le_pow_right (Nat.zero_lt_succ 1) h
  have h2 := key ex (show 53 + a ≤ 3000 by omega)
  rw [E_is]
  exact Nat.lt_of_lt_of_le h1 h2
theorem read_big (x : Nat) : Big (Ieee.double.read x) := by
  have hbin : Ieee.double.binade = 4503599627370496 := rfl
  have hinf : Ieee.double.infRung = 2047 * 4503599627370496 := rfl
  unfold Format.read
  generalize x % Ieee.double.signWeight = r
  dsimp only
  split
  · rename_i h
    rw [hbin] at h
    refine ⟨Int.le_refl _, ?_⟩
    rw [show (Ieee.double.leastPlace - least).toNat = 0 by unfold least; omega]
    exact shift_lt (by omega) (by omega)
  split
  · rename_i h1 h
    rw [hinf] at h
    rw [hbin] at h1 ⊢
    refine ⟨by unfold least; omega, ?_⟩
    rw [show (Ieee.double.leastPlace + ((r / 4503599627370496 - 1 : Nat) : Int) - least).toNat = r / 4503599627370496 - 1 by unfold least; omega]
    exact shift_lt (by omega) (by omega)
  split <;> exact trivial
/-- HOW TWO FLOATS STAND. -/
theorem order_is (x y : Nat) : Ieee.double.order x y = if nan x = true ∨ nan y = true then none else some (compare (val x) (val y)) := by
  unfold Format.order nan val
  split
  · rename_i h; exact order_nan h
  · rename_i h
    exact order_num (read_big x) (read_big y) (by simp at h; exact h.1) (by simp at h; exact h.2)
theorem val_neg {x : Nat} (h : val x < 0) : sgn x = true := by
  unfold val sgn at *
  cases hd : Ieee.double.read x with
  | nan => rw [hd] at h; exact absurd h (by simp [num])
  | infinity s => cases s with
    | true => rfl
    | false => rw [hd] at h; have := E_pos; simp only [num, Bool.false_eq_true, if_false] at h; omega
  | number s m i => cases s with
    | true => rfl
    | false => rw [hd] at h; simp only [num, signed, Bool.false_eq_true, if_false] at h; generalize m <<< (i - least).toNat = q at h; omega
theorem val_pos {x : Nat} (h : 0 < val x) : sgn x = false := by
  unfold val sgn at *
  cases hd : Ieee.double.read x with
  | nan => rw [hd] at h; exact absurd h (by simp [num])
  | infinity s => cases s with
    | false => rfl
    | true => rw [hd] at h; have := E_pos; simp only [num, if_true] at h; omega
  | number s m i => cases s with
    | false => rfl
    | true => rw [hd] at h; simp only [num, signed, if_true] at h; generalize m <<< (i - least).toNat = q at h; omega
/-- One, divided by a nought: endless, with the nought's sign. -/
theorem div_nought {x : Nat} (hn : nan x = false) (h : val x = 0) : ∃ r, Ieee.double.div 4607182418800017408 x = some r ∧ nan r = false ∧ (if sgn x then val r < 0 else 0 < val r) := by
  have h1 : Ieee.double.read 4607182418800017408 = .number false 4503599627370496 (-52) := by decide
  unfold Format.div val sgn nan at *
  rw [h1]
  cases hd : Ieee.double.read x with
  | nan => rw [hd] at hn; cases hn
  | infinity s =>
    rw [hd] at h
    have := E_pos
    cases s <;> simp only [num, if_true, Bool.false_eq_true, if_false] at h <;> omega
  | number s m i =>
    rw [hd] at h
    have hm : m = 0 := by
      have h3 : signed s m (i - least).toNat = 0 := h
      have h2 : m <<< (i - least).toNat = 0 := by
        unfold signed at h3
        generalize m <<< (i - least).toNat = q at h3 ⊢
        cases s
        · simp only [Bool.false_eq_true, if_false] at h3; omega
        · simp only [if_true] at h3; omega
      rw [Nat.shiftLeft_eq] at h2
      exact (Nat.mul_eq_zero.1 h2).resolve_right (Nat.ne_of_gt (Nat.pow_pos (Nat.zero_lt_succ 1)))
    subst hm
    have := E_pos
    cases s
    · refine ⟨Ieee.double.word false Ieee.double.infRung, rfl, by decide, ?_⟩
      have e : Ieee.double.read (Ieee.double.word false Ieee.double.infRung) = .infinity false := by decide
      rw [e]
      show (0 : Int) < (E : Int)
      omega
    · refine ⟨Ieee.double.word true Ieee.double.infRung, rfl, by decide, ?_⟩
      have e : Ieee.double.read (Ieee.double.word true Ieee.double.infRung) = .infinity true := by decide
      rw [e]
      show -(E : Int) < 0
      omega
end Fl
end Go.Proofs.YtpgdmoaegnehbaaGreatDoor
