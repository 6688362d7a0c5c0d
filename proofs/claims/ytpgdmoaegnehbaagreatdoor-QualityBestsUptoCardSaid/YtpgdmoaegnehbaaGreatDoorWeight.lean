/-
  Weights: the number that a text is, in thousandths; the float that so many thousandths are; the document's Weight.
-/
import Derived.Test.YtpgdmoaegnehbaaGreatDoorRefRank
namespace Go.Proofs.YtpgdmoaegnehbaaGreatDoor
open Go.RowKit

namespace Fl
/-- So many thousandths. -/
def W (n : Nat) : Nat := (Ieee.double.div (floatOfInt .f64 (n : Int)) 4652007308841189376).getD 0
theorem W_is {n : Nat} (h : n ≤ 1000) : floatBits .quo .f64 (floatOfInt .f64 (n : Int)) 4652007308841189376 = some (W n) := by
  have all : ((List.range 1001).all fun n => (Ieee.double.div (floatOfInt .f64 (n : Int)) 4652007308841189376).isSome) = true := by decide +kernel
  have := List.all_eq_true.1 all n (List.mem_range.2 (by omega))
  obtain ⟨r, hr⟩ := Option.isSome_iff_exists.1 this
  show Ieee.double.div _ _ = some _
  rw [W, hr]
  rfl
theorem W_nan {n : Nat} (h : n ≤ 1000) : nan (W n) = false ∧ sgn (W n) = false := by
  have all : ((List.range 1001).all fun n => !nan (W n) && !sgn (W n)) = true := by decide +kernel
  have := List.all_eq_true.1 all n (List.mem_range.2 (by omega))
  simpa using this
theorem W_lt {n m : Nat} (h : n < m) (hm : m ≤ 1000) : val (W n) < val (W m) := by
  have all : ((List.range 1000).all fun n => decide (val (W n) < val (W (n + 1)))) = true := by decide +kernel
  have step : ∀ k, k < 1000 → val (W k) < val (W (k + 1)) := fun k hk => of_decide_eq_true (List.all_eq_true.1 all k (List.mem_range.2 hk))
  have go : ∀ d, n + (d + 1) ≤ 1000 → val (W n) < val (W (n + (d + 1))) := by
    intro d
    induction d with
    | zero => intro h; exact step n (by omega)
    | succ d ih =>
      intro h
      have h1 := ih (by omega)
      have h2 := step (n + (d + 1)) (by omega)
      exact Int.lt_trans h1 h2
  have e : n + ((m - n - 1) + 1) = m := by omega
  have := go (m - n - 1) (by omega)
  rwa [e] at this
theorem W_zero : W 0 = 0 := by decide +kernel
theorem W_one : W 1000 = one := by decide +kernel
theorem W_half : W 500 = 4602678819172646912 := by decide +kernel
end Fl
namespace Ql
def digB (b : UInt8) : Bool := decide (48 ≤ b.toNat) && decide (b.toNat ≤ 57)
def frac : Nat → Nat → List UInt8 → Option Nat
  | _, n, [] => if n ≤ 1000 then some n else none
  | p, n, b :: t => if digB b = true then frac (p / 10) (n + (b.toNat - 48) * p) t else none
/-- The number that a text is, in thousandths. -/
def weight : List UInt8 → Option Nat
  | [] => none
  | b :: t => if (b.toNat = 48 ∨ b.toNat = 49) ∧ t.length ≤ 4 ∧ (t = [] ∨ t.head? = some 46) then frac 100 ((b.toNat - 48) * 1000) (t.drop 1) else none
/-- A float is that weight: a NaN of what is none. -/
def IsW (o : Option Nat) (x : Nat) : Prop := match o with
  | some n => x = Fl.W n
  | none => Fl.nan x = true
theorem frac_le {p n k : Nat} : ∀ {l : List UInt8}, frac p n l = some k → k ≤ 1000
  | [], h => by
    unfold frac at h
    split at h
    · injection h with h; omega
    · cases h
  | b :: t, h => by
    unfold frac at h
    split at h
    · exact frac_le h
    · cases h
theorem weight_le {l : List UInt8} {k : Nat} (h : weight l = some k) : k ≤ 1000 := by
  unfold weight at h
  split at h
  · cases h
  · split at h
    · exact frac_le h
    · cases h
end Ql
end Go.Proofs.YtpgdmoaegnehbaaGreatDoor
