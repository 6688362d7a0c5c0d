/-
  Texts of points of time stand, byte by byte, as the points do: in plain Lean.
-/
import Derived.Test.YtdkephbfehlodaaDoorTold
namespace Go.Proofs.YtdkephbfehlodaaDoor
open Go.RowKit

namespace D
theorem less_cons (c : UInt8) (x y : List UInt8) : Op.bytesLess (c :: x) (c :: y) = Op.bytesLess x y := by simp [Op.bytesLess]
theorem less_self (x : List UInt8) : Op.bytesLess x x = false := by
  induction x with
  | nil => rfl
  | cons a x ih => rw [less_cons, ih]

theorem less_dig (k a b : Nat) (s t : List UInt8) (ha : a < 10 ^ k) (hb : b < 10 ^ k) :
    Op.bytesLess (dig k a ++ s) (dig k b ++ t) = if a < b then true else if b < a then false else Op.bytesLess s t := by
  induction k generalizing a b s t with
  | zero =>
    have : a = 0 := by simpa using ha
    have : b = 0 := by simpa using hb
    subst a; subst b
    simp [dig]
  | succ k ih =>
    rw [Nat.pow_succ] at ha hb
    have e : ∀ (n : Nat) (u : List UInt8), dig (k + 1) n ++ u = dig k (n / 10) ++ (UInt8.ofNat (48 + n % 10) :: u) := fun n u => by rw [dig]; simp
    rw [e, e, ih _ _ _ _ (by omega) (by omega)]
    have hlt : (UInt8.ofNat (48 + a % 10) < UInt8.ofNat (48 + b % 10)) = (a % 10 < b % 10) := by
      rw [UInt8.lt_iff_toNat_lt, one_toNat, one_toNat]; exact propext ⟨fun h => by omega, fun h => by omega⟩
    have heq : (UInt8.ofNat (48 + a % 10) == UInt8.ofNat (48 + b % 10)) = decide (a % 10 = b % 10) := by
      rw [Bool.eq_iff_iff, beq_iff_eq, decide_eq_true_eq, ← UInt8.toNat_inj, one_toNat, one_toNat]
      exact ⟨fun h => by omega, fun h => by omega⟩
    by_cases h1 : a / 10 < b / 10
    · rw [if_pos h1, if_pos (by omega)]
    · rw [if_neg h1]
      by_cases h2 : b / 10 < a / 10
      · rw [if_pos h2, if_neg (by omega), if_pos (by omega)]
      · rw [if_neg h2]
        show (decide (UInt8.ofNat (48 + a % 10) < UInt8.ofNat (48 + b % 10)) || (UInt8.ofNat (48 + a % 10) == UInt8.ofNat (48 + b % 10) && Op.bytesLess s t)) = _
        rw [heq]
        simp only [hlt]
        by_cases h3 : a < b
        · rw [if_pos h3, decide_eq_true (by omega)]; rfl
        · rw [if_neg h3, decide_eq_false (by omega), Bool.false_or]
          by_cases h4 : b < a
          · rw [if_pos h4, decide_eq_false (by omega)]; rfl
          · rw [if_neg h4, decide_eq_true (by omega), Bool.true_and]

theorem text_less {a b : Int} (ha : okB a 0 = true) (hb : okB b 0 = true) : Op.bytesLess (text a 0) (text b 0) = decide (a < b) := by
  obtain ⟨a1, a2, -, -⟩ := ok_iff.1 ha
  obtain ⟨b1, b2, -, -⟩ := ok_iff.1 hb
  have ft : ∀ {x : Int}, okB x 0 = true → text x 0 = head x ++ [90] := fun h => by
    unfold text; rw [if_pos h]; rfl
  rw [ft ha, ft hb]
  obtain ⟨hD, hdays⟩ := day_of (day := a / 86400) (by omega) (by omega)
  obtain ⟨hD', hdays'⟩ := day_of (day := b / 86400) (by omega) (by omega)
  obtain ⟨-, -, y0, y9⟩ := y_spec (day := a / 86400) (by omega) (by omega)
  obtain ⟨-, -, y0', y9'⟩ := y_spec (day := b / 86400) (by omega) (by omega)
  have ml := mlen_le (yOf (a / 86400)) (mOf (a / 86400))
  have ml' := mlen_le (yOf (b / 86400)) (mOf (b / 86400))
  have l1 := fun h => hD.lt hD' h
  have l2 := fun h => hD'.lt hD h
  have i1 := hD.m1
  have i2 := hD.m12
  have i3 := hD.d1
  have i4 := hD.dl
  have j1 := hD'.m1
  have j2 := hD'.m12
  have j3 := hD'.d1
  have j4 := hD'.dl
  unfold head ymd hms
  generalize yOf (a / 86400) = y at *
  generalize mOf (a / 86400) = m at *
  generalize dOf (a / 86400) = d at *
  generalize yOf (b / 86400) = y' at *
  generalize mOf (b / 86400) = m' at *
  generalize dOf (b / 86400) = d' at *
  clear hD hD' ft ha hb
  obtain ⟨r, hr⟩ : ∃ r : Nat, (a % 86400).toNat = r := ⟨_, rfl⟩
  obtain ⟨r', hr'⟩ : ∃ r : Nat, (b % 86400).toNat = r := ⟨_, rfl⟩
  rw [hr, hr']
  simp only [List.append_assoc, List.cons_append]
  rw [less_dig 4 _ _ _ _ (by omega) (by omega), less_cons, less_dig 2 _ _ _ _ (by omega) (by omega), less_cons, less_dig 2 _ _ _ _ (by omega) (by omega), less_cons,
    less_dig 2 _ _ _ _ (by omega) (by omega), less_cons, less_dig 2 _ _ _ _ (by omega) (by omega), less_cons, less_dig 2 _ _ _ _ (by omega) (by omega), less_self]
  have key : ∀ (P Q : Prop) [Decidable P] [Decidable Q] (X : Bool), (P → a < b) → (Q → b < a) → (¬ P → ¬ Q → X = decide (a < b)) → (if P then true else if Q then false else X) = decide (a < b) := by
    intro P Q _ _ X h1 h2 h3
    split
    · exact (decide_eq_true (h1 (by assumption))).symm
    · split
      · have := h2 (by assumption)
        exact (decide_eq_false (by omega)).symm
      · exact h3 (by assumption) (by assumption)
  refine key _ _ _ (fun h => ?_) (fun h => ?_) (fun p1 p2 => key _ _ _ (fun h => ?_) (fun h => ?_) (fun p3 p4 => key _ _ _ (fun h => ?_) (fun h => ?_) (fun p5 p6 => ?_)))
  · have := l1 (.inl (by omega)); omega
  · have := l2 (.inl (by omega)); omega
  · have := l1 (.inr ⟨by omega, .inl (by omega)⟩); omega
  · have := l2 (.inr ⟨by omega, .inl (by omega)⟩); omega
  · have := l1 (.inr ⟨by omega, .inr ⟨by omega, by omega⟩⟩); omega
  · have := l2 (.inr ⟨by omega, .inr ⟨by omega, by omega⟩⟩); omega
  obtain ⟨rfl, rfl, rfl⟩ : y = y' ∧ m = m' ∧ d = d' := by omega
  have hab : a / 86400 = b / 86400 := by rw [← hdays, ← hdays']
  refine key _ _ _ (fun h => ?_) (fun h => ?_) (fun p1 p2 => key _ _ _ (fun h => ?_) (fun h => ?_) (fun p3 p4 => key _ _ _ (fun h => ?_) (fun h => ?_) (fun p5 p6 => ?_)))
  · omega
  · omega
  · omega
  · omega
  · omega
  · omega
  · exact (decide_eq_false (by omega)).symm
end D
end Go.Proofs.YtdkephbfehlodaaDoor
