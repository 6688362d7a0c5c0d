/-
  What the document's own words of references come to: contracts of number, named.
-/
import Derived.Test.YtmeliljioagipaaGreatDoorRefEscape
namespace Go.Proofs.YtmeliljioagipaaGreatDoor
open Go.RowKit

namespace E
def numR (base m : Nat) (l : List UInt8) : Int := match numGo base m l with | some n => if G.char (n : Int) = true then (n : Int) else -1 | none => -1
theorem numN_of (base : Nat) (l : List UInt8) (h : l ≠ []) : numN base l = numR base 0 l := by
  unfold numN numR number
  rw [if_neg h]
  cases numGo base 0 l with
  | none => rfl
  | some n =>
    simp only [Option.bind_some]
    by_cases hc : G.char (n : Int) = true
    · rw [if_pos hc, if_pos hc]
    · rw [if_neg hc, if_neg hc]
theorem numN_nil (base : Nat) : numN base [] = -1 := rfl
theorem numR_nil (base m : Nat) : numR base m [] = if G.char (m : Int) = true then (m : Int) else -1 := rfl
theorem numR_bad (base m : Nat) (b : UInt8) (t : List UInt8) (h : digit b base = none) : numR base m (b :: t) = -1 := by
  unfold numR numGo; rw [h]; rfl
theorem numR_step (base m d : Nat) (b : UInt8) (t : List UInt8) (h : digit b base = some d) : numR base m (b :: t) = numR base (min (m * base + d) 1114112) t := by
  unfold numR; rw [numGo, h]; rfl
theorem digit_lt {b : UInt8} {base d : Nat} (h : digit b base = some d) : d < base := by
  unfold digit at h
  revert h
  generalize (if 48 ≤ b.toNat ∧ b.toNat ≤ 57 then some (b.toNat - 48) else if 65 ≤ b.toNat ∧ b.toNat ≤ 70 then some (b.toNat - 55) else if 97 ≤ b.toNat ∧ b.toNat ≤ 102 then some (b.toNat - 87) else none) = o
  intro h
  cases o with
  | none => cases h
  | some k =>
    simp only [Option.bind_some] at h
    split at h
    · cases h; assumption
    · cases h
end E

namespace E
/-- what a reference's name is, as a string: empty, if nothing. -/
def namedB (s : ByteArray) : ByteArray := match named s.data.toList with | some u => ⟨u.toArray⟩ | none => ByteArray.empty
end E

namespace E
theorem number_char {base n : Nat} {l : List UInt8} (h : number base l = some n) : G.char (n : Int) = true := by
  unfold number at h
  split at h
  · cases h
  · cases hg : numGo base 0 l with
    | none => rw [hg] at h; cases h
    | some k =>
      rw [hg] at h
      simp only [Option.bind_some] at h
      split at h
      · cases h; assumption
      · cases h
theorem numN_some {base n : Nat} {l : List UInt8} (h : number base l = some n) : numN base l = (n : Int) := by unfold numN; rw [h]
theorem numN_none {base : Nat} {l : List UInt8} (h : number base l = none) : numN base l = -1 := by unfold numN; rw [h]
theorem namedB_of {s : ByteArray} {u : List UInt8} (h : named s.data.toList = some u) : namedB s = ⟨u.toArray⟩ := by unfold namedB; rw [h]
theorem namedB_no {s : ByteArray} (h : named s.data.toList = none) : namedB s = ByteArray.empty := by unfold namedB; rw [h]
theorem named_hash {l : List UInt8} (h1 : ¬ l = [108, 116]) (h2 : ¬ l = [103, 116]) (h3 : ¬ l = [97, 109, 112]) (h4 : ¬ l = [113, 117, 111, 116]) (h5 : ¬ l = [97, 112, 111, 115]) :
    named l = if 2 < l.length ∧ l.take 2 = [35, 120] then (number 16 (l.drop 2)).map fun n => Lib.encodeRune n else if 1 < l.length ∧ l.take 1 = [35] then (number 10 (l.drop 1)).map fun n => Lib.encodeRune n else none := by
  unfold named
  rw [if_neg h1, if_neg h2, if_neg h3, if_neg h4, if_neg h5]
end E

end Go.Proofs.YtmeliljioagipaaGreatDoor
