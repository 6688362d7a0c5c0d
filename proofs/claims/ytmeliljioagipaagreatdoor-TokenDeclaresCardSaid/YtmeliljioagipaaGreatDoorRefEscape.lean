/-
  What the document's own words of references come to: contracts of Space, digit, number, utf8.
-/
import Derived.Test.YtmeliljioagipaaGreatDoorRanges
import Derived.Test.YtmeliljioagipaaGreatDoorBytes
import Derived.Test.YtmeliljioagipaaGreatDoorEscape
import Derived.Deep.DeepCutAuto
namespace Go.Proofs.YtmeliljioagipaaGreatDoor
open Go.RowKit

namespace E
/-- a digit's worth, -1: none. -/
def digitN (c : UInt8) (base : Nat) : Int := match digit c base with | some k => (k : Int) | none => -1
def numN (base : Nat) (l : List UInt8) : Int := match number base l with | some k => (k : Int) | none => -1
theorem digitN_cases (c : UInt8) (base : Nat) : digitN c base =
    (let n : Int := if 48 ≤ c.toNat ∧ c.toNat ≤ 57 then (c.toNat : Int) - 48 else if 65 ≤ c.toNat ∧ c.toNat ≤ 70 then (c.toNat : Int) - 55 else if 97 ≤ c.toNat ∧ c.toNat ≤ 102 then (c.toNat : Int) - 87 else -1
     if n < (base : Int) then n else -1) := by
  unfold digitN digit
  by_cases h1 : 48 ≤ c.toNat ∧ c.toNat ≤ 57
  · simp only [if_pos h1, Option.bind_some]
    by_cases hb : c.toNat - 48 < base
    · simp only [if_pos hb]; rw [if_pos (by omega)]; omega
    · simp only [if_neg hb]; rw [if_neg (by omega)]
  · by_cases h2 : 65 ≤ c.toNat ∧ c.toNat ≤ 70
    · simp only [if_neg h1, if_pos h2, Option.bind_some]
      by_cases hb : c.toNat - 55 < base
      · simp only [if_pos hb]; rw [if_pos (by omega)]; omega
      · simp only [if_neg hb]; rw [if_neg (by omega)]
    · by_cases h3 : 97 ≤ c.toNat ∧ c.toNat ≤ 102
      · simp only [if_neg h1, if_neg h2, if_pos h3, Option.bind_some]
        by_cases hb : c.toNat - 87 < base
        · simp only [if_pos hb]; rw [if_pos (by omega)]; omega
        · simp only [if_neg hb]; rw [if_neg (by omega)]
      · simp only [if_neg h1, if_neg h2, if_neg h3, Option.bind_none]
        split <;> rfl
end E

theorem cells_new (w : World) (xs : List Value) (t : TypeId) (fr : Nat × Nat) : ∀ j u, xs[j]? = some u → (w.alloc (.cells xs.toArray t fr)).cell? ((⟨w.heap.size, 0, none⟩ : Addr).add j) = some u := by
  intro j u hj
  have e := heap_alloc_new w (.cells xs.toArray t fr)
  have a : (⟨w.heap.size, 0, none⟩ : Addr).add j = ⟨w.heap.size, j, none⟩ := by unfold Addr.add; split <;> simp_all
  rw [a]
  unfold World.cell?
  rw [e]
  simp [hj]

theorem byteCells_rune (r : Int) : (Lib.encodeRuneZ r).map (fun x => Value.int .u8 x) = Lib.byteCells (Lib.encodeRune r) := (Lib.byteCells_encodeRune r).symm

end Go.Proofs.YtmeliljioagipaaGreatDoor
