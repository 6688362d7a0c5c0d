/-
  Rows of texts: texts from an address on; a row that a call owns.
-/
import Derived.Test.YtpgdmoaegnehbaaGreatDoorBytes
import Derived.Laws.AppendOwn
namespace Go.Proofs.YtpgdmoaegnehbaaGreatDoor
open Go.RowKit

def strOf (l : List UInt8) : Value := .string ⟨l.toArray⟩
/-- Texts lie in memory, from an address on. -/
def TextsIn (w : World) (ao : Option Addr) (l : List (List UInt8)) : Prop := ∀ j (h : j < l.length), ∃ b off, ao = some ⟨b, off, none⟩ ∧ w.cell? ⟨b, off + j, none⟩ = some (.string ⟨l[j].toArray⟩)
theorem TextsIn.below {w w' : World} {ao : Option Addr} {l : List (List UInt8)} (h : TextsIn w ao l) (hb : Below w.heap.size w w') : TextsIn w' ao l := by
  intro j hj
  obtain ⟨b, off, e, c0⟩ := h j hj
  exact ⟨b, off, e, (hb.cell (World.block_lt_of_cell? w _ c0)).trans c0⟩
def OwnsStrs (B : Nat) (v : Value) (P : List (List UInt8)) (w : World) : Prop := w.ownsRow B 9 1 v P.length (P.map strOf)
theorem infoStr : (Tryz.prog.info? 9).map (fun i => (i.zero, i.size, i.bytes)) = some (some (.string ByteArray.empty), 1, 16) := by kernel_rfl
theorem OwnsStrs.nil (B : Nat) (w : World) : OwnsStrs B (.slice none 0 0) [] w := World.ownsRow_nil _ _ _ _
theorem OwnsStrs.form {B : Nat} {v : Value} {P : List (List UInt8)} {w : World} (h : OwnsStrs B v P w) : ∃ ao cap, v = .slice ao P.length cap ∧ P.length ≤ cap ∧ TextsIn w ao P ∧ ∀ x, ao = some x → B ≤ x.block := by
  have hlt := fun j e => (World.ownsRow.lt h j e).1
  have hc := fun g hg => World.ownsRow.cells h (g := g) hg
  obtain ⟨_, ⟨rfl, h0⟩ | ⟨g, cap, cur, rfl, _, _, hcp, _⟩⟩ := h
  · have hP : P = [] := List.eq_nil_of_length_eq_zero h0
    subst hP
    exact ⟨none, 0, rfl, Nat.le_refl _, fun j hj => (by simp at hj), fun x hx => by cases hx⟩
  · refine ⟨_, _, rfl, hcp, fun j hj => ⟨g, 0, rfl, ?_⟩, fun x hx => by cases hx; exact hlt g rfl⟩
    have := hc g rfl j (strOf P[j]) (by simp [hj])
    have hadd : (⟨g, 0, none⟩ : Addr).add j = ⟨g, 0 + j, none⟩ := by
      rw [Nat.zero_add]
      unfold Addr.add
      split <;> simp_all
    rw [hadd] at this
    exact this
theorem OwnsStrs.pushed {B : Nat} {v5 : Value} {P : List (List UInt8)} {x : ByteArray} {w5 : World} (h : w5.ownsRow B 9 1 v5 (P.length + 1) (P.map strOf ++ [.string x])) {l : List UInt8} (e : x = ⟨l.toArray⟩) : OwnsStrs B v5 (P ++ [l]) w5 := by
  unfold OwnsStrs
  rw [List.map_append, List.length_append]
  subst e
  exact h
end Go.Proofs.YtpgdmoaegnehbaaGreatDoor
