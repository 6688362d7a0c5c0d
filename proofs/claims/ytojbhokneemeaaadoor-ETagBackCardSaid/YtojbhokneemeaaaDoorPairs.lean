/-
  Pairs of names and values in memory: an argument's, and rows that a call owns.
-/
import Derived.Test.YtojbhokneemeaaaDoorBytes
namespace Go.Proofs.YtojbhokneemeaaaDoor
open Go.RowKit

structure Pair where
  name : ByteArray
  value : ByteArray
  deriving DecidableEq, Inhabited

/-- PAIRS LIE in memory, from the slice's address on. -/
def PairsIn (w : World) (ao : Option Addr) (l : List Pair) : Prop := ∀ j (h : j < l.length), ∃ b off, ao = some ⟨b, off, none⟩ ∧
  w.cell? ⟨b, off + j * 2, none⟩ = some (.string l[j].name) ∧ w.cell? ⟨b, off + j * 2 + 1, none⟩ = some (.string l[j].value)

theorem PairsIn.below {w w' : World} {ao : Option Addr} {l : List Pair} (h : PairsIn w ao l) (hb : Below w.heap.size w w') : PairsIn w' ao l := by
  intro j hj
  obtain ⟨b, off, e, c0, c1⟩ := h j hj
  have hlt : b < w.heap.size := World.block_lt_of_cell? w _ c0
  exact ⟨b, off, e, (hb.cell hlt).trans c0, (hb.cell hlt).trans c1⟩

def pairCells (r : Pair) : List Value := [.string r.name, .string r.value]

theorem cells_of_pairs : ∀ (l : List Pair) (j i : Nat) (h : j < l.length), i < 2 → (l.flatMap pairCells)[j * 2 + i]? = (pairCells l[j])[i]?
  | [], j, i, h, _ => by simp at h
  | r :: l, 0, i, _, hi => by
    simp only [List.flatMap_cons, Nat.zero_mul, Nat.zero_add, List.getElem_cons_zero]
    rw [List.getElem?_append_left (by simpa [pairCells] using hi)]
  | r :: l, j + 1, i, h, hi => by
    simp only [List.flatMap_cons, List.getElem_cons_succ]
    rw [List.getElem?_append_right (by simp [pairCells]; omega)]
    have := cells_of_pairs l j i (by simpa using h) hi
    rw [← this]
    congr 1
    simp [pairCells]; omega

theorem add_at (g n : Nat) : (⟨g, 0, none⟩ : Addr).add n = ⟨g, 0 + n, none⟩ := by
  unfold Addr.add; split <;> simp_all

theorem cells_two (w : World) (a b : Value) (t : TypeId) : ∀ j u, [a, b][j]? = some u → (w.alloc (.cells #[a, b] t)).cell? ((⟨w.heap.size, 0, none⟩ : Addr).add j) = some u := by
  intro j u hj
  have e := heap_alloc_new w (.cells #[a, b] t)
  rw [add_at, Nat.zero_add]
  unfold World.cell?
  rw [e]
  match j, hj with
  | 0, hj => simpa using hj
  | 1, hj => simpa using hj

/-- two rows that share no block. -/
def Apart (v u : Value) : Prop := v.ownBlock = none ∨ u.ownBlock = none ∨ v.ownBlock ≠ u.ownBlock

theorem str_ne {s : ByteArray} {l : List UInt8} (h : ¬ s.data.toList = l) : (s.toList == l) = false := by
  rw [ByteArray.toList_eq]; exact beq_false_of_ne h
theorem str_is {s : ByteArray} {l : List UInt8} (h : s.data.toList = l) : (s.toList == l) = true := by
  rw [ByteArray.toList_eq, h]; exact beq_self_eq_true l
end Go.Proofs.YtojbhokneemeaaaDoor
