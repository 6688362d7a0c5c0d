/-
  Pairs of names and values in memory: an argument's, and rows that a call owns.
-/
import Derived.Test.YtdhondndidoniaaGreatDoorG01
import Derived.Test.YtdhondndidoniaaGreatDoorG02
namespace Go.Proofs.YtdhondndidoniaaGreatDoor
open Go.RowKit

/-- PAIRS LIE in memory, from the slice's address on. -/
def PairsIn (w : World) (ao : Option Addr) (l : List Pair) : Prop := ∀ j (h : j < l.length), ∃ b off, ao = some ⟨b, off, none⟩ ∧
  w.cell? ⟨b, off + j * 2, none⟩ = some (.string l[j].name) ∧ w.cell? ⟨b, off + j * 2 + 1, none⟩ = some (.string l[j].value)

def pairCells (r : Pair) : List Value := [.string r.name, .string r.value]

/-- The call owns a row of these pairs. -/
def OwnsPairs (B : Nat) (v : Value) (l : List Pair) (w : World) : Prop := w.ownsRow B 172 2 v l.length (l.flatMap pairCells)

theorem cells_of_pairs : ∀ (l : List Pair) (j i : Nat) (h : j < l.length), i < 2 → (l.flatMap pairCells)[j * 2 + i]? = (pairCells l[j])[i]?
  | [], j, i, h, _ => by simp at h
  | r :: l, 0, i, _, hi => by
    simp only [List.flatMap_cons, Nat.zero_mul, Nat.zero_add, List.getElem_cons_zero]
    rw [List.getElem?_append_left (by simpa [pairCells] using hi)]
  | r :: l, j + 1, i, h, hi => by
    simp only [List.flatMap_cons, List.getElem_cons_succ]
    rw [List.getElem?_append_right (by simp [pairCells]; omega)]
    have := cells_of_pairs l j i (by simpa using h) hi
    rw [← this]
    congr 1
    simp [pairCells]; omega

theorem add_at (g n : Nat) : (⟨g, 0, none⟩ : Addr).add n = ⟨g, 0 + n, none⟩ := by
  unfold Addr.add; split <;> simp_all

theorem pairs_of_owns {B : Nat} {v : Value} {l : List Pair} {w : World} (h : OwnsPairs B v l w) : ∃ ao cap, v = .slice ao l.length cap ∧ PairsIn w ao l := by
  unfold OwnsPairs at h
  have hc := fun g hg => World.ownsRow.cells h (g := g) hg
  obtain ⟨hl, ⟨rfl, h0⟩ | ⟨g, cap, cur, rfl, hb, _⟩⟩ := h
  · have : l = [] := List.eq_nil_of_length_eq_zero h0
    subst this
    exact ⟨none, 0, rfl, fun j hj => by simp at hj⟩
  · refine ⟨_, cap, rfl, fun j hj => ⟨g, 0, rfl, ?_⟩⟩
    have k := fun (i : Nat) (hi : i < 2) u (hu : (pairCells l[j])[i]? = some u) => hc g rfl (j * 2 + i) u (by rw [cells_of_pairs l j i hj hi]; exact hu)
    refine ⟨?_, ?_⟩
    · have := k 0 (by decide) _ rfl; rwa [add_at] at this
    · have := k 1 (by decide) _ rfl; rwa [add_at] at this

theorem infoPair : (Tryz.prog.info? 172).map (fun i => (i.zero, i.size, i.bytes)) = some (some (.agg #[.string ByteArray.empty, .string ByteArray.empty]), 2, 32) := by kernel_rfl

theorem pairs_nil (B : Nat) (w : World) : OwnsPairs B (.slice none 0 0) [] w := World.ownsRow_nil _ _ _ _
theorem pairs_alloc {B : Nat} {v : Value} {l : List Pair} {w : World} (h : OwnsPairs B v l w) (o : Obj) : OwnsPairs B v l (w.alloc o) := World.ownsRow.alloc h o
theorem pairs_below {B : Nat} {v : Value} {l : List Pair} {w w' : World} (h : OwnsPairs B v l w) (hb : Below w.heap.size w w') : OwnsPairs B v l w' := World.ownsRow.kept h (grown_of_below hb none) (by
  obtain ⟨_, ⟨rfl, _⟩ | ⟨g, cap, cur, rfl, _⟩⟩ := h
  · exact .inl rfl
  · right; simp [Value.ownBlock])

theorem cells_two (w : World) (a b : Value) (t : TypeId) : ∀ j u, [a, b][j]? = some u → (w.alloc (.cells #[a, b] t)).cell? ((⟨w.heap.size, 0, none⟩ : Addr).add j) = some u := by
  intro j u hj
  have e := heap_alloc_new w (.cells #[a, b] t)
  rw [add_at, Nat.zero_add]
  unfold World.cell?
  rw [e]
  match j, hj with
  | 0, hj => simpa using hj
  | 1, hj => simpa using hj

theorem str_ne {s : ByteArray} {l : List UInt8} (h : ¬ s.data.toList = l) : (s.toList == l) = false := by
  rw [ByteArray.toList_eq]; exact beq_false_of_ne h
theorem str_is {s : ByteArray} {l : List UInt8} (h : s.data.toList = l) : (s.toList == l) = true := by
  rw [ByteArray.toList_eq, h]; exact beq_self_eq_true l
end Go.Proofs.YtdhondndidoniaaGreatDoor
