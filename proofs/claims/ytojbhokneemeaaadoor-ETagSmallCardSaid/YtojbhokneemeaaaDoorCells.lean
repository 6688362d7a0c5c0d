/-
  A block of cells that a call has laid: what it holds, cell for cell; a cell set anew.
-/
import Derived.Test.YtojbhokneemeaaaDoorTexts
import Derived.Deep.Draws
namespace Go.Proofs.YtojbhokneemeaaaDoor
open Go.RowKit

/-- BLOCK b HOLDS THESE CELLS. -/
def Cells (w : World) (b : Nat) (t : TypeId) (cs : Array Value) : Prop := w.heap[b]? = some (.cells cs t (0, 0))
theorem Cells.lt {w : World} {b : Nat} {t : TypeId} {cs : Array Value} (h : Cells w b t cs) : b < w.heap.size := (Array.getElem?_eq_some_iff.1 h).1
theorem Cells.cell {w : World} {b : Nat} {t : TypeId} {cs : Array Value} (h : Cells w b t cs) {i : Nat} {v : Value} (hv : cs[i]? = some v) : w.cell? ⟨b, i, none⟩ = some v := by
  simp only [World.cell?, show w.heap[b]? = _ from h]; exact hv
theorem Cells.free {w : World} {b : Nat} {t : TypeId} {cs : Array Value} (h : Cells w b t cs) (i : Nat) : w.frozen? ⟨b, i, none⟩ = false := by
  simp [World.frozen?, show w.heap[b]? = _ from h]
theorem Cells.on {w w' : World} {b : Nat} {t : TypeId} {cs : Array Value} (h : Cells w b t cs) (hb : Below w.heap.size w w') : Cells w' b t cs := (hb.block b h.lt).trans h
theorem Cells.new (w : World) (t : TypeId) (cs : Array Value) : Cells (w.alloc (.cells cs t)) w.heap.size t cs := heap_alloc_new w _
theorem Cells.alloc {w : World} {b : Nat} {t : TypeId} {cs : Array Value} (h : Cells w b t cs) (o : Obj) : Cells (w.alloc o) b t cs := h.on ((Below.refl _ _).alloc (Nat.le_refl _) o)
theorem Cells.drewN {w : World} {b : Nat} {t : TypeId} {cs : Array Value} (h : Cells w b t cs) (n : Nat) : Cells (w.drewN n) b t cs := h
theorem Cells.below_drewN {B : Nat} {a w : World} (h : Below B a w) (n : Nat) : Below B a (w.drewN n) := ⟨h.os, h.tape, h.output, h.size, h.block⟩
theorem Cells.drew {w : World} {b : Nat} {t : TypeId} {cs : Array Value} (h : Cells w b t cs) : Cells w.drew b t cs := h
theorem Cells.set {w : World} {b : Nat} {t : TypeId} {cs : Array Value} (h : Cells w b t cs) (i : Nat) (v : Value) : Cells (w.setCell ⟨b, i, none⟩ v) b t (cs.setIfInBounds i v) := by
  have hl := h.lt
  obtain ⟨_, he⟩ := Array.getElem?_eq_some_iff.1 h
  unfold Cells World.setCell
  simp only
  rw [Array.getElem?_eq_getElem (by rw [Array.size_modify]; exact hl), Array.getElem_modify_self, he]
  rfl
theorem Cells.other {w : World} {b : Nat} {t : TypeId} {cs : Array Value} (h : Cells w b t cs) {c : Nat} (i : Nat) (v : Value) (hne : b ≠ c) : Cells (w.setCell ⟨c, i, none⟩ v) b t cs := (Below.heap_setCell w ⟨c, i, none⟩ v b hne).trans h
end Go.Proofs.YtojbhokneemeaaaDoor
