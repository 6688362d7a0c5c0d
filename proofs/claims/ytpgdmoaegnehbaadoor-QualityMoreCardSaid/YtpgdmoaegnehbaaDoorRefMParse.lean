/-
  What the document's own Parse of media types comes to.
-/
import Derived.Test.YtpgdmoaegnehbaaDoorRefParams
namespace Go.Proofs.YtpgdmoaegnehbaaDoor
open Go.RowKit

/-- Parse's answers. -/
def mpM (s : ByteArray) : Md.Med := (Md.parse s.data.toList).getD Md.none'
def mpE (s : ByteArray) : Int := if (Md.parse s.data.toList).isSome = true then 0 else 130
theorem mp_none {s : ByteArray} (h : Md.parse s.data.toList = none) : mpM s = Md.none' ∧ mpE s = 130 := by unfold mpM mpE; rw [h]; exact ⟨rfl, rfl⟩
theorem mp_some {s : ByteArray} {m : Md.Med} (h : Md.parse s.data.toList = some m) : mpM s = m ∧ mpE s = 0 := by unfold mpM mpE; rw [h]; exact ⟨rfl, rfl⟩

/-- A box of three. -/
def Box3 (w : World) (b : Nat) (x y z : Value) : Prop := w.heap[b]? = some (.cells #[x, y, z] 54 (0, 0))
theorem Box3.new (w : World) (x y z : Value) : Box3 (w.alloc (.cells #[x, y, z] 54)) w.heap.size x y z := heap_alloc_new w _
theorem Box3.lt {w : World} {b : Nat} {x y z : Value} (h : Box3 w b x y z) : b < w.heap.size := (Array.getElem?_eq_some_iff.1 h).1
theorem Box3.on {w w' : World} {b : Nat} {x y z : Value} (h : Box3 w b x y z) (hb : Below w.heap.size w w') : Box3 w' b x y z := (hb.block b h.lt).trans h
theorem Box3.c0 {w : World} {b : Nat} {x y z : Value} (h : Box3 w b x y z) : w.cell? ⟨b, 0, none⟩ = some x := by unfold World.cell?; rw [show w.heap[b]? = _ from h]; rfl
theorem Box3.c1 {w : World} {b : Nat} {x y z : Value} (h : Box3 w b x y z) : w.cell? ⟨b, 1, none⟩ = some y := by unfold World.cell?; rw [show w.heap[b]? = _ from h]; rfl
theorem Box3.c2 {w : World} {b : Nat} {x y z : Value} (h : Box3 w b x y z) : w.cell? ⟨b, 2, none⟩ = some z := by unfold World.cell?; rw [show w.heap[b]? = _ from h]; rfl
theorem Box3.free {w : World} {b : Nat} {x y z : Value} (h : Box3 w b x y z) (i : Nat) : w.frozen? ⟨b, i, none⟩ = false := by simp [World.frozen?, show w.heap[b]? = _ from h]

theorem ownsPairs_mono {B B' : Nat} {v : Value} {l : List Pair} {w : World} (h : OwnsPairs B' v l w) (hB : B ≤ B') : OwnsPairs B v l w := by
  obtain ⟨a, h0 | ⟨g, cap, cur, rfl, hb, r⟩⟩ := h
  · exact ⟨a, .inl h0⟩
  · exact ⟨a, .inr ⟨g, cap, cur, rfl, Nat.le_trans hB hb, r⟩⟩

/-- The three cells of a box set anew. -/
def set3 (w : World) (b : Nat) (x y z : Value) : World := ((w.setCell ⟨b, 0, none⟩ x).setCell ⟨b, 1, none⟩ y).setCell ⟨b, 2, none⟩ z
theorem set3_cells {w : World} {b : Nat} {x y z : Value} (h : Box3 w b x y z) (x' y' z' : Value) :
    (set3 w b x' y' z').cell? ⟨b, 0, none⟩ = some x' ∧ (set3 w b x' y' z').cell? ⟨b, 1, none⟩ = some y' ∧ (set3 w b x' y' z').cell? ⟨b, 2, none⟩ = some z' := by
  unfold set3
  refine ⟨?_, ?_, ?_⟩
  · rw [World.cell?_setCell_other _ _ _ _ (by simp), World.cell?_setCell_other _ _ _ _ (by simp)]
    exact World.cell?_setCell_same _ _ _ h.c0
  · rw [World.cell?_setCell_other _ _ _ _ (by simp)]
    exact World.cell?_setCell_same _ _ _ (u := y) (by rw [World.cell?_setCell_other _ _ _ _ (by simp)]; exact h.c1)
  · exact World.cell?_setCell_same _ _ _ (u := z) (by rw [World.cell?_setCell_other _ _ _ _ (by simp), World.cell?_setCell_other _ _ _ _ (by simp)]; exact h.c2)
theorem set3_below {B : Nat} {w0 w : World} {b : Nat} (h : Below B w0 w) (hb : B ≤ b) (x y z : Value) : Below B w0 (set3 w b x y z) := ((h.setCell (p := ⟨b, 0, none⟩) hb x).setCell (p := ⟨b, 1, none⟩) hb y).setCell (p := ⟨b, 2, none⟩) hb z
theorem row_set {w : World} {B : Nat} {e : TypeId} {size n : Nat} {v : Value} {xs : List Value} (h : w.ownsRow B e size v n xs) {a : Addr} (ha : some a.block ≠ v.ownBlock) (u : Value) : (w.setCell a u).ownsRow B e size v n xs := by
  obtain ⟨hl, h0 | ⟨g, cap, cur, rfl, hb, hh, r⟩⟩ := h
  · exact ⟨hl, .inl h0⟩
  · refine ⟨hl, .inr ⟨g, cap, cur, rfl, hb, ?_, r⟩⟩
    rw [RowKit.Below.heap_setCell _ _ _ _ (by intro e; apply ha; simp [Value.ownBlock, e])]
    exact hh
theorem set3_owns {B : Nat} {w : World} {b : Nat} {x y z v : Value} {l : List Pair} (h : OwnsPairs B v l w) (k : Box3 w b x y z) (x' y' z' : Value) : OwnsPairs B v l (set3 w b x' y' z') := by
  have hne : some b ≠ v.ownBlock := by
    obtain ⟨_, ⟨rfl, _⟩ | ⟨g, cap, cur, rfl, hb, hh, _⟩⟩ := h
    · simp [Value.ownBlock]
    · simp only [Value.ownBlock, ne_eq, Option.some.injEq]
      rintro rfl
      rw [show w.heap[b]? = _ from k] at hh
      cases hh
  exact row_set (row_set (row_set h (a := ⟨b, 0, none⟩) hne x') (a := ⟨b, 1, none⟩) hne y') (a := ⟨b, 2, none⟩) hne z'

end Go.Proofs.YtpgdmoaegnehbaaDoor
