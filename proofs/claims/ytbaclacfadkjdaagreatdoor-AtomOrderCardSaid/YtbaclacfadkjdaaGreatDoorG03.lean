/-
  A block of cells that a call has laid: what it holds, cell for cell; a cell set anew.
  Trees in memory: a node's six cells, its attributes, its kids; which blocks they lie in.
-/
import Derived.Test.YtbaclacfadkjdaaGreatDoorG01
import Derived.Deep.Draws
import Derived.Test.YtbaclacfadkjdaaGreatDoorG02
namespace Go.Proofs.YtbaclacfadkjdaaGreatDoor
open Go.RowKit
def Cells (w : World) (b : Nat) (t : TypeId) (cs : Array Value) : Prop := w.heap[b]? = some (.cells cs t (0, 0))
theorem Cells.lt {w : World} {b : Nat} {t : TypeId} {cs : Array Value} (h : Cells w b t cs) : b < w.heap.size := (Array.getElem?_eq_some_iff.1 h).1
theorem Cells.cell {w : World} {b : Nat} {t : TypeId} {cs : Array Value} (h : Cells w b t cs) {i : Nat} {v : Value} (hv : cs[i]? = some v) : w.cell? ⟨b, i, none⟩ = some v := by
  simp only [World.cell?, show w.heap[b]? = _ from h]; exact hv
theorem Cells.free {w : World} {b : Nat} {t : TypeId} {cs : Array Value} (h : Cells w b t cs) (i : Nat) : w.frozen? ⟨b, i, none⟩ = false := by
  simp [World.frozen?, show w.heap[b]? = _ from h]
theorem Cells.on {w w' : World} {b : Nat} {t : TypeId} {cs : Array Value} (h : Cells w b t cs) (hb : Below w.heap.size w w') : Cells w' b t cs := (hb.block b h.lt).trans h
theorem Cells.new (w : World) (t : TypeId) (cs : Array Value) : Cells (w.alloc (.cells cs t)) w.heap.size t cs := heap_alloc_new w _
theorem Cells.alloc {w : World} {b : Nat} {t : TypeId} {cs : Array Value} (h : Cells w b t cs) (o : Obj) : Cells (w.alloc o) b t cs := h.on ((Below.refl _ _).alloc (Nat.le_refl _) o)
theorem Cells.below_drewN {B : Nat} {a w : World} (h : Below B a w) (n : Nat) : Below B a (w.drewN n) := ⟨h.os, h.tape, h.output, h.size, h.block⟩
theorem Cells.drew {w : World} {b : Nat} {t : TypeId} {cs : Array Value} (h : Cells w b t cs) : Cells w.drew b t cs := h
theorem Cells.set {w : World} {b : Nat} {t : TypeId} {cs : Array Value} (h : Cells w b t cs) (i : Nat) (v : Value) : Cells (w.setCell ⟨b, i, none⟩ v) b t (cs.setIfInBounds i v) := by
  have hl := h.lt
  obtain ⟨_, he⟩ := Array.getElem?_eq_some_iff.1 h
  unfold Cells World.setCell
  simp only
  rw [Array.getElem?_eq_getElem (by rw [Array.size_modify]; exact hl), Array.getElem_modify_self, he]
  rfl
theorem Cells.other {w : World} {b : Nat} {t : TypeId} {cs : Array Value} (h : Cells w b t cs) {c : Nat} (i : Nat) (v : Value) (hne : b ≠ c) : Cells (w.setCell ⟨c, i, none⟩ v) b t cs := (Below.heap_setCell w ⟨c, i, none⟩ v b hne).trans h
end Go.Proofs.YtbaclacfadkjdaaGreatDoor
namespace Go.Proofs.YtbaclacfadkjdaaGreatDoor
open Go.RowKit
def attCells (a : Gv.Att) : List Value := [.string a.space, .string a.name, .string a.value]
def AttsAt (S : Nat → Prop) (w : World) (v : Value) (l : List Gv.Att) : Prop := ∃ ao cap, v = .slice ao l.length cap ∧ l.length ≤ cap ∧ ∀ j (h : j < l.length), ∃ b off, ao = some ⟨b, off, none⟩ ∧ S b ∧ ∀ i u, (attCells l[j])[i]? = some u → w.cell? ⟨b, off + j * 3 + i, none⟩ = some u
def RowsAt (S : Nat → Prop) (w : World) (v : Value) (m : Nat) (cs : Nat → List Value) : Prop := ∃ ao cap, v = .slice ao m cap ∧ ∀ j, j < m → (cs j).length = 6 ∧ ∃ b off, ao = some ⟨b, off, none⟩ ∧ S b ∧ ∀ i u, (cs j)[i]? = some u → w.cell? ⟨b, off + j * 6 + i, none⟩ = some u
inductive NodeAt (S : Nat → Prop) (w : World) : List Value → Gv.Node → Prop where
  | mk {k : Int} {sp nm d : ByteArray} {as' : List Gv.Att} {kids : List Gv.Node} {va vk : Value} (cs : Nat → List Value) (hz : as'.length ≤ maxLen ∧ kids.length ≤ maxLen) (ha : AttsAt S w va as') (hk : RowsAt S w vk kids.length cs)
      (hr : ∀ j (h : j < kids.length), NodeAt S w (cs j) kids[j]) : NodeAt S w [.int .i64 (k : Int), .string sp, .string nm, va, vk, .string d] (.mk k sp nm as' kids d)
theorem AttsAt.mono {S S' : Nat → Prop} {w : World} {v : Value} {l : List Gv.Att} (h : AttsAt S w v l) (hS : ∀ b, S b → b < w.heap.size → S' b) : AttsAt S' w v l := by
  obtain ⟨ao, cap, e, hcap, c⟩ := h
  refine ⟨ao, cap, e, hcap, fun j hj => ?_⟩
  obtain ⟨b, off, e1, e2, e3⟩ := c j hj
  exact ⟨b, off, e1, hS b e2 (World.block_lt_of_cell? w _ (e3 0 _ rfl)), e3⟩
theorem six_head {l : List Value} (h : l.length = 6) : ∃ x, l[0]? = some x := ⟨_, List.getElem?_eq_getElem (by omega)⟩
theorem RowsAt.mono {S S' : Nat → Prop} {w : World} {v : Value} {m : Nat} {cs : Nat → List Value} (h : RowsAt S w v m cs) (hS : ∀ b, S b → b < w.heap.size → S' b) : RowsAt S' w v m cs := by
  obtain ⟨ao, cap, e, c⟩ := h
  refine ⟨ao, cap, e, fun j hj => ?_⟩
  obtain ⟨h6, b, off, e1, e2, e3⟩ := c j hj
  obtain ⟨x, hx⟩ := six_head h6
  exact ⟨h6, b, off, e1, hS b e2 (World.block_lt_of_cell? w _ (e3 0 _ hx)), e3⟩
theorem NodeAt.mono {S S' : Nat → Prop} {w : World} {c : List Value} {n : Gv.Node} (h : NodeAt S w c n) (hS : ∀ b, S b → b < w.heap.size → S' b) : NodeAt S' w c n := by
  induction h with
  | mk cs hz ha hk _ ih => exact .mk cs hz (ha.mono hS) (hk.mono hS) ih
def Stay (S : Nat → Prop) (w w' : World) : Prop := ∀ b o, S b → b < w.heap.size → w'.cell? ⟨b, o, none⟩ = w.cell? ⟨b, o, none⟩
theorem AttsAt.stay {S : Nat → Prop} {w w' : World} {v : Value} {l : List Gv.Att} (h : AttsAt S w v l) (hs : Stay S w w') : AttsAt S w' v l := by
  obtain ⟨ao, cap, e, hcap, c⟩ := h
  refine ⟨ao, cap, e, hcap, fun j hj => ?_⟩
  obtain ⟨b, off, e1, e2, e3⟩ := c j hj
  exact ⟨b, off, e1, e2, fun i u hu => (hs b _ e2 (World.block_lt_of_cell? w _ (e3 0 _ rfl))).trans (e3 i u hu)⟩
theorem RowsAt.stay {S : Nat → Prop} {w w' : World} {v : Value} {m : Nat} {cs : Nat → List Value} (h : RowsAt S w v m cs) (hs : Stay S w w') : RowsAt S w' v m cs := by
  obtain ⟨ao, cap, e, c⟩ := h
  refine ⟨ao, cap, e, fun j hj => ?_⟩
  obtain ⟨h6, b, off, e1, e2, e3⟩ := c j hj
  obtain ⟨x, hx⟩ := six_head h6
  exact ⟨h6, b, off, e1, e2, fun i u hu => (hs b _ e2 (World.block_lt_of_cell? w _ (e3 0 _ hx))).trans (e3 i u hu)⟩
theorem NodeAt.stay {S : Nat → Prop} {w w' : World} {c : List Value} {n : Gv.Node} (h : NodeAt S w c n) (hs : Stay S w w') : NodeAt S w' c n := by
  induction h with
  | mk cs hz ha hk _ ih => exact .mk cs hz (ha.stay hs) (hk.stay hs) ih
theorem stay_below {S : Nat → Prop} {w w' : World} (hb : Below w.heap.size w w') : Stay S w w' := fun _ _ _ hl => hb.cell hl
theorem stay_grown {S : Nat → Prop} {w w' : World} {row : Option Nat} (hg : w.grownBy w' row) (hr : ∀ g, row = some g → ¬ S g) : Stay S w w' := fun b o hb hl =>
  World.cell?_of_block (a := ⟨b, o, none⟩) (hg.block b hl (fun e => hr b e.symm hb))
theorem NodeAt.on {S : Nat → Prop} {w w' : World} {c : List Value} {n : Gv.Node} (h : NodeAt S w c n) (hb : Below w.heap.size w w') : NodeAt S w' c n := h.stay (stay_below hb)
theorem NodeAt.any {S : Nat → Prop} {w : World} {c : List Value} {n : Gv.Node} (h : NodeAt S w c n) : NodeAt (fun _ => True) w c n := h.mono fun _ _ _ => trivial
theorem NodeAt.six {S : Nat → Prop} {w : World} {c : List Value} {n : Gv.Node} (h : NodeAt S w c n) : c.length = 6 := by
  cases h; rfl
theorem NodeAt.open' {S : Nat → Prop} {w : World} {c : List Value} {n : Gv.Node} (h : NodeAt S w c n) : ∃ (k : Int) (sp nm d : ByteArray) (as' : List Gv.Att) (kids : List Gv.Node) (ao bo : Option Addr) (ca cb : Nat) (cs : Nat → List Value),
    n = .mk k sp nm as' kids d ∧ c = [.int .i64 (k : Int), .string sp, .string nm, .slice ao as'.length ca, .slice bo kids.length cb, .string d] ∧ AttsAt S w (.slice ao as'.length ca) as' ∧ RowsAt S w (.slice bo kids.length cb) kids.length cs ∧ (∀ j (h : j < kids.length), NodeAt S w (cs j) kids[j]) ∧ as'.length ≤ maxLen ∧ kids.length ≤ maxLen := by
  cases h with
  | mk cs hz ha hk hr =>
    obtain ⟨ao, ca, rfl, hcap, c1⟩ := ha
    obtain ⟨bo, cb, rfl, c2⟩ := hk
    exact ⟨_, _, _, _, _, _, ao, bo, ca, cb, cs, rfl, rfl, ⟨ao, ca, rfl, hcap, c1⟩, ⟨bo, cb, rfl, c2⟩, hr, hz⟩
theorem AttsAt.cells {S : Nat → Prop} {w : World} {ao : Option Addr} {m cap : Nat} {l : List Gv.Att} (h : AttsAt S w (.slice ao m cap) l) {j : Nat} (hj : j < l.length) {sp nm va : ByteArray} (e : l[j] = ⟨sp, nm, va⟩) : ∃ b off, ao = some ⟨b, off, none⟩ ∧
    w.cell? ⟨b, off + j * 3, none⟩ = some (.string sp) ∧ w.cell? ⟨b, off + j * 3 + 1, none⟩ = some (.string nm) ∧ w.cell? ⟨b, off + j * 3 + 2, none⟩ = some (.string va) := by
  obtain ⟨ao', cap', e0, _, c⟩ := h
  cases e0
  obtain ⟨b, off, e1, _, e3⟩ := c j hj
  rw [e] at e3
  exact ⟨b, off, e1, e3 0 _ rfl, e3 1 _ rfl, e3 2 _ rfl⟩
theorem RowsAt.cells {S : Nat → Prop} {w : World} {ao : Option Addr} {m n cap : Nat} {cs : Nat → List Value} (h : RowsAt S w (.slice ao m cap) n cs) {j : Nat} (hj : j < n) {x0 x1 x2 x3 x4 x5 : Value} (e : cs j = [x0, x1, x2, x3, x4, x5]) : ∃ b off, ao = some ⟨b, off, none⟩ ∧
    w.cell? ⟨b, off + j * 6, none⟩ = some x0 ∧ w.cell? ⟨b, off + j * 6 + 1, none⟩ = some x1 ∧ w.cell? ⟨b, off + j * 6 + 2, none⟩ = some x2 ∧ w.cell? ⟨b, off + j * 6 + 3, none⟩ = some x3 ∧ w.cell? ⟨b, off + j * 6 + 4, none⟩ = some x4 ∧ w.cell? ⟨b, off + j * 6 + 5, none⟩ = some x5 := by
  obtain ⟨ao', cap', e0, c⟩ := h
  cases e0
  obtain ⟨_, b, off, e1, _, e3⟩ := c j hj
  rw [e] at e3
  exact ⟨b, off, e1, e3 0 _ rfl, e3 1 _ rfl, e3 2 _ rfl, e3 3 _ rfl, e3 4 _ rfl, e3 5 _ rfl⟩
def nodeArr (k : Int) (sp nm : ByteArray) (va vk : Value) (d : ByteArray) : Array Value := #[.int .i64 k, .string sp, .string nm, va, vk, .string d]
theorem node_open {w : World} {b : Nat} {k : Int} {sp nm d : ByteArray} {va vk : Value} (h : Cells w b 25 (nodeArr k sp nm va vk d)) :
    w.cell? ⟨b, 0, none⟩ = some (.int .i64 k) ∧ w.cell? ⟨b, 1, none⟩ = some (.string sp) ∧ w.cell? ⟨b, 2, none⟩ = some (.string nm) ∧ w.cell? ⟨b, 3, none⟩ = some va ∧ w.cell? ⟨b, 4, none⟩ = some vk ∧ w.cell? ⟨b, 5, none⟩ = some (.string d) :=
  ⟨h.cell rfl, h.cell rfl, h.cell rfl, h.cell rfl, h.cell rfl, h.cell rfl⟩
end Go.Proofs.YtbaclacfadkjdaaGreatDoor
