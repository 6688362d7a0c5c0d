/-
  A block of cells that a call has laid: what it holds, cell for cell; a cell set anew.
  Trees in memory: a node's six cells, its attributes, its kids; which blocks they lie in.
  What the document's own words of a node come to: Is, Attr, plain.
  What the document's own word of a node's text comes to.
  Rows of nodes that a call owns; what the document's own word of kids of a name comes to: All.
  What the document's own words of code points come to: contracts of in, Char.
-/
import Derived.Test.YtdhondndidoniaaGreatDoorG01
import Derived.Deep.Draws
import Derived.Test.YtdhondndidoniaaGreatDoorG03
import Derived.Deep.Cut
import Derived.Deep.DeepCutAuto
import Derived.Deep.QuietTactic
import Derived.Laws.AppendOwn
namespace Go.Proofs.YtdhondndidoniaaGreatDoor
open Go.RowKit

/-- BLOCK b HOLDS THESE CELLS. -/
def Cells (w : World) (b : Nat) (t : TypeId) (cs : Array Value) : Prop := w.heap[b]? = some (.cells cs t (0, 0))
theorem Cells.lt {w : World} {b : Nat} {t : TypeId} {cs : Array Value} (h : Cells w b t cs) : b < w.heap.size := (Array.getElem?_eq_some_iff.1 h).1
theorem Cells.cell {w : World} {b : Nat} {t : TypeId} {cs : Array Value} (h : Cells w b t cs) {i : Nat} {v : Value} (hv : cs[i]? = some v) : w.cell? ⟨b, i, none⟩ = some v := by
  simp only [World.cell?, show w.heap[b]? = _ from h]; exact hv
theorem Cells.free {w : World} {b : Nat} {t : TypeId} {cs : Array Value} (h : Cells w b t cs) (i : Nat) : w.frozen? ⟨b, i, none⟩ = false := by
  simp [World.frozen?, show w.heap[b]? = _ from h]
theorem Cells.on {w w' : World} {b : Nat} {t : TypeId} {cs : Array Value} (h : Cells w b t cs) (hb : Below w.heap.size w w') : Cells w' b t cs := (hb.block b h.lt).trans h
theorem Cells.new (w : World) (t : TypeId) (cs : Array Value) : Cells (w.alloc (.cells cs t)) w.heap.size t cs := heap_alloc_new w _
theorem Cells.alloc {w : World} {b : Nat} {t : TypeId} {cs : Array Value} (h : Cells w b t cs) (o : Obj) : Cells (w.alloc o) b t cs := h.on ((Below.refl _ _).alloc (Nat.le_refl _) o)
theorem Cells.below_drewN {B : Nat} {a w : World} (h : Below B a w) (n : Nat) : Below B a (w.drewN n) := ⟨h.os, h.tape, h.output, h.size, h.block⟩
theorem Cells.drew {w : World} {b : Nat} {t : TypeId} {cs : Array Value} (h : Cells w b t cs) : Cells w.drew b t cs := h
theorem Cells.set {w : World} {b : Nat} {t : TypeId} {cs : Array Value} (h : Cells w b t cs) (i : Nat) (v : Value) : Cells (w.setCell ⟨b, i, none⟩ v) b t (cs.setIfInBounds i v) := by
  have hl := h.lt
  obtain ⟨_, he⟩ := Array.getElem?_eq_some_iff.1 h
  unfold Cells World.setCell
  simp only
  rw [Array.getElem?_eq_getElem (by rw [Array.size_modify]; exact hl), Array.getElem_modify_self, he]
  rfl
theorem Cells.other {w : World} {b : Nat} {t : TypeId} {cs : Array Value} (h : Cells w b t cs) {c : Nat} (i : Nat) (v : Value) (hne : b ≠ c) : Cells (w.setCell ⟨c, i, none⟩ v) b t cs := (Below.heap_setCell w ⟨c, i, none⟩ v b hne).trans h
end Go.Proofs.YtdhondndidoniaaGreatDoor
namespace Go.Proofs.YtdhondndidoniaaGreatDoor
open Go.RowKit

def attCells (a : Gv.Att) : List Value := [.string a.space, .string a.name, .string a.value]
/-- ATTRIBUTES LIE in memory, in blocks of S. -/
def AttsAt (S : Nat → Prop) (w : World) (v : Value) (l : List Gv.Att) : Prop := ∃ ao cap, v = .slice ao l.length cap ∧ l.length ≤ cap ∧ ∀ j (h : j < l.length), ∃ b off, ao = some ⟨b, off, none⟩ ∧ S b ∧ ∀ i u, (attCells l[j])[i]? = some u → w.cell? ⟨b, off + j * 3 + i, none⟩ = some u
/-- KIDS LIE in memory: each has six cells. -/
def RowsAt (S : Nat → Prop) (w : World) (v : Value) (m : Nat) (cs : Nat → List Value) : Prop := ∃ ao cap, v = .slice ao m cap ∧ ∀ j, j < m → (cs j).length = 6 ∧ ∃ b off, ao = some ⟨b, off, none⟩ ∧ S b ∧ ∀ i u, (cs j)[i]? = some u → w.cell? ⟨b, off + j * 6 + i, none⟩ = some u
/-- A NODE'S CELLS, in blocks of S. -/
inductive NodeAt (S : Nat → Prop) (w : World) : List Value → Gv.Node → Prop where
  | mk {k : Int} {sp nm d : ByteArray} {as' : List Gv.Att} {kids : List Gv.Node} {va vk : Value} (cs : Nat → List Value) (hz : as'.length ≤ maxLen ∧ kids.length ≤ maxLen) (ha : AttsAt S w va as') (hk : RowsAt S w vk kids.length cs)
      (hr : ∀ j (h : j < kids.length), NodeAt S w (cs j) kids[j]) : NodeAt S w [.int .i64 (k : Int), .string sp, .string nm, va, vk, .string d] (.mk k sp nm as' kids d)

theorem AttsAt.mono {S S' : Nat → Prop} {w : World} {v : Value} {l : List Gv.Att} (h : AttsAt S w v l) (hS : ∀ b, S b → b < w.heap.size → S' b) : AttsAt S' w v l := by
  obtain ⟨ao, cap, e, hcap, c⟩ := h
  refine ⟨ao, cap, e, hcap, fun j hj => ?_⟩
  obtain ⟨b, off, e1, e2, e3⟩ := c j hj
  exact ⟨b, off, e1, hS b e2 (World.block_lt_of_cell? w _ (e3 0 _ rfl)), e3⟩
theorem six_head {l : List Value} (h : l.length = 6) : ∃ x, l[0]? = some x := ⟨_, List.getElem?_eq_getElem (by omega)⟩
theorem RowsAt.mono {S S' : Nat → Prop} {w : World} {v : Value} {m : Nat} {cs : Nat → List Value} (h : RowsAt S w v m cs) (hS : ∀ b, S b → b < w.heap.size → S' b) : RowsAt S' w v m cs := by
  obtain ⟨ao, cap, e, c⟩ := h
  refine ⟨ao, cap, e, fun j hj => ?_⟩
  obtain ⟨h6, b, off, e1, e2, e3⟩ := c j hj
  obtain ⟨x, hx⟩ := six_head h6
  exact ⟨h6, b, off, e1, hS b e2 (World.block_lt_of_cell? w _ (e3 0 _ hx)), e3⟩
theorem NodeAt.mono {S S' : Nat → Prop} {w : World} {c : List Value} {n : Gv.Node} (h : NodeAt S w c n) (hS : ∀ b, S b → b < w.heap.size → S' b) : NodeAt S' w c n := by
  induction h with
  | mk cs hz ha hk _ ih => exact .mk cs hz (ha.mono hS) (hk.mono hS) ih

/-- The cells in blocks of S stand. -/
def Stay (S : Nat → Prop) (w w' : World) : Prop := ∀ b o, S b → b < w.heap.size → w'.cell? ⟨b, o, none⟩ = w.cell? ⟨b, o, none⟩
theorem AttsAt.stay {S : Nat → Prop} {w w' : World} {v : Value} {l : List Gv.Att} (h : AttsAt S w v l) (hs : Stay S w w') : AttsAt S w' v l := by
  obtain ⟨ao, cap, e, hcap, c⟩ := h
  refine ⟨ao, cap, e, hcap, fun j hj => ?_⟩
  obtain ⟨b, off, e1, e2, e3⟩ := c j hj
  exact ⟨b, off, e1, e2, fun i u hu => (hs b _ e2 (World.block_lt_of_cell? w _ (e3 0 _ rfl))).trans (e3 i u hu)⟩
theorem RowsAt.stay {S : Nat → Prop} {w w' : World} {v : Value} {m : Nat} {cs : Nat → List Value} (h : RowsAt S w v m cs) (hs : Stay S w w') : RowsAt S w' v m cs := by
  obtain ⟨ao, cap, e, c⟩ := h
  refine ⟨ao, cap, e, fun j hj => ?_⟩
  obtain ⟨h6, b, off, e1, e2, e3⟩ := c j hj
  obtain ⟨x, hx⟩ := six_head h6
  exact ⟨h6, b, off, e1, e2, fun i u hu => (hs b _ e2 (World.block_lt_of_cell? w _ (e3 0 _ hx))).trans (e3 i u hu)⟩
theorem NodeAt.stay {S : Nat → Prop} {w w' : World} {c : List Value} {n : Gv.Node} (h : NodeAt S w c n) (hs : Stay S w w') : NodeAt S w' c n := by
  induction h with
  | mk cs hz ha hk _ ih => exact .mk cs hz (ha.stay hs) (hk.stay hs) ih
theorem stay_below {S : Nat → Prop} {w w' : World} (hb : Below w.heap.size w w') : Stay S w w' := fun _ _ _ hl => hb.cell hl
theorem stay_grown {S : Nat → Prop} {w w' : World} {row : Option Nat} (hg : w.grownBy w' row) (hr : ∀ g, row = some g → ¬ S g) : Stay S w w' := fun b o hb hl =>
  World.cell?_of_block (a := ⟨b, o, none⟩) (hg.block b hl (fun e => hr b e.symm hb))
theorem NodeAt.on {S : Nat → Prop} {w w' : World} {c : List Value} {n : Gv.Node} (h : NodeAt S w c n) (hb : Below w.heap.size w w') : NodeAt S w' c n := h.stay (stay_below hb)
theorem NodeAt.six {S : Nat → Prop} {w : World} {c : List Value} {n : Gv.Node} (h : NodeAt S w c n) : c.length = 6 := by
  cases h; rfl
/-- a node's cells. -/
theorem NodeAt.open' {S : Nat → Prop} {w : World} {c : List Value} {n : Gv.Node} (h : NodeAt S w c n) : ∃ (k : Int) (sp nm d : ByteArray) (as' : List Gv.Att) (kids : List Gv.Node) (ao bo : Option Addr) (ca cb : Nat) (cs : Nat → List Value),
    n = .mk k sp nm as' kids d ∧ c = [.int .i64 (k : Int), .string sp, .string nm, .slice ao as'.length ca, .slice bo kids.length cb, .string d] ∧ AttsAt S w (.slice ao as'.length ca) as' ∧ RowsAt S w (.slice bo kids.length cb) kids.length cs ∧ (∀ j (h : j < kids.length), NodeAt S w (cs j) kids[j]) ∧ as'.length ≤ maxLen ∧ kids.length ≤ maxLen := by
  cases h with
  | mk cs hz ha hk hr =>
    obtain ⟨ao, ca, rfl, hcap, c1⟩ := ha
    obtain ⟨bo, cb, rfl, c2⟩ := hk
    exact ⟨_, _, _, _, _, _, ao, bo, ca, cb, cs, rfl, rfl, ⟨ao, ca, rfl, hcap, c1⟩, ⟨bo, cb, rfl, c2⟩, hr, hz⟩

/-- an attribute's three cells. -/
theorem AttsAt.cells {S : Nat → Prop} {w : World} {ao : Option Addr} {m cap : Nat} {l : List Gv.Att} (h : AttsAt S w (.slice ao m cap) l) {j : Nat} (hj : j < l.length) {sp nm va : ByteArray} (e : l[j] = ⟨sp, nm, va⟩) : ∃ b off, ao = some ⟨b, off, none⟩ ∧
    w.cell? ⟨b, off + j * 3, none⟩ = some (.string sp) ∧ w.cell? ⟨b, off + j * 3 + 1, none⟩ = some (.string nm) ∧ w.cell? ⟨b, off + j * 3 + 2, none⟩ = some (.string va) := by
  obtain ⟨ao', cap', e0, _, c⟩ := h
  cases e0
  obtain ⟨b, off, e1, _, e3⟩ := c j hj
  rw [e] at e3
  exact ⟨b, off, e1, e3 0 _ rfl, e3 1 _ rfl, e3 2 _ rfl⟩
/-- a kid's six cells. -/
theorem RowsAt.cells {S : Nat → Prop} {w : World} {ao : Option Addr} {m n cap : Nat} {cs : Nat → List Value} (h : RowsAt S w (.slice ao m cap) n cs) {j : Nat} (hj : j < n) {x0 x1 x2 x3 x4 x5 : Value} (e : cs j = [x0, x1, x2, x3, x4, x5]) : ∃ b off, ao = some ⟨b, off, none⟩ ∧
    w.cell? ⟨b, off + j * 6, none⟩ = some x0 ∧ w.cell? ⟨b, off + j * 6 + 1, none⟩ = some x1 ∧ w.cell? ⟨b, off + j * 6 + 2, none⟩ = some x2 ∧ w.cell? ⟨b, off + j * 6 + 3, none⟩ = some x3 ∧ w.cell? ⟨b, off + j * 6 + 4, none⟩ = some x4 ∧ w.cell? ⟨b, off + j * 6 + 5, none⟩ = some x5 := by
  obtain ⟨ao', cap', e0, c⟩ := h
  cases e0
  obtain ⟨_, b, off, e1, _, e3⟩ := c j hj
  rw [e] at e3
  exact ⟨b, off, e1, e3 0 _ rfl, e3 1 _ rfl, e3 2 _ rfl, e3 3 _ rfl, e3 4 _ rfl, e3 5 _ rfl⟩
def nodeArr (k : Int) (sp nm : ByteArray) (va vk : Value) (d : ByteArray) : Array Value := #[.int .i64 k, .string sp, .string nm, va, vk, .string d]
theorem node_open {w : World} {b : Nat} {k : Int} {sp nm d : ByteArray} {va vk : Value} (h : Cells w b 27 (nodeArr k sp nm va vk d)) :
    w.cell? ⟨b, 0, none⟩ = some (.int .i64 k) ∧ w.cell? ⟨b, 1, none⟩ = some (.string sp) ∧ w.cell? ⟨b, 2, none⟩ = some (.string nm) ∧ w.cell? ⟨b, 3, none⟩ = some va ∧ w.cell? ⟨b, 4, none⟩ = some vk ∧ w.cell? ⟨b, 5, none⟩ = some (.string d) :=
  ⟨h.cell rfl, h.cell rfl, h.cell rfl, h.cell rfl, h.cell rfl, h.cell rfl⟩
end Go.Proofs.YtdhondndidoniaaGreatDoor
namespace Go.Proofs.YtdhondndidoniaaGreatDoor
open Go.RowKit

theorem am_text {a b : ByteArray} : a = b ↔ a.data.toList = b.data.toList := ⟨fun h => by rw [h], fun h => bytes_eq h⟩
theorem am_yes {a b : ByteArray} (h : a.data.toList = b.data.toList) : (a.toList == b.toList) = true := by rw [am_text.2 h]; exact beq_self_eq_true _
theorem am_no {a b : ByteArray} (h : ¬ a.data.toList = b.data.toList) : (a.toList == b.toList) = false := by
  rw [ByteArray.toList_eq, ByteArray.toList_eq]; exact beq_false_of_ne h

/-- Kids lie in memory. -/
def KidsAt (S : Nat → Prop) (w : World) (v : Value) (l : List Gv.Node) : Prop := ∃ cs, RowsAt S w v l.length cs ∧ ∀ j (h : j < l.length), NodeAt S w (cs j) l[j]
theorem KidsAt.on {S : Nat → Prop} {w w' : World} {v : Value} {l : List Gv.Node} (h : KidsAt S w v l) (hb : Below w.heap.size w w') : KidsAt S w' v l := by
  obtain ⟨cs, h1, h2⟩ := h
  exact ⟨cs, h1.stay (stay_below hb), fun j hj => (h2 j hj).on hb⟩
/-- A kid's six cells, and what it is. -/
theorem KidsAt.kid {S : Nat → Prop} {w : World} {ao : Option Addr} {m cap : Nat} {l : List Gv.Node} (h : KidsAt S w (.slice ao m cap) l) {j : Nat} (hj : j < l.length) : ∃ (b off : Nat) (k : Int) (sp nm d : ByteArray) (as' : List Gv.Att) (kids : List Gv.Node) (po qo : Option Addr) (pc qc : Nat), ao = some ⟨b, off, none⟩ ∧ l[j] = .mk k sp nm as' kids d ∧
    w.cell? ⟨b, off + j * 6, none⟩ = some (.int .i64 k) ∧ w.cell? ⟨b, off + j * 6 + 1, none⟩ = some (.string sp) ∧ w.cell? ⟨b, off + j * 6 + 2, none⟩ = some (.string nm) ∧ w.cell? ⟨b, off + j * 6 + 3, none⟩ = some (.slice po as'.length pc) ∧ w.cell? ⟨b, off + j * 6 + 4, none⟩ = some (.slice qo kids.length qc) ∧ w.cell? ⟨b, off + j * 6 + 5, none⟩ = some (.string d) ∧
    AttsAt S w (.slice po as'.length pc) as' ∧ KidsAt S w (.slice qo kids.length qc) kids ∧ as'.length ≤ maxLen ∧ kids.length ≤ maxLen := by
  obtain ⟨cs, h1, h2⟩ := h
  obtain ⟨k, sp, nm, d, as', kids, po, qo, pc, qc, cs', e1, e2, hA, hR, hN, hz⟩ := (h2 j hj).open'
  obtain ⟨b, off, e, c0, c1, c2, c3, c4, c5⟩ := h1.cells hj e2
  exact ⟨b, off, k, sp, nm, d, as', kids, po, qo, pc, qc, e, e1, c0, c1, c2, c3, c4, c5, hA, ⟨cs', hR, hN⟩, hz.1, hz.2⟩
theorem am_all_bad {α : Type} (p : α → Bool) (l : List α) (k : Nat) (h : k < l.length) (hn : p l[k] = false) : l.all p = false := by
  rw [← Bool.not_eq_true, List.all_eq_true]
  intro x
  have := x l[k] (List.getElem_mem h)
  rw [hn] at this; cases this
theorem am_all_more {α : Type} (p : α → Bool) (l : List α) (k : Nat) (h : k < l.length) (ha : (l.take k).all p = true) (hn : p l[k] = true) : (l.take (k + 1)).all p = true := by
  rw [List.take_succ_eq_append_getElem h, List.all_append, ha, List.all_cons, hn]; rfl

/-- Attr's answers. -/
def atA (o : Option (List UInt8)) : ByteArray := ⟨(o.getD []).toArray⟩
def atB (o : Option (List UInt8)) : Bool := o.isSome
def Am.attrIn (l : List Gv.Att) (name : List UInt8) : Option (List UInt8) := (l.find? fun a => decide (a.space.data.toList = []) && decide (a.name.data.toList = name)).map fun a => a.value.data.toList
theorem Am.attrIn_cons (a : Gv.Att) (l : List Gv.Att) (name : List UInt8) : Am.attrIn (a :: l) name = if a.space.data.toList = [] ∧ a.name.data.toList = name then some a.value.data.toList else Am.attrIn l name := by
  unfold Am.attrIn
  rw [List.find?_cons]
  by_cases h : a.space.data.toList = [] ∧ a.name.data.toList = name
  · rw [if_pos h, decide_eq_true h.1, decide_eq_true h.2]; rfl
  · rw [if_neg h]
    have : (decide (a.space.data.toList = []) && decide (a.name.data.toList = name)) = false := by
      rw [Bool.eq_false_iff]; intro e; rw [Bool.and_eq_true, decide_eq_true_eq, decide_eq_true_eq] at e; exact h e
    rw [this]
theorem am_ret {a b : ByteArray} {x y : Bool} (h1 : a = b) (h2 : x = y) : Ending.returned (.tuple #[.string a, .bool x]) = .returned (.tuple #[.string b, .bool y]) := by rw [h1, h2]

end Go.Proofs.YtdhondndidoniaaGreatDoor
namespace Go.Proofs.YtdhondndidoniaaGreatDoor
open Go.RowKit

def Am.bit (k : Gv.Node) : List UInt8 := if Am.kindOf k = 1 then (Am.dataOf k).data.toList else []
theorem Am.text_is (n : Gv.Node) : Am.text n = (Am.kidsOf n).flatMap Am.bit := rfl
theorem Am.bits_more {l : List Gv.Node} {j : Nat} (h : j < l.length) : (l.take (j + 1)).flatMap Am.bit = (l.take j).flatMap Am.bit ++ Am.bit l[j] := by
  rw [List.take_succ_eq_append_getElem h, List.flatMap_append]; simp
theorem Am.bits_le (l : List Gv.Node) (j : Nat) : ((l.take j).flatMap Am.bit).length ≤ (l.flatMap Am.bit).length := by
  conv => rhs; rw [← List.take_append_drop j l, List.flatMap_append, List.length_append]
  omega

end Go.Proofs.YtdhondndidoniaaGreatDoor
namespace Go.Proofs.YtdhondndidoniaaGreatDoor
open Go.RowKit

theorem am_atom : (⟨#[104, 116, 116, 112, 58, 47, 47, 119, 119, 119, 46, 119, 51, 46, 111, 114, 103, 47, 50, 48, 48, 53, 47, 65, 116, 111, 109]⟩ : ByteArray).data.toList = Am.atomS := by decide +kernel
theorem KidsAt.node {S : Nat → Prop} {w : World} {ao : Option Addr} {m cap : Nat} {l : List Gv.Node} (h : KidsAt S w (.slice ao m cap) l) {j : Nat} (hj : j < l.length) : ∃ (b off : Nat) (k : Int) (sp nm d : ByteArray) (as' : List Gv.Att) (kids : List Gv.Node) (po qo : Option Addr) (pc qc : Nat), ao = some ⟨b, off, none⟩ ∧ l[j] = .mk k sp nm as' kids d ∧
    w.cell? ⟨b, off + j * 6, none⟩ = some (.int .i64 k) ∧ w.cell? ⟨b, off + j * 6 + 1, none⟩ = some (.string sp) ∧ w.cell? ⟨b, off + j * 6 + 2, none⟩ = some (.string nm) ∧ w.cell? ⟨b, off + j * 6 + 3, none⟩ = some (.slice po as'.length pc) ∧ w.cell? ⟨b, off + j * 6 + 4, none⟩ = some (.slice qo kids.length qc) ∧ w.cell? ⟨b, off + j * 6 + 5, none⟩ = some (.string d) ∧
    NodeAt S w [.int .i64 k, .string sp, .string nm, .slice po as'.length pc, .slice qo kids.length qc, .string d] (.mk k sp nm as' kids d) := by
  obtain ⟨cs, h1, h2⟩ := h
  obtain ⟨k, sp, nm, d, as', kids, po, qo, pc, qc, cs', e1, e2, hA, hR, hN, hz⟩ := (h2 j hj).open'
  obtain ⟨b, off, e, c0, c1, c2, c3, c4, c5⟩ := h1.cells hj e2
  have hn := h2 j hj
  rw [e1, e2] at hn
  exact ⟨b, off, k, sp, nm, d, as', kids, po, qo, pc, qc, e, e1, c0, c1, c2, c3, c4, c5, hn⟩

end Go.Proofs.YtdhondndidoniaaGreatDoor
namespace Go.Proofs.YtdhondndidoniaaGreatDoor
open Go.RowKit

namespace G
def any (c : Int) (L : List (Int × Int)) : Bool := L.any fun p => inR c p.1 p.2
theorem any_take (c : Int) (L : List (Int × Int)) (k : Nat) (h : k < L.length) : any c (L.take (k + 1)) = (any c (L.take k) || inR c L[k].1 L[k].2) := by
  unfold any
  rw [List.take_succ_eq_append_getElem h, List.any_append, List.any_cons, List.any_nil, Bool.or_false]
theorem any_at (c : Int) (L : List (Int × Int)) (k : Nat) (h : k < L.length) (hi : inR c L[k].1 L[k].2 = true) : any c L = true := by
  unfold any
  rw [List.any_eq_true]
  exact ⟨_, List.getElem_mem h, hi⟩
end G

/-- A ROW OF PAIRS OF NUMBERS LIES AT THE HEAD OF BLOCK b. -/
def PairsAt (b : Nat) (L : List (Int × Int)) (w : World) : Prop := ∀ j (h : j < L.length), w.cell? ⟨b, 2 * j, none⟩ = some (.int .i64 L[j].1) ∧ w.cell? ⟨b, 2 * j + 1, none⟩ = some (.int .i64 L[j].2)

/-- the cells of pairs. -/
def cellsOf (L : List (Int × Int)) : List Value := L.flatMap fun p => [.int .i64 p.1, .int .i64 p.2]
theorem cellsOf_at (L : List (Int × Int)) : ∀ (j : Nat) (h : j < L.length), (cellsOf L)[2 * j]? = some (.int .i64 L[j].1) ∧ (cellsOf L)[2 * j + 1]? = some (.int .i64 L[j].2) := by
  induction L with
  | nil => intro j h; simp at h
  | cons p L ih =>
    intro j h
    have e : cellsOf (p :: L) = .int .i64 p.1 :: .int .i64 p.2 :: cellsOf L := rfl
    cases j with
    | zero => rw [e]; exact ⟨rfl, rfl⟩
    | succ j =>
      have := ih j (by simpa using h)
      rw [e, show 2 * (j + 1) = 2 * j + 1 + 1 by omega]
      simpa using this

theorem pairsAt_cells {b : Nat} {L : List (Int × Int)} {w : World} {T : TypeId} {fr : Nat × Nat} (h : w.heap[b]? = some (.cells (cellsOf L).toArray T fr)) : PairsAt b L w := by
  intro j hj
  have := cellsOf_at L j hj
  simp only [World.cell?, h]
  simpa using this

end Go.Proofs.YtdhondndidoniaaGreatDoor
