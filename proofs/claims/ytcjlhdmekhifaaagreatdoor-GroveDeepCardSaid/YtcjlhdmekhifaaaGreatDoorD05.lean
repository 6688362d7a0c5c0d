/-
  Pairs of names and values in memory: an argument's, and rows that a call owns.
  A block of cells that a call has laid: what it holds, cell for cell; a cell set anew.
  Trees in memory: a node's six cells, its attributes, its kids; which blocks they lie in.
  Rows of attributes that a call owns; pairs behind pairs.
  What comparing pairs comes to: contract of SamePairs.
-/
import Derived.Test.YtcjlhdmekhifaaaGreatDoorD01
import Derived.Test.YtcjlhdmekhifaaaGreatDoorD03
import Derived.Test.YtcjlhdmekhifaaaGreatDoorD04
import Derived.Deep.Draws
import Derived.Laws.AppendOwnNone
import Derived.Laws.OwnMore
import Derived.Maps.AppendAt
import Derived.Deep.Onto
import Derived.Laws.StructEq
import Derived.Deep.DeepCutAuto
import Derived.Deep.RegionHeld3
import Derived.Deep.QuietTactic
import Derived.BigQuiet
import Derived.Laws.Cover1
namespace Go.Proofs.YtcjlhdmekhifaaaGreatDoor
open Go.RowKit

/-- PAIRS LIE in memory, from the slice's address on. -/
def PairsIn (w : World) (ao : Option Addr) (l : List Pair) : Prop := ∀ j (h : j < l.length), ∃ b off, ao = some ⟨b, off, none⟩ ∧
  w.cell? ⟨b, off + j * 2, none⟩ = some (.string l[j].name) ∧ w.cell? ⟨b, off + j * 2 + 1, none⟩ = some (.string l[j].value)

theorem PairsIn.below {w w' : World} {ao : Option Addr} {l : List Pair} (h : PairsIn w ao l) (hb : Below w.heap.size w w') : PairsIn w' ao l := by
  intro j hj
  obtain ⟨b, off, e, c0, c1⟩ := h j hj
  have hlt : b < w.heap.size := World.block_lt_of_cell? w _ c0
  exact ⟨b, off, e, (hb.cell hlt).trans c0, (hb.cell hlt).trans c1⟩

def pairCells (r : Pair) : List Value := [.string r.name, .string r.value]

/-- The call owns a row of these pairs. -/
def OwnsPairs (B : Nat) (v : Value) (l : List Pair) (w : World) : Prop := w.ownsRow B 86 2 v l.length (l.flatMap pairCells)

theorem cells_of_pairs : ∀ (l : List Pair) (j i : Nat) (h : j < l.length), i < 2 → (l.flatMap pairCells)[j * 2 + i]? = (pairCells l[j])[i]?
  | [], j, i, h, _ => by simp at h
  | r :: l, 0, i, _, hi => by
    simp only [List.flatMap_cons, Nat.zero_mul, Nat.zero_add, List.getElem_cons_zero]
    rw [List.getElem?_append_left (by simpa [pairCells] using hi)]
  | r :: l, j + 1, i, h, hi => by
    simp only [List.flatMap_cons, List.getElem_cons_succ]
    rw [List.getElem?_append_right (by simp [pairCells]; omega)]
    have := cells_of_pairs l j i (by simpa using h) hi
    rw [← this]
    congr 1
    simp [pairCells]; omega

theorem add_at (g n : Nat) : (⟨g, 0, none⟩ : Addr).add n = ⟨g, 0 + n, none⟩ := by
  unfold Addr.add; split <;> simp_all

theorem pairs_of_owns {B : Nat} {v : Value} {l : List Pair} {w : World} (h : OwnsPairs B v l w) : ∃ ao cap, v = .slice ao l.length cap ∧ PairsIn w ao l := by
  unfold OwnsPairs at h
  have hc := fun g hg => World.ownsRow.cells h (g := g) hg
  obtain ⟨hl, ⟨rfl, h0⟩ | ⟨g, cap, cur, rfl, hb, _⟩⟩ := h
  · have : l = [] := List.eq_nil_of_length_eq_zero h0
    subst this
    exact ⟨none, 0, rfl, fun j hj => by simp at hj⟩
  · refine ⟨_, cap, rfl, fun j hj => ⟨g, 0, rfl, ?_⟩⟩
    have k := fun (i : Nat) (hi : i < 2) u (hu : (pairCells l[j])[i]? = some u) => hc g rfl (j * 2 + i) u (by rw [cells_of_pairs l j i hj hi]; exact hu)
    refine ⟨?_, ?_⟩
    · have := k 0 (by decide) _ rfl; rwa [add_at] at this
    · have := k 1 (by decide) _ rfl; rwa [add_at] at this

theorem infoPair : (Tryz.prog.info? 86).map (fun i => (i.zero, i.size, i.bytes)) = some (some (.agg #[.string ByteArray.empty, .string ByteArray.empty]), 2, 32) := by kernel_rfl

theorem pairs_nil (B : Nat) (w : World) : OwnsPairs B (.slice none 0 0) [] w := World.ownsRow_nil _ _ _ _
theorem pairs_alloc {B : Nat} {v : Value} {l : List Pair} {w : World} (h : OwnsPairs B v l w) (o : Obj) : OwnsPairs B v l (w.alloc o) := World.ownsRow.alloc h o
theorem pairs_below {B : Nat} {v : Value} {l : List Pair} {w w' : World} (h : OwnsPairs B v l w) (hb : Below w.heap.size w w') : OwnsPairs B v l w' := World.ownsRow.kept h (grown_of_below hb none) (by
  obtain ⟨_, ⟨rfl, _⟩ | ⟨g, cap, cur, rfl, _⟩⟩ := h
  · exact .inl rfl
  · right; simp [Value.ownBlock])

theorem cells_two (w : World) (a b : Value) (t : TypeId) : ∀ j u, [a, b][j]? = some u → (w.alloc (.cells #[a, b] t)).cell? ((⟨w.heap.size, 0, none⟩ : Addr).add j) = some u := by
  intro j u hj
  have e := heap_alloc_new w (.cells #[a, b] t)
  rw [add_at, Nat.zero_add]
  unfold World.cell?
  rw [e]
  match j, hj with
  | 0, hj => simpa using hj
  | 1, hj => simpa using hj

/-- two rows that share no block. -/
def Apart (v u : Value) : Prop := v.ownBlock = none ∨ u.ownBlock = none ∨ v.ownBlock ≠ u.ownBlock

end Go.Proofs.YtcjlhdmekhifaaaGreatDoor
namespace Go.Proofs.YtcjlhdmekhifaaaGreatDoor
open Go.RowKit

/-- BLOCK b HOLDS THESE CELLS. -/
def Cells (w : World) (b : Nat) (t : TypeId) (cs : Array Value) : Prop := w.heap[b]? = some (.cells cs t (0, 0))
theorem Cells.lt {w : World} {b : Nat} {t : TypeId} {cs : Array Value} (h : Cells w b t cs) : b < w.heap.size := (Array.getElem?_eq_some_iff.1 h).1
theorem Cells.cell {w : World} {b : Nat} {t : TypeId} {cs : Array Value} (h : Cells w b t cs) {i : Nat} {v : Value} (hv : cs[i]? = some v) : w.cell? ⟨b, i, none⟩ = some v := by
  simp only [World.cell?, show w.heap[b]? = _ from h]; exact hv
theorem Cells.free {w : World} {b : Nat} {t : TypeId} {cs : Array Value} (h : Cells w b t cs) (i : Nat) : w.frozen? ⟨b, i, none⟩ = false := by
  simp [World.frozen?, show w.heap[b]? = _ from h]
theorem Cells.on {w w' : World} {b : Nat} {t : TypeId} {cs : Array Value} (h : Cells w b t cs) (hb : Below w.heap.size w w') : Cells w' b t cs := (hb.block b h.lt).trans h
theorem Cells.new (w : World) (t : TypeId) (cs : Array Value) : Cells (w.alloc (.cells cs t)) w.heap.size t cs := heap_alloc_new w _
theorem Cells.alloc {w : World} {b : Nat} {t : TypeId} {cs : Array Value} (h : Cells w b t cs) (o : Obj) : Cells (w.alloc o) b t cs := h.on ((Below.refl _ _).alloc (Nat.le_refl _) o)
theorem Cells.drewN {w : World} {b : Nat} {t : TypeId} {cs : Array Value} (h : Cells w b t cs) (n : Nat) : Cells (w.drewN n) b t cs := h
theorem Cells.below_drewN {B : Nat} {a w : World} (h : Below B a w) (n : Nat) : Below B a (w.drewN n) := ⟨h.os, h.tape, h.output, h.size, h.block⟩
theorem Cells.drew {w : World} {b : Nat} {t : TypeId} {cs : Array Value} (h : Cells w b t cs) : Cells w.drew b t cs := h
theorem Cells.set {w : World} {b : Nat} {t : TypeId} {cs : Array Value} (h : Cells w b t cs) (i : Nat) (v : Value) : Cells (w.setCell ⟨b, i, none⟩ v) b t (cs.setIfInBounds i v) := by
  have hl := h.lt
  obtain ⟨_, he⟩ := Array.getElem?_eq_some_iff.1 h
  unfold Cells World.setCell
  simp only
  rw [Array.getElem?_eq_getElem (by rw [Array.size_modify]; exact hl), Array.getElem_modify_self, he]
  rfl
theorem Cells.other {w : World} {b : Nat} {t : TypeId} {cs : Array Value} (h : Cells w b t cs) {c : Nat} (i : Nat) (v : Value) (hne : b ≠ c) : Cells (w.setCell ⟨c, i, none⟩ v) b t cs := (Below.heap_setCell w ⟨c, i, none⟩ v b hne).trans h
end Go.Proofs.YtcjlhdmekhifaaaGreatDoor
namespace Go.Proofs.YtcjlhdmekhifaaaGreatDoor
open Go.RowKit

def attCells (a : Gv.Att) : List Value := [.string a.space, .string a.name, .string a.value]
/-- ATTRIBUTES LIE in memory, in blocks of S. -/
def AttsAt (S : Nat → Prop) (w : World) (v : Value) (l : List Gv.Att) : Prop := ∃ ao cap, v = .slice ao l.length cap ∧ l.length ≤ cap ∧ ∀ j (h : j < l.length), ∃ b off, ao = some ⟨b, off, none⟩ ∧ S b ∧ ∀ i u, (attCells l[j])[i]? = some u → w.cell? ⟨b, off + j * 3 + i, none⟩ = some u
/-- KIDS LIE in memory: each has six cells. -/
def RowsAt (S : Nat → Prop) (w : World) (v : Value) (m : Nat) (cs : Nat → List Value) : Prop := ∃ ao cap, v = .slice ao m cap ∧ ∀ j, j < m → (cs j).length = 6 ∧ ∃ b off, ao = some ⟨b, off, none⟩ ∧ S b ∧ ∀ i u, (cs j)[i]? = some u → w.cell? ⟨b, off + j * 6 + i, none⟩ = some u
/-- A NODE'S CELLS, in blocks of S. -/
inductive NodeAt (S : Nat → Prop) (w : World) : List Value → Gv.Node → Prop where
  | mk {k : Int} {sp nm d : ByteArray} {as' : List Gv.Att} {kids : List Gv.Node} {va vk : Value} (cs : Nat → List Value) (hz : as'.length ≤ maxLen ∧ kids.length ≤ maxLen) (ha : AttsAt S w va as') (hk : RowsAt S w vk kids.length cs)
      (hr : ∀ j (h : j < kids.length), NodeAt S w (cs j) kids[j]) : NodeAt S w [.int .i64 (k : Int), .string sp, .string nm, va, vk, .string d] (.mk k sp nm as' kids d)

theorem AttsAt.mono {S S' : Nat → Prop} {w : World} {v : Value} {l : List Gv.Att} (h : AttsAt S w v l) (hS : ∀ b, S b → b < w.heap.size → S' b) : AttsAt S' w v l := by
  obtain ⟨ao, cap, e, hcap, c⟩ := h
  refine ⟨ao, cap, e, hcap, fun j hj => ?_⟩
  obtain ⟨b, off, e1, e2, e3⟩ := c j hj
  exact ⟨b, off, e1, hS b e2 (World.block_lt_of_cell? w _ (e3 0 _ rfl)), e3⟩
theorem six_head {l : List Value} (h : l.length = 6) : ∃ x, l[0]? = some x := ⟨_, List.getElem?_eq_getElem (by omega)⟩
theorem RowsAt.mono {S S' : Nat → Prop} {w : World} {v : Value} {m : Nat} {cs : Nat → List Value} (h : RowsAt S w v m cs) (hS : ∀ b, S b → b < w.heap.size → S' b) : RowsAt S' w v m cs := by
  obtain ⟨ao, cap, e, c⟩ := h
  refine ⟨ao, cap, e, fun j hj => ?_⟩
  obtain ⟨h6, b, off, e1, e2, e3⟩ := c j hj
  obtain ⟨x, hx⟩ := six_head h6
  exact ⟨h6, b, off, e1, hS b e2 (World.block_lt_of_cell? w _ (e3 0 _ hx)), e3⟩
theorem NodeAt.mono {S S' : Nat → Prop} {w : World} {c : List Value} {n : Gv.Node} (h : NodeAt S w c n) (hS : ∀ b, S b → b < w.heap.size → S' b) : NodeAt S' w c n := by
  induction h with
  | mk cs hz ha hk _ ih => exact .mk cs hz (ha.mono hS) (hk.mono hS) ih

/-- The cells in blocks of S stand. -/
def Stay (S : Nat → Prop) (w w' : World) : Prop := ∀ b o, S b → b < w.heap.size → w'.cell? ⟨b, o, none⟩ = w.cell? ⟨b, o, none⟩
theorem AttsAt.stay {S : Nat → Prop} {w w' : World} {v : Value} {l : List Gv.Att} (h : AttsAt S w v l) (hs : Stay S w w') : AttsAt S w' v l := by
  obtain ⟨ao, cap, e, hcap, c⟩ := h
  refine ⟨ao, cap, e, hcap, fun j hj => ?_⟩
  obtain ⟨b, off, e1, e2, e3⟩ := c j hj
  exact ⟨b, off, e1, e2, fun i u hu => (hs b _ e2 (World.block_lt_of_cell? w _ (e3 0 _ rfl))).trans (e3 i u hu)⟩
theorem RowsAt.stay {S : Nat → Prop} {w w' : World} {v : Value} {m : Nat} {cs : Nat → List Value} (h : RowsAt S w v m cs) (hs : Stay S w w') : RowsAt S w' v m cs := by
  obtain ⟨ao, cap, e, c⟩ := h
  refine ⟨ao, cap, e, fun j hj => ?_⟩
  obtain ⟨h6, b, off, e1, e2, e3⟩ := c j hj
  obtain ⟨x, hx⟩ := six_head h6
  exact ⟨h6, b, off, e1, e2, fun i u hu => (hs b _ e2 (World.block_lt_of_cell? w _ (e3 0 _ hx))).trans (e3 i u hu)⟩
theorem NodeAt.stay {S : Nat → Prop} {w w' : World} {c : List Value} {n : Gv.Node} (h : NodeAt S w c n) (hs : Stay S w w') : NodeAt S w' c n := by
  induction h with
  | mk cs hz ha hk _ ih => exact .mk cs hz (ha.stay hs) (hk.stay hs) ih
theorem stay_below {S : Nat → Prop} {w w' : World} (hb : Below w.heap.size w w') : Stay S w w' := fun _ _ _ hl => hb.cell hl
theorem stay_grown {S : Nat → Prop} {w w' : World} {row : Option Nat} (hg : w.grownBy w' row) (hr : ∀ g, row = some g → ¬ S g) : Stay S w w' := fun b o hb hl =>
  World.cell?_of_block (a := ⟨b, o, none⟩) (hg.block b hl (fun e => hr b e.symm hb))
theorem NodeAt.on {S : Nat → Prop} {w w' : World} {c : List Value} {n : Gv.Node} (h : NodeAt S w c n) (hb : Below w.heap.size w w') : NodeAt S w' c n := h.stay (stay_below hb)
theorem NodeAt.any {S : Nat → Prop} {w : World} {c : List Value} {n : Gv.Node} (h : NodeAt S w c n) : NodeAt (fun _ => True) w c n := h.mono fun _ _ _ => trivial

theorem NodeAt.six {S : Nat → Prop} {w : World} {c : List Value} {n : Gv.Node} (h : NodeAt S w c n) : c.length = 6 := by
  cases h; rfl
/-- a node's cells. -/
theorem NodeAt.open' {S : Nat → Prop} {w : World} {c : List Value} {n : Gv.Node} (h : NodeAt S w c n) : ∃ (k : Int) (sp nm d : ByteArray) (as' : List Gv.Att) (kids : List Gv.Node) (ao bo : Option Addr) (ca cb : Nat) (cs : Nat → List Value),
    n = .mk k sp nm as' kids d ∧ c = [.int .i64 (k : Int), .string sp, .string nm, .slice ao as'.length ca, .slice bo kids.length cb, .string d] ∧ AttsAt S w (.slice ao as'.length ca) as' ∧ RowsAt S w (.slice bo kids.length cb) kids.length cs ∧ (∀ j (h : j < kids.length), NodeAt S w (cs j) kids[j]) ∧ as'.length ≤ maxLen ∧ kids.length ≤ maxLen := by
  cases h with
  | mk cs hz ha hk hr =>
    obtain ⟨ao, ca, rfl, hcap, c1⟩ := ha
    obtain ⟨bo, cb, rfl, c2⟩ := hk
    exact ⟨_, _, _, _, _, _, ao, bo, ca, cb, cs, rfl, rfl, ⟨ao, ca, rfl, hcap, c1⟩, ⟨bo, cb, rfl, c2⟩, hr, hz⟩

/-- an attribute's three cells. -/
theorem AttsAt.cells {S : Nat → Prop} {w : World} {ao : Option Addr} {m cap : Nat} {l : List Gv.Att} (h : AttsAt S w (.slice ao m cap) l) {j : Nat} (hj : j < l.length) {sp nm va : ByteArray} (e : l[j] = ⟨sp, nm, va⟩) : ∃ b off, ao = some ⟨b, off, none⟩ ∧
    w.cell? ⟨b, off + j * 3, none⟩ = some (.string sp) ∧ w.cell? ⟨b, off + j * 3 + 1, none⟩ = some (.string nm) ∧ w.cell? ⟨b, off + j * 3 + 2, none⟩ = some (.string va) := by
  obtain ⟨ao', cap', e0, _, c⟩ := h
  cases e0
  obtain ⟨b, off, e1, _, e3⟩ := c j hj
  rw [e] at e3
  exact ⟨b, off, e1, e3 0 _ rfl, e3 1 _ rfl, e3 2 _ rfl⟩
/-- a kid's six cells. -/
theorem RowsAt.cells {S : Nat → Prop} {w : World} {ao : Option Addr} {m n cap : Nat} {cs : Nat → List Value} (h : RowsAt S w (.slice ao m cap) n cs) {j : Nat} (hj : j < n) {x0 x1 x2 x3 x4 x5 : Value} (e : cs j = [x0, x1, x2, x3, x4, x5]) : ∃ b off, ao = some ⟨b, off, none⟩ ∧
    w.cell? ⟨b, off + j * 6, none⟩ = some x0 ∧ w.cell? ⟨b, off + j * 6 + 1, none⟩ = some x1 ∧ w.cell? ⟨b, off + j * 6 + 2, none⟩ = some x2 ∧ w.cell? ⟨b, off + j * 6 + 3, none⟩ = some x3 ∧ w.cell? ⟨b, off + j * 6 + 4, none⟩ = some x4 ∧ w.cell? ⟨b, off + j * 6 + 5, none⟩ = some x5 := by
  obtain ⟨ao', cap', e0, c⟩ := h
  cases e0
  obtain ⟨_, b, off, e1, _, e3⟩ := c j hj
  rw [e] at e3
  exact ⟨b, off, e1, e3 0 _ rfl, e3 1 _ rfl, e3 2 _ rfl, e3 3 _ rfl, e3 4 _ rfl, e3 5 _ rfl⟩
def nodeArr (k : Int) (sp nm : ByteArray) (va vk : Value) (d : ByteArray) : Array Value := #[.int .i64 k, .string sp, .string nm, va, vk, .string d]
theorem node_open {w : World} {b : Nat} {k : Int} {sp nm d : ByteArray} {va vk : Value} (h : Cells w b 26 (nodeArr k sp nm va vk d)) :
    w.cell? ⟨b, 0, none⟩ = some (.int .i64 k) ∧ w.cell? ⟨b, 1, none⟩ = some (.string sp) ∧ w.cell? ⟨b, 2, none⟩ = some (.string nm) ∧ w.cell? ⟨b, 3, none⟩ = some va ∧ w.cell? ⟨b, 4, none⟩ = some vk ∧ w.cell? ⟨b, 5, none⟩ = some (.string d) :=
  ⟨h.cell rfl, h.cell rfl, h.cell rfl, h.cell rfl, h.cell rfl, h.cell rfl⟩
end Go.Proofs.YtcjlhdmekhifaaaGreatDoor
namespace Go.Proofs.YtcjlhdmekhifaaaGreatDoor
open Go.RowKit

def OwnsAtts (B : Nat) (v : Value) (l : List Gv.Att) (w : World) : Prop := w.ownsRow B 47 3 v l.length (l.flatMap attCells)
theorem infoAtt : (Tryz.prog.info? 47).map (fun i => (i.zero, i.size, i.bytes)) = some (some (.agg #[.string ByteArray.empty, .string ByteArray.empty, .string ByteArray.empty]), 3, 48) := by kernel_rfl
theorem atts_none (B : Nat) (w : World) : OwnsAtts B (.slice none 0 0) [] w := World.ownsRow_nil _ _ _ _
theorem attRow_at : ∀ (l : List Gv.Att) (j i : Nat) (h : j < l.length), i < 3 → (l.flatMap attCells)[j * 3 + i]? = (attCells l[j])[i]?
  | [], j, i, h, _ => by simp at h
  | r :: l, 0, i, _, hi => by
    simp only [List.flatMap_cons, Nat.zero_mul, Nat.zero_add, List.getElem_cons_zero]
    rw [List.getElem?_append_left (by simpa [attCells] using hi)]
  | r :: l, j + 1, i, h, hi => by
    have ih := attRow_at l j i (by simpa using h) hi
    simp only [List.flatMap_cons, List.getElem_cons_succ]
    rw [List.getElem?_append_right (by simp [attCells]; omega), ← ih]
    congr 1
    simp [attCells]; omega
theorem OwnsAtts.at' {B : Nat} {v : Value} {l : List Gv.Att} {w : World} (h : OwnsAtts B v l w) : ∃ ao cap, v = .slice ao l.length cap ∧ AttsAt (fun b => B ≤ b ∧ some b = v.ownBlock) w v l := by
  have hc := fun g hg => World.ownsRow.cells h (g := g) hg
  obtain ⟨hl, ⟨rfl, h0⟩ | ⟨g, cap, cur, rfl, hb, _, hcap, _⟩⟩ := h
  · have : l = [] := List.eq_nil_of_length_eq_zero h0
    subst this
    exact ⟨none, 0, rfl, none, 0, rfl, Nat.le_refl _, fun j hj => by simp at hj⟩
  · refine ⟨_, cap, rfl, _, cap, rfl, hcap, fun j hj => ⟨g, 0, rfl, ⟨hb, by simp [Value.ownBlock]⟩, fun i u hu => ?_⟩⟩
    have hi : i < 3 := by
      have := (List.getElem?_eq_some_iff.1 hu).1
      simpa [attCells] using this
    have := hc g rfl (j * 3 + i) u (by rw [attRow_at l j i hj hi]; exact hu)
    rw [add_at, ← Nat.add_assoc] at this
    exact this

theorem pairRow_len (l : List Pair) : (l.flatMap pairCells).length = l.length * 2 := by
  induction l with
  | nil => rfl
  | cons x l ih => rw [List.flatMap_cons, List.length_append, ih]; simp [pairCells]; omega
theorem pairRow_news {w : World} {ad : Addr} {l : List Pair} (h : PairsIn w (some ad) l) : ∀ j u, (l.flatMap pairCells)[j]? = some u → w.cell? (ad.add j) = some u := by
  intro j u hu
  have hj : j < (l.flatMap pairCells).length := (List.getElem?_eq_some_iff.1 hu).1
  rw [pairRow_len] at hj
  obtain ⟨b, off, e, c0, c1⟩ := h (j / 2) (by omega)
  cases e
  have a : (⟨b, off, none⟩ : Addr).add j = ⟨b, off + j, none⟩ := by unfold Addr.add; split <;> simp_all
  rw [a]
  have e2 : j = j / 2 * 2 + j % 2 := by omega
  rw [e2, cells_of_pairs l (j / 2) (j % 2) (by omega) (by omega)] at hu
  rcases (by omega : j % 2 = 0 ∨ j % 2 = 1) with hm | hm
  · rw [hm] at hu
    rw [show j = j / 2 * 2 by omega, c0]
    simpa [pairCells] using hu
  · rw [hm] at hu
    rw [show off + j = off + j / 2 * 2 + 1 by omega, c1]
    simpa [pairCells] using hu
theorem pairRow_one (l : List Pair) : ∀ u ∈ l.flatMap pairCells, u.oneCell' = true := by
  intro u hu
  obtain ⟨p, _, hu⟩ := List.mem_flatMap.1 hu
  simp [pairCells] at hu
  rcases hu with rfl | rfl <;> rfl
/-- PAIRS BEHIND PAIRS. -/
theorem wpList_append_pairs {ops : Array Oper} {rest : List Oper} {o : Oper} {a : Act} {Q : Exit → Act → World → Prop} {w : World} (hgd : o.guard = none) (s x : Operand)
    (ho : o.op = .call { callee := .builtin .append, args := #[s, x], argTypes := #[39, 39] }) (B : Nat) (v : Value) (L M : List Pair) (hs : a.eval s = v) (hown : OwnsPairs B v L w)
    (ao : Option Addr) (cap n : Nat) (hx : a.eval x = .slice ao n cap) (hn : M.length = n) (hM : PairsIn w ao M) (hcap : ao = none → cap = 0) (hlen : L.length + M.length ≤ 1000000) (hB : B ≤ w.heap.size)
    (h : ∀ v' w', OwnsPairs B v' (L ++ M) w' → Below B w w' → w.grownBy w' v.ownBlock → wpList Tryz.prog ops Q rest (a.put o.dst v') w') : wpList Tryz.prog ops Q (o :: rest) a w := by
  obtain ⟨i0, hi, hz0, hz1, hz2⟩ := info_parts infoPair
  subst hn
  cases ao with
  | none =>
    have hc := hcap rfl
    subst hc
    have hM0 : M = [] := by
      cases M with
      | nil => rfl
      | cons y M =>
        obtain ⟨b, off, e, _⟩ := hM 0 (by simp)
        cases e
    subst hM0
    refine wpList_append_own_none hgd s x 39 ho B 86 i0 2 Tryz.underlying39 hi v L.length (L.flatMap pairCells) hs hown hx ?_
    exact h v w (by rw [List.append_nil]; exact hown) (Below.refl _ _) (World.grownBy.refl _ _)
  | some ad =>
    refine wpList_append_own_at w hgd s x 39 ho B 86 i0 _ 2 32 Tryz.underlying39 hi hz0 hz1 hz2 rfl (by decide) v L.length (L.flatMap pairCells) hs hown ad M.length cap (M.flatMap pairCells) hx (pairRow_len M) (pairRow_news hM) (pairRow_one M) (by unfold maxLen; omega) (by omega) hB ?_
    intro v' w' hown' hg _ _
    refine h v' w' ?_ ((Below.refl _ _).grown hg hB (fun j e => (World.ownsRow.lt hown j e).1)) hg
    unfold OwnsPairs
    rw [List.length_append, List.flatMap_append]
    exact hown'
end Go.Proofs.YtcjlhdmekhifaaaGreatDoor
namespace Go.Proofs.YtcjlhdmekhifaaaGreatDoor
open Go.RowKit

end Go.Proofs.YtcjlhdmekhifaaaGreatDoor
