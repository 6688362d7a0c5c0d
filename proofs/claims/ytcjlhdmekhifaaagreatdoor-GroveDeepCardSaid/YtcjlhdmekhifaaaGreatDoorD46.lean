/-
  What stands behind rows of attributes and of nodes.
  What the document's own words of trees come to: element.
  An element's rows in memory, as one node; how heavy the last kid is.
  What is told of an element's tokens in memory: the contract's words.
-/
import Derived.Test.YtcjlhdmekhifaaaGreatDoorD05
import Derived.Test.YtcjlhdmekhifaaaGreatDoorD20
import Derived.Test.YtcjlhdmekhifaaaGreatDoorD14
import Derived.Test.YtcjlhdmekhifaaaGreatDoorD45
import Derived.Test.YtcjlhdmekhifaaaGreatDoorD06
import Derived.Test.YtcjlhdmekhifaaaGreatDoorD07
import Derived.BigQuiet
import Derived.Deep.Onto
import Derived.Test.YtcjlhdmekhifaaaGreatDoorD41
import Derived.Test.YtcjlhdmekhifaaaGreatDoorD24
namespace Go.Proofs.YtcjlhdmekhifaaaGreatDoor
open Go.RowKit

/-- What is told of a start-tag. -/
def ElTold (t : T.Tok) (scope : List Pair) (w : World) (x : Ending) (w' : World) : Prop := Below w.heap.size w w' ∧
  match Gv.element t scope with
  | .error e => x = .returned (.tuple #[.agg (nodeArr 0 ⟨#[]⟩ ⟨#[]⟩ (.slice none 0 0) (.slice none 0 0) ⟨#[]⟩), .slice none 0 0, .int .i64 (e : Int)])
  | .ok ((sp, nm, as'), sc) => ∃ va vi, x = .returned (.tuple #[.agg (nodeArr 0 sp nm va (.slice none 0 0) ⟨#[]⟩), vi, .int .i64 0]) ∧ OwnsAtts w.heap.size va as' w' ∧ OwnsPairs w.heap.size vi sc w'
theorem elTold_err {t : T.Tok} {scope : List Pair} {w w' : World} {e : Nat} {k : Int} (h : Gv.element t scope = .error e) (hk : k = (e : Int)) (hb : Below w.heap.size w w') :
    ElTold t scope w (.returned (.tuple #[.agg (nodeArr 0 ⟨#[]⟩ ⟨#[]⟩ (.slice none 0 0) (.slice none 0 0) ⟨#[]⟩), .slice none 0 0, .int .i64 k])) w' := by
  refine ⟨hb, ?_⟩
  rw [h, hk]
theorem elTold_ok {t : T.Tok} {scope sc : List Pair} {w w' : World} {sp nm : ByteArray} {as' : List Gv.Att} {va vi : Value} (h : Gv.element t scope = .ok ((sp, nm, as'), sc)) (hb : Below w.heap.size w w') (ha : OwnsAtts w.heap.size va as' w') (hi : OwnsPairs w.heap.size vi sc w') :
    ElTold t scope w (.returned (.tuple #[.agg (nodeArr 0 sp nm va (.slice none 0 0) ⟨#[]⟩), vi, .int .i64 0])) w' := by
  refine ⟨hb, ?_⟩
  rw [h]
  exact ⟨va, vi, rfl, ha, hi⟩

theorem elem_end {F : Func} {R : Ending → World → Prop} {tmps : Array Value} {w : World} {rb i j k : Nat} {x y : Int} {sp nm d : ByteArray} {va vk v : Value} (hres : F.results = #[ResultVar.cell i 26, ResultVar.tmp j, ResultVar.tmp k])
    (h2 : tmps[i]? = some (.pointer (some ⟨rb, 0, none⟩))) (h3 : tmps[j]? = some v) (h4 : tmps[k]? = some (.int .i64 y)) (hc : Cells w rb 26 (nodeArr x sp nm va vk d))
    (hR : R (.returned (.tuple #[.agg (nodeArr x sp nm va vk d), v, .int .i64 y])) w) : bodyPost Tryz.prog F R .ret { tmps := tmps, defers := [] } w := by
  refine ⟨rfl, _, ?_, hR⟩
  have l2 : i < tmps.size := (Array.getElem?_eq_some_iff.1 h2).1
  have g2 : tmps[i] = .pointer (some ⟨rb, 0, none⟩) := (Array.getElem?_eq_some_iff.1 h2).2
  have l3 : j < tmps.size := (Array.getElem?_eq_some_iff.1 h3).1
  have g3 : tmps[j] = v := (Array.getElem?_eq_some_iff.1 h3).2
  have l4 : k < tmps.size := (Array.getElem?_eq_some_iff.1 h4).1
  have g4 : tmps[k] = .int .i64 y := (Array.getElem?_eq_some_iff.1 h4).2
  obtain ⟨x0, x1, x2, x3, x4, x5⟩ := node_open hc
  simp [results, hres, go_sem, l2, g2, l3, g3, l4, g4, x0, x1, x2, x3, x4, x5]
  rfl
/-- A node's six cells set anew. -/
theorem node_set {w : World} {b : Nat} {A : Array Value} (hA : A.size = 6) (h : Cells w b 26 A) (k : Int) (sp nm d : ByteArray) (va vk : Value) :
    Cells (sixSet w b 0 (.int .i64 k) (.string sp) (.string nm) va vk (.string d)) b 26 (nodeArr k sp nm va vk d) := by
  have := (((((h.set 0 (.int .i64 k)).set 1 (.string sp)).set 2 (.string nm)).set 3 va).set 4 vk).set 5 (.string d)
  unfold sixSet
  obtain ⟨l⟩ := A
  obtain ⟨a0, a1, a2, a3, a4, a5, rfl⟩ := list_six hA
  simpa [nodeArr] using this
theorem six_below {B : Nat} {w0 w : World} {b : Nat} (h : Below B w0 w) (hb : B ≤ b) (x0 x1 x2 x3 x4 x5 : Value) : Below B w0 (sixSet w b 0 x0 x1 x2 x3 x4 x5) :=
  (((((h.setCell (p := ⟨b, 0, none⟩) hb x0).setCell (p := ⟨b, 0 + 1, none⟩) hb x1).setCell (p := ⟨b, 0 + 2, none⟩) hb x2).setCell (p := ⟨b, 0 + 3, none⟩) hb x3).setCell (p := ⟨b, 0 + 4, none⟩) hb x4).setCell (p := ⟨b, 0 + 5, none⟩) hb x5

theorem pairs_slice {B : Nat} {v : Value} {l : List Pair} {w : World} (h : OwnsPairs B v l w) : ∃ ao cap, v = .slice ao l.length cap ∧ PairsIn w ao l ∧ (ao = none → cap = 0) := by
  obtain ⟨ao, cap, e, hp⟩ := pairs_of_owns h
  refine ⟨ao, cap, e, hp, ?_⟩
  rintro rfl
  obtain ⟨_, ⟨h0, _⟩ | ⟨g, cap2, cur, h0, _⟩⟩ := h
  · rw [e] at h0; injection h0
  · rw [e] at h0; cases h0
theorem two_below {B : Nat} {w0 w : World} {b : Nat} (h : Below B w0 w) (hb : B ≤ b) (x1 x2 : Value) : Below B w0 ((w.setCell ⟨b, 1, none⟩ x1).setCell ⟨b, 2, none⟩ x2) :=
  (h.setCell (p := ⟨b, 1, none⟩) hb x1).setCell (p := ⟨b, 2, none⟩) hb x2

theorem set_apart {w : World} {B e size n b : Nat} {te : TypeId} {v : Value} {xs : List Value} {t : TypeId} {cs : Array Value} (h : w.ownsRow B te size v n xs) (hc : Cells w b t cs) (hne : t ≠ te) (u : Value) : (w.setCell ⟨b, e, none⟩ u).ownsRow B te size v n xs := by
  have hg : w.grownBy (w.setCell ⟨b, e, none⟩ u) (some b) := ⟨rfl, rfl, rfl, by simp, fun k _ hk => heap_setCell_other w ⟨b, e, none⟩ k u (fun x => hk (by simp [x]))⟩
  refine World.ownsRow.kept h hg ?_
  obtain ⟨_, ⟨rfl, _⟩ | ⟨g, cap, cur, rfl, hb, hh, _⟩⟩ := h
  · exact .inl rfl
  · right
    simp only [Value.ownBlock, ne_eq, Option.some.injEq]
    rintro rfl
    rw [show w.heap[_]? = _ from hc] at hh
    cases hh
    exact hne rfl
/-- What stands when some attributes have come. -/
structure ElIn (w0 : World) (rb bn : Nat) (sp nm : ByteArray) (v2 : Value) (rest : List Pair) (vB : Value) (sc : List Pair) (va : Value) (acc : List Gv.Att) (w : World) : Prop where
  n : Cells w bn 26 (nodeArr 0 sp nm va (.slice none 0 0) ⟨#[]⟩)
  r : Cells w rb 26 (nodeArr 0 ⟨#[]⟩ ⟨#[]⟩ (.slice none 0 0) (.slice none 0 0) ⟨#[]⟩)
  rest : OwnsPairs w0.heap.size v2 rest w
  sc : OwnsPairs w0.heap.size vB sc w
  att : OwnsAtts w0.heap.size va acc w
  low : Below w0.heap.size w0 w
  lb : w0.heap.size ≤ bn ∧ w0.heap.size ≤ rb ∧ rb ≠ bn
theorem ElIn.on {w0 : World} {rb bn : Nat} {sp nm : ByteArray} {v2 vB va : Value} {rest sc : List Pair} {acc : List Gv.Att} {w w' : World} (h : ElIn w0 rb bn sp nm v2 rest vB sc va acc w) (hb : Below w.heap.size w w') : ElIn w0 rb bn sp nm v2 rest vB sc va acc w' :=
  ⟨h.n.on hb, h.r.on hb, row_on h.rest hb, row_on h.sc hb, row_on h.att hb, h.low.trans (hb.mono h.low.size), h.lb⟩
theorem ElIn.first {w0 : World} {rb bn : Nat} {sp nm : ByteArray} {v2 vB : Value} {rest sc : List Pair} {w : World} (hn : Cells w bn 26 (nodeArr 0 ⟨#[]⟩ ⟨#[]⟩ (.slice none 0 0) (.slice none 0 0) ⟨#[]⟩))
    (hr : Cells w rb 26 (nodeArr 0 ⟨#[]⟩ ⟨#[]⟩ (.slice none 0 0) (.slice none 0 0) ⟨#[]⟩)) (h2 : OwnsPairs w0.heap.size v2 rest w) (hB : OwnsPairs w0.heap.size vB sc w) (hl : Below w0.heap.size w0 w) (lb : w0.heap.size ≤ bn ∧ w0.heap.size ≤ rb ∧ rb ≠ bn) :
    ElIn w0 rb bn sp nm v2 rest vB sc (.slice none 0 0) [] ((w.setCell ⟨bn, 1, none⟩ (.string sp)).setCell ⟨bn, 2, none⟩ (.string nm)) := by
  have k1 := hn.set 1 (.string sp)
  refine ⟨?_, (hr.other 1 _ lb.2.2).other 2 _ lb.2.2, set_apart (set_apart h2 hn (by decide) _) k1 (by decide) _, set_apart (set_apart hB hn (by decide) _) k1 (by decide) _, atts_none _ _, two_below hl lb.1 _ _, lb⟩
  have := k1.set 2 (.string nm)
  simpa [nodeArr] using this
/-- .. one more. -/
theorem ElIn.more {w0 : World} {rb bn : Nat} {sp nm : ByteArray} {v2 vB va va' : Value} {rest sc : List Pair} {acc : List Gv.Att} {a : Gv.Att} {w w' : World} (h : ElIn w0 rb bn sp nm v2 rest vB sc va acc w) (ho : w'.ownsRow w0.heap.size 47 3 va' (acc.length + 1) (acc.flatMap attCells ++ attCells a))
    (hg : w.grownBy w' va.ownBlock) : ElIn w0 rb bn sp nm v2 rest vB sc va' (acc ++ [a]) (w'.setCell ⟨bn, 3, none⟩ va') := by
  have far : ∀ {b : Nat} {cs : Array Value}, Cells w b 26 cs → Cells w' b 26 cs := fun {b cs} hc => (hg.block b hc.lt (fun e => by
    obtain ⟨_, ⟨h0, _⟩ | ⟨g, cap, cur, h0, hb, hh, _⟩⟩ := h.att
    · rw [h0] at e; cases e
    · rw [h0] at e
      simp only [Value.ownBlock, Option.some.injEq] at e
      subst e
      rw [show w.heap[b]? = _ from hc] at hh
      cases hh)).trans hc
  have kn := far h.n
  refine ⟨?_, (far h.r).other 3 _ h.lb.2.2, set_apart (World.ownsRow.kept h.rest hg (rows_apart h.rest h.att (by decide))) kn (by decide) _, set_apart (World.ownsRow.kept h.sc hg (rows_apart h.sc h.att (by decide))) kn (by decide) _, ?_, ?_, h.lb⟩
  · have := kn.set 3 va'
    simpa [nodeArr] using this
  · refine set_apart ?_ kn (by decide) _
    rw [List.length_append, List.length_singleton, List.flatMap_append]
    simpa using ho
  · exact (h.low.grown hg h.low.size (fun j e => (World.ownsRow.lt h.att j e).1)).setCell (p := ⟨bn, 3, none⟩) h.lb.1 _
theorem two_below0 {B : Nat} {w0 w : World} {b : Nat} (h : Below B w0 w) (hb : B ≤ b) (x1 x2 : Value) : Below B w0 ((w.setCell ⟨b, 0, none⟩ x1).setCell ⟨b, 1, none⟩ x2) :=
  (h.setCell (p := ⟨b, 0, none⟩) hb x1).setCell (p := ⟨b, 1, none⟩) hb x2
theorem six_apart {w : World} {B size n b : Nat} {te : TypeId} {v : Value} {xs : List Value} {t : TypeId} {cs : Array Value} (h : w.ownsRow B te size v n xs) (hc : Cells w b t cs) (hne : t ≠ te) (u0 u1 u2 u3 u4 u5 : Value) : (sixSet w b 0 u0 u1 u2 u3 u4 u5).ownsRow B te size v n xs :=
  set_apart (set_apart (set_apart (set_apart (set_apart (set_apart h hc hne u0) (hc.set 0 u0) hne u1) ((hc.set 0 u0).set 1 u1) hne u2) (((hc.set 0 u0).set 1 u1).set 2 u2) hne u3) ((((hc.set 0 u0).set 1 u1).set 2 u2).set 3 u3) hne u4) (((((hc.set 0 u0).set 1 u1).set 2 u2).set 3 u3).set 4 u4) hne u5
theorem ElIn.far {w0 : World} {rb bn : Nat} {sp nm : ByteArray} {v2 vB va : Value} {rest sc : List Pair} {acc : List Gv.Att} {w w' : World} (h : ElIn w0 rb bn sp nm v2 rest vB sc va acc w) (hg : w.grownBy w' va.ownBlock) : Cells w' bn 26 (nodeArr 0 sp nm va (.slice none 0 0) ⟨#[]⟩) :=
  (hg.block bn h.n.lt (fun e => by
    obtain ⟨_, ⟨h0, _⟩ | ⟨g, cap, cur, h0, hb, hh, _⟩⟩ := h.att
    · rw [h0] at e; cases e
    · rw [h0] at e
      simp only [Value.ownBlock, Option.some.injEq] at e
      subst e
      rw [show w.heap[bn]? = _ from h.n] at hh
      cases hh)).trans h.n
theorem att_three (w : World) (a b c : Value) (t : TypeId) : ∀ j u, [a, b, c][j]? = some u → (w.alloc (.cells #[a, b, c] t)).cell? ((⟨w.heap.size, 0, none⟩ : Addr).add j) = some u := by
  intro j u hj
  have e := heap_alloc_new w (.cells #[a, b, c] t)
  rw [add_at, Nat.zero_add]
  unfold World.cell?
  rw [e]
  match j, hj with
  | 0, hj => simpa using hj
  | 1, hj => simpa using hj
  | 2, hj => simpa using hj

set_option maxRecDepth 100000 in
set_option maxHeartbeats 12800000 in
theorem refElement_any {ao : Option Addr} {cap n : Nat} (t : T.Tok) (tv : Value) (scope : List Pair) (w : World) (hat : AttrsAt w tv t.attrs) (hsc : PairsIn w ao scope) (hn : scope.length = n) (hcap : ao = none → cap = 0) (hsl : scope.length ≤ 100000)
    (hnm : t.name.length ≤ maxLen) (hza : ∀ a ∈ t.attrs.map mpair, a.name.size ≤ maxLen) :
    Calls Tryz.prog 28 #[.agg (tokCells t tv).toArray, .slice ao n cap] w (ElTold t scope w) := by
  obtain ⟨i0, hi, hz0, hz1, hz2⟩ := info_parts infoAtt
  obtain ⟨tao, tc, rfl, htp⟩ := hat
  obtain ⟨tk, tn, tat, tal, tda⟩ := t
  have hE1 := fun h => Lib.hid (Gv.el_long (t := ⟨tk, tn, tat, tal, tda⟩) (scope := scope) h)
  have hE2 := fun h hd => Lib.hid (Gv.el_decl (t := ⟨tk, tn, tat, tal, tda⟩) (scope := scope) h hd)
  have hE3 := fun more rest h hd hr => Lib.hid (Gv.el_name (t := ⟨tk, tn, tat, tal, tda⟩) (scope := scope) (more := more) (rest := rest) h hd hr)
  have hE4 := fun more rest sp nm h hd hr => Lib.hid (Gv.el_go (t := ⟨tk, tn, tat, tal, tda⟩) (scope := scope) (more := more) (rest := rest) (sp := sp) (nm := nm) h hd hr)
  simp only [Gv.elA_mpair] at hE2 hE3 hE4
  unfold Gv.str at hE3 hE4
  unfold tokCells
  dsimp only at *
  have hon := Lib.hid (rfl : (⟨tk, tn, tat, tal, tda⟩ : T.Tok) = ⟨tk, tn, tat, tal, tda⟩)
  generalize hT : (⟨tk, tn, tat, tal, tda⟩ : T.Tok) = T0 at hE1 hE2 hE3 hE4 ⊢
  clear hT
  have hns : (⟨tn.toArray⟩ : ByteArray).size ≤ maxLen := by simpa [ByteArray.size] using hnm
  generalize (⟨tn.toArray⟩ : ByteArray) = nb at *
  generalize (⟨tda.toArray⟩ : ByteArray) = db at *
  replace hn := Lib.hid hn
  have hlm : (tat.map mpair).length = tat.length := List.length_map _
  generalize tat.map mpair = ats at *
  generalize tat.length = tl at *
  replace hlm := Lib.hid hlm
  go_enter Tryz.func28, Tryz.ntmps28
  have kT := Cells.new w 41 #[.int .i64 (tk : Int), .string nb, .slice tao tl tc, .bool tal, .string db]
  have kR := Cells.new (w.alloc (.cells #[.int .i64 (tk : Int), .string nb, .slice tao tl tc, .bool tal, .string db] 41)) 26 (nodeArr 0 ⟨#[]⟩ ⟨#[]⟩ (.slice none 0 0) (.slice none 0 0) ⟨#[]⟩)
  have b0 := ((Below.refl w.heap.size w).alloc (Nat.le_refl _) (.cells #[.int .i64 (tk : Int), .string nb, .slice tao tl tc, .bool tal, .string db] 41)).alloc (by simp) (.cells (nodeArr 0 ⟨#[]⟩ ⟨#[]⟩ (.slice none 0 0) (.slice none 0 0) ⟨#[]⟩) 26)
  rw [World.size_alloc] at kR
  by_cases hlong : 50 < tl
  · have hg := hE1 hlong
    have hi1 : (50 : Int) < (tl : Int) := by omega
    clear hE1 hE2 hE3 hE4 hlong
    go_wp2_with fail
    exact elem_end (rb := w.heap.size + 1) rfl rfl rfl rfl kR (elTold_err hg.out rfl b0)
  replace hE2 := fun h => hE2 hlong h
  replace hE3 := fun more rest hd hr => hE3 more rest hlong hd hr
  replace hE4 := fun more rest sp nm hd hr => hE4 more rest sp nm hlong hd hr
  have hi1 : ¬ (50 : Int) < (tl : Int) := by omega
  clear hE1 hlong
  unfold nodeArr at kR b0
  have htp1 := htp.below (Below.mono (b0) (Nat.le_refl _))
  have hsc1 := hsc.below b0
  have hnT := (kT.alloc (.cells #[.int .i64 0, .string ⟨#[]⟩, .string ⟨#[]⟩, .slice none 0 0, .slice none 0 0, .string ⟨#[]⟩] 26)).cell (i := 1) (v := .string nb) rfl
  have x2 := b0.size
  go_wp2_with fail
  clear htp hsc kT
  (with_reducible refine (refDeclare_any ats _ htp1 hlm.out (by omega) hza).mono ?_); rintro e w2 ⟨v1, v2, rfl, o1, o2, b1⟩
  have c2 := b0.trans (b1.mono b0.size)
  have kR2 := kR.on b1
  have hnT2 := (b1.cell (World.block_lt_of_cell? _ _ hnT : w.heap.size < _)).trans hnT
  have hsc2 := hsc1.below b1
  have y1 := b1.size
  have hx2 : w.heap.size + 2 ≤ w2.heap.size := by rw [World.size_alloc, World.size_alloc] at y1; omega
  have o1' : OwnsPairs w.heap.size v1 (P.deA ats) w2 := World.ownsRow.mono o1 b0.size
  have o2' : OwnsPairs w.heap.size v2 (P.deB ats) w2 := World.ownsRow.mono o2 b0.size
  clear b1 kR hnT hsc1 htp1 o1 o2 y1 b0 x2
  cases hd : P.declare ats with
  | none =>
    obtain ⟨e1, e2, e3⟩ := P.de_none hd
    have hg := hE2 hd
    rw [e3]
    clear hE2 hE3 hE4 hd e1 e2 e3 o1' o2'
    obtain ⟨x0, x1, x2, x3, x4, x5⟩ := node_open kR2
    have f0 := kR2.free 0
    have f1 := kR2.free 1
    have f2 := kR2.free 2
    have f3 := kR2.free 3
    have f4 := kR2.free 4
    have f5 := kR2.free 5
    have kR3 := Lib.hid (node_set rfl kR2 0 ⟨#[]⟩ ⟨#[]⟩ ⟨#[]⟩ (.slice none 0 0) (.slice none 0 0))
    have c3 := Lib.hid (six_below c2 (show w.heap.size ≤ w.heap.size + 1 by omega) (.int .i64 0) (.string ⟨#[]⟩) (.string ⟨#[]⟩) (.slice none 0 0) (.slice none 0 0) (.string ⟨#[]⟩))
    clear kR2
    go_wp2_with fail
    exact elem_end (rb := w.heap.size + 1) rfl rfl rfl rfl kR3.out (elTold_err hg.out rfl c3.out)
  | some z =>
    obtain ⟨more, rest⟩ := z
    obtain ⟨e1, e2, e3⟩ := P.de_some hd
    rw [e1] at o1'
    rw [e2] at o2'
    rw [e3]
    obtain ⟨hlen, hmem⟩ := P.declGo_kept _ _ _ _ _ hd
    replace hE3 := fun h => hE3 _ _ hd h
    replace hE4 := fun sp nm h => hE4 _ _ sp nm hd h
    have hzr : ∀ a ∈ rest, a.name.size ≤ maxLen := fun a ha => hza a ((hmem a ha).resolve_left (by simp))
    clear hE2 e1 e2 e3 hza hmem hd
    have hml : more.length ≤ 1000 := by have := hlm.out; simp at hlen; omega
    have hrl : rest.length ≤ 1000 := by have := hlm.out; simp at hlen; omega
    clear hlen
    obtain ⟨a1, cp1, rfl, hp1, hc1⟩ := pairs_slice o1'
    replace hml := Lib.hid hml
    replace hrl := Lib.hid hrl
    replace hsl := Lib.hid hsl
    go_wp2_with (at_builtin; refine wpList_append_pairs rfl _ _ rfl w2.heap.size _ [] scope rfl (pairs_nil _ _) ao cap n rfl hn.out hsc2 hcap (by have := hsl.out; simp; omega) (Nat.le_refl _) ?_)
    intro vA w3 oA bA gA
    replace oA := Lib.hid oA
    have hp2 := hp1.below bA
    go_wp2_with (at_builtin; refine wpList_append_pairs rfl _ _ rfl w2.heap.size _ scope more rfl oA.out a1 cp1 _ rfl rfl hp2 hc1 (by have := hsl.out; have := hml.out; omega) bA.size ?_)
    intro vB w4 oB bB gB
    have b4 := bA.trans bB
    have kR4 := kR2.on b4
    have hnT4 := (b4.cell (World.block_lt_of_cell? _ _ hnT2 : w.heap.size < _)).trans hnT2
    have o24 : OwnsPairs w.heap.size v2 rest w4 := row_on o2' b4
    have c4 := c2.trans (b4.mono c2.size)
    have hx4 := b4.size
    have oB' : OwnsPairs w.heap.size vB (scope ++ more) w4 := World.ownsRow.mono oB c2.size
    clear bA bB gA gB hp1 hp2 hc1 oA o1' o2' kR2 hnT2 hsc2 b4 c2 oB
    obtain ⟨aB, cpB, rfl, hpB, hcB⟩ := pairs_slice oB'
    have bN := (Below.refl w4.heap.size w4).alloc (Nat.le_refl _) (.cells #[.int .i64 0, .string ⟨#[]⟩, .string ⟨#[]⟩, .slice none 0 0, .slice none 0 0, .string ⟨#[]⟩] 26)
    have hnT5 := (bN.cell (World.block_lt_of_cell? _ _ hnT4 : w.heap.size < _)).trans hnT4
    have kN := Cells.new w4 26 #[.int .i64 0, .string ⟨#[]⟩, .string ⟨#[]⟩, .slice none 0 0, .slice none 0 0, .string ⟨#[]⟩]
    go_wp2_with fail
    (with_reducible refine (refResolve_any (scope ++ more) nb false _ (hpB.below bN) List.length_append (by have := hsl.out; have := hml.out; omega) hns).mono ?_); rintro e w6 ⟨rfl, b6⟩
    have b46 := bN.trans (b6.mono bN.size)
    have c6 := c4.trans (b46.mono c4.size)
    have kN6 := kN.on b6
    have kR6 := kR4.on b46
    have o26 : OwnsPairs w.heap.size v2 rest w6 := row_on o24 b46
    have oB6 : OwnsPairs w.heap.size (.slice aB (scope ++ more).length cpB) (scope ++ more) w6 := row_on oB' b46
    clear b46 b6 kN hnT5 hnT4 bN kR4 o24 oB' hpB c4
    have hbn : w.heap.size + 2 ≤ w4.heap.size := by omega
    clear hx2 hx4
    generalize w4.heap.size = bn at *
    have g1 : w6.frozen? ⟨bn, 1, none⟩ = false := kN6.free 1
    have g2 : w6.frozen? ⟨bn, 2, none⟩ = false := kN6.free 2
    obtain ⟨n0, n1, n2, n3, n4, n5⟩ := node_open kN6
    cases hr : P.resolve (scope ++ more) nb false with
    | none =>
      obtain ⟨e1, e2, e3⟩ := P.re_none hr
      have hg := hE3 hr
      rw [e1, e2, e3]
      clear hE3 hE4 hr e1 e2 e3 o26 oB6
      have kR7 := (kR6.other (c := bn) 1 (.string ByteArray.empty) (by omega)).other (c := bn) 2 (.string ByteArray.empty) (by omega)
      have c7 := two_below c6 (show w.heap.size ≤ bn by omega) (.string ByteArray.empty) (.string ByteArray.empty)
      clear kR6 c6 kN6
      have hne : ¬ w.heap.size + 1 = bn := by omega
      have f0 := kR7.free 0
      have f1 := kR7.free 1
      have f2 := kR7.free 2
      have f3 := kR7.free 3
      have f4 := kR7.free 4
      have f5 := kR7.free 5
      obtain ⟨x0, x1, x2, x3, x4, x5⟩ := node_open kR7
      have kR8 := Lib.hid (node_set rfl kR7 0 ⟨#[]⟩ ⟨#[]⟩ ⟨#[]⟩ (.slice none 0 0) (.slice none 0 0))
      have c8 := Lib.hid (six_below c7 (show w.heap.size ≤ w.heap.size + 1 by omega) (.int .i64 0) (.string ⟨#[]⟩) (.string ⟨#[]⟩) (.slice none 0 0) (.slice none 0 0) (.string ⟨#[]⟩))
      clear kR7
      go_wp2_with fail
      exact elem_end (rb := w.heap.size + 1) rfl rfl rfl rfl kR8.out (elTold_err hg.out rfl c8.out)
    | some z =>
      obtain ⟨sp, nm⟩ := z
      obtain ⟨e1, e2, e3⟩ := P.re_some hr
      have hg := hE4 _ _ hr
      rw [e1, e2, e3]
      clear hE3 hE4 hr e1 e2 e3
      obtain ⟨a2, cp2, rfl, _, _⟩ := pairs_slice o26
      have hI := Lib.hid (ElIn.first (sp := sp) (nm := nm) kN6 kR6 o26 oB6 c6 ⟨by omega, by omega, by omega⟩)
      clear o26 oB6 kR6 kN6 c6
      go_wp2_with fail
      clear n0 n1 n2 n3 n4 n5 g1 g2
      go_loopw [9, 12, 13, 14] (fun _ i _ _ wr => ∃ (m : Nat) (acc : List Gv.Att) (va : Value), m ≤ rest.length ∧ i = .int .i64 (m : Int) ∧ acc.length ≤ m ∧ Hid (Gv.attrsGo (scope ++ more) [] rest = Gv.attrsGo (scope ++ more) acc (rest.drop m)) ∧ Hid (ElIn w (w.heap.size + 1) bn sp nm (.slice a2 rest.length cp2) rest (.slice aB (scope ++ more).length cpB) (scope ++ more) va acc wr)) (fun _ i _ _ _ => rest.length - (intOf i).toNat)
      case atStart => exact ⟨0, [], _, Nat.zero_le _, rfl, Nat.le_refl _, Lib.hid rfl, hI⟩
      case round =>
        obtain ⟨m, acc, va, hm, rfl, hacc, hG, hJ⟩ := hrel
        clear hI
        by_cases hlt : m < rest.length
        · obtain ⟨_, _, e0, hp2, _⟩ := pairs_slice hJ.out.rest
          cases e0
          obtain ⟨_, _, e0, hpB, _⟩ := pairs_slice hJ.out.sc
          cases e0
          obtain ⟨b2, off2, rfl, d0, d1⟩ := hp2 m hlt
          have hG1 := hG.out
          rw [List.drop_eq_getElem_cons hlt] at hG1
          have hza := hzr rest[m] (List.getElem_mem hlt)
          generalize rest[m] = a at *
          obtain ⟨an, av⟩ := a
          dsimp only at d0 d1 hza
          replace hG1 := Lib.hid hG1
          have hmi : (m : Int) < (rest.length : Int) := by omega
          have bA := (Below.refl wr.heap.size wr).alloc (Nat.le_refl _) (.cells #[.string ⟨#[]⟩, .string ⟨#[]⟩, .string av] 47)
          have kA := Cells.new wr 47 #[.string ⟨#[]⟩, .string ⟨#[]⟩, .string av]
          have d0' := (bA.cell (World.block_lt_of_cell? _ _ d0)).trans d0
          clear hp2
          go_wp2_with fail
          (with_reducible refine (refResolve_any (scope ++ more) an true _ (hpB.below bA) List.length_append (by have := hsl.out; have := hml.out; omega) hza).mono ?_); rintro e w7 ⟨rfl, b7⟩
          have b17 := bA.trans (b7.mono bA.size)
          have kA7 := kA.on b7
          clear kA bA b7 d0 d1 d0' hpB
          have hab : wr.heap.size ≤ wr.heap.size := Nat.le_refl _
          have q0 := kA7.cell (i := 0) (v := .string ⟨#[]⟩) rfl
          have q1 := kA7.cell (i := 1) (v := .string ⟨#[]⟩) rfl
          have q2 := kA7.cell (i := 2) (v := .string av) rfl
          have q3 : w7.frozen? ⟨wr.heap.size, 0, none⟩ = false := kA7.free 0
          have q4 : w7.frozen? ⟨wr.heap.size, 1, none⟩ = false := kA7.free 1
          cases hr : P.resolve (scope ++ more) an true with
          | none =>
            obtain ⟨e1, e2, e3⟩ := P.re_none hr
            have hg2 := Lib.hid (show Gv.element T0 scope = .error 80 by rw [hg.out, hG1.out, Gv.go_none hr])
            rw [e1, e2, e3]
            have J8 := hJ.out.on (two_below0 b17 hab (.string ByteArray.empty) (.string ByteArray.empty))
            clear hG hG1 hr e1 e2 e3 hJ b17 kA7 hg
            have f0 := J8.r.free 0
            have f1 := J8.r.free 1
            have f2 := J8.r.free 2
            have f3 := J8.r.free 3
            have f4 := J8.r.free 4
            have f5 := J8.r.free 5
            obtain ⟨x0, x1, x2, x3, x4, x5⟩ := node_open J8.r
            have kR8 := Lib.hid (node_set rfl J8.r 0 ⟨#[]⟩ ⟨#[]⟩ ⟨#[]⟩ (.slice none 0 0) (.slice none 0 0))
            have c8 := Lib.hid (six_below J8.low (show w.heap.size ≤ w.heap.size + 1 by omega) (.int .i64 0) (.string ⟨#[]⟩) (.string ⟨#[]⟩) (.slice none 0 0) (.slice none 0 0) (.string ⟨#[]⟩))
            replace J8 := Lib.hid J8
            generalize wr.heap.size = ab at *
            go_wp2_with fail
            exact elem_end (rb := w.heap.size + 1) rfl rfl rfl rfl kR8.out (elTold_err hg2.out rfl c8.out)
          | some z =>
            obtain ⟨as1, as2⟩ := z
            obtain ⟨e1, e2, e3⟩ := P.re_some hr
            rw [e1, e2, e3]
            have J8 := Lib.hid (hJ.out.on (two_below0 b17 hab (.string as1) (.string as2)))
            have hTwo := fun h => Lib.hid (show Gv.element T0 scope = .error 71 by rw [hg.out, hG1.out, Gv.go_two hr h])
            have hMore := fun h => Lib.hid (show Gv.attrsGo (scope ++ more) [] rest = Gv.attrsGo (scope ++ more) (acc ++ [⟨as1, as2, av⟩]) (rest.drop (m + 1)) by rw [hG1.out, Gv.go_more hr h])
            have kA8 := Lib.hid (show Cells ((w7.setCell ⟨wr.heap.size, 0, none⟩ (.string as1)).setCell ⟨wr.heap.size, 1, none⟩ (.string as2)) wr.heap.size 47 #[.string as1, .string as2, .string av] by simpa using (kA7.set 0 (.string as1)).set 1 (.string as2))
            clear hG hG1 hr e1 e2 e3 hJ b17 kA7
            have hwab := hab
            generalize wr.heap.size = ab at *
            go_wp2_with fail
            clear q0 q1 q2 q3 q4
            generalize (w7.setCell ⟨ab, 0, none⟩ (.string as1)).setCell ⟨ab, 1, none⟩ (.string as2) = W at *
            obtain ⟨aov, cpv, rfl, _⟩ := J8.out.att.at'
            go_loopw [14] (fun k wq => ∃ q : Nat, q ≤ acc.length ∧ k = .int .i64 (q : Int) ∧ Hid (∀ x ∈ acc.take q, ¬ (x.space = as1 ∧ x.name = as2)) ∧ Hid (ElIn w (w.heap.size + 1) bn sp nm (.slice (some ⟨b2, off2, none⟩) rest.length cp2) rest (.slice aB (scope ++ more).length cpB) (scope ++ more) (.slice aov acc.length cpv) acc wq) ∧ Hid (Cells wq ab 47 #[.string as1, .string as2, .string av])) (fun k _ => acc.length - (intOf k).toNat)
            case atStart => exact ⟨0, Nat.zero_le _, rfl, Lib.hid (by simp), J8, kA8⟩
            case round =>
              obtain ⟨q, hq, rfl, hnone, hJq, hkq⟩ := hrel
              clear J8 kA8
              obtain ⟨x0, x1, x2, x3, x4, x5⟩ := node_open hJq.out.n
              have p0 := hkq.out.cell (i := 0) (v := .string as1) rfl
              have p1 := hkq.out.cell (i := 1) (v := .string as2) rfl
              have p2 := hkq.out.cell (i := 2) (v := .string av) rfl
              by_cases hlq : q < acc.length
              · obtain ⟨_, _, e0, hat⟩ := hJq.out.att.at'
                cases e0
                have d1 := fun sp nm va e => hat.cells hlq (sp := sp) (nm := nm) (va := va) e
                have hstep : ¬ (acc[q].space = as1 ∧ acc[q].name = as2) → Hid (∀ x ∈ acc.take (q + 1), ¬ (x.space = as1 ∧ x.name = as2)) := fun h => Lib.hid (by
                  intro x hx
                  rw [List.take_succ_eq_append_getElem hlq] at hx
                  rcases List.mem_append.1 hx with hx | hx
                  · exact hnone.out x hx
                  · rw [List.mem_singleton.1 hx]; exact h)
                have hhit : acc[q].space = as1 → acc[q].name = as2 → Hid (Gv.element T0 scope = .error 71) := fun a b => hTwo ⟨acc[q], List.getElem_mem hlq, a, b⟩
                generalize acc[q] = u at *
                obtain ⟨b5, off5, rfl, r0, r1, r2⟩ := d1 u.space u.name u.value rfl
                clear d1 hat
                have hqi : (q : Int) < (acc.length : Int) := by omega
                have hqb : q < 1001 := by have := hrl.out; omega
                by_cases hs1 : u.space = as1
                · by_cases hs2 : u.name = as2
                  · have hg2 := hhit hs1 hs2
                    have g1 := sn_is hs1
                    have g2 := sn_is hs2
                    have g4 := congrArg ByteArray.toList hs1
                    have g5 := congrArg ByteArray.toList hs2
                    clear hs1 hs2 hstep hhit hTwo hMore hg
                    go_wp2_with fail
                    go_quiet (fail)
                    have J9 := hJq.out.on (Cells.below_drewN (Below.refl wr.heap.size wr) nq)
                    have f0 := J9.r.free 0
                    have f1 := J9.r.free 1
                    have f2 := J9.r.free 2
                    have f3 := J9.r.free 3
                    have f4 := J9.r.free 4
                    have f5 := J9.r.free 5
                    obtain ⟨y0, y1, y2, y3, y4, y5⟩ := node_open J9.r
                    have kR8 := Lib.hid (node_set rfl J9.r 0 ⟨#[]⟩ ⟨#[]⟩ ⟨#[]⟩ (.slice none 0 0) (.slice none 0 0))
                    have c8 := Lib.hid (six_below J9.low (show w.heap.size ≤ w.heap.size + 1 by omega) (.int .i64 0) (.string ⟨#[]⟩) (.string ⟨#[]⟩) (.slice none 0 0) (.slice none 0 0) (.string ⟨#[]⟩))
                    replace J9 := Lib.hid J9
                    go_wp2_with fail
                    exact elem_end (rb := w.heap.size + 1) rfl rfl rfl rfl kR8.out (elTold_err hg2.out rfl c8.out)
                  · have hst := hstep (fun e => hs2 e.2)
                    have g1 := sn_is hs1
                    have g2 := sn_isnt hs2
                    have g4 := congrArg ByteArray.toList hs1
                    have g5 := sn_prop hs2
                    clear hs1 hs2 hstep hhit hTwo hMore hg
                    go_wp2_with fail
                    go_quiet (fail)
                    have J9 := Lib.hid (hJq.out.on (Cells.below_drewN (Below.refl wr.heap.size wr) nq))
                    have k9 := Lib.hid (hkq.out.on (Cells.below_drewN (Below.refl wr.heap.size wr) nq))
                    go_wp2_with fail
                    go_roundw
                    case rel => exact ⟨q + 1, by omega, by go_num, hst, J9, k9⟩
                    case measure => simp [intOf] <;> omega
                · have hst := hstep (fun e => hs1 e.1)
                  have g1 := sn_isnt hs1
                  have g4 := sn_prop hs1
                  clear hs1 hstep hhit hTwo hMore hg
                  go_wp2_with fail
                  go_quiet (fail)
                  have J9 := Lib.hid (hJq.out.on (Cells.below_drewN (Below.refl wr.heap.size wr) nq))
                  have k9 := Lib.hid (hkq.out.on (Cells.below_drewN (Below.refl wr.heap.size wr) nq))
                  go_wp2_with fail
                  go_roundw
                  case rel => exact ⟨q + 1, by omega, by go_num, hst, J9, k9⟩
                  case measure => simp [intOf] <;> omega
              · have hall : ∀ x ∈ acc, ¬ (x.space = as1 ∧ x.name = as2) := by
                  have := hnone.out
                  rwa [List.take_of_length_le (by omega)] at this
                have hG2 := hMore hall
                clear hall hMore hTwo hnone
                have bB := (Below.refl wr.heap.size wr).alloc (Nat.le_refl _) (.cells #[.string as1, .string as2, .string av] 47)
                have J9 := Lib.hid (hJq.out.on bB)
                have hsz := Lib.hid J9.out.low.size
                have hr3 := hrl.out
                replace hacc := Lib.hid hacc
                clear hJq hkq
                go_wp2_with (at_builtin; refine wpList_append_own_at _ rfl _ _ 23 rfl w.heap.size 47 i0 _ 3 48 Tryz.underlying23 hi hz0 hz1 hz2 rfl (by decide) _ acc.length (acc.flatMap attCells) rfl J9.out.att ⟨wr.heap.size, 0, none⟩ 1 1 [.string as1, .string as2, .string av] rfl rfl (att_three _ _ _ _ _) (fun u hu => by simp at hu; rcases hu with rfl | rfl | rfl <;> rfl) (by have := hacc.out; unfold maxLen; omega) (by have := hacc.out; omega) hsz.out ?_)
                intro va2 wE hownE hgE _ _
                have J10 := Lib.hid (J9.out.more (a := ⟨as1, as2, av⟩) hownE hgE)
                have kE := J9.out.far hgE
                have z3 := kE.cell (i := 3) (v := .slice aov acc.length cpv) rfl
                have zf := kE.free 3
                clear hownE hgE
                obtain ⟨ao9, cp9, rfl, _⟩ := J10.out.att.at'
                rw [show (acc ++ [(⟨as1, as2, av⟩ : Gv.Att)]).length = acc.length + 1 by simp] at J10
                go_wp2_with fail
                go_roundw
                case rel => exact ⟨m + 1, acc ++ [⟨as1, as2, av⟩], _, by omega, by go_num, by have := hacc.out; simp; omega, hG2, J10⟩
                case measure => simp [intOf] <;> omega
        · have hend := Lib.hid (show Gv.element T0 scope = .ok ((sp, nm, acc), scope ++ more) by rw [hg.out, hG.out, List.drop_eq_nil_of_le (by omega)]; rfl)
          clear hG hg
          obtain ⟨ao9, cp9, rfl, _⟩ := hJ.out.att.at'
          obtain ⟨x0, x1, x2, x3, x4, x5⟩ := node_open hJ.out.n
          have f0 := hJ.out.r.free 0
          have f1 := hJ.out.r.free 1
          have f2 := hJ.out.r.free 2
          have f3 := hJ.out.r.free 3
          have f4 := hJ.out.r.free 4
          have f5 := hJ.out.r.free 5
          obtain ⟨y0, y1, y2, y3, y4, y5⟩ := node_open hJ.out.r
          have kR8 := Lib.hid (node_set rfl hJ.out.r 0 sp nm ⟨#[]⟩ (.slice ao9 acc.length cp9) (.slice none 0 0))
          have c8 := Lib.hid (six_below hJ.out.low (show w.heap.size ≤ w.heap.size + 1 by omega) (.int .i64 0) (.string sp) (.string nm) (.slice ao9 acc.length cp9) (.slice none 0 0) (.string ⟨#[]⟩))
          have o8 := Lib.hid (six_apart hJ.out.att hJ.out.r (by decide) (.int .i64 0) (.string sp) (.string nm) (.slice ao9 acc.length cp9) (.slice none 0 0) (.string ⟨#[]⟩))
          have i8 : Hid (OwnsPairs w.heap.size (.slice aB (scope.length + more.length) cpB) (scope ++ more) (sixSet wr (w.heap.size + 1) 0 (.int .i64 0) (.string sp) (.string nm) (.slice ao9 acc.length cp9) (.slice none 0 0) (.string ⟨#[]⟩))) := Lib.hid (by
            have e := six_apart hJ.out.sc hJ.out.r (by decide) (.int .i64 0) (.string sp) (.string nm) (.slice ao9 acc.length cp9) (.slice none 0 0) (.string ⟨#[]⟩)
            unfold OwnsPairs
            rw [← List.length_append]
            exact e)
          clear hJ
          go_wp2_with fail
          exact elem_end (rb := w.heap.size + 1) rfl rfl rfl rfl kR8.out (elTold_ok hend.out c8.out o8.out i8.out)
end Go.Proofs.YtcjlhdmekhifaaaGreatDoor
namespace Go.Proofs.YtcjlhdmekhifaaaGreatDoor
open Go.RowKit

/-- Rows that the call owns are a node. -/
theorem node_of_rows {S : Nat → Prop} {B : Nat} {w : World} {va vk : Value} {as' : List Gv.Att} {kids : List Gv.Node} {k : Int} {sp nm d : ByteArray} (ha : OwnsAtts B va as' w) (hk : OwnsKids S B vk kids w) (hS : ∀ b, B ≤ b → b < w.heap.size → S b) :
    NodeAt S w [.int .i64 (k : Int), .string sp, .string nm, va, vk, .string d] (.mk k sp nm as' kids d) := by
  obtain ⟨bo, cb, cs, rfl, hr, hn, hm, _⟩ := hk.rows hS
  obtain ⟨ao, ca, rfl, hat⟩ := ha.at'
  have hma : as'.length ≤ maxLen := by
    obtain ⟨_, ⟨h0, h1⟩ | ⟨g, cap, cur, h0, _, _, hk, hm, _⟩⟩ := ha
    · rw [h1]; exact Nat.zero_le _
    · exact Nat.le_trans hk hm
  exact .mk cs ⟨hma, hm⟩ (hat.mono fun b hb hl => hS b hb.1 hl) hr hn

namespace Gv
/-- The last kid holds no more than this. -/
def Light (B : Nat) (kids : List Node) : Prop := ∀ m, kids.getLast? = some m → m.data.size ≤ B
theorem light_nil (B : Nat) : Light B [] := fun m h => by cases h
theorem light_more {B : Nat} {kids : List Node} {n : Node} (h : n.data.size ≤ B) : Light B (kids ++ [n]) := fun m hm => by
  rw [List.getLast?_concat] at hm; cases hm; exact h
theorem Light.mono {B B' : Nat} {kids : List Node} (h : Light B kids) (hB : B ≤ B') : Light B' kids := fun m hm => Nat.le_trans (h m hm) hB
theorem text_data (d : ByteArray) : (text d).data = d := rfl
theorem light_grown {B D : Nat} {kids : List Node} {n : Node} (h : Light B kids) (hn : n.data.size ≤ D) : Light (B + D) (grown kids n) := by
  by_cases h0 : n.kind = 1 ∧ n.data = ByteArray.empty
  · unfold grown; rw [if_pos h0]; exact h.mono (by omega)
  · cases hl : kids.getLast? with
    | none =>
      rw [grown_add h0 (.inr (.inl (List.getLast?_eq_none_iff.1 hl)))]
      exact light_more (by omega)
    | some m =>
      by_cases h1 : n.kind = 1 ∧ m.kind = 1
      · rw [grown_join h0 h1.1 hl h1.2]
        have := h m hl
        exact light_more (by rw [text_data, ByteArray.size_append]; omega)
      · rw [grown_add h0 (by
          by_cases h2 : n.kind = 1
          · exact .inr (.inr ⟨m, hl, fun e => h1 ⟨h2, e⟩⟩)
          · exact .inl h2)]
        exact light_more (by omega)
theorem grown_len (kids : List Node) (n : Node) : (grown kids n).length ≤ kids.length + 1 := by
  unfold grown
  split
  · omega
  · split
    · split
      · simp
      · simp
    · simp
theorem leaf_data (t : T.Tok) : (leaf t).data.size = t.data.length := by
  rw [leaf_of]
  show (str t.data).size = _
  unfold str
  simp [ByteArray.size]
end Gv
end Go.Proofs.YtcjlhdmekhifaaaGreatDoor
namespace Go.Proofs.YtcjlhdmekhifaaaGreatDoor
open Go.RowKit

namespace Gv
theorem attrsGo_err {sc : List Pair} {e : Nat} : ∀ (l : List Pair) (acc : List Att), attrsGo sc acc l = .error e → e ≠ 0
  | [], acc, h => by unfold attrsGo at h; cases h
  | a :: l, acc, h => by
    unfold attrsGo at h
    split at h
    · cases h; omega
    · split at h
      · cases h; omega
      · exact attrsGo_err l _ h
theorem element_err {t : T.Tok} {scope : List Pair} {e : Nat} (h : element t scope = .error e) : e ≠ 0 := by
  unfold element at h
  split at h
  · cases h; omega
  · split at h
    · cases h; omega
    · split at h
      · cases h; omega
      · split at h
        · rename_i h2
          cases h
          exact attrsGo_err _ _ h2
        · cases h
theorem element_scope {t : T.Tok} {scope sc : List Pair} {sp nm : ByteArray} {as' : List Att} (h : element t scope = .ok ((sp, nm, as'), sc)) : sc.length ≤ scope.length + 50 := by
  unfold element at h
  split at h
  · cases h
  · rename_i h50
    split at h
    · cases h
    · rename_i more rest hd
      obtain ⟨hl, _⟩ := P.declGo_kept _ _ _ _ _ hd
      simp only [List.length_nil, List.length_map] at hl
      split at h
      · cases h
      · split at h
        · cases h
        · cases h
          rw [List.length_append]
          omega
end Gv

/-- THE ELEMENT'S TOKENS ARE TOLD: its node, in blocks that the call has laid, and how many tokens it has; or that there is no tree of what begins so. -/
def BodyTold (l : List T.Tok) (scope : List Pair) (depth : Nat) (w : World) (x : Ending) (w' : World) : Prop := Below w.heap.size w w' ∧
  ((∃ (c : List Value) (n : Gv.Node) (k : Nat), x = .returned (.tuple #[.agg c.toArray, .int .i64 (k : Int), .int .i64 0]) ∧ NodeAt (fun b => w.heap.size ≤ b) w' c n ∧ n.kind = 0 ∧ n.data = ByteArray.empty ∧
    ∀ (s : List Gv.Open) (r : Option Gv.Node), s.length + 1 = depth → Gv.scopeOf s = scope → (s ≠ [] ∨ r = none) → Gv.BodyOk s r l n k) ∨
  (∃ (k : Int) (e : Nat), x = .returned (.tuple #[.agg (nodeArr 0 ⟨#[]⟩ ⟨#[]⟩ (.slice none 0 0) (.slice none 0 0) ⟨#[]⟩), .int .i64 k, .int .i64 (e : Int)]) ∧ e ≠ 0 ∧
    ∀ (s : List Gv.Open) (r : Option Gv.Node), s.length + 1 = depth → Gv.scopeOf s = scope → (s ≠ [] ∨ r = none) → Gv.BodyBad s r l e))
theorem bodyTold_bad {l : List T.Tok} {scope : List Pair} {depth e : Nat} {k x : Int} {w w' : World} (hb : Below w.heap.size w w') (he : e ≠ 0) (hx : x = (e : Int))
    (h : ∀ (s : List Gv.Open) (r : Option Gv.Node), s.length + 1 = depth → Gv.scopeOf s = scope → (s ≠ [] ∨ r = none) → Gv.BodyBad s r l e) :
    BodyTold l scope depth w (.returned (.tuple #[.agg (nodeArr 0 ⟨#[]⟩ ⟨#[]⟩ (.slice none 0 0) (.slice none 0 0) ⟨#[]⟩), .int .i64 k, .int .i64 x])) w' := ⟨hb, .inr ⟨k, e, by rw [hx], he, h⟩⟩
theorem bodyTold_ok {l : List T.Tok} {scope : List Pair} {depth k : Nat} {x : Int} {w w' : World} {sp nm : ByteArray} {va vk : Value} {as' : List Gv.Att} {kids : List Gv.Node} (hb : Below w.heap.size w w') (hx : x = (k : Int))
    (ha : OwnsAtts w.heap.size va as' w') (hk : OwnsKids (fun b => w.heap.size ≤ b) w.heap.size vk kids w')
    (h : ∀ (s : List Gv.Open) (r : Option Gv.Node), s.length + 1 = depth → Gv.scopeOf s = scope → (s ≠ [] ∨ r = none) → Gv.BodyOk s r l (.mk 0 sp nm as' kids ByteArray.empty) k) :
    BodyTold l scope depth w (.returned (.tuple #[.agg (nodeArr 0 sp nm va vk ⟨#[]⟩), .int .i64 x, .int .i64 0])) w' :=
  ⟨hb, .inl ⟨[.int .i64 0, .string sp, .string nm, va, vk, .string ⟨#[]⟩], _, k, by rw [hx]; rfl, node_of_rows (k := 0) ha hk (fun _ h _ => h), rfl, rfl, h⟩⟩

/-- Tokens from one on lie in memory too. -/
theorem toks_from {w : World} {b off : Nat} {L : List (T.Tok × Value)} (h : ToksIn w (some ⟨b, off, none⟩) L) (i : Nat) : ToksIn w (some ⟨b, off + i * 5, none⟩) (L.drop i) := by
  intro j hj
  rw [List.length_drop] at hj
  obtain ⟨b', off', e, c, a⟩ := h (i + j) (by omega)
  cases e
  refine ⟨b, off + i * 5, rfl, fun k u hu => ?_, ?_⟩
  · rw [List.getElem_drop] at hu
    have := c k u hu
    rw [show off + i * 5 + j * 5 + k = off + (i + j) * 5 + k by omega]
    exact this
  · rw [List.getElem_drop]; exact a
end Go.Proofs.YtcjlhdmekhifaaaGreatDoor
