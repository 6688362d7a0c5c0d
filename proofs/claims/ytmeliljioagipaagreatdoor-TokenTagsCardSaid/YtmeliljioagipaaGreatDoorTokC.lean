/-
  What the reader's word of a start-tag has in memory: a token's box, the names so far in a map, the attributes in a row of its own.
  What the reader's word of a start-tag comes to.
  What the reader's word of the next token comes to.
  The deferred call that recovers: what it makes of a call that returns, and of one in which an error was thrown.
  What the tokens of a text have in memory while they are gone through: the row told so far, the number, the reader.
  What the program's Tokens comes to.
  What the program's Tokens comes to.
-/
import Derived.Test.YtmeliljioagipaaGreatDoorTokB
import Derived.Maps.Own
import Derived.Maps.Views
import Derived.Defers
import Derived.Deep.RegionHeld3
import Derived.Deep.AppendLies
namespace Go.Proofs.YtmeliljioagipaaGreatDoor
open Go.RowKit Go.Maps

/-- How an element of the map reads: that it is there. -/
def setR : Value → Option (DataW Unit × List MemPlace) := fun v => match v with | .agg xs => if xs.size = 0 then some (.lit (.bool true), []) else none | _ => none
theorem setR_inv {v : Value} {y : DataW Unit × List MemPlace} (h : setR v = some y) : v = .agg #[] ∧ y = (.lit (.bool true), []) := by
  unfold setR at h
  split at h
  · rename_i xs
    split at h
    · rename_i hx
      cases h
      have : xs = #[] := Array.eq_empty_of_size_eq_zero hx
      subst this
      exact ⟨rfl, rfl⟩
    · cases h
  · cases h
theorem zeroEmpty (w : World) : (zeroValue 68).run Tryz.prog w = .ok (.agg #[]) w := by kernel_rfl

/-- The names that the map has. -/
def Names (D : DataW Unit) (ps : List (List UInt8 × List UInt8)) : Prop := IsMap D ∧ ∀ l, D.atKey (.string l) (.lit (.bool false)) = .lit (.bool (ps.any fun x => decide (x.1 = l)))
theorem names_nil : Names (.map []) [] := ⟨isMap_empty, fun _ => rfl⟩
theorem names_put {D : DataW Unit} {ps : List (List UInt8 × List UInt8)} (h : Names D ps) (a : List UInt8 × List UInt8) : Names (D.put (.string a.1) (.lit (.bool true))) (ps ++ [a]) := by
  refine ⟨?_, fun l => ?_⟩
  · obtain ⟨es, rfl⟩ := h.1
    exact ⟨_, rfl⟩
  · by_cases hl : l = a.1
    · subst hl
      rw [atKey_put_same h.1 (show WideAt.IsKeyLit (.string a.1) from trivial)]
      simp
    · rw [atKey_put_other (by intro e; apply hl; injection e), h.2 l]
      simp [Ne.symm hl]
set_option maxRecDepth 100000 in
theorem look {wr : World} {k n : Nat} {D : DataW Unit} {ps : List (List UInt8 × List UInt8)} {s : ByteArray} (hs : s.size ≤ 1000000) (o : wr.ownsMap Tryz.prog 9 setR k n D) (hN : Names D ps) (c : Bool) (hc : (ps.any fun x => decide (x.1 = s.data.toList)) = c) :
    (Instr.lookup 66 (.map (some k)) (.string s) true).run Tryz.prog wr = .ok (.tuple #[.agg #[], .bool c]) wr := by
  have hat := hN.2 s.data.toList
  rw [hc] at hat
  obtain ⟨es, clock, hb, F, _, rfl⟩ := o
  rcases Maps.fit_look true keyed Tryz.underlying66 (zeroEmpty wr) hb F (keyOf_str s hs) with ⟨hrun, _, h⟩ | ⟨e0, y, _, _, hrun, hR, h, _⟩
  · rw [h] at hat
    injection hat with hat
    injection hat with hat
    rw [← hat]
    exact hrun
  · obtain ⟨e1, rfl⟩ := setR_inv hR
    rw [h] at hat
    injection hat with hat
    injection hat with hat
    rw [← hat]
    rw [e1] at hrun
    exact hrun

/-- What a row of attributes lies in is no other's block. -/
theorem row_apart {B : Nat} {v : Value} {l : List Pair} {w : World} {k : Nat} {o : Obj} (h : OwnsPairs B v l w) (hk : w.heap[k]? = some o) (hne : ∀ cs fr, o ≠ .cells cs 34 fr) : v.ownBlock = none ∨ v.ownBlock ≠ some k := by
  obtain ⟨_, ⟨rfl, _⟩ | ⟨g, cap, cur, rfl, hb, hh, _⟩⟩ := h
  · exact .inl rfl
  · right
    simp only [Value.ownBlock, ne_eq, Option.some.injEq]
    rintro rfl
    rw [hk] at hh
    cases hh
    exact hne _ _ rfl

/-- THE STATE of a start-tag's walk. -/
structure St (w : World) (b k3 k4 : Nat) (n s : ByteArray) (ps : List (List UInt8 × List UInt8)) (v : Value) (al : Bool) (D : DataW Unit) (wr : World) : Prop where
  rd : At b s wr
  res : Box5 wr w.heap.size (.int .i64 0) (.string ⟨#[]⟩) (.slice none 0 0) (.bool false) (.string ⟨#[]⟩)
  told : Box5 wr k3 (.int .i64 0) (.string n) v (.bool al) (.string ⟨#[]⟩)
  row : OwnsPairs w.heap.size v (ps.map mpair) wr
  map : wr.ownsMap Tryz.prog 9 setR k4 ps.length D
  names : Names D ps
  grown : w.grownBy wr (some b)
  lt : b < w.heap.size
  ord : w.heap.size < k3 ∧ k3 < k4

theorem St.on {w wr w1 : World} {b k3 k4 : Nat} {n s t : ByteArray} {ps : List (List UInt8 × List UInt8)} {v : Value} {al : Bool} {D : DataW Unit} (h : St w b k3 k4 n s ps v al D wr) (hA : At b t w1) (g : wr.grownBy w1 (some b)) : St w b k3 k4 n t ps v al D w1 := by
  have l1 := h.lt
  have l2 := h.ord
  exact ⟨hA, h.res.on g (by simp; omega), h.told.on g (by simp; omega), World.ownsRow.kept h.row g (row_apart h.row h.rd.box (by intro cs fr e; cases e)), h.map.kept g (by simp; omega), h.names, h.grown.trans g, l1, l2⟩
theorem St.below {w wr w1 : World} {b k3 k4 : Nat} {n s : ByteArray} {ps : List (List UInt8 × List UInt8)} {v : Value} {al : Bool} {D : DataW Unit} (h : St w b k3 k4 n s ps v al D wr) (hb : Below wr.heap.size wr w1) : St w b k3 k4 n s ps v al D w1 := h.on (h.rd.below hb) (grown_of_below hb _)
theorem St.alloc {w wr : World} {b k3 k4 : Nat} {n s : ByteArray} {ps : List (List UInt8 × List UInt8)} {v : Value} {al : Bool} {D : DataW Unit} (h : St w b k3 k4 n s ps v al D wr) (o : Obj) : St w b k3 k4 n s ps v al D (wr.alloc o) := h.below ((Below.refl _ _).alloc (Nat.le_refl _) o)
/-- Another block of the call's own, that is none of the state's, is written. -/
theorem St.aside {w wr w1 : World} {b k3 k4 j : Nat} {n s : ByteArray} {ps : List (List UInt8 × List UInt8)} {v : Value} {al : Bool} {D : DataW Unit} (h : St w b k3 k4 n s ps v al D wr) (g : wr.grownBy w1 (some j)) (hj : k4 < j) (hv : v.ownBlock = none ∨ v.ownBlock ≠ some j) : St w b k3 k4 n s ps v al D w1 := by
  have l1 := h.lt
  have l2 := h.ord
  exact ⟨h.rd.other g (by simp; omega) (fun k e => by cases e; omega), h.res.on g (by simp; omega), h.told.on g (by simp; omega), World.ownsRow.kept h.row g hv, h.map.kept g (by simp; omega), h.names, h.grown.andThen g (fun k e => by cases e; exact .inl (by omega)), l1, l2⟩
theorem box5_put3 {w : World} {k : Nat} {x0 x1 x2 x3 x4 : Value} (h : Box5 w k x0 x1 x2 x3 x4) (y : Value) : Box5 (w.setCell ⟨k, 3, none⟩ y) k x0 x1 x2 y x4 := by
  have := box_set (show w.heap[k]? = _ from h) 3 y
  exact this
theorem box5_put2 {w : World} {k : Nat} {x0 x1 x2 x3 x4 : Value} (h : Box5 w k x0 x1 x2 x3 x4) (y : Value) : Box5 (w.setCell ⟨k, 2, none⟩ y) k x0 x1 y x3 x4 := by
  have := box_set (show w.heap[k]? = _ from h) 2 y
  exact this
theorem St.alone {w wr : World} {b k3 k4 : Nat} {n s : ByteArray} {ps : List (List UInt8 × List UInt8)} {v : Value} {al : Bool} {D : DataW Unit} (h : St w b k3 k4 n s ps v al D wr) (c : Bool) : St w b k3 k4 n s ps v c D (wr.setCell ⟨k3, 3, none⟩ (.bool c)) := by
  have l1 := h.lt
  have l2 := h.ord
  have g := grown_setAny wr k3 3 (.bool c)
  exact ⟨h.rd.other g (by simp; omega) (fun k e => by cases e; omega), h.res.on g (by simp; omega), box5_put3 h.told _, World.ownsRow.kept h.row g (row_apart h.row h.told (by intro cs fr e; cases e)), h.map.kept g (by simp; omega), h.names, h.grown.andThen g (fun k e => by cases e; exact .inl (by omega)), l1, l2⟩
/-- A name is put into the map. -/
theorem St.put {w wr w1 : World} {b k3 k4 : Nat} {n s : ByteArray} {ps : List (List UInt8 × List UInt8)} {v : Value} {al : Bool} {D : DataW Unit} (h : St w b k3 k4 n s ps v al D wr) (g : wr.grownBy w1 (some k4)) :
    At b s w1 ∧ Box5 w1 w.heap.size (.int .i64 0) (.string ⟨#[]⟩) (.slice none 0 0) (.bool false) (.string ⟨#[]⟩) ∧ Box5 w1 k3 (.int .i64 0) (.string n) v (.bool al) (.string ⟨#[]⟩) ∧ OwnsPairs w.heap.size v (ps.map mpair) w1 ∧ w.grownBy w1 (some b) := by
  have l1 := h.lt
  have l2 := h.ord
  obtain ⟨es, clock, hb, _⟩ := h.map
  exact ⟨h.rd.other g (by simp; omega) (fun k e => by cases e; omega), h.res.on g (by simp; omega), h.told.on g (by simp; omega), World.ownsRow.kept h.row g (row_apart h.row hb (by intro cs fr e; cases e)), h.grown.andThen g (fun k e => by cases e; exact .inl (by omega))⟩
/-- An attribute is appended, its name being in the map already. -/
theorem st_append {w w1 w2 : World} {b k3 k4 : Nat} {n s : ByteArray} {ps : List (List UInt8 × List UInt8)} {v v2 : Value} {D : DataW Unit} {a : List UInt8 × List UInt8}
    (hA : At b s w1) (hr : Box5 w1 w.heap.size (.int .i64 0) (.string ⟨#[]⟩) (.slice none 0 0) (.bool false) (.string ⟨#[]⟩)) (ht : Box5 w1 k3 (.int .i64 0) (.string n) v (.bool false) (.string ⟨#[]⟩)) (ho : OwnsPairs w.heap.size v (ps.map mpair) w1)
    (hm : w1.ownsMap Tryz.prog 9 setR k4 (ps ++ [a]).length D) (hN : Names D (ps ++ [a])) (hg : w.grownBy w1 (some b)) (l1 : b < w.heap.size) (l2 : w.heap.size < k3 ∧ k3 < k4) (g : w1.grownBy w2 v.ownBlock) (ho2 : OwnsPairs w.heap.size v2 ((ps ++ [a]).map mpair) w2) :
    St w b k3 k4 n s (ps ++ [a]) v2 false D (w2.setCell ⟨k3, 2, none⟩ v2) := by
  have l3 : ∀ j, v.ownBlock = some j → w.heap.size ≤ j := fun j e => (World.ownsRow.lt ho j e).1
  have n1 := row_apart ho hA.box (by intro cs fr e; cases e)
  have n2 := row_apart ho hr (by intro cs fr e; cases e)
  have n3 := row_apart ho ht (by intro cs fr e; cases e)
  have n4 : v.ownBlock = none ∨ v.ownBlock ≠ some k4 := by
    obtain ⟨es, clock, hb, _⟩ := hm
    exact row_apart ho hb (by intro cs fr e; cases e)
  have ne : ∀ {j : Nat}, v.ownBlock = none ∨ v.ownBlock ≠ some j → some j ≠ v.ownBlock := by
    rintro j (h | h) e
    · rw [h] at e; cases e
    · exact h e.symm
  have h1 : At b s w2 := hA.other g (ne n1) (fun k e => by have := l3 k e; omega)
  have h2 := hr.on g (ne n2)
  have h3 := ht.on g (ne n3)
  have h4 := hm.kept g (ne n4)
  have h5 : w.grownBy w2 (some b) := hg.andThen g (fun k e => .inl (l3 k e))
  have g2 := grown_setAny w2 k3 2 v2
  exact ⟨h1.other g2 (by simp; omega) (fun k e => by cases e; omega), h2.on g2 (by simp; omega), box5_put2 h3 _, World.ownsRow.kept ho2 g2 (row_apart ho2 h3 (by intro cs fr e; cases e)), h4.kept g2 (by simp; omega), hN, h5.andThen g2 (fun k e => by cases e; exact .inl (by omega)), l1, l2⟩

/-- The tag is told. -/
theorem St.done {w wr : World} {b k3 k4 : Nat} {n s : ByteArray} {ps : List (List UInt8 × List UInt8)} {v : Value} {al : Bool} {D : DataW Unit} {g : T.Got} (h : St w b k3 k4 n s ps v al D wr) (hg : g = .ok (⟨0, n.data.toList, ps, al, []⟩, s.data.toList)) :
    Ans b w g (.returned (.agg #[.int .i64 0, .string n, v, .bool al, .string ⟨#[]⟩])) (set5 wr w.heap.size (.int .i64 0) (.string n) v (.bool al) (.string ⟨#[]⟩)) := by
  subst hg
  obtain ⟨a1, a2⟩ := told_set h.rd h.grown h.lt (.int .i64 0) (.string n) v (.bool al) (.string ⟨#[]⟩)
  exact ⟨s, rfl, v, rfl, World.ownsRow.kept h.row (grown_set5 _ _ _ _ _ _ _) (row_apart h.row h.res (by intro cs fr e; cases e)), a1, a2⟩

/-- How long what is left is. -/
def leftAt (b : Nat) (w : World) : Nat := match w.cell? ⟨b, 0, none⟩ with | some (.string s) => s.size | _ => 0
theorem At.left {b : Nat} {s : ByteArray} {w : World} (h : At b s w) : leftAt b w = s.size := by unfold leftAt; rw [h.cell]
end Go.Proofs.YtmeliljioagipaaGreatDoor
namespace Go.Proofs.YtmeliljioagipaaGreatDoor
open Go.RowKit Go.Maps

namespace T
theorem open_end {f : Nat} {n : List UInt8} {ps : List (List UInt8 × List UInt8)} {l r : List UInt8} (h : skip l = 62 :: r) : openGo (f + 1) n ps l = .ok (⟨0, n, ps, false, []⟩, r) := by
  unfold openGo; rw [h]; rfl
theorem open_alone {f : Nat} {n : List UInt8} {ps : List (List UInt8 × List UInt8)} {l r : List UInt8} (h : skip l = [47, 62] ++ r) : openGo (f + 1) n ps l = .ok (⟨0, n, ps, true, []⟩, r) := by
  unfold openGo; rw [h]; rfl
theorem open_next {f : Nat} {n : List UInt8} {ps : List (List UInt8 × List UInt8)} {l : List UInt8} (h1 : begins [47, 62] (skip l) = false) (h2 : begins [62] (skip l) = false) :
    openGo (f + 1) n ps l = if (skip l).length = l.length then .error 70 else match attr (skip l) with | .error e => .error e | .ok (a, more) => if ps.any (fun x => decide (x.1 = a.1)) then .error 71 else openGo f n (ps ++ [a]) more := by
  rw [openGo]
  split
  · rename_i r h
    rw [h, begins_cons] at h2; cases h2
  · rename_i r h
    rw [h] at h1
    have : begins [47, 62] (47 :: 62 :: r) = true := begins_iff.2 ⟨r, rfl⟩
    rw [this] at h1; cases h1
  · rfl
theorem open_tight {f : Nat} {n : List UInt8} {ps : List (List UInt8 × List UInt8)} {l : List UInt8} (h1 : begins [47, 62] (skip l) = false) (h2 : begins [62] (skip l) = false) (h : ¬ (skip l).length < l.length) : openGo (f + 1) n ps l = .error 70 := by
  have := skip_le l
  rw [open_next h1 h2, if_pos (by omega)]
theorem open_err {f e : Nat} {n : List UInt8} {ps : List (List UInt8 × List UInt8)} {l : List UInt8} (h1 : begins [47, 62] (skip l) = false) (h2 : begins [62] (skip l) = false) (h : (skip l).length < l.length) (ha : attr (skip l) = .error e) : openGo (f + 1) n ps l = .error e := by
  rw [open_next h1 h2, if_neg (by omega), ha]
theorem open_twice {f : Nat} {n : List UInt8} {ps : List (List UInt8 × List UInt8)} {l more : List UInt8} {a : List UInt8 × List UInt8} (h1 : begins [47, 62] (skip l) = false) (h2 : begins [62] (skip l) = false) (h : (skip l).length < l.length) (ha : attr (skip l) = .ok (a, more)) (hp : (ps.any fun x => decide (x.1 = a.1)) = true) : openGo (f + 1) n ps l = .error 71 := by
  rw [open_next h1 h2, if_neg (by omega), ha]
  simp only
  rw [if_pos hp]
theorem open_more {f : Nat} {n : List UInt8} {ps : List (List UInt8 × List UInt8)} {l more : List UInt8} {a : List UInt8 × List UInt8} (h1 : begins [47, 62] (skip l) = false) (h2 : begins [62] (skip l) = false) (h : (skip l).length < l.length) (ha : attr (skip l) = .ok (a, more)) (hp : (ps.any fun x => decide (x.1 = a.1)) = false) : openGo (f + 1) n ps l = openGo f n (ps ++ [a]) more := by
  rw [open_next h1 h2, if_neg (by omega), ha]
  simp only
  rw [if_neg (by rw [hp]; decide)]
theorem opened_none {l : List UInt8} (h : nameAt l = none) : opened l = .error 70 := by unfold opened; rw [h]
theorem opened_some {l n rest : List UInt8} (h : nameAt l = some (n, rest)) : opened l = openGo (rest.length + 1) n [] rest := by unfold opened; rw [h]
end T

set_option maxRecDepth 100000 in
set_option maxHeartbeats 6400000 in
theorem start_any (b : Nat) (s : ByteArray) (w : World) (h : At b s w) :
    Calls Tryz.prog 35 #[.pointer (some ⟨b, 0, none⟩)] w (Ans b w (T.opened s.data.toList)) := by
  have g0 := World.grownBy_alloc w (.cells #[.int .i64 0, .string ⟨#[]⟩, .slice none 0 0, .bool false, .string ⟨#[]⟩] 29) (some b)
  have hA := h.below ((Below.refl w.heap.size w).alloc (Nat.le_refl _) (.cells #[.int .i64 0, .string ⟨#[]⟩, .slice none 0 0, .bool false, .string ⟨#[]⟩] 29))
  have bx := Box5.new w
  have hb := h.lt
  have hsm := h.small
  have hne : some w.heap.size ≠ some b := by simp; omega
  have hmm := @run_makeMap Tryz.prog
  clear h
  cases hn : T.nameAt s.data.toList with
  | none =>
    have hr := Lib.hid (T.opened_none hn)
    have c1 := fun w h => name_no b s w h hn
    clear hn
    go_enter Tryz.func35, Tryz.ntmps35
    go_wp2_with fail
    (with_reducible refine (c1 _ hA).mono ?_); rintro e w1 ⟨rfl, g1⟩
    exact ⟨rfl, ans_no hr.out (g0.trans g1)⟩
  | some x =>
    obtain ⟨ln, lr⟩ := x
    obtain ⟨n, rfl⟩ := bytes_of ln
    obtain ⟨s1, rfl⟩ := bytes_of lr
    have hop := Lib.hid (T.opened_some hn)
    have c1 := fun w h => name_ok b s n s1 w h hn
    clear hn
    go_enter Tryz.func35, Tryz.ntmps35
    go_wp2_with fail
    (with_reducible refine (c1 _ hA).mono ?_); rintro e w1 ⟨rfl, h1, g1⟩
    have k1 := bx.on g1 hne
    have g2 := g0.trans g1
    clear bx hA g0 g1
    go_wp2_with fail
    have hS0 : St w b w1.heap.size (w1.heap.size + 1) n s1 [] (.slice none 0 0) false (.map []) ((w1.alloc (.cells #[.int .i64 0, .string n, .slice none 0 0, .bool false, .string ⟨#[]⟩] 29)).alloc (.map #[] 0)) := by
      have ga : w1.grownBy ((w1.alloc (.cells #[.int .i64 0, .string n, .slice none 0 0, .bool false, .string ⟨#[]⟩] 29)).alloc (.map #[] 0)) none := (World.grownBy_alloc w1 _ none).trans (World.grownBy_alloc _ _ none)
      have hm := World.ownsMap_made (w1.alloc (.cells #[.int .i64 0, .string n, .slice none 0 0, .bool false, .string ⟨#[]⟩] 29)) Tryz.prog 9 setR
      rw [show (w1.alloc (.cells #[.int .i64 0, .string n, .slice none 0 0, .bool false, .string ⟨#[]⟩] 29)).heap.size = w1.heap.size + 1 by simp] at hm
      refine ⟨h1.other ga (by simp) (fun k e => by cases e), k1.on ga (by simp), Box5.on (heap_alloc_new w1 _) (World.grownBy_alloc _ _ none) (by simp), pairs_nil _ _, hm, names_nil, g2.trans (ga.but _), hb, k1.lt, Nat.lt_succ_self _⟩
    have hsm1 := h1.small
    clear k1 g2 h1 hne hmm
    go_loopw [5] (fun _ wr => ∃ (sr : ByteArray) (ps : List (List UInt8 × List UInt8)) (v : Value) (D : DataW Unit) (f : Nat), Hid (T.opened s.data.toList = T.openGo f n.data.toList ps sr.data.toList) ∧ sr.size < f ∧ ps.length + sr.size ≤ 1000000 ∧ Hid (St w b w1.heap.size (w1.heap.size + 1) n sr ps v false D wr)) (fun _ wr => leftAt b wr)
    case atStart => exact ⟨s1, [], _, _, _, hop, by rw [list_len]; exact Nat.lt_succ_self _, by simpa using hsm1, Lib.hid hS0⟩
    case round =>
      obtain ⟨sr, ps, v, D, f, hop, hf, hps, hS⟩ := hrel
      obtain ⟨f, rfl⟩ : ∃ g, f = g + 1 := ⟨f - 1, by omega⟩
      have hleft := hS.out.rd.left
      obtain ⟨s2, hs2⟩ := bytes_of (T.skip sr.data.toList)
      have hs2z := skip_size hs2
      have hlen : (T.skip sr.data.toList).length < sr.data.toList.length ↔ s2.size < sr.size := by rw [← hs2, list_len, list_len]
      have c1 := fun w h z hz => space_is b sr s2 w h hs2 z hz
      obtain ⟨z, hz⟩ : ∃ z, decide (s2.size < sr.size) = z := ⟨_, rfl⟩
      have c2 := c1 wr hS.out.rd z hz
      clear c1 hS0
      cases hal : T.begins [47, 62] s2.data.toList with
      | true =>
        obtain ⟨l3, h3⟩ := T.begins_iff.1 hal
        obtain ⟨s3, rfl⟩ := bytes_of l3
        have hr := Lib.hid (hop.out.trans (T.open_alone (by rw [← hs2]; exact h3.symm)))
        have c3 := fun w h => takes_yes b s2 s3 ⟨#[47, 62]⟩ w h h3
        clear hal h3 hs2 hop hz hlen
        go_wp2_with fail
        (with_reducible refine c2.mono ?_); rintro e w2 ⟨rfl, h2, g2⟩
        go_wp2_with fail
        (with_reducible refine (c3 _ h2).mono ?_); rintro e w3 ⟨rfl, h3, g3⟩
        have hS2 := (hS.out.on h2 g2).on h3 g3
        have hS3 := hS2.alone true
        have e3 := hS2.told.c3
        have z3 := hS2.told.free 3
        clear hS2
        have bA := hS3.told
        have bB := hS3.res
        obtain ⟨ao, cap, hv, -⟩ := pairs_of_owns hS3.row
        rw [List.length_map] at hv
        subst hv
        have d0 := bA.c0
        have d1 := bA.c1
        have d2 := bA.c2
        have d3 := bA.c3
        have d4 := bA.c4
        have r0 := bB.c0
        have r1 := bB.c1
        have r2 := bB.c2
        have r3 := bB.c3
        have r4 := bB.c4
        have f0 := bB.free 0
        have f1 := bB.free 1
        have f2 := bB.free 2
        have f3 := bB.free 3
        have f4 := bB.free 4
        replace bB := Lib.hid bB
        replace hS3 := Lib.hid hS3
        clear bA
        go_wp2_with fail
        exact tok_end rfl rfl (bB.out.set _ _ _ _ _) (hS3.out.done hr.out)
      | false =>
        have c3 := fun w h => takes_no b s2 ⟨#[47, 62]⟩ w h hal
        rw [hs2] at hal
        cases hen : T.begins [62] s2.data.toList with
        | true =>
          obtain ⟨l3, h3⟩ := T.begins_one hen
          obtain ⟨s3, rfl⟩ := bytes_of l3
          have hr := Lib.hid (hop.out.trans (T.open_end (by rw [← hs2]; exact h3)))
          have c4 := fun w h => takes_yes b s2 s3 ⟨#[62]⟩ w h (by rw [h3]; rfl)
          clear hal hen h3 hs2 hop hz hlen
          go_wp2_with fail
          (with_reducible refine c2.mono ?_); rintro e w2 ⟨rfl, h2, g2⟩
          go_wp2_with fail
          (with_reducible refine (c3 _ h2).mono ?_); rintro e w3 ⟨rfl, h3, g3⟩
          have hS2 := (hS.out.on h2 g2).on h3 g3
          have hS4 := hS2.alone false
          have e3 := hS2.told.c3
          have z3 := hS2.told.free 3
          clear hS2
          go_wp2_with fail
          (with_reducible refine (c4 _ hS4.rd).mono ?_); rintro e w4 ⟨rfl, h4, g4⟩
          have hS3 := hS4.on h4 g4
          clear hS4
          have bA := hS3.told
          have bB := hS3.res
          obtain ⟨ao, cap, hv, -⟩ := pairs_of_owns hS3.row
          rw [List.length_map] at hv
          subst hv
          have d0 := bA.c0
          have d1 := bA.c1
          have d2 := bA.c2
          have d3 := bA.c3
          have d4 := bA.c4
          have r0 := bB.c0
          have r1 := bB.c1
          have r2 := bB.c2
          have r3 := bB.c3
          have r4 := bB.c4
          have f0 := bB.free 0
          have f1 := bB.free 1
          have f2 := bB.free 2
          have f3 := bB.free 3
          have f4 := bB.free 4
          replace bB := Lib.hid bB
          replace hS3 := Lib.hid hS3
          clear bA
          go_wp2_with fail
          exact tok_end rfl rfl (bB.out.set _ _ _ _ _) (hS3.out.done hr.out)
        | false =>
          have c4 := fun w h => takes_no b s2 ⟨#[62]⟩ w h hen
          rw [hs2] at hen
          have hlt := hlen.2
          cases z with
          | false =>
            have hr := Lib.hid (hop.out.trans (T.open_tight hal hen (fun e => of_decide_eq_false hz (hlen.1 e))))
            clear hal hen hs2 hop hz hlen hlt
            go_wp2_with fail
            (with_reducible refine c2.mono ?_); rintro e w2 ⟨rfl, h2, g2⟩
            go_wp2_with fail
            (with_reducible refine (c3 _ h2).mono ?_); rintro e w3 ⟨rfl, h3, g3⟩
            have hS2 := (hS.out.on h2 g2).on h3 g3
            have hS4 := hS2.alone false
            have e3 := hS2.told.c3
            have z3 := hS2.told.free 3
            clear hS2
            go_wp2_with fail
            (with_reducible refine (c4 _ hS4.rd).mono ?_); rintro e w4 ⟨rfl, h4, g4⟩
            have hS3 := hS4.on h4 g4
            clear hS4
            go_wp2_with fail
            (with_reducible refine (insist_no _).mono ?_); rintro e w5 ⟨rfl, rfl⟩
            exact ⟨rfl, ans_no hr.out hS3.grown⟩
          | true =>
            replace hlt := hlt (of_decide_eq_true hz)
            have c5 := fun w h => attribute_any b s2 w h
            rw [hs2] at c5
            cases hat : T.attr (T.skip sr.data.toList) with
            | error q =>
              rw [hat] at c5
              have hr := Lib.hid (hop.out.trans (T.open_err hal hen hlt hat))
              clear hal hen hs2 hop hz hlen hlt hat
              go_wp2_with fail
              (with_reducible refine c2.mono ?_); rintro e w2 ⟨rfl, h2, g2⟩
              go_wp2_with fail
              (with_reducible refine (c3 _ h2).mono ?_); rintro e w3 ⟨rfl, h3, g3⟩
              have hS2 := (hS.out.on h2 g2).on h3 g3
              have hS4 := hS2.alone false
              have e3 := hS2.told.c3
              have z3 := hS2.told.free 3
              clear hS2
              go_wp2_with fail
              (with_reducible refine (c4 _ hS4.rd).mono ?_); rintro e w4 ⟨rfl, h4, g4⟩
              have hS3 := hS4.on h4 g4
              clear hS4
              go_wp2_with fail
              (with_reducible refine (insist_yes _).mono ?_); rintro e w5 ⟨rfl, rfl⟩
              go_wp2_with fail
              (with_reducible refine (c5 _ h4).mono ?_); rintro e w5 ⟨rfl, g5⟩
              exact ⟨rfl, ans_no hr.out (hS3.grown.trans g5)⟩
            | ok x =>
              obtain ⟨a, more⟩ := x
              rw [hat] at c5
              have hmore := (T.attr_append hat []).2
              rw [← hs2, list_len] at hmore
              have hop1 := fun hp => Lib.hid (hop.out.trans (T.open_twice hal hen hlt hat hp))
              have hop2 := fun hp => Lib.hid (hop.out.trans (T.open_more hal hen hlt hat hp))
              clear hal hen hs2 hop hz hlen hlt hat
              go_wp2_with fail
              (with_reducible refine c2.mono ?_); rintro e w2 ⟨rfl, h2, g2⟩
              go_wp2_with fail
              (with_reducible refine (c3 _ h2).mono ?_); rintro e w3 ⟨rfl, h3, g3⟩
              have hS2 := (hS.out.on h2 g2).on h3 g3
              have hS4 := hS2.alone false
              have e3 := hS2.told.c3
              have z3 := hS2.told.free 3
              clear hS2
              go_wp2_with fail
              (with_reducible refine (c4 _ hS4.rd).mono ?_); rintro e w4 ⟨rfl, h4, g4⟩
              have hS3 := hS4.on h4 g4
              clear hS4 c2 c3 c4 g2 g3 g4 e3 z3
              go_wp2_with fail
              (with_reducible refine (insist_yes _).mono ?_); rintro e w5 ⟨rfl, rfl⟩
              go_wp2_with fail
              (with_reducible refine (c5 _ h4).mono ?_); rintro e w5 ⟨an, av, s3, ha1, ha2, hm, hans, rfl, h5, g5⟩
              have hS5 := hS3.on h5 g5
              have hS6 := hS5.alloc (.cells #[.string an, .string av] 34)
              have hS7 := hS6.alloc (.cells #[] 68)
              clear hS3 h2 h3 h4 g5 c5
              dsimp only at ha1 ha2 hm
              have han : a = (an.data.toList, av.data.toList) := by rw [ha1, ha2]
              subst han
              rw [← hm, list_len] at hmore
              rw [← hm] at hop2
              clear ha1 ha2 hm
              cases hp : (ps.any fun x => decide (x.1 = an.data.toList)) with
              | true =>
                have hr := hop1 hp
                have lk := look hans hS6.map hS6.names true hp
                have hg7 := hS7.grown
                clear hS5 hS6 hS7 h5 hop1 hop2 hp
                go_wp2_with fail
                exact ⟨rfl, ans_no hr.out hg7⟩
              | false =>
                have hopn := hop2 hp
                have lk := look hans hS6.map hS6.names false hp
                have hk5 := hS5.map.lt
                have hk6 : ((w5.alloc (.cells #[.string an, .string av] 34)).alloc (.cells #[] 68)).heap[w5.heap.size]? = some (.cells #[.string an, .string av] 34 (0, 0)) := (World.grownBy_alloc _ _ none).block _ (by simp) (by simp) |>.trans (heap_alloc_new w5 _)
                obtain ⟨w6, hup, hmap, hg6⟩ := hS7.map.update keyed Tryz.underlying66 (by unfold maxLen; omega) (key := .string an) (val := .agg #[]) (keyOf_str an hans) (show setR (.agg #[]) = some (.lit (.bool true), []) from rfl)
                obtain ⟨p1, p2, p3, p4, p5⟩ := hS7.put hg6
                have hN := names_put hS7.names (an.data.toList, av.data.toList)
                have l1 := hS7.lt
                have l2 := hS7.ord
                have hk7 : w6.heap[w5.heap.size]? = some (.cells #[.string an, .string av] 34 (0, 0)) := (hg6.block _ (Array.getElem?_eq_some_iff.1 hk6).1 (by simp; omega)).trans hk6
                have q0 : w6.cell? ⟨w5.heap.size, 0, none⟩ = some (.string an) := by unfold World.cell?; rw [hk7]; rfl
                have q1 : w6.cell? ⟨w5.heap.size, 1, none⟩ = some (.string av) := by unfold World.cell?; rw [hk7]; rfl
                have d2 := p3.c2
                clear hS5 hS6 hS7 h5 hop1 hop2 hp hk6 hk7 hg6
                obtain ⟨i0, hi, hz0, hz1, hz2⟩ := info_parts infoPair
                have hlm : (ps.map mpair).length = ps.length := List.length_map ..
                go_wp2_with (at_builtin; refine wpList_append_own_at _ rfl _ _ 27 rfl w.heap.size 34 i0 _ 2 32 Tryz.underlying27 hi hz0 hz1 hz2 rfl (by decide) _ _ _ rfl (pairs_alloc p4 _) ⟨w6.heap.size, 0, none⟩ 1 1 [.string an, .string av] rfl rfl (cells_two _ _ _ _) (fun u hu => by simp at hu; rcases hu with rfl | rfl <;> rfl) (by unfold maxLen; omega) (by omega) (by have := p5.size; simp; omega) ?_)
                intro v6 w7 hown7 hg7 _ _
                have hga : w6.grownBy w7 v.ownBlock := (World.grownBy_alloc w6 _ _).trans hg7
                have ho2 : OwnsPairs w.heap.size v6 ((ps ++ [(an.data.toList, av.data.toList)]).map mpair) w7 := by
                  unfold OwnsPairs
                  simpa [pairCells, mpair] using hown7
                have hSn := st_append p1 p2 p3 p4 (by rw [List.length_append]; exact hmap) hN p5 l1 l2 hga ho2
                have x3 := p3.on hga (by
                  rcases row_apart p4 p3 (by intro cs fr e; cases e) with h | h
                  · rw [h]; simp
                  · exact fun e => h e.symm)
                have x2 := x3.c2
                have y2 := x3.free 2
                obtain ⟨ao, cap, hv6, -⟩ := pairs_of_owns ho2
                rw [List.length_map, List.length_append, List.length_singleton] at hv6
                subst hv6
                have hfin := hSn.rd.left
                replace hSn := Lib.hid hSn
                have hsz3 := hmore
                clear p1 p2 p3 p4 hown7 hg7 hga ho2 x3 hmap hN d2
                go_wp2_with fail
                go_roundw
                case rel => exact ⟨s3, _, _, _, f, hopn, by omega, by rw [List.length_append, List.length_singleton]; omega, hSn⟩
                case measure => rw [hfin, hleft]; omega
end Go.Proofs.YtmeliljioagipaaGreatDoor
namespace Go.Proofs.YtmeliljioagipaaGreatDoor
open Go.RowKit

namespace T
theorem begins_app (p r : List UInt8) : begins p (p ++ r) = true := begins_iff.2 ⟨r, rfl⟩
theorem no_neg {b : Bool} (h : b = false) : ¬ b = true := by rw [h]; decide
theorem nx0 {l r : List UInt8}  (h : [60, 33, 45, 45] ++ r = l) : next false l = comment r := by
  have hb : begins [60, 33, 45, 45] l = true := begins_iff.2 ⟨r, h⟩
  have hd : l.drop 4 = r := by rw [← h]; rfl
  unfold next
  rw [if_neg (by simp), if_pos hb, hd]
theorem nx1 {l r : List UInt8} (n0 : begins [60, 33, 45, 45] l = false) (h : [60, 33, 91, 67, 68, 65, 84, 65, 91] ++ r = l) : next false l = cdata r := by
  have hb : begins [60, 33, 91, 67, 68, 65, 84, 65, 91] l = true := begins_iff.2 ⟨r, h⟩
  have hd : l.drop 9 = r := by rw [← h]; rfl
  unfold next
  rw [if_neg (by simp), if_neg (no_neg n0), if_pos hb, hd]
theorem nx2 {l r : List UInt8} (n0 : begins [60, 33, 45, 45] l = false) (n1 : begins [60, 33, 91, 67, 68, 65, 84, 65, 91] l = false) (h : [60, 33, 68, 79, 67, 84, 89, 80, 69] ++ r = l) : next false l = .error 72 := by
  have hb : begins [60, 33, 68, 79, 67, 84, 89, 80, 69] l = true := begins_iff.2 ⟨r, h⟩
  unfold next
  rw [if_neg (by simp), if_neg (no_neg n0), if_neg (no_neg n1), if_pos hb]
theorem nx3 {l r : List UInt8} (n0 : begins [60, 33, 45, 45] l = false) (n1 : begins [60, 33, 91, 67, 68, 65, 84, 65, 91] l = false) (n2 : begins [60, 33, 68, 79, 67, 84, 89, 80, 69] l = false) (h : [60, 33] ++ r = l) : next false l = .error 70 := by
  have hb : begins [60, 33] l = true := begins_iff.2 ⟨r, h⟩
  unfold next
  rw [if_neg (by simp), if_neg (no_neg n0), if_neg (no_neg n1), if_neg (no_neg n2), if_pos hb]
theorem nx4 {l r : List UInt8} (n0 : begins [60, 33, 45, 45] l = false) (n1 : begins [60, 33, 91, 67, 68, 65, 84, 65, 91] l = false) (n2 : begins [60, 33, 68, 79, 67, 84, 89, 80, 69] l = false) (n3 : begins [60, 33] l = false) (h : [60, 63] ++ r = l) : next false l = pi r := by
  have hb : begins [60, 63] l = true := begins_iff.2 ⟨r, h⟩
  have hd : l.drop 2 = r := by rw [← h]; rfl
  unfold next
  rw [if_neg (by simp), if_neg (no_neg n0), if_neg (no_neg n1), if_neg (no_neg n2), if_neg (no_neg n3), if_pos hb, hd]
theorem nx5 {l r : List UInt8} (n0 : begins [60, 33, 45, 45] l = false) (n1 : begins [60, 33, 91, 67, 68, 65, 84, 65, 91] l = false) (n2 : begins [60, 33, 68, 79, 67, 84, 89, 80, 69] l = false) (n3 : begins [60, 33] l = false) (n4 : begins [60, 63] l = false) (h : [60, 47] ++ r = l) : next false l = shut r := by
  have hb : begins [60, 47] l = true := begins_iff.2 ⟨r, h⟩
  have hd : l.drop 2 = r := by rw [← h]; rfl
  unfold next
  rw [if_neg (by simp), if_neg (no_neg n0), if_neg (no_neg n1), if_neg (no_neg n2), if_neg (no_neg n3), if_neg (no_neg n4), if_pos hb, hd]
theorem nx6 {l r : List UInt8} (n0 : begins [60, 33, 45, 45] l = false) (n1 : begins [60, 33, 91, 67, 68, 65, 84, 65, 91] l = false) (n2 : begins [60, 33, 68, 79, 67, 84, 89, 80, 69] l = false) (n3 : begins [60, 33] l = false) (n4 : begins [60, 63] l = false) (n5 : begins [60, 47] l = false) (h : [60] ++ r = l) : next false l = opened r := by
  have hb : begins [60] l = true := begins_iff.2 ⟨r, h⟩
  have hd : l.drop 1 = r := by rw [← h]; rfl
  unfold next
  rw [if_neg (by simp), if_neg (no_neg n0), if_neg (no_neg n1), if_neg (no_neg n2), if_neg (no_neg n3), if_neg (no_neg n4), if_neg (no_neg n5), if_pos hb, hd]
theorem nx7 {l : List UInt8} (n0 : begins [60, 33, 45, 45] l = false) (n1 : begins [60, 33, 91, 67, 68, 65, 84, 65, 91] l = false) (n2 : begins [60, 33, 68, 79, 67, 84, 89, 80, 69] l = false) (n3 : begins [60, 33] l = false) (n4 : begins [60, 63] l = false) (n5 : begins [60, 47] l = false) (n6 : begins [60] l = false) : next false l = text l := by
  unfold next
  rw [if_neg (by simp), if_neg (no_neg n0), if_neg (no_neg n1), if_neg (no_neg n2), if_neg (no_neg n3), if_neg (no_neg n4), if_neg (no_neg n5), if_neg (no_neg n6)]
end T

theorem ownsPairs_base {B B' : Nat} {v : Value} {l : List Pair} {w : World} (h : OwnsPairs B' v l w) (hB : B ≤ B') : OwnsPairs B v l w := by
  obtain ⟨a, h0 | ⟨g, cap, cur, rfl, hb, r⟩⟩ := h
  · exact ⟨a, .inl h0⟩
  · exact ⟨a, .inr ⟨g, cap, cur, rfl, Nat.le_trans hB hb, r⟩⟩
/-- What another word told is told on. -/
theorem ans_pass {b : Nat} {w w1 wn : World} {g : T.Got} {k : T.Tok} {t : ByteArray} {v : Value} (hg : g = .ok (k, t.data.toList)) (hov : OwnsPairs w1.heap.size v (k.attrs.map mpair) wn) (hsz : w.heap.size ≤ w1.heap.size) (hA : At b t wn) (gr : w.grownBy wn (some b)) (hb : b < w.heap.size)
    {y0 y1 y2 y3 y4 : Value} (bx : Box5 wn w.heap.size y0 y1 y2 y3 y4) :
    Ans b w g (.returned (.agg #[.int .i64 (k.kind : Int), .string ⟨k.name.toArray⟩, v, .bool k.alone, .string ⟨k.data.toArray⟩])) (set5 wn w.heap.size (.int .i64 (k.kind : Int)) (.string ⟨k.name.toArray⟩) v (.bool k.alone) (.string ⟨k.data.toArray⟩)) := by
  subst hg
  obtain ⟨a1, a2⟩ := told_set hA gr hb (.int .i64 (k.kind : Int)) (.string ⟨k.name.toArray⟩) v (.bool k.alone) (.string ⟨k.data.toArray⟩)
  exact ⟨t, rfl, v, rfl, World.ownsRow.kept (ownsPairs_base hov hsz) (grown_set5 _ _ _ _ _ _ _) (row_apart hov bx (by intro cs fr e; cases e)), a1, a2⟩

set_option maxRecDepth 100000 in
set_option maxHeartbeats 12800000 in
theorem token_any (b : Nat) (s : ByteArray) (w : World) (h : At b s w) :
    Calls Tryz.prog 19 #[.pointer (some ⟨b, 0, none⟩)] w (Ans b w (T.next false s.data.toList)) := by
  have g0 := World.grownBy_alloc w (.cells #[.int .i64 0, .string ⟨#[]⟩, .slice none 0 0, .bool false, .string ⟨#[]⟩] 29) (some b)
  have hA := h.below ((Below.refl w.heap.size w).alloc (Nat.le_refl _) (.cells #[.int .i64 0, .string ⟨#[]⟩, .slice none 0 0, .bool false, .string ⟨#[]⟩] 29))
  have bx := Box5.new w
  have hb := h.lt
  have hsm := h.small
  have hne : some w.heap.size ≠ some b := by simp; omega
  clear h
  cases n0 : T.begins [60, 33, 45, 45] s.data.toList with
  | true =>
    obtain ⟨l0, e0⟩ := T.begins_iff.1 n0
    obtain ⟨t0, rfl⟩ := bytes_of l0
    have hx := T.nx0  e0
    have y0 := fun w h => takes_yes b s t0 ⟨#[60, 33, 45, 45]⟩ w h e0
    clear  n0 e0
    cases hq : T.comment t0.data.toList with
    | error q =>
      have hr := Lib.hid ((hx).trans hq)
      have c := fun w h => comment_any b t0 w h
      rw [hq] at c
      clear hq hx
      go_enter Tryz.func19, Tryz.ntmps19
      go_wp2_with fail
      (with_reducible refine (y0 _ hA).mono ?_); rintro e w1 ⟨rfl, h1, g1⟩
      go_wp2_with fail
      (with_reducible refine (c _ h1).mono ?_); rintro e w2 ⟨rfl, g2⟩
      exact ⟨rfl, ans_no hr.out ((g0.trans g1).trans g2)⟩
    | ok x =>
      obtain ⟨k, lt⟩ := x
      have hr := (hx).trans hq
      have c := fun w h => comment_any b t0 w h
      rw [hq] at c
      clear hq hx
      go_enter Tryz.func19, Tryz.ntmps19
      go_wp2_with fail
      (with_reducible refine (y0 _ hA).mono ?_); rintro e w1 ⟨rfl, h1, g1⟩
      go_wp2_with fail
      (with_reducible refine (c _ h1).mono ?_); rintro e w2 ⟨t, ht, v, rfl, hov, h2, g2⟩
      dsimp only at ht hov
      unfold tokVal
      rw [← ht] at hr
      replace hr := Lib.hid hr
      have gP := g0.trans g1
      have gA := g1.trans g2
      have bA := bx.on gA hne
      have d0 := bA.c0
      have d1 := bA.c1
      have d2 := bA.c2
      have d3 := bA.c3
      have d4 := bA.c4
      have f0 := bA.free 0
      have f1 := bA.free 1
      have f2 := bA.free 2
      have f3 := bA.free 3
      have f4 := bA.free 4
      replace bA := Lib.hid bA
      clear bx c
      obtain ⟨ao, cap, hv, -⟩ := pairs_of_owns hov
      rw [List.length_map] at hv
      subst hv
      go_wp2_with fail
      exact tok_end rfl rfl (bA.out.set _ _ _ _ _) (ans_pass hr.out hov gP.size h2 (g0.trans gA) hb bA.out)
  | false =>
    have y0 := fun w h => takes_no b s ⟨#[60, 33, 45, 45]⟩ w h n0
    cases n1 : T.begins [60, 33, 91, 67, 68, 65, 84, 65, 91] s.data.toList with
    | true =>
      obtain ⟨l1, e1⟩ := T.begins_iff.1 n1
      obtain ⟨t1, rfl⟩ := bytes_of l1
      have hx := T.nx1 n0 e1
      have y1 := fun w h => takes_yes b s t1 ⟨#[60, 33, 91, 67, 68, 65, 84, 65, 91]⟩ w h e1
      clear n0 n1 e1
      cases hc : T.cutAt [93, 93, 62] t1.data.toList with
      | none =>
        have hr := Lib.hid (hx.trans (T.cdata_none hc))
        have c1 := fun w h => upTo_no b t1 ⟨#[93, 93, 62]⟩ w h (by simp) hc
        clear hc hx
        go_enter Tryz.func19, Tryz.ntmps19
        go_wp2_with fail
        (with_reducible refine (y0 _ hA).mono ?_); rintro e w1 ⟨rfl, h1, g1⟩
        go_wp2_with fail
        (with_reducible refine (y1 _ h1).mono ?_); rintro e w2 ⟨rfl, h2, g2⟩
        go_wp2_with fail
        (with_reducible refine (c1 _ h2).mono ?_); rintro e w3 ⟨rfl, g3⟩
        exact ⟨rfl, ans_no hr.out (((g0.trans g1).trans g2).trans g3)⟩
      | some x =>
        obtain ⟨la, lr⟩ := x
        obtain ⟨v, rfl⟩ := bytes_of la
        obtain ⟨t, rfl⟩ := bytes_of lr
        have hr := Lib.hid (hx.trans (T.cdata_ok hc))
        have c1 := fun w h => upTo_ok b t1 v t ⟨#[93, 93, 62]⟩ w h (by simp) hc
        clear hc hx
        go_enter Tryz.func19, Tryz.ntmps19
        go_wp2_with fail
        (with_reducible refine (y0 _ hA).mono ?_); rintro e w1 ⟨rfl, h1, g1⟩
        go_wp2_with fail
        (with_reducible refine (y1 _ h1).mono ?_); rintro e w2 ⟨rfl, h2, g2⟩
        go_wp2_with fail
        (with_reducible refine (c1 _ h2).mono ?_); rintro e w3 ⟨rfl, h3, g3⟩
        have gA := ((g1.trans g2).trans g3)
        have bA := bx.on gA hne
        have d0 := bA.c0
        have d1 := bA.c1
        have d2 := bA.c2
        have d3 := bA.c3
        have d4 := bA.c4
        have f0 := bA.free 0
        have f1 := bA.free 1
        have f2 := bA.free 2
        have f3 := bA.free 3
        have f4 := bA.free 4
        replace bA := Lib.hid bA
        clear bx
        go_wp2_with fail
        exact tok_end rfl rfl (bA.out.set _ _ _ _ _) (ans_plain hr.out rfl h3 (((g0.trans g1).trans g2).trans g3) hb rfl)
    | false =>
      have y1 := fun w h => takes_no b s ⟨#[60, 33, 91, 67, 68, 65, 84, 65, 91]⟩ w h n1
      cases n2 : T.begins [60, 33, 68, 79, 67, 84, 89, 80, 69] s.data.toList with
      | true =>
        obtain ⟨l2, e2⟩ := T.begins_iff.1 n2
        obtain ⟨t2, rfl⟩ := bytes_of l2
        have hx := T.nx2 n0 n1 e2
        have y2 := fun w h => takes_yes b s t2 ⟨#[60, 33, 68, 79, 67, 84, 89, 80, 69]⟩ w h e2
        clear n0 n1 n2 e2
        replace hx := Lib.hid hx
        go_enter Tryz.func19, Tryz.ntmps19
        go_wp2_with fail
        (with_reducible refine (y0 _ hA).mono ?_); rintro e w1 ⟨rfl, h1, g1⟩
        go_wp2_with fail
        (with_reducible refine (y1 _ h1).mono ?_); rintro e w2 ⟨rfl, h2, g2⟩
        go_wp2_with fail
        (with_reducible refine (y2 _ h2).mono ?_); rintro e w3 ⟨rfl, h3, g3⟩
        go_wp2_with fail
        exact ⟨rfl, ans_no hx.out (((g0.trans g1).trans g2).trans g3)⟩
      | false =>
        have y2 := fun w h => takes_no b s ⟨#[60, 33, 68, 79, 67, 84, 89, 80, 69]⟩ w h n2
        cases n3 : T.begins [60, 33] s.data.toList with
        | true =>
          obtain ⟨l3, e3⟩ := T.begins_iff.1 n3
          obtain ⟨t3, rfl⟩ := bytes_of l3
          have hx := T.nx3 n0 n1 n2 e3
          have y3 := fun w h => takes_yes b s t3 ⟨#[60, 33]⟩ w h e3
          clear n0 n1 n2 n3 e3
          replace hx := Lib.hid hx
          go_enter Tryz.func19, Tryz.ntmps19
          go_wp2_with fail
          (with_reducible refine (y0 _ hA).mono ?_); rintro e w1 ⟨rfl, h1, g1⟩
          go_wp2_with fail
          (with_reducible refine (y1 _ h1).mono ?_); rintro e w2 ⟨rfl, h2, g2⟩
          go_wp2_with fail
          (with_reducible refine (y2 _ h2).mono ?_); rintro e w3 ⟨rfl, h3, g3⟩
          go_wp2_with fail
          (with_reducible refine (y3 _ h3).mono ?_); rintro e w4 ⟨rfl, h4, g4⟩
          go_wp2_with fail
          exact ⟨rfl, ans_no hx.out ((((g0.trans g1).trans g2).trans g3).trans g4)⟩
        | false =>
          have y3 := fun w h => takes_no b s ⟨#[60, 33]⟩ w h n3
          cases n4 : T.begins [60, 63] s.data.toList with
          | true =>
            obtain ⟨l4, e4⟩ := T.begins_iff.1 n4
            obtain ⟨t4, rfl⟩ := bytes_of l4
            have hx := T.nx4 n0 n1 n2 n3 e4
            have y4 := fun w h => takes_yes b s t4 ⟨#[60, 63]⟩ w h e4
            clear n0 n1 n2 n3 n4 e4
            cases hq : T.pi t4.data.toList with
            | error q =>
              have hr := Lib.hid ((hx).trans hq)
              have c := fun w h => instruction_any b t4 w h
              rw [hq] at c
              clear hq hx
              go_enter Tryz.func19, Tryz.ntmps19
              go_wp2_with fail
              (with_reducible refine (y0 _ hA).mono ?_); rintro e w1 ⟨rfl, h1, g1⟩
              go_wp2_with fail
              (with_reducible refine (y1 _ h1).mono ?_); rintro e w2 ⟨rfl, h2, g2⟩
              go_wp2_with fail
              (with_reducible refine (y2 _ h2).mono ?_); rintro e w3 ⟨rfl, h3, g3⟩
              go_wp2_with fail
              (with_reducible refine (y3 _ h3).mono ?_); rintro e w4 ⟨rfl, h4, g4⟩
              go_wp2_with fail
              (with_reducible refine (y4 _ h4).mono ?_); rintro e w5 ⟨rfl, h5, g5⟩
              go_wp2_with fail
              (with_reducible refine (c _ h5).mono ?_); rintro e w6 ⟨rfl, g6⟩
              exact ⟨rfl, ans_no hr.out ((((((g0.trans g1).trans g2).trans g3).trans g4).trans g5).trans g6)⟩
            | ok x =>
              obtain ⟨k, lt⟩ := x
              have hr := (hx).trans hq
              have c := fun w h => instruction_any b t4 w h
              rw [hq] at c
              clear hq hx
              go_enter Tryz.func19, Tryz.ntmps19
              go_wp2_with fail
              (with_reducible refine (y0 _ hA).mono ?_); rintro e w1 ⟨rfl, h1, g1⟩
              go_wp2_with fail
              (with_reducible refine (y1 _ h1).mono ?_); rintro e w2 ⟨rfl, h2, g2⟩
              go_wp2_with fail
              (with_reducible refine (y2 _ h2).mono ?_); rintro e w3 ⟨rfl, h3, g3⟩
              go_wp2_with fail
              (with_reducible refine (y3 _ h3).mono ?_); rintro e w4 ⟨rfl, h4, g4⟩
              go_wp2_with fail
              (with_reducible refine (y4 _ h4).mono ?_); rintro e w5 ⟨rfl, h5, g5⟩
              go_wp2_with fail
              (with_reducible refine (c _ h5).mono ?_); rintro e w6 ⟨t, ht, v, rfl, hov, h6, g6⟩
              dsimp only at ht hov
              unfold tokVal
              rw [← ht] at hr
              replace hr := Lib.hid hr
              have gP := g0.trans ((((g1.trans g2).trans g3).trans g4).trans g5)
              have gA := ((((g1.trans g2).trans g3).trans g4).trans g5).trans g6
              have bA := bx.on gA hne
              have d0 := bA.c0
              have d1 := bA.c1
              have d2 := bA.c2
              have d3 := bA.c3
              have d4 := bA.c4
              have f0 := bA.free 0
              have f1 := bA.free 1
              have f2 := bA.free 2
              have f3 := bA.free 3
              have f4 := bA.free 4
              replace bA := Lib.hid bA
              clear bx c
              obtain ⟨ao, cap, hv, -⟩ := pairs_of_owns hov
              rw [List.length_map] at hv
              subst hv
              go_wp2_with fail
              exact tok_end rfl rfl (bA.out.set _ _ _ _ _) (ans_pass hr.out hov gP.size h6 (g0.trans gA) hb bA.out)
          | false =>
            have y4 := fun w h => takes_no b s ⟨#[60, 63]⟩ w h n4
            cases n5 : T.begins [60, 47] s.data.toList with
            | true =>
              obtain ⟨l5, e5⟩ := T.begins_iff.1 n5
              obtain ⟨t5, rfl⟩ := bytes_of l5
              have hx := T.nx5 n0 n1 n2 n3 n4 e5
              have y5 := fun w h => takes_yes b s t5 ⟨#[60, 47]⟩ w h e5
              clear n0 n1 n2 n3 n4 n5 e5
              cases hq : T.shut t5.data.toList with
              | error q =>
                have hr := Lib.hid ((hx).trans hq)
                have c := fun w h => end_any b t5 w h
                rw [hq] at c
                clear hq hx
                go_enter Tryz.func19, Tryz.ntmps19
                go_wp2_with fail
                (with_reducible refine (y0 _ hA).mono ?_); rintro e w1 ⟨rfl, h1, g1⟩
                go_wp2_with fail
                (with_reducible refine (y1 _ h1).mono ?_); rintro e w2 ⟨rfl, h2, g2⟩
                go_wp2_with fail
                (with_reducible refine (y2 _ h2).mono ?_); rintro e w3 ⟨rfl, h3, g3⟩
                go_wp2_with fail
                (with_reducible refine (y3 _ h3).mono ?_); rintro e w4 ⟨rfl, h4, g4⟩
                go_wp2_with fail
                (with_reducible refine (y4 _ h4).mono ?_); rintro e w5 ⟨rfl, h5, g5⟩
                go_wp2_with fail
                (with_reducible refine (y5 _ h5).mono ?_); rintro e w6 ⟨rfl, h6, g6⟩
                go_wp2_with fail
                (with_reducible refine (c _ h6).mono ?_); rintro e w7 ⟨rfl, g7⟩
                exact ⟨rfl, ans_no hr.out (((((((g0.trans g1).trans g2).trans g3).trans g4).trans g5).trans g6).trans g7)⟩
              | ok x =>
                obtain ⟨k, lt⟩ := x
                have hr := (hx).trans hq
                have c := fun w h => end_any b t5 w h
                rw [hq] at c
                clear hq hx
                go_enter Tryz.func19, Tryz.ntmps19
                go_wp2_with fail
                (with_reducible refine (y0 _ hA).mono ?_); rintro e w1 ⟨rfl, h1, g1⟩
                go_wp2_with fail
                (with_reducible refine (y1 _ h1).mono ?_); rintro e w2 ⟨rfl, h2, g2⟩
                go_wp2_with fail
                (with_reducible refine (y2 _ h2).mono ?_); rintro e w3 ⟨rfl, h3, g3⟩
                go_wp2_with fail
                (with_reducible refine (y3 _ h3).mono ?_); rintro e w4 ⟨rfl, h4, g4⟩
                go_wp2_with fail
                (with_reducible refine (y4 _ h4).mono ?_); rintro e w5 ⟨rfl, h5, g5⟩
                go_wp2_with fail
                (with_reducible refine (y5 _ h5).mono ?_); rintro e w6 ⟨rfl, h6, g6⟩
                go_wp2_with fail
                (with_reducible refine (c _ h6).mono ?_); rintro e w7 ⟨t, ht, v, rfl, hov, h7, g7⟩
                dsimp only at ht hov
                unfold tokVal
                rw [← ht] at hr
                replace hr := Lib.hid hr
                have gP := g0.trans (((((g1.trans g2).trans g3).trans g4).trans g5).trans g6)
                have gA := (((((g1.trans g2).trans g3).trans g4).trans g5).trans g6).trans g7
                have bA := bx.on gA hne
                have d0 := bA.c0
                have d1 := bA.c1
                have d2 := bA.c2
                have d3 := bA.c3
                have d4 := bA.c4
                have f0 := bA.free 0
                have f1 := bA.free 1
                have f2 := bA.free 2
                have f3 := bA.free 3
                have f4 := bA.free 4
                replace bA := Lib.hid bA
                clear bx c
                obtain ⟨ao, cap, hv, -⟩ := pairs_of_owns hov
                rw [List.length_map] at hv
                subst hv
                go_wp2_with fail
                exact tok_end rfl rfl (bA.out.set _ _ _ _ _) (ans_pass hr.out hov gP.size h7 (g0.trans gA) hb bA.out)
            | false =>
              have y5 := fun w h => takes_no b s ⟨#[60, 47]⟩ w h n5
              cases n6 : T.begins [60] s.data.toList with
              | true =>
                obtain ⟨l6, e6⟩ := T.begins_iff.1 n6
                obtain ⟨t6, rfl⟩ := bytes_of l6
                have hx := T.nx6 n0 n1 n2 n3 n4 n5 e6
                have y6 := fun w h => takes_yes b s t6 ⟨#[60]⟩ w h e6
                clear n0 n1 n2 n3 n4 n5 n6 e6
                cases hq : T.opened t6.data.toList with
                | error q =>
                  have hr := Lib.hid ((hx).trans hq)
                  have c := fun w h => start_any b t6 w h
                  rw [hq] at c
                  clear hq hx
                  go_enter Tryz.func19, Tryz.ntmps19
                  go_wp2_with fail
                  (with_reducible refine (y0 _ hA).mono ?_); rintro e w1 ⟨rfl, h1, g1⟩
                  go_wp2_with fail
                  (with_reducible refine (y1 _ h1).mono ?_); rintro e w2 ⟨rfl, h2, g2⟩
                  go_wp2_with fail
                  (with_reducible refine (y2 _ h2).mono ?_); rintro e w3 ⟨rfl, h3, g3⟩
                  go_wp2_with fail
                  (with_reducible refine (y3 _ h3).mono ?_); rintro e w4 ⟨rfl, h4, g4⟩
                  go_wp2_with fail
                  (with_reducible refine (y4 _ h4).mono ?_); rintro e w5 ⟨rfl, h5, g5⟩
                  go_wp2_with fail
                  (with_reducible refine (y5 _ h5).mono ?_); rintro e w6 ⟨rfl, h6, g6⟩
                  go_wp2_with fail
                  (with_reducible refine (y6 _ h6).mono ?_); rintro e w7 ⟨rfl, h7, g7⟩
                  go_wp2_with fail
                  (with_reducible refine (c _ h7).mono ?_); rintro e w8 ⟨rfl, g8⟩
                  exact ⟨rfl, ans_no hr.out ((((((((g0.trans g1).trans g2).trans g3).trans g4).trans g5).trans g6).trans g7).trans g8)⟩
                | ok x =>
                  obtain ⟨k, lt⟩ := x
                  have hr := (hx).trans hq
                  have c := fun w h => start_any b t6 w h
                  rw [hq] at c
                  clear hq hx
                  go_enter Tryz.func19, Tryz.ntmps19
                  go_wp2_with fail
                  (with_reducible refine (y0 _ hA).mono ?_); rintro e w1 ⟨rfl, h1, g1⟩
                  go_wp2_with fail
                  (with_reducible refine (y1 _ h1).mono ?_); rintro e w2 ⟨rfl, h2, g2⟩
                  go_wp2_with fail
                  (with_reducible refine (y2 _ h2).mono ?_); rintro e w3 ⟨rfl, h3, g3⟩
                  go_wp2_with fail
                  (with_reducible refine (y3 _ h3).mono ?_); rintro e w4 ⟨rfl, h4, g4⟩
                  go_wp2_with fail
                  (with_reducible refine (y4 _ h4).mono ?_); rintro e w5 ⟨rfl, h5, g5⟩
                  go_wp2_with fail
                  (with_reducible refine (y5 _ h5).mono ?_); rintro e w6 ⟨rfl, h6, g6⟩
                  go_wp2_with fail
                  (with_reducible refine (y6 _ h6).mono ?_); rintro e w7 ⟨rfl, h7, g7⟩
                  go_wp2_with fail
                  (with_reducible refine (c _ h7).mono ?_); rintro e w8 ⟨t, ht, v, rfl, hov, h8, g8⟩
                  dsimp only at ht hov
                  unfold tokVal
                  rw [← ht] at hr
                  replace hr := Lib.hid hr
                  have gP := g0.trans ((((((g1.trans g2).trans g3).trans g4).trans g5).trans g6).trans g7)
                  have gA := ((((((g1.trans g2).trans g3).trans g4).trans g5).trans g6).trans g7).trans g8
                  have bA := bx.on gA hne
                  have d0 := bA.c0
                  have d1 := bA.c1
                  have d2 := bA.c2
                  have d3 := bA.c3
                  have d4 := bA.c4
                  have f0 := bA.free 0
                  have f1 := bA.free 1
                  have f2 := bA.free 2
                  have f3 := bA.free 3
                  have f4 := bA.free 4
                  replace bA := Lib.hid bA
                  clear bx c
                  obtain ⟨ao, cap, hv, -⟩ := pairs_of_owns hov
                  rw [List.length_map] at hv
                  subst hv
                  go_wp2_with fail
                  exact tok_end rfl rfl (bA.out.set _ _ _ _ _) (ans_pass hr.out hov gP.size h8 (g0.trans gA) hb bA.out)
              | false =>
                have y6 := fun w h => takes_no b s ⟨#[60]⟩ w h n6
                have hx := T.nx7 n0 n1 n2 n3 n4 n5 n6
                clear n0 n1 n2 n3 n4 n5 n6
                cases hq : T.text s.data.toList with
                | error q =>
                  have hr := Lib.hid ((hx).trans hq)
                  have c := fun w h => characters_any b s w h
                  rw [hq] at c
                  clear hq hx
                  go_enter Tryz.func19, Tryz.ntmps19
                  go_wp2_with fail
                  (with_reducible refine (y0 _ hA).mono ?_); rintro e w1 ⟨rfl, h1, g1⟩
                  go_wp2_with fail
                  (with_reducible refine (y1 _ h1).mono ?_); rintro e w2 ⟨rfl, h2, g2⟩
                  go_wp2_with fail
                  (with_reducible refine (y2 _ h2).mono ?_); rintro e w3 ⟨rfl, h3, g3⟩
                  go_wp2_with fail
                  (with_reducible refine (y3 _ h3).mono ?_); rintro e w4 ⟨rfl, h4, g4⟩
                  go_wp2_with fail
                  (with_reducible refine (y4 _ h4).mono ?_); rintro e w5 ⟨rfl, h5, g5⟩
                  go_wp2_with fail
                  (with_reducible refine (y5 _ h5).mono ?_); rintro e w6 ⟨rfl, h6, g6⟩
                  go_wp2_with fail
                  (with_reducible refine (y6 _ h6).mono ?_); rintro e w7 ⟨rfl, h7, g7⟩
                  go_wp2_with fail
                  (with_reducible refine (c _ h7).mono ?_); rintro e w8 ⟨rfl, g8⟩
                  exact ⟨rfl, ans_no hr.out ((((((((g0.trans g1).trans g2).trans g3).trans g4).trans g5).trans g6).trans g7).trans g8)⟩
                | ok x =>
                  obtain ⟨k, lt⟩ := x
                  have hr := (hx).trans hq
                  have c := fun w h => characters_any b s w h
                  rw [hq] at c
                  clear hq hx
                  go_enter Tryz.func19, Tryz.ntmps19
                  go_wp2_with fail
                  (with_reducible refine (y0 _ hA).mono ?_); rintro e w1 ⟨rfl, h1, g1⟩
                  go_wp2_with fail
                  (with_reducible refine (y1 _ h1).mono ?_); rintro e w2 ⟨rfl, h2, g2⟩
                  go_wp2_with fail
                  (with_reducible refine (y2 _ h2).mono ?_); rintro e w3 ⟨rfl, h3, g3⟩
                  go_wp2_with fail
                  (with_reducible refine (y3 _ h3).mono ?_); rintro e w4 ⟨rfl, h4, g4⟩
                  go_wp2_with fail
                  (with_reducible refine (y4 _ h4).mono ?_); rintro e w5 ⟨rfl, h5, g5⟩
                  go_wp2_with fail
                  (with_reducible refine (y5 _ h5).mono ?_); rintro e w6 ⟨rfl, h6, g6⟩
                  go_wp2_with fail
                  (with_reducible refine (y6 _ h6).mono ?_); rintro e w7 ⟨rfl, h7, g7⟩
                  go_wp2_with fail
                  (with_reducible refine (c _ h7).mono ?_); rintro e w8 ⟨t, ht, v, rfl, hov, h8, g8⟩
                  dsimp only at ht hov
                  unfold tokVal
                  rw [← ht] at hr
                  replace hr := Lib.hid hr
                  have gP := g0.trans ((((((g1.trans g2).trans g3).trans g4).trans g5).trans g6).trans g7)
                  have gA := ((((((g1.trans g2).trans g3).trans g4).trans g5).trans g6).trans g7).trans g8
                  have bA := bx.on gA hne
                  have d0 := bA.c0
                  have d1 := bA.c1
                  have d2 := bA.c2
                  have d3 := bA.c3
                  have d4 := bA.c4
                  have f0 := bA.free 0
                  have f1 := bA.free 1
                  have f2 := bA.free 2
                  have f3 := bA.free 3
                  have f4 := bA.free 4
                  replace bA := Lib.hid bA
                  clear bx c
                  obtain ⟨ao, cap, hv, -⟩ := pairs_of_owns hov
                  rw [List.length_map] at hv
                  subst hv
                  go_wp2_with fail
                  exact tok_end rfl rfl (bA.out.set _ _ _ _ _) (ans_pass hr.out hov gP.size h8 (g0.trans gA) hb bA.out)
end Go.Proofs.YtmeliljioagipaaGreatDoor
namespace Go.Proofs.YtmeliljioagipaaGreatDoor
open Go.RowKit Go.Extern.Stop Go.Stop Go.Extern

set_option maxRecDepth 100000 in
theorem outcome_none (v : Value) (w : World) :
    Calls Tryz.prog 16 #[.nilIface, v] w fun e w' => e = .returned (.tuple #[v, .int .i64 0]) ∧ w = w' := by
  go_enter Tryz.func16, Tryz.ntmps16
  go_wp2
  go_ret2
  exact ⟨rfl, rfl⟩

theorem isWrong (v : Value) (w : World) : (Instr.typeAssert (.iface 50 v) 20 50 true).run Tryz.prog w = .ok (.tuple #[v, .bool true]) w := by kernel_rfl

set_option maxRecDepth 100000 in
theorem outcome_wrong (v : Value) (n : Int) (w : World) :
    Calls Tryz.prog 16 #[.iface 50 (.agg #[.int .i64 n]), v] w fun e w' => e = .returned (.tuple #[.slice none 0 0, .int .i64 n]) ∧ Below w.heap.size w w' := by
  have hw := fun v w => isWrong v w
  have hb := fun m => below_drewN ((Below.refl w.heap.size w).alloc (Nat.le_refl _) (.cells #[.int .i64 n] 50)) m
  go_enter Tryz.func16, Tryz.ntmps16
  go_wp2
  go_quiet (fail)
  go_wp2
  go_ret2
  exact ⟨rfl, hb _⟩

theorem mixedTok : Tryz.prog.follows .mixedOrders = true := by kernel_rfl

set_option maxRecDepth 100000 in
set_option maxHeartbeats 6400000 in
theorem catch_calm (p q : Nat) (ao : Option Addr) (n cap : Nat) (w : World) (hqp : q ≠ p) (hc : w.cell? ⟨p, 0, none⟩ = some (.slice ao n cap)) (m : Int) (hd : w.cell? ⟨q, 0, none⟩ = some (.int .i64 m)) (hf : w.frozen? ⟨p, 0, none⟩ = false) (hg : w.frozen? ⟨q, 0, none⟩ = false) :
    CallsD Tryz.prog 15 #[.pointer (some ⟨p, 0, none⟩), .pointer (some ⟨q, 0, none⟩)] .returning w fun e u' w' =>
      e = .returned (.tuple #[]) ∧ u' = .returning ∧ ∃ w1, Below w.heap.size w w1 ∧ w' = (w1.setCell ⟨p, 0, none⟩ (.slice ao n cap)).setCell ⟨q, 0, none⟩ (.int .i64 0) := by
  refine callsD_of_wpS Tryz.func15 rfl fun c₀ cs hu => ?_
  apply wpS_region_any mixedTok
  refine wpAnyS_ready (rs := [0, 1]) (by kernel_rfl) (by simp) ?_
  intro i hi
  simp at hi
  rcases hi with rfl | rfl
  · simp [wpOpS, go_sem, recoverD, hu, Tryz.ntmps15]
    refine wpAnyS_ready (rs := [1]) (by kernel_rfl) (by simp) ?_
    intro i hi
    simp at hi
    subst hi
    simp [wpOpS, go_sem, hc]
    refine wpAnyS_ready (rs := [2]) (by kernel_rfl) (by simp) ?_
    intro i hi
    simp at hi
    subst hi
    simp [wpOpS, go_sem]
    refine (outcome_none _ _).mono ?_
    rintro e w1 ⟨rfl, hw1⟩
    have b1 : Below w.heap.size w w1 := by rw [← hw1]; exact ⟨rfl, rfl, rfl, Nat.le_refl _, fun _ _ => rfl⟩
    clear hw1
    obtain ⟨hc1, hf1⟩ := kept_cells b1 (World.block_lt_of_cell? w _ hc) hc hf
    obtain ⟨hd1, hg1⟩ := kept_cells b1 (World.block_lt_of_cell? w _ hd) hd hg
    clear hc hd hf hg
    simp only []
    refine wpAnyS_ready (rs := [3]) (by kernel_rfl) (by simp) ?_
    intro i hi
    simp at hi
    subst hi
    simp [wpOpS, go_sem]
    refine wpAnyS_ready (rs := [4, 5]) (by kernel_rfl) (by simp) ?_
    intro i hi
    simp at hi
    rcases hi with rfl | rfl
    · simp [wpOpS, go_sem]
      refine wpAnyS_ready (rs := [5, 6]) (by kernel_rfl) (by simp) ?_
      intro i hi
      simp at hi
      rcases hi with rfl | rfl
      · simp [wpOpS, go_sem]
        refine wpAnyS_ready (rs := [6]) (by kernel_rfl) (by simp) ?_
        intro i hi
        simp at hi
        subst hi
        simp [wpOpS, go_sem, hf1, hc1]
        refine wpAnyS_ready (rs := [7]) (by kernel_rfl) (by simp) ?_
        intro i hi
        simp at hi
        subst hi
        simp [wpOpS, go_sem, hd1, hg1]
        refine wpAnyS_done (by kernel_rfl) ?_ _
        cases c₀
        simp_all [bodyPostS, results, Tryz.results15]
        exact ⟨_, b1, rfl⟩
      · simp [wpOpS, go_sem, hf1, hc1]
        refine wpAnyS_ready (rs := [5]) (by kernel_rfl) (by simp) ?_
        intro i hi
        simp at hi
        subst hi
        simp [wpOpS, go_sem]
        refine wpAnyS_ready (rs := [7]) (by kernel_rfl) (by simp) ?_
        intro i hi
        simp at hi
        subst hi
        simp [wpOpS, go_sem, hd1, hg1]
        refine wpAnyS_done (by kernel_rfl) ?_ _
        cases c₀
        simp_all [bodyPostS, results, Tryz.results15]
        exact ⟨_, b1, rfl⟩
    · simp [wpOpS, go_sem]
      refine wpAnyS_ready (rs := [4]) (by kernel_rfl) (by simp) ?_
      intro i hi
      simp at hi
      subst hi
      simp [wpOpS, go_sem]
      refine wpAnyS_ready (rs := [6]) (by kernel_rfl) (by simp) ?_
      intro i hi
      simp at hi
      subst hi
      simp [wpOpS, go_sem, hf1, hc1]
      refine wpAnyS_ready (rs := [7]) (by kernel_rfl) (by simp) ?_
      intro i hi
      simp at hi
      subst hi
      simp [wpOpS, go_sem, hd1, hg1]
      refine wpAnyS_done (by kernel_rfl) ?_ _
      cases c₀
      simp_all [bodyPostS, results, Tryz.results15]
      exact ⟨_, b1, rfl⟩
  · simp [wpOpS, go_sem, Tryz.ntmps15, hc]
    refine wpAnyS_ready (rs := [0]) (by kernel_rfl) (by simp) ?_
    intro i hi
    simp at hi
    subst hi
    simp [wpOpS, go_sem, recoverD, hu]
    refine wpAnyS_ready (rs := [2]) (by kernel_rfl) (by simp) ?_
    intro i hi
    simp at hi
    subst hi
    simp [wpOpS, go_sem]
    refine (outcome_none _ _).mono ?_
    rintro e w1 ⟨rfl, hw1⟩
    have b1 : Below w.heap.size w w1 := by rw [← hw1]; exact ⟨rfl, rfl, rfl, Nat.le_refl _, fun _ _ => rfl⟩
    clear hw1
    obtain ⟨hc1, hf1⟩ := kept_cells b1 (World.block_lt_of_cell? w _ hc) hc hf
    obtain ⟨hd1, hg1⟩ := kept_cells b1 (World.block_lt_of_cell? w _ hd) hd hg
    clear hc hd hf hg
    simp only []
    refine wpAnyS_ready (rs := [3]) (by kernel_rfl) (by simp) ?_
    intro i hi
    simp at hi
    subst hi
    simp [wpOpS, go_sem]
    refine wpAnyS_ready (rs := [4, 5]) (by kernel_rfl) (by simp) ?_
    intro i hi
    simp at hi
    rcases hi with rfl | rfl
    · simp [wpOpS, go_sem]
      refine wpAnyS_ready (rs := [5, 6]) (by kernel_rfl) (by simp) ?_
      intro i hi
      simp at hi
      rcases hi with rfl | rfl
      · simp [wpOpS, go_sem]
        refine wpAnyS_ready (rs := [6]) (by kernel_rfl) (by simp) ?_
        intro i hi
        simp at hi
        subst hi
        simp [wpOpS, go_sem, hf1, hc1]
        refine wpAnyS_ready (rs := [7]) (by kernel_rfl) (by simp) ?_
        intro i hi
        simp at hi
        subst hi
        simp [wpOpS, go_sem, hd1, hg1]
        refine wpAnyS_done (by kernel_rfl) ?_ _
        cases c₀
        simp_all [bodyPostS, results, Tryz.results15]
        exact ⟨_, b1, rfl⟩
      · simp [wpOpS, go_sem, hf1, hc1]
        refine wpAnyS_ready (rs := [5]) (by kernel_rfl) (by simp) ?_
        intro i hi
        simp at hi
        subst hi
        simp [wpOpS, go_sem]
        refine wpAnyS_ready (rs := [7]) (by kernel_rfl) (by simp) ?_
        intro i hi
        simp at hi
        subst hi
        simp [wpOpS, go_sem, hd1, hg1]
        refine wpAnyS_done (by kernel_rfl) ?_ _
        cases c₀
        simp_all [bodyPostS, results, Tryz.results15]
        exact ⟨_, b1, rfl⟩
    · simp [wpOpS, go_sem]
      refine wpAnyS_ready (rs := [4]) (by kernel_rfl) (by simp) ?_
      intro i hi
      simp at hi
      subst hi
      simp [wpOpS, go_sem]
      refine wpAnyS_ready (rs := [6]) (by kernel_rfl) (by simp) ?_
      intro i hi
      simp at hi
      subst hi
      simp [wpOpS, go_sem, hf1, hc1]
      refine wpAnyS_ready (rs := [7]) (by kernel_rfl) (by simp) ?_
      intro i hi
      simp at hi
      subst hi
      simp [wpOpS, go_sem, hd1, hg1]
      refine wpAnyS_done (by kernel_rfl) ?_ _
      cases c₀
      simp_all [bodyPostS, results, Tryz.results15]
      exact ⟨_, b1, rfl⟩

set_option maxRecDepth 100000 in
set_option maxHeartbeats 6400000 in
theorem catch_tossed (p q : Nat) (ao : Option Addr) (n cap : Nat) (x : Int) (w : World) (hqp : q ≠ p) (hc : w.cell? ⟨p, 0, none⟩ = some (.slice ao n cap)) (m : Int) (hd : w.cell? ⟨q, 0, none⟩ = some (.int .i64 m)) (hf : w.frozen? ⟨p, 0, none⟩ = false) (hg : w.frozen? ⟨q, 0, none⟩ = false) :
    CallsD Tryz.prog 15 #[.pointer (some ⟨p, 0, none⟩), .pointer (some ⟨q, 0, none⟩)] (.panicking (tossed x)) w fun e u' w' =>
      e = .returned (.tuple #[]) ∧ u' = (.panicking [{ v := .iface 50 (.agg #[.int .i64 x]), recovered := true }]) ∧ ∃ w1, Below w.heap.size w w1 ∧ w' = (w1.setCell ⟨p, 0, none⟩ (.slice none 0 0)).setCell ⟨q, 0, none⟩ (.int .i64 x) := by
  refine callsD_of_wpS Tryz.func15 rfl fun c₀ cs hu => ?_
  apply wpS_region_any mixedTok
  refine wpAnyS_ready (rs := [0, 1]) (by kernel_rfl) (by simp) ?_
  intro i hi
  simp at hi
  rcases hi with rfl | rfl
  · simp [wpOpS, go_sem, recoverD, hu, Tryz.ntmps15, tossed]
    refine wpAnyS_ready (rs := [1]) (by kernel_rfl) (by simp) ?_
    intro i hi
    simp at hi
    subst hi
    simp [wpOpS, go_sem, hc]
    refine wpAnyS_ready (rs := [2]) (by kernel_rfl) (by simp) ?_
    intro i hi
    simp at hi
    subst hi
    simp [wpOpS, go_sem]
    refine (outcome_wrong _ x _).mono ?_
    rintro e w1 ⟨rfl, b0⟩
    have b1 : Below w.heap.size w w1 := ⟨b0.os, b0.tape, b0.output, b0.size, b0.block⟩
    obtain ⟨hc1, hf1⟩ := kept_cells b1 (World.block_lt_of_cell? w _ hc) hc hf
    obtain ⟨hd1, hg1⟩ := kept_cells b1 (World.block_lt_of_cell? w _ hd) hd hg
    clear hc hd hf hg
    simp only []
    refine wpAnyS_ready (rs := [3]) (by kernel_rfl) (by simp) ?_
    intro i hi
    simp at hi
    subst hi
    simp [wpOpS, go_sem]
    refine wpAnyS_ready (rs := [4, 5]) (by kernel_rfl) (by simp) ?_
    intro i hi
    simp at hi
    rcases hi with rfl | rfl
    · simp [wpOpS, go_sem]
      refine wpAnyS_ready (rs := [5, 6]) (by kernel_rfl) (by simp) ?_
      intro i hi
      simp at hi
      rcases hi with rfl | rfl
      · simp [wpOpS, go_sem]
        refine wpAnyS_ready (rs := [6]) (by kernel_rfl) (by simp) ?_
        intro i hi
        simp at hi
        subst hi
        simp [wpOpS, go_sem, hf1, hc1]
        refine wpAnyS_ready (rs := [7]) (by kernel_rfl) (by simp) ?_
        intro i hi
        simp at hi
        subst hi
        simp [wpOpS, go_sem, hd1, hg1]
        refine wpAnyS_done (by kernel_rfl) ?_ _
        cases c₀
        simp_all [bodyPostS, results, Tryz.results15]
        exact ⟨_, b1, rfl⟩
      · simp [wpOpS, go_sem, hf1, hc1]
        refine wpAnyS_ready (rs := [5]) (by kernel_rfl) (by simp) ?_
        intro i hi
        simp at hi
        subst hi
        simp [wpOpS, go_sem]
        refine wpAnyS_ready (rs := [7]) (by kernel_rfl) (by simp) ?_
        intro i hi
        simp at hi
        subst hi
        simp [wpOpS, go_sem, hd1, hg1]
        refine wpAnyS_done (by kernel_rfl) ?_ _
        cases c₀
        simp_all [bodyPostS, results, Tryz.results15]
        exact ⟨_, b1, rfl⟩
    · simp [wpOpS, go_sem]
      refine wpAnyS_ready (rs := [4]) (by kernel_rfl) (by simp) ?_
      intro i hi
      simp at hi
      subst hi
      simp [wpOpS, go_sem]
      refine wpAnyS_ready (rs := [6]) (by kernel_rfl) (by simp) ?_
      intro i hi
      simp at hi
      subst hi
      simp [wpOpS, go_sem, hf1, hc1]
      refine wpAnyS_ready (rs := [7]) (by kernel_rfl) (by simp) ?_
      intro i hi
      simp at hi
      subst hi
      simp [wpOpS, go_sem, hd1, hg1]
      refine wpAnyS_done (by kernel_rfl) ?_ _
      cases c₀
      simp_all [bodyPostS, results, Tryz.results15]
      exact ⟨_, b1, rfl⟩
  · simp [wpOpS, go_sem, Tryz.ntmps15, hc]
    refine wpAnyS_ready (rs := [0]) (by kernel_rfl) (by simp) ?_
    intro i hi
    simp at hi
    subst hi
    simp [wpOpS, go_sem, recoverD, hu, tossed]
    refine wpAnyS_ready (rs := [2]) (by kernel_rfl) (by simp) ?_
    intro i hi
    simp at hi
    subst hi
    simp [wpOpS, go_sem]
    refine (outcome_wrong _ x _).mono ?_
    rintro e w1 ⟨rfl, b0⟩
    have b1 : Below w.heap.size w w1 := ⟨b0.os, b0.tape, b0.output, b0.size, b0.block⟩
    obtain ⟨hc1, hf1⟩ := kept_cells b1 (World.block_lt_of_cell? w _ hc) hc hf
    obtain ⟨hd1, hg1⟩ := kept_cells b1 (World.block_lt_of_cell? w _ hd) hd hg
    clear hc hd hf hg
    simp only []
    refine wpAnyS_ready (rs := [3]) (by kernel_rfl) (by simp) ?_
    intro i hi
    simp at hi
    subst hi
    simp [wpOpS, go_sem]
    refine wpAnyS_ready (rs := [4, 5]) (by kernel_rfl) (by simp) ?_
    intro i hi
    simp at hi
    rcases hi with rfl | rfl
    · simp [wpOpS, go_sem]
      refine wpAnyS_ready (rs := [5, 6]) (by kernel_rfl) (by simp) ?_
      intro i hi
      simp at hi
      rcases hi with rfl | rfl
      · simp [wpOpS, go_sem]
        refine wpAnyS_ready (rs := [6]) (by kernel_rfl) (by simp) ?_
        intro i hi
        simp at hi
        subst hi
        simp [wpOpS, go_sem, hf1, hc1]
        refine wpAnyS_ready (rs := [7]) (by kernel_rfl) (by simp) ?_
        intro i hi
        simp at hi
        subst hi
        simp [wpOpS, go_sem, hd1, hg1]
        refine wpAnyS_done (by kernel_rfl) ?_ _
        cases c₀
        simp_all [bodyPostS, results, Tryz.results15]
        exact ⟨_, b1, rfl⟩
      · simp [wpOpS, go_sem, hf1, hc1]
        refine wpAnyS_ready (rs := [5]) (by kernel_rfl) (by simp) ?_
        intro i hi
        simp at hi
        subst hi
        simp [wpOpS, go_sem]
        refine wpAnyS_ready (rs := [7]) (by kernel_rfl) (by simp) ?_
        intro i hi
        simp at hi
        subst hi
        simp [wpOpS, go_sem, hd1, hg1]
        refine wpAnyS_done (by kernel_rfl) ?_ _
        cases c₀
        simp_all [bodyPostS, results, Tryz.results15]
        exact ⟨_, b1, rfl⟩
    · simp [wpOpS, go_sem]
      refine wpAnyS_ready (rs := [4]) (by kernel_rfl) (by simp) ?_
      intro i hi
      simp at hi
      subst hi
      simp [wpOpS, go_sem]
      refine wpAnyS_ready (rs := [6]) (by kernel_rfl) (by simp) ?_
      intro i hi
      simp at hi
      subst hi
      simp [wpOpS, go_sem, hf1, hc1]
      refine wpAnyS_ready (rs := [7]) (by kernel_rfl) (by simp) ?_
      intro i hi
      simp at hi
      subst hi
      simp [wpOpS, go_sem, hd1, hg1]
      refine wpAnyS_done (by kernel_rfl) ?_ _
      cases c₀
      simp_all [bodyPostS, results, Tryz.results15]
      exact ⟨_, b1, rfl⟩

/-- The same, as facts of cells. -/
theorem catch_calm_at (B p q : Nat) (ao : Option Addr) (n cap : Nat) (w : World) (hqp : q ≠ p) (hp : B ≤ p) (hq : B ≤ q) (hc : w.cell? ⟨p, 0, none⟩ = some (.slice ao n cap)) (m : Int) (hd : w.cell? ⟨q, 0, none⟩ = some (.int .i64 m)) (hf : w.frozen? ⟨p, 0, none⟩ = false) (hg : w.frozen? ⟨q, 0, none⟩ = false) (hB : B ≤ w.heap.size) :
    CallsD Tryz.prog 15 #[.pointer (some ⟨p, 0, none⟩), .pointer (some ⟨q, 0, none⟩)] .returning w fun e u' w' =>
      e = .returned (.tuple #[]) ∧ u' = .returning ∧ w'.cell? ⟨p, 0, none⟩ = some (.slice ao n cap) ∧ w'.cell? ⟨q, 0, none⟩ = some (.int .i64 0) ∧ Below B w w' ∧ (∀ k, k < w.heap.size → k ≠ p → k ≠ q → w'.heap[k]? = w.heap[k]?) := by
  refine (catch_calm p q ao n cap w hqp hc m hd hf hg).mono ?_
  rintro e u' w' ⟨rfl, rfl, w1, b1, rfl⟩
  have hc1 := (b1.cell (World.block_lt_of_cell? w _ hc)).trans hc
  have hd1 := (b1.cell (World.block_lt_of_cell? w _ hd)).trans hd
  refine ⟨rfl, rfl, ?_, ?_, ?_, ?_⟩
  · rw [World.cell?_setCell_other _ _ _ _ (by simp)]
    exact World.cell?_setCell_same _ _ _ hc1
  · exact World.cell?_setCell_same _ _ _ (by rw [World.cell?_setCell_other _ _ _ _ (by simp)]; exact hd1)
  · exact ((b1.mono hB).setCell (p := ⟨p, 0, none⟩) hp _).setCell (p := ⟨q, 0, none⟩) hq _
  · intro k hk h1 h2
    rw [RowKit.Below.heap_setCell _ _ _ _ h2, RowKit.Below.heap_setCell _ _ _ _ h1]
    exact b1.block k hk
theorem catch_tossed_at (B p q : Nat) (ao : Option Addr) (n cap : Nat) (x : Int) (w : World) (hqp : q ≠ p) (hp : B ≤ p) (hq : B ≤ q) (hc : w.cell? ⟨p, 0, none⟩ = some (.slice ao n cap)) (m : Int) (hd : w.cell? ⟨q, 0, none⟩ = some (.int .i64 m)) (hf : w.frozen? ⟨p, 0, none⟩ = false) (hg : w.frozen? ⟨q, 0, none⟩ = false) (hB : B ≤ w.heap.size) :
    CallsD Tryz.prog 15 #[.pointer (some ⟨p, 0, none⟩), .pointer (some ⟨q, 0, none⟩)] (.panicking (tossed x)) w fun e u' w' =>
      e = .returned (.tuple #[]) ∧ u' = (.panicking [{ v := .iface 50 (.agg #[.int .i64 x]), recovered := true }]) ∧ w'.cell? ⟨p, 0, none⟩ = some (.slice none 0 0) ∧ w'.cell? ⟨q, 0, none⟩ = some (.int .i64 x) ∧ Below B w w' := by
  refine (catch_tossed p q ao n cap x w hqp hc m hd hf hg).mono ?_
  rintro e u' w' ⟨rfl, rfl, w1, b1, rfl⟩
  have hc1 := (b1.cell (World.block_lt_of_cell? w _ hc)).trans hc
  have hd1 := (b1.cell (World.block_lt_of_cell? w _ hd)).trans hd
  refine ⟨rfl, rfl, ?_, ?_, ?_⟩
  · rw [World.cell?_setCell_other _ _ _ _ (by simp)]
    exact World.cell?_setCell_same _ _ _ hc1
  · exact World.cell?_setCell_same _ _ _ (by rw [World.cell?_setCell_other _ _ _ _ (by simp)]; exact hd1)
  · exact ((b1.mono hB).setCell (p := ⟨p, 0, none⟩) hp _).setCell (p := ⟨q, 0, none⟩) hq _
end Go.Proofs.YtmeliljioagipaaGreatDoor
namespace Go.Proofs.YtmeliljioagipaaGreatDoor
open Go.RowKit

/-- A text's tokens and the error's number. -/
def runL (g : Except Nat (List T.Tok)) : List T.Tok := match g with | .ok a => a | .error _ => []
def runE (g : Except Nat (List T.Tok)) : Int := match g with | .ok _ => 0 | .error e => (e : Int)
/-- What the call answers. -/
def RunTold (g : Except Nat (List T.Tok)) (w : World) (e : Ending) (w' : World) : Prop :=
  ∃ (ao : Option Addr) (cap : Nat) (L : List (T.Tok × Value)), e = .returned (.tuple #[.slice ao L.length cap, .int .i64 (runE g)]) ∧ L.map Prod.fst = runL g ∧ ToksIn w' ao L ∧ (ao = none → cap = 0) ∧ Below w.heap.size w w'

/-- A row's block is none of another kind. -/
theorem own_apart {B n sz : Nat} {t : TypeId} {v : Value} {xs : List Value} {w : World} {k : Nat} {o : Obj} (h : w.ownsRow B t sz v n xs) (hk : w.heap[k]? = some o) (hne : ∀ cs fr, o ≠ .cells cs t fr) : v.ownBlock = none ∨ v.ownBlock ≠ some k := by
  obtain ⟨_, ⟨rfl, _⟩ | ⟨g, cap, cur, rfl, hb, hh, _⟩⟩ := h
  · exact .inl rfl
  · right
    simp only [Value.ownBlock, ne_eq, Option.some.injEq]
    rintro rfl
    rw [hk] at hh
    cases hh
    exact hne _ _ rfl
theorem own_two {B B' n m sz sz' : Nat} {t t' : TypeId} {v v' : Value} {xs ys : List Value} {w : World} (h : w.ownsRow B t sz v n xs) (h' : w.ownsRow B' t' sz' v' m ys) (hne : t ≠ t') : v.ownBlock = none ∨ v.ownBlock ≠ v'.ownBlock := by
  obtain ⟨_, ⟨rfl, _⟩ | ⟨g, cap, cur, rfl, hb, hh, _⟩⟩ := h'
  · cases hv : v.ownBlock with
    | none => exact .inl rfl
    | some k => exact .inr (by simp [Value.ownBlock])
  · exact own_apart h hh (by intro cs fr e; cases e; exact hne rfl)

structure Rt (w : World) (sr : ByteArray) (L : List (T.Tok × Value)) (v : Value) (wr : World) : Prop where
  box : wr.heap[w.heap.size + 2]? = some (.cells #[.string sr] 42 (0, 0))
  small : sr.size ≤ 1000000
  env : Env w
  told : wr.heap[w.heap.size]? = some (.cells #[v] 23 (0, 0))
  err : wr.heap[w.heap.size + 1]? = some (.cells #[.int .i64 0] 24 (0, 0))
  row : wr.ownsRow w.heap.size 29 5 v L.length (rowCells L)
  attrs : ∀ x ∈ L, OwnsPairs w.heap.size x.2 (x.1.attrs.map mpair) wr
  below : Below w.heap.size w wr

theorem Rt.rd {w wr : World} {sr : ByteArray} {L : List (T.Tok × Value)} {v : Value} (h : Rt w sr L v wr) : At (w.heap.size + 2) sr wr := ⟨h.box, h.small, w, h.env, by omega, h.below⟩
theorem Rt.on {w wr w1 : World} {sr t : ByteArray} {L : List (T.Tok × Value)} {v : Value} (h : Rt w sr L v wr) (hA : At (w.heap.size + 2) t w1) (g : wr.grownBy w1 (some (w.heap.size + 2))) : Rt w t L v w1 :=
  ⟨hA.box, hA.small, h.env, (g.block _ (Array.getElem?_eq_some_iff.1 h.told).1 (by simp)).trans h.told, (g.block _ (Array.getElem?_eq_some_iff.1 h.err).1 (by simp)).trans h.err, World.ownsRow.kept h.row g (own_apart h.row h.box (by intro cs fr e; cases e)), fun x hx => World.ownsRow.kept (h.attrs x hx) g (own_apart (h.attrs x hx) h.box (by intro cs fr e; cases e)), h.below.grown g h.below.size (fun k e => by cases e; omega)⟩
theorem Rt.grow {w wr w1 : World} {sr : ByteArray} {L : List (T.Tok × Value)} {v : Value} (h : Rt w sr L v wr) (hb : Below wr.heap.size wr w1) : Rt w sr L v w1 :=
  h.on (h.rd.below hb) (grown_of_below hb _)
/-- The result's cell is written. -/
theorem Rt.put {w wr : World} {sr : ByteArray} {L : List (T.Tok × Value)} {v v0 : Value} (hx : wr.heap[w.heap.size + 2]? = some (.cells #[.string sr] 42 (0, 0))) (hs : sr.size ≤ 1000000) (hE : Env w)
    (ht : wr.heap[w.heap.size]? = some (.cells #[v0] 23 (0, 0))) (he : wr.heap[w.heap.size + 1]? = some (.cells #[.int .i64 0] 24 (0, 0)))
    (hr : wr.ownsRow w.heap.size 29 5 v L.length (rowCells L)) (ha : ∀ x ∈ L, OwnsPairs w.heap.size x.2 (x.1.attrs.map mpair) wr) (hb : Below w.heap.size w wr) : Rt w sr L v (wr.setCell ⟨w.heap.size, 0, none⟩ v) := by
  have g := grown_setAny wr w.heap.size 0 v
  exact ⟨(g.block _ (Array.getElem?_eq_some_iff.1 hx).1 (by simp)).trans hx, hs, hE, one_setCell ht, (g.block _ (Array.getElem?_eq_some_iff.1 he).1 (by simp)).trans he, World.ownsRow.kept hr g (own_apart hr ht (by intro cs fr e; cases e)), fun x hx => World.ownsRow.kept (ha x hx) g (own_apart (ha x hx) ht (by intro cs fr e; cases e)), hb.setCell (p := ⟨w.heap.size, 0, none⟩) (Nat.le_refl _) v⟩
theorem Rt.same {w wr : World} {sr : ByteArray} {L : List (T.Tok × Value)} {v : Value} (h : Rt w sr L v wr) : Rt w sr L v (wr.setCell ⟨w.heap.size, 0, none⟩ v) := Rt.put h.box h.small h.env h.told h.err h.row h.attrs h.below
theorem Rt.number {w wr : World} {sr : ByteArray} {L : List (T.Tok × Value)} {v : Value} (h : Rt w sr L v wr) : Rt w sr L v (wr.setCell ⟨w.heap.size + 1, 0, none⟩ (.int .i64 0)) := by
  have g := grown_setAny wr (w.heap.size + 1) 0 (.int .i64 0)
  exact ⟨(g.block _ (Array.getElem?_eq_some_iff.1 h.box).1 (by simp)).trans h.box, h.small, h.env, (g.block _ (Array.getElem?_eq_some_iff.1 h.told).1 (by simp)).trans h.told, one_setCell h.err, World.ownsRow.kept h.row g (own_apart h.row h.err (by intro cs fr e; cases e)), fun x hx => World.ownsRow.kept (h.attrs x hx) g (own_apart (h.attrs x hx) h.err (by intro cs fr e; cases e)), h.below.setCell (p := ⟨w.heap.size + 1, 0, none⟩) (Nat.le_succ _) _⟩

theorem Rt.cT {w wr : World} {sr : ByteArray} {L : List (T.Tok × Value)} {v : Value} (h : Rt w sr L v wr) : wr.cell? ⟨w.heap.size, 0, none⟩ = some v := by unfold World.cell?; rw [h.told]; rfl
theorem Rt.cE {w wr : World} {sr : ByteArray} {L : List (T.Tok × Value)} {v : Value} (h : Rt w sr L v wr) : wr.cell? ⟨w.heap.size + 1, 0, none⟩ = some (.int .i64 0) := by unfold World.cell?; rw [h.err]; rfl
theorem Rt.fT {w wr : World} {sr : ByteArray} {L : List (T.Tok × Value)} {v : Value} (h : Rt w sr L v wr) : wr.frozen? ⟨w.heap.size, 0, none⟩ = false := by simp [World.frozen?, h.told]
theorem Rt.fE {w wr : World} {sr : ByteArray} {L : List (T.Tok × Value)} {v : Value} (h : Rt w sr L v wr) : wr.frozen? ⟨w.heap.size + 1, 0, none⟩ = false := by simp [World.frozen?, h.err]

/-- A token is appended. -/
theorem Rt.more {w wr w1 w5 : World} {sr t : ByteArray} {L : List (T.Tok × Value)} {v v1 v5 : Value} {k : T.Tok} (h : Rt w sr L v wr) (hA : At (w.heap.size + 2) t w1) (g : wr.grownBy w1 (some (w.heap.size + 2))) (hov : OwnsPairs wr.heap.size v1 (k.attrs.map mpair) w1)
    (g5 : w1.grownBy w5 v.ownBlock) (ho5 : w5.ownsRow w.heap.size 29 5 v5 (L.length + 1) (rowCells L ++ tokCells k v1)) : Rt w t (L ++ [(k, v1)]) v5 (w5.setCell ⟨w.heap.size, 0, none⟩ v5) := by
  have h1 := h.on hA g
  have l3 : ∀ j, v.ownBlock = some j → w.heap.size ≤ j := fun j e => (World.ownsRow.lt h1.row j e).1
  have ne : ∀ {j : Nat}, v.ownBlock = none ∨ v.ownBlock ≠ some j → some j ≠ v.ownBlock := by
    rintro j (h | h) e
    · rw [h] at e; cases e
    · exact h e.symm
  have n1 := ne (own_apart h1.row h1.box (by intro cs fr e; cases e))
  have n2 := ne (own_apart h1.row h1.told (by intro cs fr e; cases e))
  have n3 := ne (own_apart h1.row h1.err (by intro cs fr e; cases e))
  have hov2 := ownsPairs_base hov h.below.size
  refine Rt.put ((g5.block _ (Array.getElem?_eq_some_iff.1 h1.box).1 n1).trans h1.box) h1.small h.env ((g5.block _ (Array.getElem?_eq_some_iff.1 h1.told).1 n2).trans h1.told) ((g5.block _ (Array.getElem?_eq_some_iff.1 h1.err).1 n3).trans h1.err) ?_ ?_ (h1.below.grown g5 h1.below.size l3)
  · rw [List.length_append, rowCells_append]
    simpa [rowCells] using ho5
  · intro x hx
    rcases List.mem_append.1 hx with hx | hx
    · exact World.ownsRow.kept (h1.attrs x hx) g5 (own_two (h1.attrs x hx) h1.row (by decide))
    · rw [List.mem_singleton] at hx
      subst hx
      exact World.ownsRow.kept hov2 g5 (own_two hov2 h1.row (by decide))
theorem Rt.toks {w wr : World} {sr : ByteArray} {L : List (T.Tok × Value)} {v : Value} (h : Rt w sr L v wr) : ∃ ao cap, v = .slice ao L.length cap ∧ ToksIn wr ao L ∧ (ao = none → cap = 0) := by
  obtain ⟨ao, cap, rfl, hin⟩ := toks_of_row h.row (fun x hx => by
    obtain ⟨ao, cap, e, hp⟩ := pairs_of_owns (h.attrs x hx)
    rw [List.length_map] at e
    exact ⟨ao, cap, e, hp⟩)
  refine ⟨ao, cap, rfl, hin, ?_⟩
  rintro rfl
  obtain ⟨_, ⟨e, _⟩ | ⟨g, c, cur, e, _⟩⟩ := h.row
  · injection e
  · injection e with e1
    cases e1
end Go.Proofs.YtmeliljioagipaaGreatDoor
namespace Go.Proofs.YtmeliljioagipaaGreatDoor
open Go.RowKit

namespace T
theorem next_true {l : List UInt8} (h : declares l = true) : next true l = decl (l.drop 5) := by
  unfold next; rw [if_pos (by rw [h]; rfl)]
/-- What is told so far, and what is left. -/
def Goes (first : Bool) (l : List UInt8) (a : List Tok) (r : List UInt8) : Prop := run first l = match run false r with | .error e => .error e | .ok ts => .ok (a ++ ts)
theorem goes_start {l : List UInt8} (h : declares l = false) : Goes true l [] l := by
  unfold Goes; rw [run_first h]; cases run false l <;> rfl
theorem goes_declared {l r : List UInt8} {k : Tok} (h : declares l = true) (hd : decl (l.drop 5) = .ok (k, r)) : Goes true l [k] r := by
  have hl : l ≠ [] := by rintro rfl; cases h
  unfold Goes
  rw [run_step hl, next_true h, hd]
  rfl
theorem goes_bad {l : List UInt8} {e : Nat} (h : declares l = true) (hd : decl (l.drop 5) = .error e) : run true l = .error e := by
  have hl : l ≠ [] := by rintro rfl; cases h
  rw [run_step hl, next_true h, hd]
theorem goes_end {first : Bool} {l : List UInt8} {a : List Tok} (h : Goes first l a []) : run first l = .ok a := by
  unfold Goes at h; rw [h, run_nil]; simp
theorem goes_err {first : Bool} {l r : List UInt8} {a : List Tok} {e : Nat} (h : Goes first l a r) (hr : r ≠ []) (hn : next false r = .error e) : run first l = .error e := by
  unfold Goes at h; rw [h, run_step hr, hn]
theorem goes_step {first : Bool} {l r r2 : List UInt8} {a : List Tok} {k : Tok} (h : Goes first l a r) (hr : r ≠ []) (hn : next false r = .ok (k, r2)) : Goes first l (a ++ [k]) r2 := by
  unfold Goes at *
  rw [h, run_step hr, hn]
  simp only
  cases run false r2 with
  | error e => rfl
  | ok ts => simp
end T

theorem cells_five (w : World) (x0 x1 x2 x3 x4 : Value) (t : TypeId) : ∀ j u, [x0, x1, x2, x3, x4][j]? = some u → (w.alloc (.cells #[x0, x1, x2, x3, x4] t)).cell? ((⟨w.heap.size, 0, none⟩ : Addr).add j) = some u := by
  intro j u hj
  have hb : (w.alloc (.cells #[x0, x1, x2, x3, x4] t)).heap[w.heap.size]? = some (.cells #[x0, x1, x2, x3, x4] t (0, 0)) := heap_alloc_new w _
  rw [add_at]
  simp only [World.cell?, hb]
  simpa using hj

theorem some_ne {a : Option Nat} {k : Nat} (h : a = none ∨ a ≠ some k) : some k ≠ a := by
  rintro rfl
  rcases h with h | h
  · cases h
  · exact h rfl
/-- An operation without a guard. -/
theorem wpOp_is {P : Program} {ops : Array Oper} {Q : Exit → Act → World → Prop} {i : Nat} {o : Oper} {K : Act → World → Prop} {a : Act} {w : World} (hi : ops[i]? = some o) (hg : o.guard = none) (h : o.wp P a w K Q) : wpOp P ops Q i K a w := by
  unfold wpOp
  rw [hi]
  have : Region.wanted o (yielded ops a.tmps) = true := by simp [Region.wanted, hg]
  simp only [this, if_true]
  exact .inl h

theorem told_none {g : Except Nat (List T.Tok)} {w w' : World} {e : Nat} (h : g = .error e) (hb : Below w.heap.size w w') : RunTold g w (.returned (.tuple #[.slice none 0 0, .int .i64 (e : Int)])) w' := by
  subst h
  exact ⟨none, 0, [], rfl, rfl, fun j hj => by simp at hj, fun _ => rfl, hb⟩

set_option maxRecDepth 100000 in
set_option maxHeartbeats 12800000 in
theorem tokens_go (s : ByteArray) (w : World) (hs : s.size ≤ 1000000) (hE : Env w) :
    Calls Tryz.prog 10 #[.string s] w (RunTold (T.run true s.data.toList) w) := by
  have hmf : ∀ (fn : Fn) (first cap : Array Value) (w : World), (Instr.makeFunc fn first cap).run Tryz.prog w = .ok (.func fn first cap) w := fun _ _ _ _ => rfl
  have hR0 : Rt w s [] (.slice none 0 0) (((w.alloc (.cells #[.slice none 0 0] 23)).alloc (.cells #[.int .i64 0] 24)).alloc (.cells #[.string s] 42)) := by
    have e1 : (w.alloc (.cells #[.slice none 0 0] 23)).heap.size = w.heap.size + 1 := by simp
    have e2 : ((w.alloc (.cells #[.slice none 0 0] 23)).alloc (.cells #[.int .i64 0] 24)).heap.size = w.heap.size + 2 := by simp
    have k0 := heap_alloc_new w (.cells #[.slice none 0 0] 23)
    have k1 := heap_alloc_new (w.alloc (.cells #[.slice none 0 0] 23)) (.cells #[.int .i64 0] 24)
    have k2 := heap_alloc_new ((w.alloc (.cells #[.slice none 0 0] 23)).alloc (.cells #[.int .i64 0] 24)) (.cells #[.string s] 42)
    rw [e1] at k1
    rw [e2] at k2
    have g1 := World.grownBy_alloc (w.alloc (.cells #[.slice none 0 0] 23)) (.cells #[.int .i64 0] 24) none
    have g2 := World.grownBy_alloc ((w.alloc (.cells #[.slice none 0 0] 23)).alloc (.cells #[.int .i64 0] 24)) (.cells #[.string s] 42) none
    exact ⟨k2, hs, hE, ((g1.trans g2).block _ (by rw [e1]; omega) (by simp)).trans k0, (g2.block _ (by rw [e2]; omega) (by simp)).trans k1, World.ownsRow_nil _ _ _ _, fun x hx => (by cases hx), (((Below.refl _ _).alloc (Nat.le_refl _) _).alloc (by simp) _).alloc (by simp; omega) _⟩
  cases hd : T.declares s.data.toList with
  | true =>
    have c1 := fun w' (h : At (w.heap.size + 2) s w') => isAt_any (w.heap.size + 2) s w' h true hd
    have c2 := fun w' (h : At (w.heap.size + 2) s w') => declaration_any (w.heap.size + 2) s w' h hd
    have bT := hR0.cT
    have hW0 : Hid (Rt w s [] (.slice none 0 0) (((w.alloc (.cells #[.slice none 0 0] 23)).alloc (.cells #[.int .i64 0] 24)).alloc (.cells #[.string s] 42))) := Lib.hid hR0
    cases hn : T.decl (s.data.toList.drop 5) with
    | error q =>
      have hr := Lib.hid (T.goes_bad hd hn)
      rw [hn] at c2
      clear hn hd
      go_enter_defers Tryz.func10, Tryz.ntmps10
      go_wp2_with fail
      (with_reducible refine (c1 _ hR0.rd).mono ?_); rintro e w1 ⟨rfl, rfl⟩
      go_wp2_with fail
      generalize hW : (((w.alloc (.cells #[.slice none 0 0] 23)).alloc (.cells #[.int .i64 0] 24)).alloc (.cells #[.string s] 42)) = wr at *
      clear hW
      have hR := hW0
      have hRd : Hid (Rt w s [] (.slice none 0 0) wr.drew) := Lib.hid (hR.out.grow (Below.refl _ _).drew)
      clear hR0 hW0
      apply wp_region_any mixedTok
      refine wpAny_all (rs := [0, 1]) (by kernel_rfl) (by simp) ?_
      intro i hi
      simp at hi
      rcases hi with rfl | rfl
      · simp [wpOp, go_sem, bT]
        refine .inl ?_
        refine wpAny_all (rs := [1]) (by kernel_rfl) (by simp) ?_
        intro i hi
        simp at hi
        subst hi
        simp [wpOp, go_sem]
        refine .inl ?_
        refine (c2 _ hRd.out.rd).mono ?_
        rintro e w2 ⟨rfl, g2⟩
        have hP := (hRd.out.below.grown g2 hRd.out.below.size (fun k e => by cases e; omega))
        have n1 := (g2.block _ (Array.getElem?_eq_some_iff.1 hRd.out.told).1 (by simp)).trans hRd.out.told
        have n2 := (g2.block _ (Array.getElem?_eq_some_iff.1 hRd.out.err).1 (by simp)).trans hRd.out.err
        have m1 : w2.cell? ⟨w.heap.size, 0, none⟩ = some (.slice none 0 0) := by unfold World.cell?; rw [n1]; rfl
        have m2 : w2.cell? ⟨w.heap.size + 1, 0, none⟩ = some (.int .i64 0) := by unfold World.cell?; rw [n2]; rfl
        have m3 : w2.frozen? ⟨w.heap.size, 0, none⟩ = false := by simp [World.frozen?, n1]
        have m4 : w2.frozen? ⟨w.heap.size + 1, 0, none⟩ = false := by simp [World.frozen?, n2]
        refine leaves_cons (f := 15) (args := #[.pointer (some ⟨w.heap.size, 0, none⟩), .pointer (some ⟨w.heap.size + 1, 0, none⟩)]) (by simp) (by simp [go_sem]) ?_
        refine (catch_tossed_at w.heap.size w.heap.size (w.heap.size + 1) none 0 0 (q : Int) _ (by omega) (Nat.le_refl _) (by omega) m1 0 m2 m3 m4 hP.size).mono ?_
        rintro e u' w5 ⟨rfl, rfl, hP5, hQ5, b5⟩
        have b6 := hP.trans b5
        simp [Leaves, settle, results, Tryz.results10, go_sem, hP5, hQ5]
        exact told_none hr.out b6
      · simp [wpOp, go_sem]
        refine .inl ?_
        refine (c2 _ hRd.out.rd).mono ?_
        rintro e w2 ⟨rfl, g2⟩
        have hP := (hRd.out.below.grown g2 hRd.out.below.size (fun k e => by cases e; omega))
        have n1 := (g2.block _ (Array.getElem?_eq_some_iff.1 hRd.out.told).1 (by simp)).trans hRd.out.told
        have n2 := (g2.block _ (Array.getElem?_eq_some_iff.1 hRd.out.err).1 (by simp)).trans hRd.out.err
        have m1 : w2.cell? ⟨w.heap.size, 0, none⟩ = some (.slice none 0 0) := by unfold World.cell?; rw [n1]; rfl
        have m2 : w2.cell? ⟨w.heap.size + 1, 0, none⟩ = some (.int .i64 0) := by unfold World.cell?; rw [n2]; rfl
        have m3 : w2.frozen? ⟨w.heap.size, 0, none⟩ = false := by simp [World.frozen?, n1]
        have m4 : w2.frozen? ⟨w.heap.size + 1, 0, none⟩ = false := by simp [World.frozen?, n2]
        refine leaves_cons (f := 15) (args := #[.pointer (some ⟨w.heap.size, 0, none⟩), .pointer (some ⟨w.heap.size + 1, 0, none⟩)]) (by simp) (by simp [go_sem]) ?_
        refine (catch_tossed_at w.heap.size w.heap.size (w.heap.size + 1) none 0 0 (q : Int) _ (by omega) (Nat.le_refl _) (by omega) m1 0 m2 m3 m4 hP.size).mono ?_
        rintro e u' w5 ⟨rfl, rfl, hP5, hQ5, b5⟩
        have b6 := hP.trans b5
        simp [Leaves, settle, results, Tryz.results10, go_sem, hP5, hQ5]
        exact told_none hr.out b6
    | ok x =>
      obtain ⟨k, lr⟩ := x
      obtain ⟨t, rfl⟩ := bytes_of lr
      have hgo := Lib.hid (T.goes_declared hd hn)
      rw [hn] at c2
      obtain ⟨i0, hi0, hz0, hz1, hz2⟩ := info_parts infoTok
      have hts : t.size ≤ s.size := by
        have := (T.decl_append hn []).2.1
        have h5 : (s.data.toList.drop 5).length ≤ s.data.toList.length := by rw [List.length_drop]; omega
        rw [list_len] at this h5
        omega
      have h1s : 1 ≤ s.size := by
        rw [← list_len s]
        cases hl : s.data.toList with
        | nil => rw [hl] at hd; cases hd
        | cons b t => simp
      have hlt5 : t.size < s.size := by
        have := (T.decl_append hn []).2.1
        have h5 : (s.data.toList.drop 5).length ≤ s.data.toList.length := by rw [List.length_drop]; omega
        rw [list_len] at this h5
        omega
      have hq1 : 0 + 1 ≤ maxLen := by unfold maxLen; omega
      have hq2 : (0 + 1) * 72 ≤ 140737488355328 := by omega
      clear hn hd
      go_enter_defers Tryz.func10, Tryz.ntmps10
      go_wp2_with fail
      (with_reducible refine (c1 _ hR0.rd).mono ?_); rintro e w1 ⟨rfl, rfl⟩
      go_wp2_with fail
      generalize hW : (((w.alloc (.cells #[.slice none 0 0] 23)).alloc (.cells #[.int .i64 0] 24)).alloc (.cells #[.string s] 42)) = wr at *
      clear hW
      have hR := hW0
      have hRd : Hid (Rt w s [] (.slice none 0 0) wr.drew) := Lib.hid (hR.out.grow (Below.refl _ _).drew)
      clear hR0 hW0
      have hbs := hRd.out.below.size
      apply wp_region_any mixedTok
      refine wpAny_all (rs := [0, 1]) (by kernel_rfl) (by simp) ?_
      intro i hi
      simp at hi
      rcases hi with rfl | rfl
      · simp [wpOp, go_sem, bT]
        refine .inl ?_
        refine wpAny_all (rs := [1]) (by kernel_rfl) (by simp) ?_
        intro i hi
        simp at hi
        subst hi
        simp [wpOp, go_sem]
        refine .inl ?_
        refine (c2 _ hRd.out.rd).mono ?_
        rintro e w2 ⟨t2, ht, v2, rfl, hov, h2, g2⟩
        obtain ⟨ao2, cap2, hv2, -⟩ := pairs_of_owns hov
        rw [List.length_map] at hv2
        subst hv2
        dsimp only at hov ht
        unfold tokVal
        have hR2 := hRd.out.on h2 g2
        have m1 := hR2.cT
        have hk1 := World.block_lt_of_cell? w2 _ m1
        dsimp only at hk1
        have hk2 : ¬ w.heap.size = w2.heap.size := by omega
        have hrow := World.ownsRow.alloc hR2.row (.cells #[.int .i64 (k.kind : Int), .string ⟨k.name.toArray⟩, .slice ao2 k.attrs.length cap2, .bool k.alone, .string ⟨k.data.toArray⟩] 29)
        have m1a : (w2.alloc (.cells #[.int .i64 (k.kind : Int), .string ⟨k.name.toArray⟩, .slice ao2 k.attrs.length cap2, .bool k.alone, .string ⟨k.data.toArray⟩] 29)).cell? ⟨w.heap.size, 0, none⟩ = some (.slice none 0 0) := (hR2.grow ((Below.refl _ _).alloc (Nat.le_refl _) (.cells #[.int .i64 (k.kind : Int), .string ⟨k.name.toArray⟩, .slice ao2 k.attrs.length cap2, .bool k.alone, .string ⟨k.data.toArray⟩] 29))).cT
        have hz5 : w.heap.size ≤ (w2.alloc (.cells #[.int .i64 (k.kind : Int), .string ⟨k.name.toArray⟩, .slice ao2 k.attrs.length cap2, .bool k.alone, .string ⟨k.data.toArray⟩] 29)).heap.size := by simp; omega
        replace hR2 := Lib.hid hR2
        simp only []
        refine wpAny_all (rs := [2]) (by kernel_rfl) (by simp) ?_
        intro i hi
        simp at hi
        subst hi
        simp [wpOp, go_sem]
        refine .inl ?_
        refine wpAny_all (rs := [3]) (by kernel_rfl) (by simp) ?_
        intro i hi
        simp at hi
        subst hi
        refine wpOp_is (by rfl) (by rfl) ?_
        refine wp_append_lies _ _ _ 23 (by rfl) w.heap.size 29 i0 _ 5 72 Tryz.underlying23 hi0 hz0 hz1 hz2 rfl (by decide) (.slice none 0 0) 0 [] (by rfl) hrow ⟨w2.heap.size, 0, none⟩ 1 1 [.int .i64 (k.kind : Int), .string ⟨k.name.toArray⟩, .slice ao2 k.attrs.length cap2, .bool k.alone, .string ⟨k.data.toArray⟩] (by rfl) (by rfl) (cells_five _ _ _ _ _ _ _) (fun u hu => by simp at hu; rcases hu with rfl | rfl | rfl | rfl | rfl <;> rfl) (by omega) hq1 hq2 hz5 (w2.heap.size + 1) (by simp) ?_
        intro gg cap5 w5 hown5 hgrow _ _
        have hga := (World.grownBy_alloc w2 _ _).trans hgrow
        have hn5 := (hga.block _ (Array.getElem?_eq_some_iff.1 hR2.out.told).1 (some_ne (own_apart hR2.out.row hR2.out.told (by intro cs fr e; cases e)))).trans hR2.out.told
        have m5 : w5.cell? ⟨w.heap.size, 0, none⟩ = some (.slice none 0 0) := by unfold World.cell?; rw [hn5]; rfl
        have f5 : w5.frozen? ⟨w.heap.size, 0, none⟩ = false := by simp [World.frozen?, hn5]
        have hfin := hRd.out.more h2 g2 hov hga hown5
        have hfl := hfin.rd.left
        replace hfin := Lib.hid hfin
        clear hown5 hgrow hga hn5
        refine wpAny_all (rs := [4]) (by kernel_rfl) (by simp) ?_
        intro i hi
        simp at hi
        subst hi
        simp [wpOp, go_sem, m5, f5]
        refine .inl ?_
        refine wpAny_done (by kernel_rfl) ?_ _
        clear bT m1 m1a hk1 hk2 hrow hz5 hR2 m5 f5 hR hRd c1 c2 h2 g2 hov
        go_wp2_with fail
        go_loopw [13] (fun _ wr => ∃ (sr : ByteArray) (L : List (T.Tok × Value)) (v : Value), Hid (T.Goes true s.data.toList (L.map Prod.fst) sr.data.toList) ∧ L.length + sr.size ≤ 1000000 ∧ Hid (Rt w sr L v wr)) (fun _ wr => leftAt (w.heap.size + 2) wr)
        case atStart => exact ⟨t2, [] ++ [(k, _)], _, Lib.hid (by rw [ht]; exact hgo.out), by rw [List.nil_append, List.length_singleton, ← list_len t2, ht, list_len]; omega, hfin⟩
        case round =>
          obtain ⟨sr, L, v, hG, hLs, hR⟩ := hrel
          clear hfin hfl hgo ht
          have hleft := hR.out.rd.left
          have q0 : wr.cell? ⟨w.heap.size + 1 + 1, 0, none⟩ = some (.string sr) := hR.out.rd.cell
          by_cases h0 : sr.size = 0
          · have he := empty_is h0
            have hnil : sr.data.toList = [] := List.eq_nil_of_length_eq_zero (by rw [list_len]; exact h0)
            have hend := hG.out
            rw [hnil] at hend
            replace hend := Lib.hid (T.goes_end hend)
            obtain ⟨ao, cap, rfl, hin, hcap⟩ := hR.out.toks
            have bT : wr.cell? ⟨w.heap.size, 0, none⟩ = some (.slice ao L.length cap) := hR.out.cT
            have bE : wr.cell? ⟨w.heap.size + 1, 0, none⟩ = some (.int .i64 0) := hR.out.cE
            have fT : wr.frozen? ⟨w.heap.size, 0, none⟩ = false := hR.out.fT
            have fE : wr.frozen? ⟨w.heap.size + 1, 0, none⟩ = false := hR.out.fE
            have hR2 := Lib.hid hR.out.same.number
            clear hnil hG hin hcap
            go_wp2_with fail
            refine leaves_cons (f := 15) (args := #[.pointer (some ⟨w.heap.size, 0, none⟩), .pointer (some ⟨w.heap.size + 1, 0, none⟩)]) (by simp) (by simp [go_sem]) ?_
            refine (catch_calm w.heap.size (w.heap.size + 1) ao L.length cap _ (by omega) hR2.out.cT 0 hR2.out.cE hR2.out.fT hR2.out.fE).mono ?_
            rintro e u' w5 ⟨rfl, rfl, w6, b6, hw5⟩
            have h7 : Rt w sr L (.slice ao L.length cap) w5 := by rw [hw5]; exact (hR2.out.grow b6).same.number
            have c7T := h7.cT
            have c7E := h7.cE
            clear hw5 b6 bT bE fT fE hR2 q0
            simp [Leaves, settle, results, Tryz.results10, go_sem, c7T, c7E]
            obtain ⟨ao2, cap2, e2, hin, hcap⟩ := h7.toks
            cases e2
            rw [hend.out]
            exact ⟨ao, cap, L, rfl, rfl, hin, hcap, h7.below⟩
          · have he := ne_empty (s := sr) (by omega)
            have hne : sr.data.toList ≠ [] := by intro e; rw [← list_len sr, e] at h0; exact h0 rfl
            have bT : wr.cell? ⟨w.heap.size, 0, none⟩ = some v := hR.out.cT
            have hRd : Hid (Rt w sr L v wr.drew) := Lib.hid (hR.out.grow (Below.refl _ _).drew)
            have c2 := fun w' (h : At (w.heap.size + 2) sr w') => token_any (w.heap.size + 2) sr w' h
            cases hn : T.next false sr.data.toList with
            | error q =>
              have hr := Lib.hid (T.goes_err hG.out hne hn)
              rw [hn] at c2
              obtain ⟨ao, cap, rfl, -, -⟩ := hR.out.toks
              clear hn hne hG
              go_wp2_with fail
              apply wp_region_any mixedTok
              refine wpAny_all (rs := [0, 1]) (by kernel_rfl) (by simp) ?_
              intro i hi
              simp at hi
              rcases hi with rfl | rfl
              · simp [wpOp, go_sem, bT]
                refine .inl ?_
                refine wpAny_all (rs := [1]) (by kernel_rfl) (by simp) ?_
                intro i hi
                simp at hi
                subst hi
                simp [wpOp, go_sem]
                refine .inl ?_
                refine (c2 _ hRd.out.rd).mono ?_
                rintro e w2 ⟨rfl, g2⟩
                have hP := (hRd.out.below.grown g2 hRd.out.below.size (fun k e => by cases e; omega))
                have n1 := (g2.block _ (Array.getElem?_eq_some_iff.1 hRd.out.told).1 (by simp)).trans hRd.out.told
                have n2 := (g2.block _ (Array.getElem?_eq_some_iff.1 hRd.out.err).1 (by simp)).trans hRd.out.err
                have m1 : w2.cell? ⟨w.heap.size, 0, none⟩ = some (.slice ao L.length cap) := by unfold World.cell?; rw [n1]; rfl
                have m2 : w2.cell? ⟨w.heap.size + 1, 0, none⟩ = some (.int .i64 0) := by unfold World.cell?; rw [n2]; rfl
                have m3 : w2.frozen? ⟨w.heap.size, 0, none⟩ = false := by simp [World.frozen?, n1]
                have m4 : w2.frozen? ⟨w.heap.size + 1, 0, none⟩ = false := by simp [World.frozen?, n2]
                refine leaves_cons (f := 15) (args := #[.pointer (some ⟨w.heap.size, 0, none⟩), .pointer (some ⟨w.heap.size + 1, 0, none⟩)]) (by simp) (by simp [go_sem]) ?_
                refine (catch_tossed_at w.heap.size w.heap.size (w.heap.size + 1) ao L.length cap (q : Int) _ (by omega) (Nat.le_refl _) (by omega) m1 0 m2 m3 m4 hP.size).mono ?_
                rintro e u' w5 ⟨rfl, rfl, hP5, hQ5, b5⟩
                have b6 := hP.trans b5
                simp [Leaves, settle, results, Tryz.results10, go_sem, hP5, hQ5]
                exact told_none hr.out b6
              · simp [wpOp, go_sem]
                refine .inl ?_
                refine (c2 _ hRd.out.rd).mono ?_
                rintro e w2 ⟨rfl, g2⟩
                have hP := (hRd.out.below.grown g2 hRd.out.below.size (fun k e => by cases e; omega))
                have n1 := (g2.block _ (Array.getElem?_eq_some_iff.1 hRd.out.told).1 (by simp)).trans hRd.out.told
                have n2 := (g2.block _ (Array.getElem?_eq_some_iff.1 hRd.out.err).1 (by simp)).trans hRd.out.err
                have m1 : w2.cell? ⟨w.heap.size, 0, none⟩ = some (.slice ao L.length cap) := by unfold World.cell?; rw [n1]; rfl
                have m2 : w2.cell? ⟨w.heap.size + 1, 0, none⟩ = some (.int .i64 0) := by unfold World.cell?; rw [n2]; rfl
                have m3 : w2.frozen? ⟨w.heap.size, 0, none⟩ = false := by simp [World.frozen?, n1]
                have m4 : w2.frozen? ⟨w.heap.size + 1, 0, none⟩ = false := by simp [World.frozen?, n2]
                refine leaves_cons (f := 15) (args := #[.pointer (some ⟨w.heap.size, 0, none⟩), .pointer (some ⟨w.heap.size + 1, 0, none⟩)]) (by simp) (by simp [go_sem]) ?_
                refine (catch_tossed_at w.heap.size w.heap.size (w.heap.size + 1) ao L.length cap (q : Int) _ (by omega) (Nat.le_refl _) (by omega) m1 0 m2 m3 m4 hP.size).mono ?_
                rintro e u' w5 ⟨rfl, rfl, hP5, hQ5, b5⟩
                have b6 := hP.trans b5
                simp [Leaves, settle, results, Tryz.results10, go_sem, hP5, hQ5]
                exact told_none hr.out b6
            | ok x =>
              obtain ⟨k, lr⟩ := x
              obtain ⟨t, rfl⟩ := bytes_of lr
              have hG2 := T.goes_step hG.out hne hn
              have hlt := T.next_less hne hn
              rw [list_len, list_len] at hlt
              rw [hn] at c2
              obtain ⟨ao, cap, rfl, -, -⟩ := hR.out.toks
              obtain ⟨i0, hi0, hz0, hz1, hz2⟩ := info_parts infoTok
              have hq1 : L.length + 1 ≤ maxLen := by unfold maxLen; omega
              have hq2 : (L.length + 1) * 72 ≤ 140737488355328 := by omega
              have hbs := hRd.out.below.size
              replace hG2 := Lib.hid hG2
              clear hn hne hG
              go_wp2_with fail
              apply wp_region_any mixedTok
              refine wpAny_all (rs := [0, 1]) (by kernel_rfl) (by simp) ?_
              intro i hi
              simp at hi
              rcases hi with rfl | rfl
              · simp [wpOp, go_sem, bT]
                refine .inl ?_
                refine wpAny_all (rs := [1]) (by kernel_rfl) (by simp) ?_
                intro i hi
                simp at hi
                subst hi
                simp [wpOp, go_sem]
                refine .inl ?_
                refine (c2 _ hRd.out.rd).mono ?_
                rintro e w2 ⟨t2, ht, v2, rfl, hov, h2, g2⟩
                obtain ⟨ao2, cap2, hv2, -⟩ := pairs_of_owns hov
                rw [List.length_map] at hv2
                subst hv2
                dsimp only at hov ht
                unfold tokVal
                have hR2 := hRd.out.on h2 g2
                have m1 := hR2.cT
                have hk1 := World.block_lt_of_cell? w2 _ m1
                dsimp only at hk1
                have hk2 : ¬ w.heap.size = w2.heap.size := by omega
                have hrow := World.ownsRow.alloc hR2.row (.cells #[.int .i64 (k.kind : Int), .string ⟨k.name.toArray⟩, .slice ao2 k.attrs.length cap2, .bool k.alone, .string ⟨k.data.toArray⟩] 29)
                have m1a : (w2.alloc (.cells #[.int .i64 (k.kind : Int), .string ⟨k.name.toArray⟩, .slice ao2 k.attrs.length cap2, .bool k.alone, .string ⟨k.data.toArray⟩] 29)).cell? ⟨w.heap.size, 0, none⟩ = some (.slice ao L.length cap) := (hR2.grow ((Below.refl _ _).alloc (Nat.le_refl _) (.cells #[.int .i64 (k.kind : Int), .string ⟨k.name.toArray⟩, .slice ao2 k.attrs.length cap2, .bool k.alone, .string ⟨k.data.toArray⟩] 29))).cT
                have hz5 : w.heap.size ≤ (w2.alloc (.cells #[.int .i64 (k.kind : Int), .string ⟨k.name.toArray⟩, .slice ao2 k.attrs.length cap2, .bool k.alone, .string ⟨k.data.toArray⟩] 29)).heap.size := by simp; omega
                replace hR2 := Lib.hid hR2
                simp only []
                refine wpAny_all (rs := [2]) (by kernel_rfl) (by simp) ?_
                intro i hi
                simp at hi
                subst hi
                simp [wpOp, go_sem]
                refine .inl ?_
                refine wpAny_all (rs := [3]) (by kernel_rfl) (by simp) ?_
                intro i hi
                simp at hi
                subst hi
                refine wpOp_is (by rfl) (by rfl) ?_
                refine wp_append_lies _ _ _ 23 (by rfl) w.heap.size 29 i0 _ 5 72 Tryz.underlying23 hi0 hz0 hz1 hz2 rfl (by decide) (.slice ao L.length cap) L.length (rowCells L) (by rfl) hrow ⟨w2.heap.size, 0, none⟩ 1 1 [.int .i64 (k.kind : Int), .string ⟨k.name.toArray⟩, .slice ao2 k.attrs.length cap2, .bool k.alone, .string ⟨k.data.toArray⟩] (by rfl) (by rfl) (cells_five _ _ _ _ _ _ _) (fun u hu => by simp at hu; rcases hu with rfl | rfl | rfl | rfl | rfl <;> rfl) (by omega) hq1 hq2 hz5 (w2.heap.size + 1) (by simp) ?_
                intro gg cap5 w5 hown5 hgrow _ _
                have hga := (World.grownBy_alloc w2 _ _).trans hgrow
                have hn5 := (hga.block _ (Array.getElem?_eq_some_iff.1 hR2.out.told).1 (some_ne (own_apart hR2.out.row hR2.out.told (by intro cs fr e; cases e)))).trans hR2.out.told
                have m5 : w5.cell? ⟨w.heap.size, 0, none⟩ = some (.slice ao L.length cap) := by unfold World.cell?; rw [hn5]; rfl
                have f5 : w5.frozen? ⟨w.heap.size, 0, none⟩ = false := by simp [World.frozen?, hn5]
                have hfin := hRd.out.more h2 g2 hov hga hown5
                have hfl := hfin.rd.left
                replace hfin := Lib.hid hfin
                clear hown5 hgrow hga hn5
                refine wpAny_all (rs := [4]) (by kernel_rfl) (by simp) ?_
                intro i hi
                simp at hi
                subst hi
                simp [wpOp, go_sem, m5, f5]
                refine .inl ?_
                refine wpAny_done (by kernel_rfl) ?_ _
                try (go_wp2_with fail)
                go_roundw
                case rel => exact ⟨t2, L ++ [(k, _)], _, Lib.hid (by rw [List.map_append, ht]; exact hG2.out), by rw [List.length_append, List.length_singleton, ← list_len t2, ht, list_len]; omega, hfin⟩
                case measure => rw [hfl, hleft, ← list_len t2, ht, list_len]; omega
              · simp [wpOp, go_sem]
                refine .inl ?_
                refine (c2 _ hRd.out.rd).mono ?_
                rintro e w2 ⟨t2, ht, v2, rfl, hov, h2, g2⟩
                obtain ⟨ao2, cap2, hv2, -⟩ := pairs_of_owns hov
                rw [List.length_map] at hv2
                subst hv2
                dsimp only at hov ht
                unfold tokVal
                have hR2 := hRd.out.on h2 g2
                have m1 := hR2.cT
                have hk1 := World.block_lt_of_cell? w2 _ m1
                dsimp only at hk1
                have hk2 : ¬ w.heap.size = w2.heap.size := by omega
                have hrow := World.ownsRow.alloc hR2.row (.cells #[.int .i64 (k.kind : Int), .string ⟨k.name.toArray⟩, .slice ao2 k.attrs.length cap2, .bool k.alone, .string ⟨k.data.toArray⟩] 29)
                have m1a : (w2.alloc (.cells #[.int .i64 (k.kind : Int), .string ⟨k.name.toArray⟩, .slice ao2 k.attrs.length cap2, .bool k.alone, .string ⟨k.data.toArray⟩] 29)).cell? ⟨w.heap.size, 0, none⟩ = some (.slice ao L.length cap) := (hR2.grow ((Below.refl _ _).alloc (Nat.le_refl _) (.cells #[.int .i64 (k.kind : Int), .string ⟨k.name.toArray⟩, .slice ao2 k.attrs.length cap2, .bool k.alone, .string ⟨k.data.toArray⟩] 29))).cT
                have hz5 : w.heap.size ≤ (w2.alloc (.cells #[.int .i64 (k.kind : Int), .string ⟨k.name.toArray⟩, .slice ao2 k.attrs.length cap2, .bool k.alone, .string ⟨k.data.toArray⟩] 29)).heap.size := by simp; omega
                replace hR2 := Lib.hid hR2
                simp only []
                refine wpAny_all (rs := [0, 2]) (by kernel_rfl) (by simp) ?_
                intro i hi
                simp at hi
                rcases hi with rfl | rfl
                · simp [wpOp, go_sem, m1]
                  refine .inl ?_
                  refine wpAny_all (rs := [2]) (by kernel_rfl) (by simp) ?_
                  intro i hi
                  simp at hi
                  subst hi
                  simp [wpOp, go_sem]
                  refine .inl ?_
                  refine wpAny_all (rs := [3]) (by kernel_rfl) (by simp) ?_
                  intro i hi
                  simp at hi
                  subst hi
                  refine wpOp_is (by rfl) (by rfl) ?_
                  refine wp_append_lies _ _ _ 23 (by rfl) w.heap.size 29 i0 _ 5 72 Tryz.underlying23 hi0 hz0 hz1 hz2 rfl (by decide) (.slice ao L.length cap) L.length (rowCells L) (by rfl) hrow ⟨w2.heap.size, 0, none⟩ 1 1 [.int .i64 (k.kind : Int), .string ⟨k.name.toArray⟩, .slice ao2 k.attrs.length cap2, .bool k.alone, .string ⟨k.data.toArray⟩] (by rfl) (by rfl) (cells_five _ _ _ _ _ _ _) (fun u hu => by simp at hu; rcases hu with rfl | rfl | rfl | rfl | rfl <;> rfl) (by omega) hq1 hq2 hz5 (w2.heap.size + 1) (by simp) ?_
                  intro gg cap5 w5 hown5 hgrow _ _
                  have hga := (World.grownBy_alloc w2 _ _).trans hgrow
                  have hn5 := (hga.block _ (Array.getElem?_eq_some_iff.1 hR2.out.told).1 (some_ne (own_apart hR2.out.row hR2.out.told (by intro cs fr e; cases e)))).trans hR2.out.told
                  have m5 : w5.cell? ⟨w.heap.size, 0, none⟩ = some (.slice ao L.length cap) := by unfold World.cell?; rw [hn5]; rfl
                  have f5 : w5.frozen? ⟨w.heap.size, 0, none⟩ = false := by simp [World.frozen?, hn5]
                  have hfin := hRd.out.more h2 g2 hov hga hown5
                  have hfl := hfin.rd.left
                  replace hfin := Lib.hid hfin
                  clear hown5 hgrow hga hn5
                  refine wpAny_all (rs := [4]) (by kernel_rfl) (by simp) ?_
                  intro i hi
                  simp at hi
                  subst hi
                  simp [wpOp, go_sem, m5, f5]
                  refine .inl ?_
                  refine wpAny_done (by kernel_rfl) ?_ _
                  try (go_wp2_with fail)
                  go_roundw
                  case rel => exact ⟨t2, L ++ [(k, _)], _, Lib.hid (by rw [List.map_append, ht]; exact hG2.out), by rw [List.length_append, List.length_singleton, ← list_len t2, ht, list_len]; omega, hfin⟩
                  case measure => rw [hfl, hleft, ← list_len t2, ht, list_len]; omega
                · simp [wpOp, go_sem]
                  refine .inl ?_
                  refine wpAny_all (rs := [0]) (by kernel_rfl) (by simp) ?_
                  intro i hi
                  simp at hi
                  subst hi
                  simp [wpOp, go_sem]
                  rw [m1a]
                  simp
                  refine .inl ?_
                  refine wpAny_all (rs := [3]) (by kernel_rfl) (by simp) ?_
                  intro i hi
                  simp at hi
                  subst hi
                  refine wpOp_is (by rfl) (by rfl) ?_
                  refine wp_append_lies _ _ _ 23 (by rfl) w.heap.size 29 i0 _ 5 72 Tryz.underlying23 hi0 hz0 hz1 hz2 rfl (by decide) (.slice ao L.length cap) L.length (rowCells L) (by rfl) hrow ⟨w2.heap.size, 0, none⟩ 1 1 [.int .i64 (k.kind : Int), .string ⟨k.name.toArray⟩, .slice ao2 k.attrs.length cap2, .bool k.alone, .string ⟨k.data.toArray⟩] (by rfl) (by rfl) (cells_five _ _ _ _ _ _ _) (fun u hu => by simp at hu; rcases hu with rfl | rfl | rfl | rfl | rfl <;> rfl) (by omega) hq1 hq2 hz5 (w2.heap.size + 1) (by simp) ?_
                  intro gg cap5 w5 hown5 hgrow _ _
                  have hga := (World.grownBy_alloc w2 _ _).trans hgrow
                  have hn5 := (hga.block _ (Array.getElem?_eq_some_iff.1 hR2.out.told).1 (some_ne (own_apart hR2.out.row hR2.out.told (by intro cs fr e; cases e)))).trans hR2.out.told
                  have m5 : w5.cell? ⟨w.heap.size, 0, none⟩ = some (.slice ao L.length cap) := by unfold World.cell?; rw [hn5]; rfl
                  have f5 : w5.frozen? ⟨w.heap.size, 0, none⟩ = false := by simp [World.frozen?, hn5]
                  have hfin := hRd.out.more h2 g2 hov hga hown5
                  have hfl := hfin.rd.left
                  replace hfin := Lib.hid hfin
                  clear hown5 hgrow hga hn5
                  refine wpAny_all (rs := [4]) (by kernel_rfl) (by simp) ?_
                  intro i hi
                  simp at hi
                  subst hi
                  simp [wpOp, go_sem, m5, f5]
                  refine .inl ?_
                  refine wpAny_done (by kernel_rfl) ?_ _
                  try (go_wp2_with fail)
                  go_roundw
                  case rel => exact ⟨t2, L ++ [(k, _)], _, Lib.hid (by rw [List.map_append, ht]; exact hG2.out), by rw [List.length_append, List.length_singleton, ← list_len t2, ht, list_len]; omega, hfin⟩
                  case measure => rw [hfl, hleft, ← list_len t2, ht, list_len]; omega
      · simp [wpOp, go_sem]
        refine .inl ?_
        refine (c2 _ hRd.out.rd).mono ?_
        rintro e w2 ⟨t2, ht, v2, rfl, hov, h2, g2⟩
        obtain ⟨ao2, cap2, hv2, -⟩ := pairs_of_owns hov
        rw [List.length_map] at hv2
        subst hv2
        dsimp only at hov ht
        unfold tokVal
        have hR2 := hRd.out.on h2 g2
        have m1 := hR2.cT
        have hk1 := World.block_lt_of_cell? w2 _ m1
        dsimp only at hk1
        have hk2 : ¬ w.heap.size = w2.heap.size := by omega
        have hrow := World.ownsRow.alloc hR2.row (.cells #[.int .i64 (k.kind : Int), .string ⟨k.name.toArray⟩, .slice ao2 k.attrs.length cap2, .bool k.alone, .string ⟨k.data.toArray⟩] 29)
        have m1a : (w2.alloc (.cells #[.int .i64 (k.kind : Int), .string ⟨k.name.toArray⟩, .slice ao2 k.attrs.length cap2, .bool k.alone, .string ⟨k.data.toArray⟩] 29)).cell? ⟨w.heap.size, 0, none⟩ = some (.slice none 0 0) := (hR2.grow ((Below.refl _ _).alloc (Nat.le_refl _) (.cells #[.int .i64 (k.kind : Int), .string ⟨k.name.toArray⟩, .slice ao2 k.attrs.length cap2, .bool k.alone, .string ⟨k.data.toArray⟩] 29))).cT
        have hz5 : w.heap.size ≤ (w2.alloc (.cells #[.int .i64 (k.kind : Int), .string ⟨k.name.toArray⟩, .slice ao2 k.attrs.length cap2, .bool k.alone, .string ⟨k.data.toArray⟩] 29)).heap.size := by simp; omega
        replace hR2 := Lib.hid hR2
        simp only []
        refine wpAny_all (rs := [0, 2]) (by kernel_rfl) (by simp) ?_
        intro i hi
        simp at hi
        rcases hi with rfl | rfl
        · simp [wpOp, go_sem, m1]
          refine .inl ?_
          refine wpAny_all (rs := [2]) (by kernel_rfl) (by simp) ?_
          intro i hi
          simp at hi
          subst hi
          simp [wpOp, go_sem]
          refine .inl ?_
          refine wpAny_all (rs := [3]) (by kernel_rfl) (by simp) ?_
          intro i hi
          simp at hi
          subst hi
          refine wpOp_is (by rfl) (by rfl) ?_
          refine wp_append_lies _ _ _ 23 (by rfl) w.heap.size 29 i0 _ 5 72 Tryz.underlying23 hi0 hz0 hz1 hz2 rfl (by decide) (.slice none 0 0) 0 [] (by rfl) hrow ⟨w2.heap.size, 0, none⟩ 1 1 [.int .i64 (k.kind : Int), .string ⟨k.name.toArray⟩, .slice ao2 k.attrs.length cap2, .bool k.alone, .string ⟨k.data.toArray⟩] (by rfl) (by rfl) (cells_five _ _ _ _ _ _ _) (fun u hu => by simp at hu; rcases hu with rfl | rfl | rfl | rfl | rfl <;> rfl) (by omega) hq1 hq2 hz5 (w2.heap.size + 1) (by simp) ?_
          intro gg cap5 w5 hown5 hgrow _ _
          have hga := (World.grownBy_alloc w2 _ _).trans hgrow
          have hn5 := (hga.block _ (Array.getElem?_eq_some_iff.1 hR2.out.told).1 (some_ne (own_apart hR2.out.row hR2.out.told (by intro cs fr e; cases e)))).trans hR2.out.told
          have m5 : w5.cell? ⟨w.heap.size, 0, none⟩ = some (.slice none 0 0) := by unfold World.cell?; rw [hn5]; rfl
          have f5 : w5.frozen? ⟨w.heap.size, 0, none⟩ = false := by simp [World.frozen?, hn5]
          have hfin := hRd.out.more h2 g2 hov hga hown5
          have hfl := hfin.rd.left
          replace hfin := Lib.hid hfin
          clear hown5 hgrow hga hn5
          refine wpAny_all (rs := [4]) (by kernel_rfl) (by simp) ?_
          intro i hi
          simp at hi
          subst hi
          simp [wpOp, go_sem, m5, f5]
          refine .inl ?_
          refine wpAny_done (by kernel_rfl) ?_ _
          clear bT m1 m1a hk1 hk2 hrow hz5 hR2 m5 f5 hR hRd c1 c2 h2 g2 hov
          go_wp2_with fail
          go_loopw [13] (fun _ wr => ∃ (sr : ByteArray) (L : List (T.Tok × Value)) (v : Value), Hid (T.Goes true s.data.toList (L.map Prod.fst) sr.data.toList) ∧ L.length + sr.size ≤ 1000000 ∧ Hid (Rt w sr L v wr)) (fun _ wr => leftAt (w.heap.size + 2) wr)
          case atStart => exact ⟨t2, [] ++ [(k, _)], _, Lib.hid (by rw [ht]; exact hgo.out), by rw [List.nil_append, List.length_singleton, ← list_len t2, ht, list_len]; omega, hfin⟩
          case round =>
            obtain ⟨sr, L, v, hG, hLs, hR⟩ := hrel
            clear hfin hfl hgo ht
            have hleft := hR.out.rd.left
            have q0 : wr.cell? ⟨w.heap.size + 1 + 1, 0, none⟩ = some (.string sr) := hR.out.rd.cell
            by_cases h0 : sr.size = 0
            · have he := empty_is h0
              have hnil : sr.data.toList = [] := List.eq_nil_of_length_eq_zero (by rw [list_len]; exact h0)
              have hend := hG.out
              rw [hnil] at hend
              replace hend := Lib.hid (T.goes_end hend)
              obtain ⟨ao, cap, rfl, hin, hcap⟩ := hR.out.toks
              have bT : wr.cell? ⟨w.heap.size, 0, none⟩ = some (.slice ao L.length cap) := hR.out.cT
              have bE : wr.cell? ⟨w.heap.size + 1, 0, none⟩ = some (.int .i64 0) := hR.out.cE
              have fT : wr.frozen? ⟨w.heap.size, 0, none⟩ = false := hR.out.fT
              have fE : wr.frozen? ⟨w.heap.size + 1, 0, none⟩ = false := hR.out.fE
              have hR2 := Lib.hid hR.out.same.number
              clear hnil hG hin hcap
              go_wp2_with fail
              refine leaves_cons (f := 15) (args := #[.pointer (some ⟨w.heap.size, 0, none⟩), .pointer (some ⟨w.heap.size + 1, 0, none⟩)]) (by simp) (by simp [go_sem]) ?_
              refine (catch_calm w.heap.size (w.heap.size + 1) ao L.length cap _ (by omega) hR2.out.cT 0 hR2.out.cE hR2.out.fT hR2.out.fE).mono ?_
              rintro e u' w5 ⟨rfl, rfl, w6, b6, hw5⟩
              have h7 : Rt w sr L (.slice ao L.length cap) w5 := by rw [hw5]; exact (hR2.out.grow b6).same.number
              have c7T := h7.cT
              have c7E := h7.cE
              clear hw5 b6 bT bE fT fE hR2 q0
              simp [Leaves, settle, results, Tryz.results10, go_sem, c7T, c7E]
              obtain ⟨ao2, cap2, e2, hin, hcap⟩ := h7.toks
              cases e2
              rw [hend.out]
              exact ⟨ao, cap, L, rfl, rfl, hin, hcap, h7.below⟩
            · have he := ne_empty (s := sr) (by omega)
              have hne : sr.data.toList ≠ [] := by intro e; rw [← list_len sr, e] at h0; exact h0 rfl
              have bT : wr.cell? ⟨w.heap.size, 0, none⟩ = some v := hR.out.cT
              have hRd : Hid (Rt w sr L v wr.drew) := Lib.hid (hR.out.grow (Below.refl _ _).drew)
              have c2 := fun w' (h : At (w.heap.size + 2) sr w') => token_any (w.heap.size + 2) sr w' h
              cases hn : T.next false sr.data.toList with
              | error q =>
                have hr := Lib.hid (T.goes_err hG.out hne hn)
                rw [hn] at c2
                obtain ⟨ao, cap, rfl, -, -⟩ := hR.out.toks
                clear hn hne hG
                go_wp2_with fail
                apply wp_region_any mixedTok
                refine wpAny_all (rs := [0, 1]) (by kernel_rfl) (by simp) ?_
                intro i hi
                simp at hi
                rcases hi with rfl | rfl
                · simp [wpOp, go_sem, bT]
                  refine .inl ?_
                  refine wpAny_all (rs := [1]) (by kernel_rfl) (by simp) ?_
                  intro i hi
                  simp at hi
                  subst hi
                  simp [wpOp, go_sem]
                  refine .inl ?_
                  refine (c2 _ hRd.out.rd).mono ?_
                  rintro e w2 ⟨rfl, g2⟩
                  have hP := (hRd.out.below.grown g2 hRd.out.below.size (fun k e => by cases e; omega))
                  have n1 := (g2.block _ (Array.getElem?_eq_some_iff.1 hRd.out.told).1 (by simp)).trans hRd.out.told
                  have n2 := (g2.block _ (Array.getElem?_eq_some_iff.1 hRd.out.err).1 (by simp)).trans hRd.out.err
                  have m1 : w2.cell? ⟨w.heap.size, 0, none⟩ = some (.slice ao L.length cap) := by unfold World.cell?; rw [n1]; rfl
                  have m2 : w2.cell? ⟨w.heap.size + 1, 0, none⟩ = some (.int .i64 0) := by unfold World.cell?; rw [n2]; rfl
                  have m3 : w2.frozen? ⟨w.heap.size, 0, none⟩ = false := by simp [World.frozen?, n1]
                  have m4 : w2.frozen? ⟨w.heap.size + 1, 0, none⟩ = false := by simp [World.frozen?, n2]
                  refine leaves_cons (f := 15) (args := #[.pointer (some ⟨w.heap.size, 0, none⟩), .pointer (some ⟨w.heap.size + 1, 0, none⟩)]) (by simp) (by simp [go_sem]) ?_
                  refine (catch_tossed_at w.heap.size w.heap.size (w.heap.size + 1) ao L.length cap (q : Int) _ (by omega) (Nat.le_refl _) (by omega) m1 0 m2 m3 m4 hP.size).mono ?_
                  rintro e u' w5 ⟨rfl, rfl, hP5, hQ5, b5⟩
                  have b6 := hP.trans b5
                  simp [Leaves, settle, results, Tryz.results10, go_sem, hP5, hQ5]
                  exact told_none hr.out b6
                · simp [wpOp, go_sem]
                  refine .inl ?_
                  refine (c2 _ hRd.out.rd).mono ?_
                  rintro e w2 ⟨rfl, g2⟩
                  have hP := (hRd.out.below.grown g2 hRd.out.below.size (fun k e => by cases e; omega))
                  have n1 := (g2.block _ (Array.getElem?_eq_some_iff.1 hRd.out.told).1 (by simp)).trans hRd.out.told
                  have n2 := (g2.block _ (Array.getElem?_eq_some_iff.1 hRd.out.err).1 (by simp)).trans hRd.out.err
                  have m1 : w2.cell? ⟨w.heap.size, 0, none⟩ = some (.slice ao L.length cap) := by unfold World.cell?; rw [n1]; rfl
                  have m2 : w2.cell? ⟨w.heap.size + 1, 0, none⟩ = some (.int .i64 0) := by unfold World.cell?; rw [n2]; rfl
                  have m3 : w2.frozen? ⟨w.heap.size, 0, none⟩ = false := by simp [World.frozen?, n1]
                  have m4 : w2.frozen? ⟨w.heap.size + 1, 0, none⟩ = false := by simp [World.frozen?, n2]
                  refine leaves_cons (f := 15) (args := #[.pointer (some ⟨w.heap.size, 0, none⟩), .pointer (some ⟨w.heap.size + 1, 0, none⟩)]) (by simp) (by simp [go_sem]) ?_
                  refine (catch_tossed_at w.heap.size w.heap.size (w.heap.size + 1) ao L.length cap (q : Int) _ (by omega) (Nat.le_refl _) (by omega) m1 0 m2 m3 m4 hP.size).mono ?_
                  rintro e u' w5 ⟨rfl, rfl, hP5, hQ5, b5⟩
                  have b6 := hP.trans b5
                  simp [Leaves, settle, results, Tryz.results10, go_sem, hP5, hQ5]
                  exact told_none hr.out b6
              | ok x =>
                obtain ⟨k, lr⟩ := x
                obtain ⟨t, rfl⟩ := bytes_of lr
                have hG2 := T.goes_step hG.out hne hn
                have hlt := T.next_less hne hn
                rw [list_len, list_len] at hlt
                rw [hn] at c2
                obtain ⟨ao, cap, rfl, -, -⟩ := hR.out.toks
                obtain ⟨i0, hi0, hz0, hz1, hz2⟩ := info_parts infoTok
                have hq1 : L.length + 1 ≤ maxLen := by unfold maxLen; omega
                have hq2 : (L.length + 1) * 72 ≤ 140737488355328 := by omega
                have hbs := hRd.out.below.size
                replace hG2 := Lib.hid hG2
                clear hn hne hG
                go_wp2_with fail
                apply wp_region_any mixedTok
                refine wpAny_all (rs := [0, 1]) (by kernel_rfl) (by simp) ?_
                intro i hi
                simp at hi
                rcases hi with rfl | rfl
                · simp [wpOp, go_sem, bT]
                  refine .inl ?_
                  refine wpAny_all (rs := [1]) (by kernel_rfl) (by simp) ?_
                  intro i hi
                  simp at hi
                  subst hi
                  simp [wpOp, go_sem]
                  refine .inl ?_
                  refine (c2 _ hRd.out.rd).mono ?_
                  rintro e w2 ⟨t2, ht, v2, rfl, hov, h2, g2⟩
                  obtain ⟨ao2, cap2, hv2, -⟩ := pairs_of_owns hov
                  rw [List.length_map] at hv2
                  subst hv2
                  dsimp only at hov ht
                  unfold tokVal
                  have hR2 := hRd.out.on h2 g2
                  have m1 := hR2.cT
                  have hk1 := World.block_lt_of_cell? w2 _ m1
                  dsimp only at hk1
                  have hk2 : ¬ w.heap.size = w2.heap.size := by omega
                  have hrow := World.ownsRow.alloc hR2.row (.cells #[.int .i64 (k.kind : Int), .string ⟨k.name.toArray⟩, .slice ao2 k.attrs.length cap2, .bool k.alone, .string ⟨k.data.toArray⟩] 29)
                  have m1a : (w2.alloc (.cells #[.int .i64 (k.kind : Int), .string ⟨k.name.toArray⟩, .slice ao2 k.attrs.length cap2, .bool k.alone, .string ⟨k.data.toArray⟩] 29)).cell? ⟨w.heap.size, 0, none⟩ = some (.slice ao L.length cap) := (hR2.grow ((Below.refl _ _).alloc (Nat.le_refl _) (.cells #[.int .i64 (k.kind : Int), .string ⟨k.name.toArray⟩, .slice ao2 k.attrs.length cap2, .bool k.alone, .string ⟨k.data.toArray⟩] 29))).cT
                  have hz5 : w.heap.size ≤ (w2.alloc (.cells #[.int .i64 (k.kind : Int), .string ⟨k.name.toArray⟩, .slice ao2 k.attrs.length cap2, .bool k.alone, .string ⟨k.data.toArray⟩] 29)).heap.size := by simp; omega
                  replace hR2 := Lib.hid hR2
                  simp only []
                  refine wpAny_all (rs := [2]) (by kernel_rfl) (by simp) ?_
                  intro i hi
                  simp at hi
                  subst hi
                  simp [wpOp, go_sem]
                  refine .inl ?_
                  refine wpAny_all (rs := [3]) (by kernel_rfl) (by simp) ?_
                  intro i hi
                  simp at hi
                  subst hi
                  refine wpOp_is (by rfl) (by rfl) ?_
                  refine wp_append_lies _ _ _ 23 (by rfl) w.heap.size 29 i0 _ 5 72 Tryz.underlying23 hi0 hz0 hz1 hz2 rfl (by decide) (.slice ao L.length cap) L.length (rowCells L) (by rfl) hrow ⟨w2.heap.size, 0, none⟩ 1 1 [.int .i64 (k.kind : Int), .string ⟨k.name.toArray⟩, .slice ao2 k.attrs.length cap2, .bool k.alone, .string ⟨k.data.toArray⟩] (by rfl) (by rfl) (cells_five _ _ _ _ _ _ _) (fun u hu => by simp at hu; rcases hu with rfl | rfl | rfl | rfl | rfl <;> rfl) (by omega) hq1 hq2 hz5 (w2.heap.size + 1) (by simp) ?_
                  intro gg cap5 w5 hown5 hgrow _ _
                  have hga := (World.grownBy_alloc w2 _ _).trans hgrow
                  have hn5 := (hga.block _ (Array.getElem?_eq_some_iff.1 hR2.out.told).1 (some_ne (own_apart hR2.out.row hR2.out.told (by intro cs fr e; cases e)))).trans hR2.out.told
                  have m5 : w5.cell? ⟨w.heap.size, 0, none⟩ = some (.slice ao L.length cap) := by unfold World.cell?; rw [hn5]; rfl
                  have f5 : w5.frozen? ⟨w.heap.size, 0, none⟩ = false := by simp [World.frozen?, hn5]
                  have hfin := hRd.out.more h2 g2 hov hga hown5
                  have hfl := hfin.rd.left
                  replace hfin := Lib.hid hfin
                  clear hown5 hgrow hga hn5
                  refine wpAny_all (rs := [4]) (by kernel_rfl) (by simp) ?_
                  intro i hi
                  simp at hi
                  subst hi
                  simp [wpOp, go_sem, m5, f5]
                  refine .inl ?_
                  refine wpAny_done (by kernel_rfl) ?_ _
                  try (go_wp2_with fail)
                  go_roundw
                  case rel => exact ⟨t2, L ++ [(k, _)], _, Lib.hid (by rw [List.map_append, ht]; exact hG2.out), by rw [List.length_append, List.length_singleton, ← list_len t2, ht, list_len]; omega, hfin⟩
                  case measure => rw [hfl, hleft, ← list_len t2, ht, list_len]; omega
                · simp [wpOp, go_sem]
                  refine .inl ?_
                  refine (c2 _ hRd.out.rd).mono ?_
                  rintro e w2 ⟨t2, ht, v2, rfl, hov, h2, g2⟩
                  obtain ⟨ao2, cap2, hv2, -⟩ := pairs_of_owns hov
                  rw [List.length_map] at hv2
                  subst hv2
                  dsimp only at hov ht
                  unfold tokVal
                  have hR2 := hRd.out.on h2 g2
                  have m1 := hR2.cT
                  have hk1 := World.block_lt_of_cell? w2 _ m1
                  dsimp only at hk1
                  have hk2 : ¬ w.heap.size = w2.heap.size := by omega
                  have hrow := World.ownsRow.alloc hR2.row (.cells #[.int .i64 (k.kind : Int), .string ⟨k.name.toArray⟩, .slice ao2 k.attrs.length cap2, .bool k.alone, .string ⟨k.data.toArray⟩] 29)
                  have m1a : (w2.alloc (.cells #[.int .i64 (k.kind : Int), .string ⟨k.name.toArray⟩, .slice ao2 k.attrs.length cap2, .bool k.alone, .string ⟨k.data.toArray⟩] 29)).cell? ⟨w.heap.size, 0, none⟩ = some (.slice ao L.length cap) := (hR2.grow ((Below.refl _ _).alloc (Nat.le_refl _) (.cells #[.int .i64 (k.kind : Int), .string ⟨k.name.toArray⟩, .slice ao2 k.attrs.length cap2, .bool k.alone, .string ⟨k.data.toArray⟩] 29))).cT
                  have hz5 : w.heap.size ≤ (w2.alloc (.cells #[.int .i64 (k.kind : Int), .string ⟨k.name.toArray⟩, .slice ao2 k.attrs.length cap2, .bool k.alone, .string ⟨k.data.toArray⟩] 29)).heap.size := by simp; omega
                  replace hR2 := Lib.hid hR2
                  simp only []
                  refine wpAny_all (rs := [0, 2]) (by kernel_rfl) (by simp) ?_
                  intro i hi
                  simp at hi
                  rcases hi with rfl | rfl
                  · simp [wpOp, go_sem, m1]
                    refine .inl ?_
                    refine wpAny_all (rs := [2]) (by kernel_rfl) (by simp) ?_
                    intro i hi
                    simp at hi
                    subst hi
                    simp [wpOp, go_sem]
                    refine .inl ?_
                    refine wpAny_all (rs := [3]) (by kernel_rfl) (by simp) ?_
                    intro i hi
                    simp at hi
                    subst hi
                    refine wpOp_is (by rfl) (by rfl) ?_
                    refine wp_append_lies _ _ _ 23 (by rfl) w.heap.size 29 i0 _ 5 72 Tryz.underlying23 hi0 hz0 hz1 hz2 rfl (by decide) (.slice ao L.length cap) L.length (rowCells L) (by rfl) hrow ⟨w2.heap.size, 0, none⟩ 1 1 [.int .i64 (k.kind : Int), .string ⟨k.name.toArray⟩, .slice ao2 k.attrs.length cap2, .bool k.alone, .string ⟨k.data.toArray⟩] (by rfl) (by rfl) (cells_five _ _ _ _ _ _ _) (fun u hu => by simp at hu; rcases hu with rfl | rfl | rfl | rfl | rfl <;> rfl) (by omega) hq1 hq2 hz5 (w2.heap.size + 1) (by simp) ?_
                    intro gg cap5 w5 hown5 hgrow _ _
                    have hga := (World.grownBy_alloc w2 _ _).trans hgrow
                    have hn5 := (hga.block _ (Array.getElem?_eq_some_iff.1 hR2.out.told).1 (some_ne (own_apart hR2.out.row hR2.out.told (by intro cs fr e; cases e)))).trans hR2.out.told
                    have m5 : w5.cell? ⟨w.heap.size, 0, none⟩ = some (.slice ao L.length cap) := by unfold World.cell?; rw [hn5]; rfl
                    have f5 : w5.frozen? ⟨w.heap.size, 0, none⟩ = false := by simp [World.frozen?, hn5]
                    have hfin := hRd.out.more h2 g2 hov hga hown5
                    have hfl := hfin.rd.left
                    replace hfin := Lib.hid hfin
                    clear hown5 hgrow hga hn5
                    refine wpAny_all (rs := [4]) (by kernel_rfl) (by simp) ?_
                    intro i hi
                    simp at hi
                    subst hi
                    simp [wpOp, go_sem, m5, f5]
                    refine .inl ?_
                    refine wpAny_done (by kernel_rfl) ?_ _
                    try (go_wp2_with fail)
                    go_roundw
                    case rel => exact ⟨t2, L ++ [(k, _)], _, Lib.hid (by rw [List.map_append, ht]; exact hG2.out), by rw [List.length_append, List.length_singleton, ← list_len t2, ht, list_len]; omega, hfin⟩
                    case measure => rw [hfl, hleft, ← list_len t2, ht, list_len]; omega
                  · simp [wpOp, go_sem]
                    refine .inl ?_
                    refine wpAny_all (rs := [0]) (by kernel_rfl) (by simp) ?_
                    intro i hi
                    simp at hi
                    subst hi
                    simp [wpOp, go_sem]
                    rw [m1a]
                    simp
                    refine .inl ?_
                    refine wpAny_all (rs := [3]) (by kernel_rfl) (by simp) ?_
                    intro i hi
                    simp at hi
                    subst hi
                    refine wpOp_is (by rfl) (by rfl) ?_
                    refine wp_append_lies _ _ _ 23 (by rfl) w.heap.size 29 i0 _ 5 72 Tryz.underlying23 hi0 hz0 hz1 hz2 rfl (by decide) (.slice ao L.length cap) L.length (rowCells L) (by rfl) hrow ⟨w2.heap.size, 0, none⟩ 1 1 [.int .i64 (k.kind : Int), .string ⟨k.name.toArray⟩, .slice ao2 k.attrs.length cap2, .bool k.alone, .string ⟨k.data.toArray⟩] (by rfl) (by rfl) (cells_five _ _ _ _ _ _ _) (fun u hu => by simp at hu; rcases hu with rfl | rfl | rfl | rfl | rfl <;> rfl) (by omega) hq1 hq2 hz5 (w2.heap.size + 1) (by simp) ?_
                    intro gg cap5 w5 hown5 hgrow _ _
                    have hga := (World.grownBy_alloc w2 _ _).trans hgrow
                    have hn5 := (hga.block _ (Array.getElem?_eq_some_iff.1 hR2.out.told).1 (some_ne (own_apart hR2.out.row hR2.out.told (by intro cs fr e; cases e)))).trans hR2.out.told
                    have m5 : w5.cell? ⟨w.heap.size, 0, none⟩ = some (.slice ao L.length cap) := by unfold World.cell?; rw [hn5]; rfl
                    have f5 : w5.frozen? ⟨w.heap.size, 0, none⟩ = false := by simp [World.frozen?, hn5]
                    have hfin := hRd.out.more h2 g2 hov hga hown5
                    have hfl := hfin.rd.left
                    replace hfin := Lib.hid hfin
                    clear hown5 hgrow hga hn5
                    refine wpAny_all (rs := [4]) (by kernel_rfl) (by simp) ?_
                    intro i hi
                    simp at hi
                    subst hi
                    simp [wpOp, go_sem, m5, f5]
                    refine .inl ?_
                    refine wpAny_done (by kernel_rfl) ?_ _
                    try (go_wp2_with fail)
                    go_roundw
                    case rel => exact ⟨t2, L ++ [(k, _)], _, Lib.hid (by rw [List.map_append, ht]; exact hG2.out), by rw [List.length_append, List.length_singleton, ← list_len t2, ht, list_len]; omega, hfin⟩
                    case measure => rw [hfl, hleft, ← list_len t2, ht, list_len]; omega
        · simp [wpOp, go_sem]
          refine .inl ?_
          refine wpAny_all (rs := [0]) (by kernel_rfl) (by simp) ?_
          intro i hi
          simp at hi
          subst hi
          simp [wpOp, go_sem]
          rw [m1a]
          simp
          refine .inl ?_
          refine wpAny_all (rs := [3]) (by kernel_rfl) (by simp) ?_
          intro i hi
          simp at hi
          subst hi
          refine wpOp_is (by rfl) (by rfl) ?_
          refine wp_append_lies _ _ _ 23 (by rfl) w.heap.size 29 i0 _ 5 72 Tryz.underlying23 hi0 hz0 hz1 hz2 rfl (by decide) (.slice none 0 0) 0 [] (by rfl) hrow ⟨w2.heap.size, 0, none⟩ 1 1 [.int .i64 (k.kind : Int), .string ⟨k.name.toArray⟩, .slice ao2 k.attrs.length cap2, .bool k.alone, .string ⟨k.data.toArray⟩] (by rfl) (by rfl) (cells_five _ _ _ _ _ _ _) (fun u hu => by simp at hu; rcases hu with rfl | rfl | rfl | rfl | rfl <;> rfl) (by omega) hq1 hq2 hz5 (w2.heap.size + 1) (by simp) ?_
          intro gg cap5 w5 hown5 hgrow _ _
          have hga := (World.grownBy_alloc w2 _ _).trans hgrow
          have hn5 := (hga.block _ (Array.getElem?_eq_some_iff.1 hR2.out.told).1 (some_ne (own_apart hR2.out.row hR2.out.told (by intro cs fr e; cases e)))).trans hR2.out.told
          have m5 : w5.cell? ⟨w.heap.size, 0, none⟩ = some (.slice none 0 0) := by unfold World.cell?; rw [hn5]; rfl
          have f5 : w5.frozen? ⟨w.heap.size, 0, none⟩ = false := by simp [World.frozen?, hn5]
          have hfin := hRd.out.more h2 g2 hov hga hown5
          have hfl := hfin.rd.left
          replace hfin := Lib.hid hfin
          clear hown5 hgrow hga hn5
          refine wpAny_all (rs := [4]) (by kernel_rfl) (by simp) ?_
          intro i hi
          simp at hi
          subst hi
          simp [wpOp, go_sem, m5, f5]
          refine .inl ?_
          refine wpAny_done (by kernel_rfl) ?_ _
          clear bT m1 m1a hk1 hk2 hrow hz5 hR2 m5 f5 hR hRd c1 c2 h2 g2 hov
          go_wp2_with fail
          go_loopw [13] (fun _ wr => ∃ (sr : ByteArray) (L : List (T.Tok × Value)) (v : Value), Hid (T.Goes true s.data.toList (L.map Prod.fst) sr.data.toList) ∧ L.length + sr.size ≤ 1000000 ∧ Hid (Rt w sr L v wr)) (fun _ wr => leftAt (w.heap.size + 2) wr)
          case atStart => exact ⟨t2, [] ++ [(k, _)], _, Lib.hid (by rw [ht]; exact hgo.out), by rw [List.nil_append, List.length_singleton, ← list_len t2, ht, list_len]; omega, hfin⟩
          case round =>
            obtain ⟨sr, L, v, hG, hLs, hR⟩ := hrel
            clear hfin hfl hgo ht
            have hleft := hR.out.rd.left
            have q0 : wr.cell? ⟨w.heap.size + 1 + 1, 0, none⟩ = some (.string sr) := hR.out.rd.cell
            by_cases h0 : sr.size = 0
            · have he := empty_is h0
              have hnil : sr.data.toList = [] := List.eq_nil_of_length_eq_zero (by rw [list_len]; exact h0)
              have hend := hG.out
              rw [hnil] at hend
              replace hend := Lib.hid (T.goes_end hend)
              obtain ⟨ao, cap, rfl, hin, hcap⟩ := hR.out.toks
              have bT : wr.cell? ⟨w.heap.size, 0, none⟩ = some (.slice ao L.length cap) := hR.out.cT
              have bE : wr.cell? ⟨w.heap.size + 1, 0, none⟩ = some (.int .i64 0) := hR.out.cE
              have fT : wr.frozen? ⟨w.heap.size, 0, none⟩ = false := hR.out.fT
              have fE : wr.frozen? ⟨w.heap.size + 1, 0, none⟩ = false := hR.out.fE
              have hR2 := Lib.hid hR.out.same.number
              clear hnil hG hin hcap
              go_wp2_with fail
              refine leaves_cons (f := 15) (args := #[.pointer (some ⟨w.heap.size, 0, none⟩), .pointer (some ⟨w.heap.size + 1, 0, none⟩)]) (by simp) (by simp [go_sem]) ?_
              refine (catch_calm w.heap.size (w.heap.size + 1) ao L.length cap _ (by omega) hR2.out.cT 0 hR2.out.cE hR2.out.fT hR2.out.fE).mono ?_
              rintro e u' w5 ⟨rfl, rfl, w6, b6, hw5⟩
              have h7 : Rt w sr L (.slice ao L.length cap) w5 := by rw [hw5]; exact (hR2.out.grow b6).same.number
              have c7T := h7.cT
              have c7E := h7.cE
              clear hw5 b6 bT bE fT fE hR2 q0
              simp [Leaves, settle, results, Tryz.results10, go_sem, c7T, c7E]
              obtain ⟨ao2, cap2, e2, hin, hcap⟩ := h7.toks
              cases e2
              rw [hend.out]
              exact ⟨ao, cap, L, rfl, rfl, hin, hcap, h7.below⟩
            · have he := ne_empty (s := sr) (by omega)
              have hne : sr.data.toList ≠ [] := by intro e; rw [← list_len sr, e] at h0; exact h0 rfl
              have bT : wr.cell? ⟨w.heap.size, 0, none⟩ = some v := hR.out.cT
              have hRd : Hid (Rt w sr L v wr.drew) := Lib.hid (hR.out.grow (Below.refl _ _).drew)
              have c2 := fun w' (h : At (w.heap.size + 2) sr w') => token_any (w.heap.size + 2) sr w' h
              cases hn : T.next false sr.data.toList with
              | error q =>
                have hr := Lib.hid (T.goes_err hG.out hne hn)
                rw [hn] at c2
                obtain ⟨ao, cap, rfl, -, -⟩ := hR.out.toks
                clear hn hne hG
                go_wp2_with fail
                apply wp_region_any mixedTok
                refine wpAny_all (rs := [0, 1]) (by kernel_rfl) (by simp) ?_
                intro i hi
                simp at hi
                rcases hi with rfl | rfl
                · simp [wpOp, go_sem, bT]
                  refine .inl ?_
                  refine wpAny_all (rs := [1]) (by kernel_rfl) (by simp) ?_
                  intro i hi
                  simp at hi
                  subst hi
                  simp [wpOp, go_sem]
                  refine .inl ?_
                  refine (c2 _ hRd.out.rd).mono ?_
                  rintro e w2 ⟨rfl, g2⟩
                  have hP := (hRd.out.below.grown g2 hRd.out.below.size (fun k e => by cases e; omega))
                  have n1 := (g2.block _ (Array.getElem?_eq_some_iff.1 hRd.out.told).1 (by simp)).trans hRd.out.told
                  have n2 := (g2.block _ (Array.getElem?_eq_some_iff.1 hRd.out.err).1 (by simp)).trans hRd.out.err
                  have m1 : w2.cell? ⟨w.heap.size, 0, none⟩ = some (.slice ao L.length cap) := by unfold World.cell?; rw [n1]; rfl
                  have m2 : w2.cell? ⟨w.heap.size + 1, 0, none⟩ = some (.int .i64 0) := by unfold World.cell?; rw [n2]; rfl
                  have m3 : w2.frozen? ⟨w.heap.size, 0, none⟩ = false := by simp [World.frozen?, n1]
                  have m4 : w2.frozen? ⟨w.heap.size + 1, 0, none⟩ = false := by simp [World.frozen?, n2]
                  refine leaves_cons (f := 15) (args := #[.pointer (some ⟨w.heap.size, 0, none⟩), .pointer (some ⟨w.heap.size + 1, 0, none⟩)]) (by simp) (by simp [go_sem]) ?_
                  refine (catch_tossed_at w.heap.size w.heap.size (w.heap.size + 1) ao L.length cap (q : Int) _ (by omega) (Nat.le_refl _) (by omega) m1 0 m2 m3 m4 hP.size).mono ?_
                  rintro e u' w5 ⟨rfl, rfl, hP5, hQ5, b5⟩
                  have b6 := hP.trans b5
                  simp [Leaves, settle, results, Tryz.results10, go_sem, hP5, hQ5]
                  exact told_none hr.out b6
                · simp [wpOp, go_sem]
                  refine .inl ?_
                  refine (c2 _ hRd.out.rd).mono ?_
                  rintro e w2 ⟨rfl, g2⟩
                  have hP := (hRd.out.below.grown g2 hRd.out.below.size (fun k e => by cases e; omega))
                  have n1 := (g2.block _ (Array.getElem?_eq_some_iff.1 hRd.out.told).1 (by simp)).trans hRd.out.told
                  have n2 := (g2.block _ (Array.getElem?_eq_some_iff.1 hRd.out.err).1 (by simp)).trans hRd.out.err
                  have m1 : w2.cell? ⟨w.heap.size, 0, none⟩ = some (.slice ao L.length cap) := by unfold World.cell?; rw [n1]; rfl
                  have m2 : w2.cell? ⟨w.heap.size + 1, 0, none⟩ = some (.int .i64 0) := by unfold World.cell?; rw [n2]; rfl
                  have m3 : w2.frozen? ⟨w.heap.size, 0, none⟩ = false := by simp [World.frozen?, n1]
                  have m4 : w2.frozen? ⟨w.heap.size + 1, 0, none⟩ = false := by simp [World.frozen?, n2]
                  refine leaves_cons (f := 15) (args := #[.pointer (some ⟨w.heap.size, 0, none⟩), .pointer (some ⟨w.heap.size + 1, 0, none⟩)]) (by simp) (by simp [go_sem]) ?_
                  refine (catch_tossed_at w.heap.size w.heap.size (w.heap.size + 1) ao L.length cap (q : Int) _ (by omega) (Nat.le_refl _) (by omega) m1 0 m2 m3 m4 hP.size).mono ?_
                  rintro e u' w5 ⟨rfl, rfl, hP5, hQ5, b5⟩
                  have b6 := hP.trans b5
                  simp [Leaves, settle, results, Tryz.results10, go_sem, hP5, hQ5]
                  exact told_none hr.out b6
              | ok x =>
                obtain ⟨k, lr⟩ := x
                obtain ⟨t, rfl⟩ := bytes_of lr
                have hG2 := T.goes_step hG.out hne hn
                have hlt := T.next_less hne hn
                rw [list_len, list_len] at hlt
                rw [hn] at c2
                obtain ⟨ao, cap, rfl, -, -⟩ := hR.out.toks
                obtain ⟨i0, hi0, hz0, hz1, hz2⟩ := info_parts infoTok
                have hq1 : L.length + 1 ≤ maxLen := by unfold maxLen; omega
                have hq2 : (L.length + 1) * 72 ≤ 140737488355328 := by omega
                have hbs := hRd.out.below.size
                replace hG2 := Lib.hid hG2
                clear hn hne hG
                go_wp2_with fail
                apply wp_region_any mixedTok
                refine wpAny_all (rs := [0, 1]) (by kernel_rfl) (by simp) ?_
                intro i hi
                simp at hi
                rcases hi with rfl | rfl
                · simp [wpOp, go_sem, bT]
                  refine .inl ?_
                  refine wpAny_all (rs := [1]) (by kernel_rfl) (by simp) ?_
                  intro i hi
                  simp at hi
                  subst hi
                  simp [wpOp, go_sem]
                  refine .inl ?_
                  refine (c2 _ hRd.out.rd).mono ?_
                  rintro e w2 ⟨t2, ht, v2, rfl, hov, h2, g2⟩
                  obtain ⟨ao2, cap2, hv2, -⟩ := pairs_of_owns hov
                  rw [List.length_map] at hv2
                  subst hv2
                  dsimp only at hov ht
                  unfold tokVal
                  have hR2 := hRd.out.on h2 g2
                  have m1 := hR2.cT
                  have hk1 := World.block_lt_of_cell? w2 _ m1
                  dsimp only at hk1
                  have hk2 : ¬ w.heap.size = w2.heap.size := by omega
                  have hrow := World.ownsRow.alloc hR2.row (.cells #[.int .i64 (k.kind : Int), .string ⟨k.name.toArray⟩, .slice ao2 k.attrs.length cap2, .bool k.alone, .string ⟨k.data.toArray⟩] 29)
                  have m1a : (w2.alloc (.cells #[.int .i64 (k.kind : Int), .string ⟨k.name.toArray⟩, .slice ao2 k.attrs.length cap2, .bool k.alone, .string ⟨k.data.toArray⟩] 29)).cell? ⟨w.heap.size, 0, none⟩ = some (.slice ao L.length cap) := (hR2.grow ((Below.refl _ _).alloc (Nat.le_refl _) (.cells #[.int .i64 (k.kind : Int), .string ⟨k.name.toArray⟩, .slice ao2 k.attrs.length cap2, .bool k.alone, .string ⟨k.data.toArray⟩] 29))).cT
                  have hz5 : w.heap.size ≤ (w2.alloc (.cells #[.int .i64 (k.kind : Int), .string ⟨k.name.toArray⟩, .slice ao2 k.attrs.length cap2, .bool k.alone, .string ⟨k.data.toArray⟩] 29)).heap.size := by simp; omega
                  replace hR2 := Lib.hid hR2
                  simp only []
                  refine wpAny_all (rs := [2]) (by kernel_rfl) (by simp) ?_
                  intro i hi
                  simp at hi
                  subst hi
                  simp [wpOp, go_sem]
                  refine .inl ?_
                  refine wpAny_all (rs := [3]) (by kernel_rfl) (by simp) ?_
                  intro i hi
                  simp at hi
                  subst hi
                  refine wpOp_is (by rfl) (by rfl) ?_
                  refine wp_append_lies _ _ _ 23 (by rfl) w.heap.size 29 i0 _ 5 72 Tryz.underlying23 hi0 hz0 hz1 hz2 rfl (by decide) (.slice ao L.length cap) L.length (rowCells L) (by rfl) hrow ⟨w2.heap.size, 0, none⟩ 1 1 [.int .i64 (k.kind : Int), .string ⟨k.name.toArray⟩, .slice ao2 k.attrs.length cap2, .bool k.alone, .string ⟨k.data.toArray⟩] (by rfl) (by rfl) (cells_five _ _ _ _ _ _ _) (fun u hu => by simp at hu; rcases hu with rfl | rfl | rfl | rfl | rfl <;> rfl) (by omega) hq1 hq2 hz5 (w2.heap.size + 1) (by simp) ?_
                  intro gg cap5 w5 hown5 hgrow _ _
                  have hga := (World.grownBy_alloc w2 _ _).trans hgrow
                  have hn5 := (hga.block _ (Array.getElem?_eq_some_iff.1 hR2.out.told).1 (some_ne (own_apart hR2.out.row hR2.out.told (by intro cs fr e; cases e)))).trans hR2.out.told
                  have m5 : w5.cell? ⟨w.heap.size, 0, none⟩ = some (.slice ao L.length cap) := by unfold World.cell?; rw [hn5]; rfl
                  have f5 : w5.frozen? ⟨w.heap.size, 0, none⟩ = false := by simp [World.frozen?, hn5]
                  have hfin := hRd.out.more h2 g2 hov hga hown5
                  have hfl := hfin.rd.left
                  replace hfin := Lib.hid hfin
                  clear hown5 hgrow hga hn5
                  refine wpAny_all (rs := [4]) (by kernel_rfl) (by simp) ?_
                  intro i hi
                  simp at hi
                  subst hi
                  simp [wpOp, go_sem, m5, f5]
                  refine .inl ?_
                  refine wpAny_done (by kernel_rfl) ?_ _
                  try (go_wp2_with fail)
                  go_roundw
                  case rel => exact ⟨t2, L ++ [(k, _)], _, Lib.hid (by rw [List.map_append, ht]; exact hG2.out), by rw [List.length_append, List.length_singleton, ← list_len t2, ht, list_len]; omega, hfin⟩
                  case measure => rw [hfl, hleft, ← list_len t2, ht, list_len]; omega
                · simp [wpOp, go_sem]
                  refine .inl ?_
                  refine (c2 _ hRd.out.rd).mono ?_
                  rintro e w2 ⟨t2, ht, v2, rfl, hov, h2, g2⟩
                  obtain ⟨ao2, cap2, hv2, -⟩ := pairs_of_owns hov
                  rw [List.length_map] at hv2
                  subst hv2
                  dsimp only at hov ht
                  unfold tokVal
                  have hR2 := hRd.out.on h2 g2
                  have m1 := hR2.cT
                  have hk1 := World.block_lt_of_cell? w2 _ m1
                  dsimp only at hk1
                  have hk2 : ¬ w.heap.size = w2.heap.size := by omega
                  have hrow := World.ownsRow.alloc hR2.row (.cells #[.int .i64 (k.kind : Int), .string ⟨k.name.toArray⟩, .slice ao2 k.attrs.length cap2, .bool k.alone, .string ⟨k.data.toArray⟩] 29)
                  have m1a : (w2.alloc (.cells #[.int .i64 (k.kind : Int), .string ⟨k.name.toArray⟩, .slice ao2 k.attrs.length cap2, .bool k.alone, .string ⟨k.data.toArray⟩] 29)).cell? ⟨w.heap.size, 0, none⟩ = some (.slice ao L.length cap) := (hR2.grow ((Below.refl _ _).alloc (Nat.le_refl _) (.cells #[.int .i64 (k.kind : Int), .string ⟨k.name.toArray⟩, .slice ao2 k.attrs.length cap2, .bool k.alone, .string ⟨k.data.toArray⟩] 29))).cT
                  have hz5 : w.heap.size ≤ (w2.alloc (.cells #[.int .i64 (k.kind : Int), .string ⟨k.name.toArray⟩, .slice ao2 k.attrs.length cap2, .bool k.alone, .string ⟨k.data.toArray⟩] 29)).heap.size := by simp; omega
                  replace hR2 := Lib.hid hR2
                  simp only []
                  refine wpAny_all (rs := [0, 2]) (by kernel_rfl) (by simp) ?_
                  intro i hi
                  simp at hi
                  rcases hi with rfl | rfl
                  · simp [wpOp, go_sem, m1]
                    refine .inl ?_
                    refine wpAny_all (rs := [2]) (by kernel_rfl) (by simp) ?_
                    intro i hi
                    simp at hi
                    subst hi
                    simp [wpOp, go_sem]
                    refine .inl ?_
                    refine wpAny_all (rs := [3]) (by kernel_rfl) (by simp) ?_
                    intro i hi
                    simp at hi
                    subst hi
                    refine wpOp_is (by rfl) (by rfl) ?_
                    refine wp_append_lies _ _ _ 23 (by rfl) w.heap.size 29 i0 _ 5 72 Tryz.underlying23 hi0 hz0 hz1 hz2 rfl (by decide) (.slice ao L.length cap) L.length (rowCells L) (by rfl) hrow ⟨w2.heap.size, 0, none⟩ 1 1 [.int .i64 (k.kind : Int), .string ⟨k.name.toArray⟩, .slice ao2 k.attrs.length cap2, .bool k.alone, .string ⟨k.data.toArray⟩] (by rfl) (by rfl) (cells_five _ _ _ _ _ _ _) (fun u hu => by simp at hu; rcases hu with rfl | rfl | rfl | rfl | rfl <;> rfl) (by omega) hq1 hq2 hz5 (w2.heap.size + 1) (by simp) ?_
                    intro gg cap5 w5 hown5 hgrow _ _
                    have hga := (World.grownBy_alloc w2 _ _).trans hgrow
                    have hn5 := (hga.block _ (Array.getElem?_eq_some_iff.1 hR2.out.told).1 (some_ne (own_apart hR2.out.row hR2.out.told (by intro cs fr e; cases e)))).trans hR2.out.told
                    have m5 : w5.cell? ⟨w.heap.size, 0, none⟩ = some (.slice ao L.length cap) := by unfold World.cell?; rw [hn5]; rfl
                    have f5 : w5.frozen? ⟨w.heap.size, 0, none⟩ = false := by simp [World.frozen?, hn5]
                    have hfin := hRd.out.more h2 g2 hov hga hown5
                    have hfl := hfin.rd.left
                    replace hfin := Lib.hid hfin
                    clear hown5 hgrow hga hn5
                    refine wpAny_all (rs := [4]) (by kernel_rfl) (by simp) ?_
                    intro i hi
                    simp at hi
                    subst hi
                    simp [wpOp, go_sem, m5, f5]
                    refine .inl ?_
                    refine wpAny_done (by kernel_rfl) ?_ _
                    try (go_wp2_with fail)
                    go_roundw
                    case rel => exact ⟨t2, L ++ [(k, _)], _, Lib.hid (by rw [List.map_append, ht]; exact hG2.out), by rw [List.length_append, List.length_singleton, ← list_len t2, ht, list_len]; omega, hfin⟩
                    case measure => rw [hfl, hleft, ← list_len t2, ht, list_len]; omega
                  · simp [wpOp, go_sem]
                    refine .inl ?_
                    refine wpAny_all (rs := [0]) (by kernel_rfl) (by simp) ?_
                    intro i hi
                    simp at hi
                    subst hi
                    simp [wpOp, go_sem]
                    rw [m1a]
                    simp
                    refine .inl ?_
                    refine wpAny_all (rs := [3]) (by kernel_rfl) (by simp) ?_
                    intro i hi
                    simp at hi
                    subst hi
                    refine wpOp_is (by rfl) (by rfl) ?_
                    refine wp_append_lies _ _ _ 23 (by rfl) w.heap.size 29 i0 _ 5 72 Tryz.underlying23 hi0 hz0 hz1 hz2 rfl (by decide) (.slice ao L.length cap) L.length (rowCells L) (by rfl) hrow ⟨w2.heap.size, 0, none⟩ 1 1 [.int .i64 (k.kind : Int), .string ⟨k.name.toArray⟩, .slice ao2 k.attrs.length cap2, .bool k.alone, .string ⟨k.data.toArray⟩] (by rfl) (by rfl) (cells_five _ _ _ _ _ _ _) (fun u hu => by simp at hu; rcases hu with rfl | rfl | rfl | rfl | rfl <;> rfl) (by omega) hq1 hq2 hz5 (w2.heap.size + 1) (by simp) ?_
                    intro gg cap5 w5 hown5 hgrow _ _
                    have hga := (World.grownBy_alloc w2 _ _).trans hgrow
                    have hn5 := (hga.block _ (Array.getElem?_eq_some_iff.1 hR2.out.told).1 (some_ne (own_apart hR2.out.row hR2.out.told (by intro cs fr e; cases e)))).trans hR2.out.told
                    have m5 : w5.cell? ⟨w.heap.size, 0, none⟩ = some (.slice ao L.length cap) := by unfold World.cell?; rw [hn5]; rfl
                    have f5 : w5.frozen? ⟨w.heap.size, 0, none⟩ = false := by simp [World.frozen?, hn5]
                    have hfin := hRd.out.more h2 g2 hov hga hown5
                    have hfl := hfin.rd.left
                    replace hfin := Lib.hid hfin
                    clear hown5 hgrow hga hn5
                    refine wpAny_all (rs := [4]) (by kernel_rfl) (by simp) ?_
                    intro i hi
                    simp at hi
                    subst hi
                    simp [wpOp, go_sem, m5, f5]
                    refine .inl ?_
                    refine wpAny_done (by kernel_rfl) ?_ _
                    try (go_wp2_with fail)
                    go_roundw
                    case rel => exact ⟨t2, L ++ [(k, _)], _, Lib.hid (by rw [List.map_append, ht]; exact hG2.out), by rw [List.length_append, List.length_singleton, ← list_len t2, ht, list_len]; omega, hfin⟩
                    case measure => rw [hfl, hleft, ← list_len t2, ht, list_len]; omega
  | false =>
    have hgo := Lib.hid (T.goes_start hd)
    have c1 := fun w' (h : At (w.heap.size + 2) s w') => isAt_any (w.heap.size + 2) s w' h false hd
    clear hd
    go_enter_defers Tryz.func10, Tryz.ntmps10
    go_wp2_with fail
    (with_reducible refine (c1 _ hR0.rd).mono ?_); rintro e w1 ⟨rfl, rfl⟩
    go_wp2_with fail
    go_loopw [13] (fun _ wr => ∃ (sr : ByteArray) (L : List (T.Tok × Value)) (v : Value), Hid (T.Goes true s.data.toList (L.map Prod.fst) sr.data.toList) ∧ L.length + sr.size ≤ 1000000 ∧ Hid (Rt w sr L v wr)) (fun _ wr => leftAt (w.heap.size + 2) wr)
    case atStart => exact ⟨s, [], _, hgo, by simpa using hs, Lib.hid hR0⟩
    case round =>
      obtain ⟨sr, L, v, hG, hLs, hR⟩ := hrel
      clear hR0 c1 hgo
      have hleft := hR.out.rd.left
      have q0 : wr.cell? ⟨w.heap.size + 1 + 1, 0, none⟩ = some (.string sr) := hR.out.rd.cell
      by_cases h0 : sr.size = 0
      · have he := empty_is h0
        have hnil : sr.data.toList = [] := List.eq_nil_of_length_eq_zero (by rw [list_len]; exact h0)
        have hend := hG.out
        rw [hnil] at hend
        replace hend := Lib.hid (T.goes_end hend)
        obtain ⟨ao, cap, rfl, hin, hcap⟩ := hR.out.toks
        have bT : wr.cell? ⟨w.heap.size, 0, none⟩ = some (.slice ao L.length cap) := hR.out.cT
        have bE : wr.cell? ⟨w.heap.size + 1, 0, none⟩ = some (.int .i64 0) := hR.out.cE
        have fT : wr.frozen? ⟨w.heap.size, 0, none⟩ = false := hR.out.fT
        have fE : wr.frozen? ⟨w.heap.size + 1, 0, none⟩ = false := hR.out.fE
        have hR2 := Lib.hid hR.out.same.number
        clear hnil hG hin hcap
        go_wp2_with fail
        refine leaves_cons (f := 15) (args := #[.pointer (some ⟨w.heap.size, 0, none⟩), .pointer (some ⟨w.heap.size + 1, 0, none⟩)]) (by simp) (by simp [go_sem]) ?_
        refine (catch_calm w.heap.size (w.heap.size + 1) ao L.length cap _ (by omega) hR2.out.cT 0 hR2.out.cE hR2.out.fT hR2.out.fE).mono ?_
        rintro e u' w5 ⟨rfl, rfl, w6, b6, hw5⟩
        have h7 : Rt w sr L (.slice ao L.length cap) w5 := by rw [hw5]; exact (hR2.out.grow b6).same.number
        have c7T := h7.cT
        have c7E := h7.cE
        clear hw5 b6 bT bE fT fE hR2 q0
        simp [Leaves, settle, results, Tryz.results10, go_sem, c7T, c7E]
        obtain ⟨ao2, cap2, e2, hin, hcap⟩ := h7.toks
        cases e2
        rw [hend.out]
        exact ⟨ao, cap, L, rfl, rfl, hin, hcap, h7.below⟩
      · have he := ne_empty (s := sr) (by omega)
        have hne : sr.data.toList ≠ [] := by intro e; rw [← list_len sr, e] at h0; exact h0 rfl
        have bT : wr.cell? ⟨w.heap.size, 0, none⟩ = some v := hR.out.cT
        have hRd : Hid (Rt w sr L v wr.drew) := Lib.hid (hR.out.grow (Below.refl _ _).drew)
        have c2 := fun w' (h : At (w.heap.size + 2) sr w') => token_any (w.heap.size + 2) sr w' h
        cases hn : T.next false sr.data.toList with
        | error q =>
          have hr := Lib.hid (T.goes_err hG.out hne hn)
          rw [hn] at c2
          obtain ⟨ao, cap, rfl, -, -⟩ := hR.out.toks
          clear hn hne hG
          go_wp2_with fail
          apply wp_region_any mixedTok
          refine wpAny_all (rs := [0, 1]) (by kernel_rfl) (by simp) ?_
          intro i hi
          simp at hi
          rcases hi with rfl | rfl
          · simp [wpOp, go_sem, bT]
            refine .inl ?_
            refine wpAny_all (rs := [1]) (by kernel_rfl) (by simp) ?_
            intro i hi
            simp at hi
            subst hi
            simp [wpOp, go_sem]
            refine .inl ?_
            refine (c2 _ hRd.out.rd).mono ?_
            rintro e w2 ⟨rfl, g2⟩
            have hP := (hRd.out.below.grown g2 hRd.out.below.size (fun k e => by cases e; omega))
            have n1 := (g2.block _ (Array.getElem?_eq_some_iff.1 hRd.out.told).1 (by simp)).trans hRd.out.told
            have n2 := (g2.block _ (Array.getElem?_eq_some_iff.1 hRd.out.err).1 (by simp)).trans hRd.out.err
            have m1 : w2.cell? ⟨w.heap.size, 0, none⟩ = some (.slice ao L.length cap) := by unfold World.cell?; rw [n1]; rfl
            have m2 : w2.cell? ⟨w.heap.size + 1, 0, none⟩ = some (.int .i64 0) := by unfold World.cell?; rw [n2]; rfl
            have m3 : w2.frozen? ⟨w.heap.size, 0, none⟩ = false := by simp [World.frozen?, n1]
            have m4 : w2.frozen? ⟨w.heap.size + 1, 0, none⟩ = false := by simp [World.frozen?, n2]
            refine leaves_cons (f := 15) (args := #[.pointer (some ⟨w.heap.size, 0, none⟩), .pointer (some ⟨w.heap.size + 1, 0, none⟩)]) (by simp) (by simp [go_sem]) ?_
            refine (catch_tossed_at w.heap.size w.heap.size (w.heap.size + 1) ao L.length cap (q : Int) _ (by omega) (Nat.le_refl _) (by omega) m1 0 m2 m3 m4 hP.size).mono ?_
            rintro e u' w5 ⟨rfl, rfl, hP5, hQ5, b5⟩
            have b6 := hP.trans b5
            simp [Leaves, settle, results, Tryz.results10, go_sem, hP5, hQ5]
            exact told_none hr.out b6
          · simp [wpOp, go_sem]
            refine .inl ?_
            refine (c2 _ hRd.out.rd).mono ?_
            rintro e w2 ⟨rfl, g2⟩
            have hP := (hRd.out.below.grown g2 hRd.out.below.size (fun k e => by cases e; omega))
            have n1 := (g2.block _ (Array.getElem?_eq_some_iff.1 hRd.out.told).1 (by simp)).trans hRd.out.told
            have n2 := (g2.block _ (Array.getElem?_eq_some_iff.1 hRd.out.err).1 (by simp)).trans hRd.out.err
            have m1 : w2.cell? ⟨w.heap.size, 0, none⟩ = some (.slice ao L.length cap) := by unfold World.cell?; rw [n1]; rfl
            have m2 : w2.cell? ⟨w.heap.size + 1, 0, none⟩ = some (.int .i64 0) := by unfold World.cell?; rw [n2]; rfl
            have m3 : w2.frozen? ⟨w.heap.size, 0, none⟩ = false := by simp [World.frozen?, n1]
            have m4 : w2.frozen? ⟨w.heap.size + 1, 0, none⟩ = false := by simp [World.frozen?, n2]
            refine leaves_cons (f := 15) (args := #[.pointer (some ⟨w.heap.size, 0, none⟩), .pointer (some ⟨w.heap.size + 1, 0, none⟩)]) (by simp) (by simp [go_sem]) ?_
            refine (catch_tossed_at w.heap.size w.heap.size (w.heap.size + 1) ao L.length cap (q : Int) _ (by omega) (Nat.le_refl _) (by omega) m1 0 m2 m3 m4 hP.size).mono ?_
            rintro e u' w5 ⟨rfl, rfl, hP5, hQ5, b5⟩
            have b6 := hP.trans b5
            simp [Leaves, settle, results, Tryz.results10, go_sem, hP5, hQ5]
            exact told_none hr.out b6
        | ok x =>
          obtain ⟨k, lr⟩ := x
          obtain ⟨t, rfl⟩ := bytes_of lr
          have hG2 := T.goes_step hG.out hne hn
          have hlt := T.next_less hne hn
          rw [list_len, list_len] at hlt
          rw [hn] at c2
          obtain ⟨ao, cap, rfl, -, -⟩ := hR.out.toks
          obtain ⟨i0, hi0, hz0, hz1, hz2⟩ := info_parts infoTok
          have hq1 : L.length + 1 ≤ maxLen := by unfold maxLen; omega
          have hq2 : (L.length + 1) * 72 ≤ 140737488355328 := by omega
          have hbs := hRd.out.below.size
          replace hG2 := Lib.hid hG2
          clear hn hne hG
          go_wp2_with fail
          apply wp_region_any mixedTok
          refine wpAny_all (rs := [0, 1]) (by kernel_rfl) (by simp) ?_
          intro i hi
          simp at hi
          rcases hi with rfl | rfl
          · simp [wpOp, go_sem, bT]
            refine .inl ?_
            refine wpAny_all (rs := [1]) (by kernel_rfl) (by simp) ?_
            intro i hi
            simp at hi
            subst hi
            simp [wpOp, go_sem]
            refine .inl ?_
            refine (c2 _ hRd.out.rd).mono ?_
            rintro e w2 ⟨t2, ht, v2, rfl, hov, h2, g2⟩
            obtain ⟨ao2, cap2, hv2, -⟩ := pairs_of_owns hov
            rw [List.length_map] at hv2
            subst hv2
            dsimp only at hov ht
            unfold tokVal
            have hR2 := hRd.out.on h2 g2
            have m1 := hR2.cT
            have hk1 := World.block_lt_of_cell? w2 _ m1
            dsimp only at hk1
            have hk2 : ¬ w.heap.size = w2.heap.size := by omega
            have hrow := World.ownsRow.alloc hR2.row (.cells #[.int .i64 (k.kind : Int), .string ⟨k.name.toArray⟩, .slice ao2 k.attrs.length cap2, .bool k.alone, .string ⟨k.data.toArray⟩] 29)
            have m1a : (w2.alloc (.cells #[.int .i64 (k.kind : Int), .string ⟨k.name.toArray⟩, .slice ao2 k.attrs.length cap2, .bool k.alone, .string ⟨k.data.toArray⟩] 29)).cell? ⟨w.heap.size, 0, none⟩ = some (.slice ao L.length cap) := (hR2.grow ((Below.refl _ _).alloc (Nat.le_refl _) (.cells #[.int .i64 (k.kind : Int), .string ⟨k.name.toArray⟩, .slice ao2 k.attrs.length cap2, .bool k.alone, .string ⟨k.data.toArray⟩] 29))).cT
            have hz5 : w.heap.size ≤ (w2.alloc (.cells #[.int .i64 (k.kind : Int), .string ⟨k.name.toArray⟩, .slice ao2 k.attrs.length cap2, .bool k.alone, .string ⟨k.data.toArray⟩] 29)).heap.size := by simp; omega
            replace hR2 := Lib.hid hR2
            simp only []
            refine wpAny_all (rs := [2]) (by kernel_rfl) (by simp) ?_
            intro i hi
            simp at hi
            subst hi
            simp [wpOp, go_sem]
            refine .inl ?_
            refine wpAny_all (rs := [3]) (by kernel_rfl) (by simp) ?_
            intro i hi
            simp at hi
            subst hi
            refine wpOp_is (by rfl) (by rfl) ?_
            refine wp_append_lies _ _ _ 23 (by rfl) w.heap.size 29 i0 _ 5 72 Tryz.underlying23 hi0 hz0 hz1 hz2 rfl (by decide) (.slice ao L.length cap) L.length (rowCells L) (by rfl) hrow ⟨w2.heap.size, 0, none⟩ 1 1 [.int .i64 (k.kind : Int), .string ⟨k.name.toArray⟩, .slice ao2 k.attrs.length cap2, .bool k.alone, .string ⟨k.data.toArray⟩] (by rfl) (by rfl) (cells_five _ _ _ _ _ _ _) (fun u hu => by simp at hu; rcases hu with rfl | rfl | rfl | rfl | rfl <;> rfl) (by omega) hq1 hq2 hz5 (w2.heap.size + 1) (by simp) ?_
            intro gg cap5 w5 hown5 hgrow _ _
            have hga := (World.grownBy_alloc w2 _ _).trans hgrow
            have hn5 := (hga.block _ (Array.getElem?_eq_some_iff.1 hR2.out.told).1 (some_ne (own_apart hR2.out.row hR2.out.told (by intro cs fr e; cases e)))).trans hR2.out.told
            have m5 : w5.cell? ⟨w.heap.size, 0, none⟩ = some (.slice ao L.length cap) := by unfold World.cell?; rw [hn5]; rfl
            have f5 : w5.frozen? ⟨w.heap.size, 0, none⟩ = false := by simp [World.frozen?, hn5]
            have hfin := hRd.out.more h2 g2 hov hga hown5
            have hfl := hfin.rd.left
            replace hfin := Lib.hid hfin
            clear hown5 hgrow hga hn5
            refine wpAny_all (rs := [4]) (by kernel_rfl) (by simp) ?_
            intro i hi
            simp at hi
            subst hi
            simp [wpOp, go_sem, m5, f5]
            refine .inl ?_
            refine wpAny_done (by kernel_rfl) ?_ _
            try (go_wp2_with fail)
            go_roundw
            case rel => exact ⟨t2, L ++ [(k, _)], _, Lib.hid (by rw [List.map_append, ht]; exact hG2.out), by rw [List.length_append, List.length_singleton, ← list_len t2, ht, list_len]; omega, hfin⟩
            case measure => rw [hfl, hleft, ← list_len t2, ht, list_len]; omega
          · simp [wpOp, go_sem]
            refine .inl ?_
            refine (c2 _ hRd.out.rd).mono ?_
            rintro e w2 ⟨t2, ht, v2, rfl, hov, h2, g2⟩
            obtain ⟨ao2, cap2, hv2, -⟩ := pairs_of_owns hov
            rw [List.length_map] at hv2
            subst hv2
            dsimp only at hov ht
            unfold tokVal
            have hR2 := hRd.out.on h2 g2
            have m1 := hR2.cT
            have hk1 := World.block_lt_of_cell? w2 _ m1
            dsimp only at hk1
            have hk2 : ¬ w.heap.size = w2.heap.size := by omega
            have hrow := World.ownsRow.alloc hR2.row (.cells #[.int .i64 (k.kind : Int), .string ⟨k.name.toArray⟩, .slice ao2 k.attrs.length cap2, .bool k.alone, .string ⟨k.data.toArray⟩] 29)
            have m1a : (w2.alloc (.cells #[.int .i64 (k.kind : Int), .string ⟨k.name.toArray⟩, .slice ao2 k.attrs.length cap2, .bool k.alone, .string ⟨k.data.toArray⟩] 29)).cell? ⟨w.heap.size, 0, none⟩ = some (.slice ao L.length cap) := (hR2.grow ((Below.refl _ _).alloc (Nat.le_refl _) (.cells #[.int .i64 (k.kind : Int), .string ⟨k.name.toArray⟩, .slice ao2 k.attrs.length cap2, .bool k.alone, .string ⟨k.data.toArray⟩] 29))).cT
            have hz5 : w.heap.size ≤ (w2.alloc (.cells #[.int .i64 (k.kind : Int), .string ⟨k.name.toArray⟩, .slice ao2 k.attrs.length cap2, .bool k.alone, .string ⟨k.data.toArray⟩] 29)).heap.size := by simp; omega
            replace hR2 := Lib.hid hR2
            simp only []
            refine wpAny_all (rs := [0, 2]) (by kernel_rfl) (by simp) ?_
            intro i hi
            simp at hi
            rcases hi with rfl | rfl
            · simp [wpOp, go_sem, m1]
              refine .inl ?_
              refine wpAny_all (rs := [2]) (by kernel_rfl) (by simp) ?_
              intro i hi
              simp at hi
              subst hi
              simp [wpOp, go_sem]
              refine .inl ?_
              refine wpAny_all (rs := [3]) (by kernel_rfl) (by simp) ?_
              intro i hi
              simp at hi
              subst hi
              refine wpOp_is (by rfl) (by rfl) ?_
              refine wp_append_lies _ _ _ 23 (by rfl) w.heap.size 29 i0 _ 5 72 Tryz.underlying23 hi0 hz0 hz1 hz2 rfl (by decide) (.slice ao L.length cap) L.length (rowCells L) (by rfl) hrow ⟨w2.heap.size, 0, none⟩ 1 1 [.int .i64 (k.kind : Int), .string ⟨k.name.toArray⟩, .slice ao2 k.attrs.length cap2, .bool k.alone, .string ⟨k.data.toArray⟩] (by rfl) (by rfl) (cells_five _ _ _ _ _ _ _) (fun u hu => by simp at hu; rcases hu with rfl | rfl | rfl | rfl | rfl <;> rfl) (by omega) hq1 hq2 hz5 (w2.heap.size + 1) (by simp) ?_
              intro gg cap5 w5 hown5 hgrow _ _
              have hga := (World.grownBy_alloc w2 _ _).trans hgrow
              have hn5 := (hga.block _ (Array.getElem?_eq_some_iff.1 hR2.out.told).1 (some_ne (own_apart hR2.out.row hR2.out.told (by intro cs fr e; cases e)))).trans hR2.out.told
              have m5 : w5.cell? ⟨w.heap.size, 0, none⟩ = some (.slice ao L.length cap) := by unfold World.cell?; rw [hn5]; rfl
              have f5 : w5.frozen? ⟨w.heap.size, 0, none⟩ = false := by simp [World.frozen?, hn5]
              have hfin := hRd.out.more h2 g2 hov hga hown5
              have hfl := hfin.rd.left
              replace hfin := Lib.hid hfin
              clear hown5 hgrow hga hn5
              refine wpAny_all (rs := [4]) (by kernel_rfl) (by simp) ?_
              intro i hi
              simp at hi
              subst hi
              simp [wpOp, go_sem, m5, f5]
              refine .inl ?_
              refine wpAny_done (by kernel_rfl) ?_ _
              try (go_wp2_with fail)
              go_roundw
              case rel => exact ⟨t2, L ++ [(k, _)], _, Lib.hid (by rw [List.map_append, ht]; exact hG2.out), by rw [List.length_append, List.length_singleton, ← list_len t2, ht, list_len]; omega, hfin⟩
              case measure => rw [hfl, hleft, ← list_len t2, ht, list_len]; omega
            · simp [wpOp, go_sem]
              refine .inl ?_
              refine wpAny_all (rs := [0]) (by kernel_rfl) (by simp) ?_
              intro i hi
              simp at hi
              subst hi
              simp [wpOp, go_sem]
              rw [m1a]
              simp
              refine .inl ?_
              refine wpAny_all (rs := [3]) (by kernel_rfl) (by simp) ?_
              intro i hi
              simp at hi
              subst hi
              refine wpOp_is (by rfl) (by rfl) ?_
              refine wp_append_lies _ _ _ 23 (by rfl) w.heap.size 29 i0 _ 5 72 Tryz.underlying23 hi0 hz0 hz1 hz2 rfl (by decide) (.slice ao L.length cap) L.length (rowCells L) (by rfl) hrow ⟨w2.heap.size, 0, none⟩ 1 1 [.int .i64 (k.kind : Int), .string ⟨k.name.toArray⟩, .slice ao2 k.attrs.length cap2, .bool k.alone, .string ⟨k.data.toArray⟩] (by rfl) (by rfl) (cells_five _ _ _ _ _ _ _) (fun u hu => by simp at hu; rcases hu with rfl | rfl | rfl | rfl | rfl <;> rfl) (by omega) hq1 hq2 hz5 (w2.heap.size + 1) (by simp) ?_
              intro gg cap5 w5 hown5 hgrow _ _
              have hga := (World.grownBy_alloc w2 _ _).trans hgrow
              have hn5 := (hga.block _ (Array.getElem?_eq_some_iff.1 hR2.out.told).1 (some_ne (own_apart hR2.out.row hR2.out.told (by intro cs fr e; cases e)))).trans hR2.out.told
              have m5 : w5.cell? ⟨w.heap.size, 0, none⟩ = some (.slice ao L.length cap) := by unfold World.cell?; rw [hn5]; rfl
              have f5 : w5.frozen? ⟨w.heap.size, 0, none⟩ = false := by simp [World.frozen?, hn5]
              have hfin := hRd.out.more h2 g2 hov hga hown5
              have hfl := hfin.rd.left
              replace hfin := Lib.hid hfin
              clear hown5 hgrow hga hn5
              refine wpAny_all (rs := [4]) (by kernel_rfl) (by simp) ?_
              intro i hi
              simp at hi
              subst hi
              simp [wpOp, go_sem, m5, f5]
              refine .inl ?_
              refine wpAny_done (by kernel_rfl) ?_ _
              try (go_wp2_with fail)
              go_roundw
              case rel => exact ⟨t2, L ++ [(k, _)], _, Lib.hid (by rw [List.map_append, ht]; exact hG2.out), by rw [List.length_append, List.length_singleton, ← list_len t2, ht, list_len]; omega, hfin⟩
              case measure => rw [hfl, hleft, ← list_len t2, ht, list_len]; omega
end Go.Proofs.YtmeliljioagipaaGreatDoor
namespace Go.Proofs.YtmeliljioagipaaGreatDoor
open Go.RowKit

theorem tokens_run {l : List UInt8} (h1 : ¬ 100000 < l.length) (h2 : G.check l = true) : T.tokens l = T.run true (G.lines l) := by
  unfold T.tokens
  rw [if_neg h1, if_neg (by rw [h2]; decide)]
  rfl
theorem told_run {s : ByteArray} {g : Except Nat (List T.Tok)} (h : T.tokens s.data.toList = g) {w w1 w' : World} {e : Ending} (hb : Below w.heap.size w w1) (hr : RunTold g w1 e w') : TokTold s w e w' := by
  obtain ⟨ao, cap, L, rfl, hL, hin, hcap, hb2⟩ := hr
  have hb3 := hb.trans (hb2.mono hb.size)
  cases g with
  | ok a =>
    obtain ⟨e1, e2⟩ := T.told_ok h
    exact ⟨ao, cap, L, by rw [e2]; rfl, by rw [hL, e1]; rfl, hin, hcap, hb3⟩
  | error q =>
    obtain ⟨e1, e2⟩ := T.told_err h
    exact ⟨ao, cap, L, by rw [e2]; rfl, by rw [hL, e1]; rfl, hin, hcap, hb3⟩
theorem told_bad {s : ByteArray} {q : Nat} (h : T.tokens s.data.toList = .error q) {w w' : World} (hb : Below w.heap.size w w') : TokTold s w (.returned (.tuple #[.slice none 0 0, .int .i64 (q : Int)])) w' := by
  obtain ⟨e1, e2⟩ := T.told_err h
  exact ⟨none, 0, [], by rw [e2]; rfl, by rw [e1]; rfl, fun j hj => by simp at hj, fun _ => rfl, hb⟩

set_option maxRecDepth 100000 in
set_option maxHeartbeats 1600000 in
theorem tTokens_any (s : ByteArray) (w : World) (hs : s.size ≤ 1000000) (hE : Env w) : Calls Tryz.prog 7 #[.string s] w (TokTold s w) := by
  by_cases hl : 100000 < s.size
  · have hr := Lib.hid (show T.tokens s.data.toList = .error 2 by unfold T.tokens; rw [if_pos (by rw [list_len]; exact hl)])
    have hi : (100000 : Int) < (s.size : Int) := by omega
    clear hE
    go_enter Tryz.func7, Tryz.ntmps7
    go_wp2
    go_ret2
    exact told_bad hr.out (Below.refl _ _)
  · have hi : ¬ (100000 : Int) < (s.size : Int) := by omega
    have c1 := fun w hE => gCheck_any s w hs hE
    cases hc : G.check s.data.toList with
    | false =>
      have hr := Lib.hid (show T.tokens s.data.toList = .error 50 by unfold T.tokens; rw [if_neg (by rw [list_len]; exact hl), if_pos hc])
      have hn : G.checkN s.data.toList = 50 := by unfold G.checkN; rw [if_neg (by rw [hc]; decide)]
      rw [hn] at c1
      clear hn hc
      go_enter Tryz.func7, Tryz.ntmps7
      go_wp2_with fail
      (with_reducible refine (c1 _ hE).mono ?_); rintro e w1 ⟨rfl, b1⟩
      go_wp2
      go_ret2
      exact told_bad hr.out b1
    | true =>
      have hr := Lib.hid (tokens_run (by rw [list_len]; exact hl) hc)
      have hn : G.checkN s.data.toList = 0 := by unfold G.checkN; rw [if_pos hc]
      rw [hn] at c1
      have hls := G.lines_length s.data.toList
      rw [list_len] at hls
      have c2 := fun w hE => gLines_any s w hs hE
      obtain ⟨t, ht⟩ := bytes_of (G.lines s.data.toList)
      have htz : t.size ≤ 1000000 := by rw [← list_len t, ht]; omega
      have hte : (⟨(G.lines s.data.toList).toArray⟩ : ByteArray) = t := by rw [← ht]
      rw [hte] at c2
      rw [← ht] at hr
      have c3 := fun w hE => tokens_go t w htz hE
      clear hn hc ht hte hls
      go_enter Tryz.func7, Tryz.ntmps7
      go_wp2_with fail
      (with_reducible refine (c1 _ hE).mono ?_); rintro e w1 ⟨rfl, b1⟩
      go_wp2_with fail
      (with_reducible refine (c2 _ (hE.on b1)).mono ?_); rintro e w2 ⟨rfl, b2⟩
      have b3 := b1.trans (b2.mono b1.size)
      go_wp2_with fail
      (with_reducible refine (c3 _ (hE.on b3)).mono ?_); rintro e w3 ⟨ao, cap, L, rfl, hL, hin, hcap, b4⟩
      go_wp2
      go_ret2
      exact told_run hr.out b3 ⟨ao, cap, L, rfl, hL, hin, hcap, b4⟩
end Go.Proofs.YtmeliljioagipaaGreatDoor
