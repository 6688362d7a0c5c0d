/-
  What the reader's word of a start-tag has in memory: a token's box, the names so far in a map, the attributes in a row of its own.
  What the reader's word of a start-tag comes to.
  What the reader's word of the next token comes to.
-/
import Derived.Test.YtcjlhdmekhifaaaGreatDoorD38
import Derived.Maps.Own
import Derived.Maps.Views
namespace Go.Proofs.YtcjlhdmekhifaaaGreatDoor
open Go.RowKit Go.Maps

/-- How an element of the map reads: that it is there. -/
def setR : Value → Option (DataW Unit × List MemPlace) := fun v => match v with | .agg xs => if xs.size = 0 then some (.lit (.bool true), []) else none | _ => none
theorem setR_inv {v : Value} {y : DataW Unit × List MemPlace} (h : setR v = some y) : v = .agg #[] ∧ y = (.lit (.bool true), []) := by
  unfold setR at h
  split at h
  · rename_i xs
    split at h
    · rename_i hx
      cases h
      have : xs = #[] := Array.eq_empty_of_size_eq_zero hx
      subst this
      exact ⟨rfl, rfl⟩
    · cases h
  · cases h
theorem zeroEmpty (w : World) : (zeroValue 126).run Tryz.prog w = .ok (.agg #[]) w := by kernel_rfl

/-- The names that the map has. -/
def Names (D : DataW Unit) (ps : List (List UInt8 × List UInt8)) : Prop := IsMap D ∧ ∀ l, D.atKey (.string l) (.lit (.bool false)) = .lit (.bool (ps.any fun x => decide (x.1 = l)))
theorem names_nil : Names (.map []) [] := ⟨isMap_empty, fun _ => rfl⟩
theorem names_put {D : DataW Unit} {ps : List (List UInt8 × List UInt8)} (h : Names D ps) (a : List UInt8 × List UInt8) : Names (D.put (.string a.1) (.lit (.bool true))) (ps ++ [a]) := by
  refine ⟨?_, fun l => ?_⟩
  · obtain ⟨es, rfl⟩ := h.1
    exact ⟨_, rfl⟩
  · by_cases hl : l = a.1
    · subst hl
      rw [atKey_put_same h.1 (show WideAt.IsKeyLit (.string a.1) from trivial)]
      simp
    · rw [atKey_put_other (by intro e; apply hl; injection e), h.2 l]
      simp [Ne.symm hl]
set_option maxRecDepth 100000 in
theorem look {wr : World} {k n : Nat} {D : DataW Unit} {ps : List (List UInt8 × List UInt8)} {s : ByteArray} (hs : s.size ≤ 1000000) (o : wr.ownsMap Tryz.prog 9 setR k n D) (hN : Names D ps) (c : Bool) (hc : (ps.any fun x => decide (x.1 = s.data.toList)) = c) :
    (Instr.lookup 124 (.map (some k)) (.string s) true).run Tryz.prog wr = .ok (.tuple #[.agg #[], .bool c]) wr := by
  have hat := hN.2 s.data.toList
  rw [hc] at hat
  obtain ⟨es, clock, hb, F, _, rfl⟩ := o
  rcases Maps.fit_look true keyed Tryz.underlying124 (zeroEmpty wr) hb F (keyOf_str s hs) with ⟨hrun, _, h⟩ | ⟨e0, y, _, _, hrun, hR, h, _⟩
  · rw [h] at hat
    injection hat with hat
    injection hat with hat
    rw [← hat]
    exact hrun
  · obtain ⟨e1, rfl⟩ := setR_inv hR
    rw [h] at hat
    injection hat with hat
    injection hat with hat
    rw [← hat]
    rw [e1] at hrun
    exact hrun

/-- What a row of attributes lies in is no other's block. -/
theorem row_apart {B : Nat} {v : Value} {l : List Pair} {w : World} {k : Nat} {o : Obj} (h : OwnsPairs B v l w) (hk : w.heap[k]? = some o) (hne : ∀ cs fr, o ≠ .cells cs 86 fr) : v.ownBlock = none ∨ v.ownBlock ≠ some k := by
  obtain ⟨_, ⟨rfl, _⟩ | ⟨g, cap, cur, rfl, hb, hh, _⟩⟩ := h
  · exact .inl rfl
  · right
    simp only [Value.ownBlock, ne_eq, Option.some.injEq]
    rintro rfl
    rw [hk] at hh
    cases hh
    exact hne _ _ rfl

/-- THE STATE of a start-tag's walk. -/
structure St (w : World) (b k3 k4 : Nat) (n s : ByteArray) (ps : List (List UInt8 × List UInt8)) (v : Value) (al : Bool) (D : DataW Unit) (wr : World) : Prop where
  rd : At b s wr
  res : Box5 wr w.heap.size (.int .i64 0) (.string ⟨#[]⟩) (.slice none 0 0) (.bool false) (.string ⟨#[]⟩)
  told : Box5 wr k3 (.int .i64 0) (.string n) v (.bool al) (.string ⟨#[]⟩)
  row : OwnsPairs w.heap.size v (ps.map mpair) wr
  map : wr.ownsMap Tryz.prog 9 setR k4 ps.length D
  names : Names D ps
  grown : w.grownBy wr (some b)
  lt : b < w.heap.size
  ord : w.heap.size < k3 ∧ k3 < k4

theorem St.on {w wr w1 : World} {b k3 k4 : Nat} {n s t : ByteArray} {ps : List (List UInt8 × List UInt8)} {v : Value} {al : Bool} {D : DataW Unit} (h : St w b k3 k4 n s ps v al D wr) (hA : At b t w1) (g : wr.grownBy w1 (some b)) : St w b k3 k4 n t ps v al D w1 := by
  have l1 := h.lt
  have l2 := h.ord
  exact ⟨hA, h.res.on g (by simp; omega), h.told.on g (by simp; omega), World.ownsRow.kept h.row g (row_apart h.row h.rd.box (by intro cs fr e; cases e)), h.map.kept g (by simp; omega), h.names, h.grown.trans g, l1, l2⟩
theorem St.below {w wr w1 : World} {b k3 k4 : Nat} {n s : ByteArray} {ps : List (List UInt8 × List UInt8)} {v : Value} {al : Bool} {D : DataW Unit} (h : St w b k3 k4 n s ps v al D wr) (hb : Below wr.heap.size wr w1) : St w b k3 k4 n s ps v al D w1 := h.on (h.rd.below hb) (grown_of_below hb _)
theorem St.alloc {w wr : World} {b k3 k4 : Nat} {n s : ByteArray} {ps : List (List UInt8 × List UInt8)} {v : Value} {al : Bool} {D : DataW Unit} (h : St w b k3 k4 n s ps v al D wr) (o : Obj) : St w b k3 k4 n s ps v al D (wr.alloc o) := h.below ((Below.refl _ _).alloc (Nat.le_refl _) o)
theorem box5_put3 {w : World} {k : Nat} {x0 x1 x2 x3 x4 : Value} (h : Box5 w k x0 x1 x2 x3 x4) (y : Value) : Box5 (w.setCell ⟨k, 3, none⟩ y) k x0 x1 x2 y x4 := by
  have := box_set (show w.heap[k]? = _ from h) 3 y
  exact this
theorem box5_put2 {w : World} {k : Nat} {x0 x1 x2 x3 x4 : Value} (h : Box5 w k x0 x1 x2 x3 x4) (y : Value) : Box5 (w.setCell ⟨k, 2, none⟩ y) k x0 x1 y x3 x4 := by
  have := box_set (show w.heap[k]? = _ from h) 2 y
  exact this
theorem St.alone {w wr : World} {b k3 k4 : Nat} {n s : ByteArray} {ps : List (List UInt8 × List UInt8)} {v : Value} {al : Bool} {D : DataW Unit} (h : St w b k3 k4 n s ps v al D wr) (c : Bool) : St w b k3 k4 n s ps v c D (wr.setCell ⟨k3, 3, none⟩ (.bool c)) := by
  have l1 := h.lt
  have l2 := h.ord
  have g := grown_setAny wr k3 3 (.bool c)
  exact ⟨h.rd.other g (by simp; omega) (fun k e => by cases e; omega), h.res.on g (by simp; omega), box5_put3 h.told _, World.ownsRow.kept h.row g (row_apart h.row h.told (by intro cs fr e; cases e)), h.map.kept g (by simp; omega), h.names, h.grown.andThen g (fun k e => by cases e; exact .inl (by omega)), l1, l2⟩
/-- A name is put into the map. -/
theorem St.put {w wr w1 : World} {b k3 k4 : Nat} {n s : ByteArray} {ps : List (List UInt8 × List UInt8)} {v : Value} {al : Bool} {D : DataW Unit} (h : St w b k3 k4 n s ps v al D wr) (g : wr.grownBy w1 (some k4)) :
    At b s w1 ∧ Box5 w1 w.heap.size (.int .i64 0) (.string ⟨#[]⟩) (.slice none 0 0) (.bool false) (.string ⟨#[]⟩) ∧ Box5 w1 k3 (.int .i64 0) (.string n) v (.bool al) (.string ⟨#[]⟩) ∧ OwnsPairs w.heap.size v (ps.map mpair) w1 ∧ w.grownBy w1 (some b) := by
  have l1 := h.lt
  have l2 := h.ord
  obtain ⟨es, clock, hb, _⟩ := h.map
  exact ⟨h.rd.other g (by simp; omega) (fun k e => by cases e; omega), h.res.on g (by simp; omega), h.told.on g (by simp; omega), World.ownsRow.kept h.row g (row_apart h.row hb (by intro cs fr e; cases e)), h.grown.andThen g (fun k e => by cases e; exact .inl (by omega))⟩
/-- An attribute is appended, its name being in the map already. -/
theorem st_append {w w1 w2 : World} {b k3 k4 : Nat} {n s : ByteArray} {ps : List (List UInt8 × List UInt8)} {v v2 : Value} {D : DataW Unit} {a : List UInt8 × List UInt8}
    (hA : At b s w1) (hr : Box5 w1 w.heap.size (.int .i64 0) (.string ⟨#[]⟩) (.slice none 0 0) (.bool false) (.string ⟨#[]⟩)) (ht : Box5 w1 k3 (.int .i64 0) (.string n) v (.bool false) (.string ⟨#[]⟩)) (ho : OwnsPairs w.heap.size v (ps.map mpair) w1)
    (hm : w1.ownsMap Tryz.prog 9 setR k4 (ps ++ [a]).length D) (hN : Names D (ps ++ [a])) (hg : w.grownBy w1 (some b)) (l1 : b < w.heap.size) (l2 : w.heap.size < k3 ∧ k3 < k4) (g : w1.grownBy w2 v.ownBlock) (ho2 : OwnsPairs w.heap.size v2 ((ps ++ [a]).map mpair) w2) :
    St w b k3 k4 n s (ps ++ [a]) v2 false D (w2.setCell ⟨k3, 2, none⟩ v2) := by
  have l3 : ∀ j, v.ownBlock = some j → w.heap.size ≤ j := fun j e => (World.ownsRow.lt ho j e).1
  have n1 := row_apart ho hA.box (by intro cs fr e; cases e)
  have n2 := row_apart ho hr (by intro cs fr e; cases e)
  have n3 := row_apart ho ht (by intro cs fr e; cases e)
  have n4 : v.ownBlock = none ∨ v.ownBlock ≠ some k4 := by
    obtain ⟨es, clock, hb, _⟩ := hm
    exact row_apart ho hb (by intro cs fr e; cases e)
  have ne : ∀ {j : Nat}, v.ownBlock = none ∨ v.ownBlock ≠ some j → some j ≠ v.ownBlock := by
    rintro j (h | h) e
    · rw [h] at e; cases e
    · exact h e.symm
  have h1 : At b s w2 := hA.other g (ne n1) (fun k e => by have := l3 k e; omega)
  have h2 := hr.on g (ne n2)
  have h3 := ht.on g (ne n3)
  have h4 := hm.kept g (ne n4)
  have h5 : w.grownBy w2 (some b) := hg.andThen g (fun k e => .inl (l3 k e))
  have g2 := grown_setAny w2 k3 2 v2
  exact ⟨h1.other g2 (by simp; omega) (fun k e => by cases e; omega), h2.on g2 (by simp; omega), box5_put2 h3 _, World.ownsRow.kept ho2 g2 (row_apart ho2 h3 (by intro cs fr e; cases e)), h4.kept g2 (by simp; omega), hN, h5.andThen g2 (fun k e => by cases e; exact .inl (by omega)), l1, l2⟩

/-- The tag is told. -/
theorem St.done {w wr : World} {b k3 k4 : Nat} {n s : ByteArray} {ps : List (List UInt8 × List UInt8)} {v : Value} {al : Bool} {D : DataW Unit} {g : T.Got} (h : St w b k3 k4 n s ps v al D wr) (hg : g = .ok (⟨0, n.data.toList, ps, al, []⟩, s.data.toList)) :
    Ans b w g (.returned (.agg #[.int .i64 0, .string n, v, .bool al, .string ⟨#[]⟩])) (set5 wr w.heap.size (.int .i64 0) (.string n) v (.bool al) (.string ⟨#[]⟩)) := by
  subst hg
  obtain ⟨a1, a2⟩ := told_set h.rd h.grown h.lt (.int .i64 0) (.string n) v (.bool al) (.string ⟨#[]⟩)
  exact ⟨s, rfl, v, rfl, World.ownsRow.kept h.row (grown_set5 _ _ _ _ _ _ _) (row_apart h.row h.res (by intro cs fr e; cases e)), a1, a2⟩

/-- How long what is left is. -/
def leftAt (b : Nat) (w : World) : Nat := match w.cell? ⟨b, 0, none⟩ with | some (.string s) => s.size | _ => 0
theorem At.left {b : Nat} {s : ByteArray} {w : World} (h : At b s w) : leftAt b w = s.size := by unfold leftAt; rw [h.cell]
end Go.Proofs.YtcjlhdmekhifaaaGreatDoor
namespace Go.Proofs.YtcjlhdmekhifaaaGreatDoor
open Go.RowKit Go.Maps

namespace T
theorem open_end {f : Nat} {n : List UInt8} {ps : List (List UInt8 × List UInt8)} {l r : List UInt8} (h : skip l = 62 :: r) : openGo (f + 1) n ps l = .ok (⟨0, n, ps, false, []⟩, r) := by
  unfold openGo; rw [h]; rfl
theorem open_alone {f : Nat} {n : List UInt8} {ps : List (List UInt8 × List UInt8)} {l r : List UInt8} (h : skip l = [47, 62] ++ r) : openGo (f + 1) n ps l = .ok (⟨0, n, ps, true, []⟩, r) := by
  unfold openGo; rw [h]; rfl
theorem open_next {f : Nat} {n : List UInt8} {ps : List (List UInt8 × List UInt8)} {l : List UInt8} (h1 : begins [47, 62] (skip l) = false) (h2 : begins [62] (skip l) = false) :
    openGo (f + 1) n ps l = if (skip l).length = l.length then .error 70 else match attr (skip l) with | .error e => .error e | .ok (a, more) => if ps.any (fun x => decide (x.1 = a.1)) then .error 71 else openGo f n (ps ++ [a]) more := by
  rw [openGo]
  split
  · rename_i r h
    rw [h, begins_cons] at h2; cases h2
  · rename_i r h
    rw [h] at h1
    have : begins [47, 62] (47 :: 62 :: r) = true := begins_iff.2 ⟨r, rfl⟩
    rw [this] at h1; cases h1
  · rfl
theorem open_tight {f : Nat} {n : List UInt8} {ps : List (List UInt8 × List UInt8)} {l : List UInt8} (h1 : begins [47, 62] (skip l) = false) (h2 : begins [62] (skip l) = false) (h : ¬ (skip l).length < l.length) : openGo (f + 1) n ps l = .error 70 := by
  have := skip_le l
  rw [open_next h1 h2, if_pos (by omega)]
theorem open_err {f e : Nat} {n : List UInt8} {ps : List (List UInt8 × List UInt8)} {l : List UInt8} (h1 : begins [47, 62] (skip l) = false) (h2 : begins [62] (skip l) = false) (h : (skip l).length < l.length) (ha : attr (skip l) = .error e) : openGo (f + 1) n ps l = .error e := by
  rw [open_next h1 h2, if_neg (by omega), ha]
theorem open_twice {f : Nat} {n : List UInt8} {ps : List (List UInt8 × List UInt8)} {l more : List UInt8} {a : List UInt8 × List UInt8} (h1 : begins [47, 62] (skip l) = false) (h2 : begins [62] (skip l) = false) (h : (skip l).length < l.length) (ha : attr (skip l) = .ok (a, more)) (hp : (ps.any fun x => decide (x.1 = a.1)) = true) : openGo (f + 1) n ps l = .error 71 := by
  rw [open_next h1 h2, if_neg (by omega), ha]
  simp only
  rw [if_pos hp]
theorem open_more {f : Nat} {n : List UInt8} {ps : List (List UInt8 × List UInt8)} {l more : List UInt8} {a : List UInt8 × List UInt8} (h1 : begins [47, 62] (skip l) = false) (h2 : begins [62] (skip l) = false) (h : (skip l).length < l.length) (ha : attr (skip l) = .ok (a, more)) (hp : (ps.any fun x => decide (x.1 = a.1)) = false) : openGo (f + 1) n ps l = openGo f n (ps ++ [a]) more := by
  rw [open_next h1 h2, if_neg (by omega), ha]
  simp only
  rw [if_neg (by rw [hp]; decide)]
theorem opened_none {l : List UInt8} (h : nameAt l = none) : opened l = .error 70 := by unfold opened; rw [h]
theorem opened_some {l n rest : List UInt8} (h : nameAt l = some (n, rest)) : opened l = openGo (rest.length + 1) n [] rest := by unfold opened; rw [h]
end T

set_option maxRecDepth 100000 in
set_option maxHeartbeats 6400000 in
theorem start_any (b : Nat) (s : ByteArray) (w : World) (h : At b s w) :
    Calls Tryz.prog 74 #[.pointer (some ⟨b, 0, none⟩)] w (Ans b w (T.opened s.data.toList)) := by
  have g0 := World.grownBy_alloc w (.cells #[.int .i64 0, .string ⟨#[]⟩, .slice none 0 0, .bool false, .string ⟨#[]⟩] 41) (some b)
  have hA := h.below ((Below.refl w.heap.size w).alloc (Nat.le_refl _) (.cells #[.int .i64 0, .string ⟨#[]⟩, .slice none 0 0, .bool false, .string ⟨#[]⟩] 41))
  have bx := Box5.new w
  have hb := h.lt
  have hsm := h.small
  have hne : some w.heap.size ≠ some b := by simp; omega
  have hmm := @run_makeMap Tryz.prog
  clear h
  cases hn : T.nameAt s.data.toList with
  | none =>
    have hr := Lib.hid (T.opened_none hn)
    have c1 := fun w h => name_no b s w h hn
    clear hn
    go_enter Tryz.func74, Tryz.ntmps74
    go_wp2_with fail
    (with_reducible refine (c1 _ hA).mono ?_); rintro e w1 ⟨rfl, g1⟩
    exact ⟨rfl, ans_no hr.out (g0.trans g1)⟩
  | some x =>
    obtain ⟨ln, lr⟩ := x
    obtain ⟨n, rfl⟩ := bytes_of ln
    obtain ⟨s1, rfl⟩ := bytes_of lr
    have hop := Lib.hid (T.opened_some hn)
    have c1 := fun w h => name_ok b s n s1 w h hn
    clear hn
    go_enter Tryz.func74, Tryz.ntmps74
    go_wp2_with fail
    (with_reducible refine (c1 _ hA).mono ?_); rintro e w1 ⟨rfl, h1, g1⟩
    have k1 := bx.on g1 hne
    have g2 := g0.trans g1
    clear bx hA g0 g1
    go_wp2_with fail
    have hS0 : St w b w1.heap.size (w1.heap.size + 1) n s1 [] (.slice none 0 0) false (.map []) ((w1.alloc (.cells #[.int .i64 0, .string n, .slice none 0 0, .bool false, .string ⟨#[]⟩] 41)).alloc (.map #[] 0)) := by
      have ga : w1.grownBy ((w1.alloc (.cells #[.int .i64 0, .string n, .slice none 0 0, .bool false, .string ⟨#[]⟩] 41)).alloc (.map #[] 0)) none := (World.grownBy_alloc w1 _ none).trans (World.grownBy_alloc _ _ none)
      have hm := World.ownsMap_made (w1.alloc (.cells #[.int .i64 0, .string n, .slice none 0 0, .bool false, .string ⟨#[]⟩] 41)) Tryz.prog 9 setR
      rw [show (w1.alloc (.cells #[.int .i64 0, .string n, .slice none 0 0, .bool false, .string ⟨#[]⟩] 41)).heap.size = w1.heap.size + 1 by simp] at hm
      refine ⟨h1.other ga (by simp) (fun k e => by cases e), k1.on ga (by simp), Box5.on (heap_alloc_new w1 _) (World.grownBy_alloc _ _ none) (by simp), pairs_nil _ _, hm, names_nil, g2.trans (ga.but _), hb, k1.lt, Nat.lt_succ_self _⟩
    have hsm1 := h1.small
    clear k1 g2 h1 hne hmm
    go_loopw [5] (fun _ wr => ∃ (sr : ByteArray) (ps : List (List UInt8 × List UInt8)) (v : Value) (D : DataW Unit) (f : Nat), Hid (T.opened s.data.toList = T.openGo f n.data.toList ps sr.data.toList) ∧ sr.size < f ∧ ps.length + sr.size ≤ 1000000 ∧ Hid (St w b w1.heap.size (w1.heap.size + 1) n sr ps v false D wr)) (fun _ wr => leftAt b wr)
    case atStart => exact ⟨s1, [], _, _, _, hop, by rw [list_len]; exact Nat.lt_succ_self _, by simpa using hsm1, Lib.hid hS0⟩
    case round =>
      obtain ⟨sr, ps, v, D, f, hop, hf, hps, hS⟩ := hrel
      obtain ⟨f, rfl⟩ : ∃ g, f = g + 1 := ⟨f - 1, by omega⟩
      have hleft := hS.out.rd.left
      obtain ⟨s2, hs2⟩ := bytes_of (T.skip sr.data.toList)
      have hs2z := skip_size hs2
      have hlen : (T.skip sr.data.toList).length < sr.data.toList.length ↔ s2.size < sr.size := by rw [← hs2, list_len, list_len]
      have c1 := fun w h z hz => space_is b sr s2 w h hs2 z hz
      obtain ⟨z, hz⟩ : ∃ z, decide (s2.size < sr.size) = z := ⟨_, rfl⟩
      have c2 := c1 wr hS.out.rd z hz
      clear c1 hS0
      cases hal : T.begins [47, 62] s2.data.toList with
      | true =>
        obtain ⟨l3, h3⟩ := T.begins_iff.1 hal
        obtain ⟨s3, rfl⟩ := bytes_of l3
        have hr := Lib.hid (hop.out.trans (T.open_alone (by rw [← hs2]; exact h3.symm)))
        have c3 := fun w h => takes_yes b s2 s3 ⟨#[47, 62]⟩ w h h3
        clear hal h3 hs2 hop hz hlen
        go_wp2_with fail
        (with_reducible refine c2.mono ?_); rintro e w2 ⟨rfl, h2, g2⟩
        go_wp2_with fail
        (with_reducible refine (c3 _ h2).mono ?_); rintro e w3 ⟨rfl, h3, g3⟩
        have hS2 := (hS.out.on h2 g2).on h3 g3
        have hS3 := hS2.alone true
        have e3 := hS2.told.c3
        have z3 := hS2.told.free 3
        clear hS2
        have bA := hS3.told
        have bB := hS3.res
        obtain ⟨ao, cap, hv, -⟩ := pairs_of_owns hS3.row
        rw [List.length_map] at hv
        subst hv
        have d0 := bA.c0
        have d1 := bA.c1
        have d2 := bA.c2
        have d3 := bA.c3
        have d4 := bA.c4
        have r0 := bB.c0
        have r1 := bB.c1
        have r2 := bB.c2
        have r3 := bB.c3
        have r4 := bB.c4
        have f0 := bB.free 0
        have f1 := bB.free 1
        have f2 := bB.free 2
        have f3 := bB.free 3
        have f4 := bB.free 4
        replace bB := Lib.hid bB
        replace hS3 := Lib.hid hS3
        clear bA
        go_wp2_with fail
        exact tok_end rfl rfl (bB.out.set _ _ _ _ _) (hS3.out.done hr.out)
      | false =>
        have c3 := fun w h => takes_no b s2 ⟨#[47, 62]⟩ w h hal
        rw [hs2] at hal
        cases hen : T.begins [62] s2.data.toList with
        | true =>
          obtain ⟨l3, h3⟩ := T.begins_one hen
          obtain ⟨s3, rfl⟩ := bytes_of l3
          have hr := Lib.hid (hop.out.trans (T.open_end (by rw [← hs2]; exact h3)))
          have c4 := fun w h => takes_yes b s2 s3 ⟨#[62]⟩ w h (by rw [h3]; rfl)
          clear hal hen h3 hs2 hop hz hlen
          go_wp2_with fail
          (with_reducible refine c2.mono ?_); rintro e w2 ⟨rfl, h2, g2⟩
          go_wp2_with fail
          (with_reducible refine (c3 _ h2).mono ?_); rintro e w3 ⟨rfl, h3, g3⟩
          have hS2 := (hS.out.on h2 g2).on h3 g3
          have hS4 := hS2.alone false
          have e3 := hS2.told.c3
          have z3 := hS2.told.free 3
          clear hS2
          go_wp2_with fail
          (with_reducible refine (c4 _ hS4.rd).mono ?_); rintro e w4 ⟨rfl, h4, g4⟩
          have hS3 := hS4.on h4 g4
          clear hS4
          have bA := hS3.told
          have bB := hS3.res
          obtain ⟨ao, cap, hv, -⟩ := pairs_of_owns hS3.row
          rw [List.length_map] at hv
          subst hv
          have d0 := bA.c0
          have d1 := bA.c1
          have d2 := bA.c2
          have d3 := bA.c3
          have d4 := bA.c4
          have r0 := bB.c0
          have r1 := bB.c1
          have r2 := bB.c2
          have r3 := bB.c3
          have r4 := bB.c4
          have f0 := bB.free 0
          have f1 := bB.free 1
          have f2 := bB.free 2
          have f3 := bB.free 3
          have f4 := bB.free 4
          replace bB := Lib.hid bB
          replace hS3 := Lib.hid hS3
          clear bA
          go_wp2_with fail
          exact tok_end rfl rfl (bB.out.set _ _ _ _ _) (hS3.out.done hr.out)
        | false =>
          have c4 := fun w h => takes_no b s2 ⟨#[62]⟩ w h hen
          rw [hs2] at hen
          have hlt := hlen.2
          cases z with
          | false =>
            have hr := Lib.hid (hop.out.trans (T.open_tight hal hen (fun e => of_decide_eq_false hz (hlen.1 e))))
            clear hal hen hs2 hop hz hlen hlt
            go_wp2_with fail
            (with_reducible refine c2.mono ?_); rintro e w2 ⟨rfl, h2, g2⟩
            go_wp2_with fail
            (with_reducible refine (c3 _ h2).mono ?_); rintro e w3 ⟨rfl, h3, g3⟩
            have hS2 := (hS.out.on h2 g2).on h3 g3
            have hS4 := hS2.alone false
            have e3 := hS2.told.c3
            have z3 := hS2.told.free 3
            clear hS2
            go_wp2_with fail
            (with_reducible refine (c4 _ hS4.rd).mono ?_); rintro e w4 ⟨rfl, h4, g4⟩
            have hS3 := hS4.on h4 g4
            clear hS4
            go_wp2_with fail
            (with_reducible refine (insist_no _).mono ?_); rintro e w5 ⟨rfl, rfl⟩
            exact ⟨rfl, ans_no hr.out hS3.grown⟩
          | true =>
            replace hlt := hlt (of_decide_eq_true hz)
            have c5 := fun w h => attribute_any b s2 w h
            rw [hs2] at c5
            cases hat : T.attr (T.skip sr.data.toList) with
            | error q =>
              rw [hat] at c5
              have hr := Lib.hid (hop.out.trans (T.open_err hal hen hlt hat))
              clear hal hen hs2 hop hz hlen hlt hat
              go_wp2_with fail
              (with_reducible refine c2.mono ?_); rintro e w2 ⟨rfl, h2, g2⟩
              go_wp2_with fail
              (with_reducible refine (c3 _ h2).mono ?_); rintro e w3 ⟨rfl, h3, g3⟩
              have hS2 := (hS.out.on h2 g2).on h3 g3
              have hS4 := hS2.alone false
              have e3 := hS2.told.c3
              have z3 := hS2.told.free 3
              clear hS2
              go_wp2_with fail
              (with_reducible refine (c4 _ hS4.rd).mono ?_); rintro e w4 ⟨rfl, h4, g4⟩
              have hS3 := hS4.on h4 g4
              clear hS4
              go_wp2_with fail
              (with_reducible refine (insist_yes _).mono ?_); rintro e w5 ⟨rfl, rfl⟩
              go_wp2_with fail
              (with_reducible refine (c5 _ h4).mono ?_); rintro e w5 ⟨rfl, g5⟩
              exact ⟨rfl, ans_no hr.out (hS3.grown.trans g5)⟩
            | ok x =>
              obtain ⟨a, more⟩ := x
              rw [hat] at c5
              have hmore := (T.attr_append hat []).2
              rw [← hs2, list_len] at hmore
              have hop1 := fun hp => Lib.hid (hop.out.trans (T.open_twice hal hen hlt hat hp))
              have hop2 := fun hp => Lib.hid (hop.out.trans (T.open_more hal hen hlt hat hp))
              clear hal hen hs2 hop hz hlen hlt hat
              go_wp2_with fail
              (with_reducible refine c2.mono ?_); rintro e w2 ⟨rfl, h2, g2⟩
              go_wp2_with fail
              (with_reducible refine (c3 _ h2).mono ?_); rintro e w3 ⟨rfl, h3, g3⟩
              have hS2 := (hS.out.on h2 g2).on h3 g3
              have hS4 := hS2.alone false
              have e3 := hS2.told.c3
              have z3 := hS2.told.free 3
              clear hS2
              go_wp2_with fail
              (with_reducible refine (c4 _ hS4.rd).mono ?_); rintro e w4 ⟨rfl, h4, g4⟩
              have hS3 := hS4.on h4 g4
              clear hS4 c2 c3 c4 g2 g3 g4 e3 z3
              go_wp2_with fail
              (with_reducible refine (insist_yes _).mono ?_); rintro e w5 ⟨rfl, rfl⟩
              go_wp2_with fail
              (with_reducible refine (c5 _ h4).mono ?_); rintro e w5 ⟨an, av, s3, ha1, ha2, hm, hans, rfl, h5, g5⟩
              have hS5 := hS3.on h5 g5
              have hS6 := hS5.alloc (.cells #[.string an, .string av] 86)
              have hS7 := hS6.alloc (.cells #[] 126)
              clear hS3 h2 h3 h4 g5 c5
              dsimp only at ha1 ha2 hm
              have han : a = (an.data.toList, av.data.toList) := by rw [ha1, ha2]
              subst han
              rw [← hm, list_len] at hmore
              rw [← hm] at hop2
              clear ha1 ha2 hm
              cases hp : (ps.any fun x => decide (x.1 = an.data.toList)) with
              | true =>
                have hr := hop1 hp
                have lk := look hans hS6.map hS6.names true hp
                have hg7 := hS7.grown
                clear hS5 hS6 hS7 h5 hop1 hop2 hp
                go_wp2_with fail
                exact ⟨rfl, ans_no hr.out hg7⟩
              | false =>
                have hopn := hop2 hp
                have lk := look hans hS6.map hS6.names false hp
                have hk5 := hS5.map.lt
                have hk6 : ((w5.alloc (.cells #[.string an, .string av] 86)).alloc (.cells #[] 126)).heap[w5.heap.size]? = some (.cells #[.string an, .string av] 86 (0, 0)) := (World.grownBy_alloc _ _ none).block _ (by simp) (by simp) |>.trans (heap_alloc_new w5 _)
                obtain ⟨w6, hup, hmap, hg6⟩ := hS7.map.update keyed Tryz.underlying124 (by unfold maxLen; omega) (key := .string an) (val := .agg #[]) (keyOf_str an hans) (show setR (.agg #[]) = some (.lit (.bool true), []) from rfl)
                obtain ⟨p1, p2, p3, p4, p5⟩ := hS7.put hg6
                have hN := names_put hS7.names (an.data.toList, av.data.toList)
                have l1 := hS7.lt
                have l2 := hS7.ord
                have hk7 : w6.heap[w5.heap.size]? = some (.cells #[.string an, .string av] 86 (0, 0)) := (hg6.block _ (Array.getElem?_eq_some_iff.1 hk6).1 (by simp; omega)).trans hk6
                have q0 : w6.cell? ⟨w5.heap.size, 0, none⟩ = some (.string an) := by unfold World.cell?; rw [hk7]; rfl
                have q1 : w6.cell? ⟨w5.heap.size, 1, none⟩ = some (.string av) := by unfold World.cell?; rw [hk7]; rfl
                have d2 := p3.c2
                clear hS5 hS6 hS7 h5 hop1 hop2 hp hk6 hk7 hg6
                obtain ⟨i0, hi, hz0, hz1, hz2⟩ := info_parts infoPair
                have hlm : (ps.map mpair).length = ps.length := List.length_map ..
                go_wp2_with (at_builtin; refine wpList_append_own_at _ rfl _ _ 39 rfl w.heap.size 86 i0 _ 2 32 Tryz.underlying39 hi hz0 hz1 hz2 rfl (by decide) _ _ _ rfl (pairs_alloc p4 _) ⟨w6.heap.size, 0, none⟩ 1 1 [.string an, .string av] rfl rfl (cells_two _ _ _ _) (fun u hu => by simp at hu; rcases hu with rfl | rfl <;> rfl) (by unfold maxLen; omega) (by omega) (by have := p5.size; simp; omega) ?_)
                intro v6 w7 hown7 hg7 _ _
                have hga : w6.grownBy w7 v.ownBlock := (World.grownBy_alloc w6 _ _).trans hg7
                have ho2 : OwnsPairs w.heap.size v6 ((ps ++ [(an.data.toList, av.data.toList)]).map mpair) w7 := by
                  unfold OwnsPairs
                  simpa [pairCells, mpair] using hown7
                have hSn := st_append p1 p2 p3 p4 (by rw [List.length_append]; exact hmap) hN p5 l1 l2 hga ho2
                have x3 := p3.on hga (by
                  rcases row_apart p4 p3 (by intro cs fr e; cases e) with h | h
                  · rw [h]; simp
                  · exact fun e => h e.symm)
                have x2 := x3.c2
                have y2 := x3.free 2
                obtain ⟨ao, cap, hv6, -⟩ := pairs_of_owns ho2
                rw [List.length_map, List.length_append, List.length_singleton] at hv6
                subst hv6
                have hfin := hSn.rd.left
                replace hSn := Lib.hid hSn
                have hsz3 := hmore
                clear p1 p2 p3 p4 hown7 hg7 hga ho2 x3 hmap hN d2
                go_wp2_with fail
                go_roundw
                case rel => exact ⟨s3, _, _, _, f, hopn, by omega, by rw [List.length_append, List.length_singleton]; omega, hSn⟩
                case measure => rw [hfin, hleft]; omega
end Go.Proofs.YtcjlhdmekhifaaaGreatDoor
namespace Go.Proofs.YtcjlhdmekhifaaaGreatDoor
open Go.RowKit

namespace T
theorem no_neg {b : Bool} (h : b = false) : ¬ b = true := by rw [h]; decide
theorem nx0 {l r : List UInt8}  (h : [60, 33, 45, 45] ++ r = l) : next false l = comment r := by
  have hb : begins [60, 33, 45, 45] l = true := begins_iff.2 ⟨r, h⟩
  have hd : l.drop 4 = r := by rw [← h]; rfl
  unfold next
  rw [if_neg (by simp), if_pos hb, hd]
theorem nx1 {l r : List UInt8} (n0 : begins [60, 33, 45, 45] l = false) (h : [60, 33, 91, 67, 68, 65, 84, 65, 91] ++ r = l) : next false l = cdata r := by
  have hb : begins [60, 33, 91, 67, 68, 65, 84, 65, 91] l = true := begins_iff.2 ⟨r, h⟩
  have hd : l.drop 9 = r := by rw [← h]; rfl
  unfold next
  rw [if_neg (by simp), if_neg (no_neg n0), if_pos hb, hd]
theorem nx2 {l r : List UInt8} (n0 : begins [60, 33, 45, 45] l = false) (n1 : begins [60, 33, 91, 67, 68, 65, 84, 65, 91] l = false) (h : [60, 33, 68, 79, 67, 84, 89, 80, 69] ++ r = l) : next false l = .error 72 := by
  have hb : begins [60, 33, 68, 79, 67, 84, 89, 80, 69] l = true := begins_iff.2 ⟨r, h⟩
  unfold next
  rw [if_neg (by simp), if_neg (no_neg n0), if_neg (no_neg n1), if_pos hb]
theorem nx3 {l r : List UInt8} (n0 : begins [60, 33, 45, 45] l = false) (n1 : begins [60, 33, 91, 67, 68, 65, 84, 65, 91] l = false) (n2 : begins [60, 33, 68, 79, 67, 84, 89, 80, 69] l = false) (h : [60, 33] ++ r = l) : next false l = .error 70 := by
  have hb : begins [60, 33] l = true := begins_iff.2 ⟨r, h⟩
  unfold next
  rw [if_neg (by simp), if_neg (no_neg n0), if_neg (no_neg n1), if_neg (no_neg n2), if_pos hb]
theorem nx4 {l r : List UInt8} (n0 : begins [60, 33, 45, 45] l = false) (n1 : begins [60, 33, 91, 67, 68, 65, 84, 65, 91] l = false) (n2 : begins [60, 33, 68, 79, 67, 84, 89, 80, 69] l = false) (n3 : begins [60, 33] l = false) (h : [60, 63] ++ r = l) : next false l = pi r := by
  have hb : begins [60, 63] l = true := begins_iff.2 ⟨r, h⟩
  have hd : l.drop 2 = r := by rw [← h]; rfl
  unfold next
  rw [if_neg (by simp), if_neg (no_neg n0), if_neg (no_neg n1), if_neg (no_neg n2), if_neg (no_neg n3), if_pos hb, hd]
theorem nx5 {l r : List UInt8} (n0 : begins [60, 33, 45, 45] l = false) (n1 : begins [60, 33, 91, 67, 68, 65, 84, 65, 91] l = false) (n2 : begins [60, 33, 68, 79, 67, 84, 89, 80, 69] l = false) (n3 : begins [60, 33] l = false) (n4 : begins [60, 63] l = false) (h : [60, 47] ++ r = l) : next false l = shut r := by
  have hb : begins [60, 47] l = true := begins_iff.2 ⟨r, h⟩
  have hd : l.drop 2 = r := by rw [← h]; rfl
  unfold next
  rw [if_neg (by simp), if_neg (no_neg n0), if_neg (no_neg n1), if_neg (no_neg n2), if_neg (no_neg n3), if_neg (no_neg n4), if_pos hb, hd]
theorem nx6 {l r : List UInt8} (n0 : begins [60, 33, 45, 45] l = false) (n1 : begins [60, 33, 91, 67, 68, 65, 84, 65, 91] l = false) (n2 : begins [60, 33, 68, 79, 67, 84, 89, 80, 69] l = false) (n3 : begins [60, 33] l = false) (n4 : begins [60, 63] l = false) (n5 : begins [60, 47] l = false) (h : [60] ++ r = l) : next false l = opened r := by
  have hb : begins [60] l = true := begins_iff.2 ⟨r, h⟩
  have hd : l.drop 1 = r := by rw [← h]; rfl
  unfold next
  rw [if_neg (by simp), if_neg (no_neg n0), if_neg (no_neg n1), if_neg (no_neg n2), if_neg (no_neg n3), if_neg (no_neg n4), if_neg (no_neg n5), if_pos hb, hd]
theorem nx7 {l : List UInt8} (n0 : begins [60, 33, 45, 45] l = false) (n1 : begins [60, 33, 91, 67, 68, 65, 84, 65, 91] l = false) (n2 : begins [60, 33, 68, 79, 67, 84, 89, 80, 69] l = false) (n3 : begins [60, 33] l = false) (n4 : begins [60, 63] l = false) (n5 : begins [60, 47] l = false) (n6 : begins [60] l = false) : next false l = text l := by
  unfold next
  rw [if_neg (by simp), if_neg (no_neg n0), if_neg (no_neg n1), if_neg (no_neg n2), if_neg (no_neg n3), if_neg (no_neg n4), if_neg (no_neg n5), if_neg (no_neg n6)]
end T

theorem ownsPairs_base {B B' : Nat} {v : Value} {l : List Pair} {w : World} (h : OwnsPairs B' v l w) (hB : B ≤ B') : OwnsPairs B v l w := by
  obtain ⟨a, h0 | ⟨g, cap, cur, rfl, hb, r⟩⟩ := h
  · exact ⟨a, .inl h0⟩
  · exact ⟨a, .inr ⟨g, cap, cur, rfl, Nat.le_trans hB hb, r⟩⟩
/-- What another word told is told on. -/
theorem ans_pass {b : Nat} {w w1 wn : World} {g : T.Got} {k : T.Tok} {t : ByteArray} {v : Value} (hg : g = .ok (k, t.data.toList)) (hov : OwnsPairs w1.heap.size v (k.attrs.map mpair) wn) (hsz : w.heap.size ≤ w1.heap.size) (hA : At b t wn) (gr : w.grownBy wn (some b)) (hb : b < w.heap.size)
    {y0 y1 y2 y3 y4 : Value} (bx : Box5 wn w.heap.size y0 y1 y2 y3 y4) :
    Ans b w g (.returned (.agg #[.int .i64 (k.kind : Int), .string ⟨k.name.toArray⟩, v, .bool k.alone, .string ⟨k.data.toArray⟩])) (set5 wn w.heap.size (.int .i64 (k.kind : Int)) (.string ⟨k.name.toArray⟩) v (.bool k.alone) (.string ⟨k.data.toArray⟩)) := by
  subst hg
  obtain ⟨a1, a2⟩ := told_set hA gr hb (.int .i64 (k.kind : Int)) (.string ⟨k.name.toArray⟩) v (.bool k.alone) (.string ⟨k.data.toArray⟩)
  exact ⟨t, rfl, v, rfl, World.ownsRow.kept (ownsPairs_base hov hsz) (grown_set5 _ _ _ _ _ _ _) (row_apart hov bx (by intro cs fr e; cases e)), a1, a2⟩

set_option maxRecDepth 100000 in
set_option maxHeartbeats 12800000 in
theorem token_any (b : Nat) (s : ByteArray) (w : World) (h : At b s w) :
    Calls Tryz.prog 37 #[.pointer (some ⟨b, 0, none⟩)] w (Ans b w (T.next false s.data.toList)) := by
  have g0 := World.grownBy_alloc w (.cells #[.int .i64 0, .string ⟨#[]⟩, .slice none 0 0, .bool false, .string ⟨#[]⟩] 41) (some b)
  have hA := h.below ((Below.refl w.heap.size w).alloc (Nat.le_refl _) (.cells #[.int .i64 0, .string ⟨#[]⟩, .slice none 0 0, .bool false, .string ⟨#[]⟩] 41))
  have bx := Box5.new w
  have hb := h.lt
  have hsm := h.small
  have hne : some w.heap.size ≠ some b := by simp; omega
  clear h
  cases n0 : T.begins [60, 33, 45, 45] s.data.toList with
  | true =>
    obtain ⟨l0, e0⟩ := T.begins_iff.1 n0
    obtain ⟨t0, rfl⟩ := bytes_of l0
    have hx := T.nx0  e0
    have y0 := fun w h => takes_yes b s t0 ⟨#[60, 33, 45, 45]⟩ w h e0
    clear  n0 e0
    cases hq : T.comment t0.data.toList with
    | error q =>
      have hr := Lib.hid ((hx).trans hq)
      have c := fun w h => comment_any b t0 w h
      rw [hq] at c
      clear hq hx
      go_enter Tryz.func37, Tryz.ntmps37
      go_wp2_with fail
      (with_reducible refine (y0 _ hA).mono ?_); rintro e w1 ⟨rfl, h1, g1⟩
      go_wp2_with fail
      (with_reducible refine (c _ h1).mono ?_); rintro e w2 ⟨rfl, g2⟩
      exact ⟨rfl, ans_no hr.out ((g0.trans g1).trans g2)⟩
    | ok x =>
      obtain ⟨k, lt⟩ := x
      have hr := (hx).trans hq
      have c := fun w h => comment_any b t0 w h
      rw [hq] at c
      clear hq hx
      go_enter Tryz.func37, Tryz.ntmps37
      go_wp2_with fail
      (with_reducible refine (y0 _ hA).mono ?_); rintro e w1 ⟨rfl, h1, g1⟩
      go_wp2_with fail
      (with_reducible refine (c _ h1).mono ?_); rintro e w2 ⟨t, ht, v, rfl, hov, h2, g2⟩
      dsimp only at ht hov
      unfold tokVal
      rw [← ht] at hr
      replace hr := Lib.hid hr
      have gP := g0.trans g1
      have gA := g1.trans g2
      have bA := bx.on gA hne
      have d0 := bA.c0
      have d1 := bA.c1
      have d2 := bA.c2
      have d3 := bA.c3
      have d4 := bA.c4
      have f0 := bA.free 0
      have f1 := bA.free 1
      have f2 := bA.free 2
      have f3 := bA.free 3
      have f4 := bA.free 4
      replace bA := Lib.hid bA
      clear bx c
      obtain ⟨ao, cap, hv, -⟩ := pairs_of_owns hov
      rw [List.length_map] at hv
      subst hv
      go_wp2_with fail
      exact tok_end rfl rfl (bA.out.set _ _ _ _ _) (ans_pass hr.out hov gP.size h2 (g0.trans gA) hb bA.out)
  | false =>
    have y0 := fun w h => takes_no b s ⟨#[60, 33, 45, 45]⟩ w h n0
    cases n1 : T.begins [60, 33, 91, 67, 68, 65, 84, 65, 91] s.data.toList with
    | true =>
      obtain ⟨l1, e1⟩ := T.begins_iff.1 n1
      obtain ⟨t1, rfl⟩ := bytes_of l1
      have hx := T.nx1 n0 e1
      have y1 := fun w h => takes_yes b s t1 ⟨#[60, 33, 91, 67, 68, 65, 84, 65, 91]⟩ w h e1
      clear n0 n1 e1
      cases hc : T.cutAt [93, 93, 62] t1.data.toList with
      | none =>
        have hr := Lib.hid (hx.trans (T.cdata_none hc))
        have c1 := fun w h => upTo_no b t1 ⟨#[93, 93, 62]⟩ w h (by simp) hc
        clear hc hx
        go_enter Tryz.func37, Tryz.ntmps37
        go_wp2_with fail
        (with_reducible refine (y0 _ hA).mono ?_); rintro e w1 ⟨rfl, h1, g1⟩
        go_wp2_with fail
        (with_reducible refine (y1 _ h1).mono ?_); rintro e w2 ⟨rfl, h2, g2⟩
        go_wp2_with fail
        (with_reducible refine (c1 _ h2).mono ?_); rintro e w3 ⟨rfl, g3⟩
        exact ⟨rfl, ans_no hr.out (((g0.trans g1).trans g2).trans g3)⟩
      | some x =>
        obtain ⟨la, lr⟩ := x
        obtain ⟨v, rfl⟩ := bytes_of la
        obtain ⟨t, rfl⟩ := bytes_of lr
        have hr := Lib.hid (hx.trans (T.cdata_ok hc))
        have c1 := fun w h => upTo_ok b t1 v t ⟨#[93, 93, 62]⟩ w h (by simp) hc
        clear hc hx
        go_enter Tryz.func37, Tryz.ntmps37
        go_wp2_with fail
        (with_reducible refine (y0 _ hA).mono ?_); rintro e w1 ⟨rfl, h1, g1⟩
        go_wp2_with fail
        (with_reducible refine (y1 _ h1).mono ?_); rintro e w2 ⟨rfl, h2, g2⟩
        go_wp2_with fail
        (with_reducible refine (c1 _ h2).mono ?_); rintro e w3 ⟨rfl, h3, g3⟩
        have gA := ((g1.trans g2).trans g3)
        have bA := bx.on gA hne
        have d0 := bA.c0
        have d1 := bA.c1
        have d2 := bA.c2
        have d3 := bA.c3
        have d4 := bA.c4
        have f0 := bA.free 0
        have f1 := bA.free 1
        have f2 := bA.free 2
        have f3 := bA.free 3
        have f4 := bA.free 4
        replace bA := Lib.hid bA
        clear bx
        go_wp2_with fail
        exact tok_end rfl rfl (bA.out.set _ _ _ _ _) (ans_plain hr.out rfl h3 (((g0.trans g1).trans g2).trans g3) hb rfl)
    | false =>
      have y1 := fun w h => takes_no b s ⟨#[60, 33, 91, 67, 68, 65, 84, 65, 91]⟩ w h n1
      cases n2 : T.begins [60, 33, 68, 79, 67, 84, 89, 80, 69] s.data.toList with
      | true =>
        obtain ⟨l2, e2⟩ := T.begins_iff.1 n2
        obtain ⟨t2, rfl⟩ := bytes_of l2
        have hx := T.nx2 n0 n1 e2
        have y2 := fun w h => takes_yes b s t2 ⟨#[60, 33, 68, 79, 67, 84, 89, 80, 69]⟩ w h e2
        clear n0 n1 n2 e2
        replace hx := Lib.hid hx
        go_enter Tryz.func37, Tryz.ntmps37
        go_wp2_with fail
        (with_reducible refine (y0 _ hA).mono ?_); rintro e w1 ⟨rfl, h1, g1⟩
        go_wp2_with fail
        (with_reducible refine (y1 _ h1).mono ?_); rintro e w2 ⟨rfl, h2, g2⟩
        go_wp2_with fail
        (with_reducible refine (y2 _ h2).mono ?_); rintro e w3 ⟨rfl, h3, g3⟩
        go_wp2_with fail
        exact ⟨rfl, ans_no hx.out (((g0.trans g1).trans g2).trans g3)⟩
      | false =>
        have y2 := fun w h => takes_no b s ⟨#[60, 33, 68, 79, 67, 84, 89, 80, 69]⟩ w h n2
        cases n3 : T.begins [60, 33] s.data.toList with
        | true =>
          obtain ⟨l3, e3⟩ := T.begins_iff.1 n3
          obtain ⟨t3, rfl⟩ := bytes_of l3
          have hx := T.nx3 n0 n1 n2 e3
          have y3 := fun w h => takes_yes b s t3 ⟨#[60, 33]⟩ w h e3
          clear n0 n1 n2 n3 e3
          replace hx := Lib.hid hx
          go_enter Tryz.func37, Tryz.ntmps37
          go_wp2_with fail
          (with_reducible refine (y0 _ hA).mono ?_); rintro e w1 ⟨rfl, h1, g1⟩
          go_wp2_with fail
          (with_reducible refine (y1 _ h1).mono ?_); rintro e w2 ⟨rfl, h2, g2⟩
          go_wp2_with fail
          (with_reducible refine (y2 _ h2).mono ?_); rintro e w3 ⟨rfl, h3, g3⟩
          go_wp2_with fail
          (with_reducible refine (y3 _ h3).mono ?_); rintro e w4 ⟨rfl, h4, g4⟩
          go_wp2_with fail
          exact ⟨rfl, ans_no hx.out ((((g0.trans g1).trans g2).trans g3).trans g4)⟩
        | false =>
          have y3 := fun w h => takes_no b s ⟨#[60, 33]⟩ w h n3
          cases n4 : T.begins [60, 63] s.data.toList with
          | true =>
            obtain ⟨l4, e4⟩ := T.begins_iff.1 n4
            obtain ⟨t4, rfl⟩ := bytes_of l4
            have hx := T.nx4 n0 n1 n2 n3 e4
            have y4 := fun w h => takes_yes b s t4 ⟨#[60, 63]⟩ w h e4
            clear n0 n1 n2 n3 n4 e4
            cases hq : T.pi t4.data.toList with
            | error q =>
              have hr := Lib.hid ((hx).trans hq)
              have c := fun w h => instruction_any b t4 w h
              rw [hq] at c
              clear hq hx
              go_enter Tryz.func37, Tryz.ntmps37
              go_wp2_with fail
              (with_reducible refine (y0 _ hA).mono ?_); rintro e w1 ⟨rfl, h1, g1⟩
              go_wp2_with fail
              (with_reducible refine (y1 _ h1).mono ?_); rintro e w2 ⟨rfl, h2, g2⟩
              go_wp2_with fail
              (with_reducible refine (y2 _ h2).mono ?_); rintro e w3 ⟨rfl, h3, g3⟩
              go_wp2_with fail
              (with_reducible refine (y3 _ h3).mono ?_); rintro e w4 ⟨rfl, h4, g4⟩
              go_wp2_with fail
              (with_reducible refine (y4 _ h4).mono ?_); rintro e w5 ⟨rfl, h5, g5⟩
              go_wp2_with fail
              (with_reducible refine (c _ h5).mono ?_); rintro e w6 ⟨rfl, g6⟩
              exact ⟨rfl, ans_no hr.out ((((((g0.trans g1).trans g2).trans g3).trans g4).trans g5).trans g6)⟩
            | ok x =>
              obtain ⟨k, lt⟩ := x
              have hr := (hx).trans hq
              have c := fun w h => instruction_any b t4 w h
              rw [hq] at c
              clear hq hx
              go_enter Tryz.func37, Tryz.ntmps37
              go_wp2_with fail
              (with_reducible refine (y0 _ hA).mono ?_); rintro e w1 ⟨rfl, h1, g1⟩
              go_wp2_with fail
              (with_reducible refine (y1 _ h1).mono ?_); rintro e w2 ⟨rfl, h2, g2⟩
              go_wp2_with fail
              (with_reducible refine (y2 _ h2).mono ?_); rintro e w3 ⟨rfl, h3, g3⟩
              go_wp2_with fail
              (with_reducible refine (y3 _ h3).mono ?_); rintro e w4 ⟨rfl, h4, g4⟩
              go_wp2_with fail
              (with_reducible refine (y4 _ h4).mono ?_); rintro e w5 ⟨rfl, h5, g5⟩
              go_wp2_with fail
              (with_reducible refine (c _ h5).mono ?_); rintro e w6 ⟨t, ht, v, rfl, hov, h6, g6⟩
              dsimp only at ht hov
              unfold tokVal
              rw [← ht] at hr
              replace hr := Lib.hid hr
              have gP := g0.trans ((((g1.trans g2).trans g3).trans g4).trans g5)
              have gA := ((((g1.trans g2).trans g3).trans g4).trans g5).trans g6
              have bA := bx.on gA hne
              have d0 := bA.c0
              have d1 := bA.c1
              have d2 := bA.c2
              have d3 := bA.c3
              have d4 := bA.c4
              have f0 := bA.free 0
              have f1 := bA.free 1
              have f2 := bA.free 2
              have f3 := bA.free 3
              have f4 := bA.free 4
              replace bA := Lib.hid bA
              clear bx c
              obtain ⟨ao, cap, hv, -⟩ := pairs_of_owns hov
              rw [List.length_map] at hv
              subst hv
              go_wp2_with fail
              exact tok_end rfl rfl (bA.out.set _ _ _ _ _) (ans_pass hr.out hov gP.size h6 (g0.trans gA) hb bA.out)
          | false =>
            have y4 := fun w h => takes_no b s ⟨#[60, 63]⟩ w h n4
            cases n5 : T.begins [60, 47] s.data.toList with
            | true =>
              obtain ⟨l5, e5⟩ := T.begins_iff.1 n5
              obtain ⟨t5, rfl⟩ := bytes_of l5
              have hx := T.nx5 n0 n1 n2 n3 n4 e5
              have y5 := fun w h => takes_yes b s t5 ⟨#[60, 47]⟩ w h e5
              clear n0 n1 n2 n3 n4 n5 e5
              cases hq : T.shut t5.data.toList with
              | error q =>
                have hr := Lib.hid ((hx).trans hq)
                have c := fun w h => end_any b t5 w h
                rw [hq] at c
                clear hq hx
                go_enter Tryz.func37, Tryz.ntmps37
                go_wp2_with fail
                (with_reducible refine (y0 _ hA).mono ?_); rintro e w1 ⟨rfl, h1, g1⟩
                go_wp2_with fail
                (with_reducible refine (y1 _ h1).mono ?_); rintro e w2 ⟨rfl, h2, g2⟩
                go_wp2_with fail
                (with_reducible refine (y2 _ h2).mono ?_); rintro e w3 ⟨rfl, h3, g3⟩
                go_wp2_with fail
                (with_reducible refine (y3 _ h3).mono ?_); rintro e w4 ⟨rfl, h4, g4⟩
                go_wp2_with fail
                (with_reducible refine (y4 _ h4).mono ?_); rintro e w5 ⟨rfl, h5, g5⟩
                go_wp2_with fail
                (with_reducible refine (y5 _ h5).mono ?_); rintro e w6 ⟨rfl, h6, g6⟩
                go_wp2_with fail
                (with_reducible refine (c _ h6).mono ?_); rintro e w7 ⟨rfl, g7⟩
                exact ⟨rfl, ans_no hr.out (((((((g0.trans g1).trans g2).trans g3).trans g4).trans g5).trans g6).trans g7)⟩
              | ok x =>
                obtain ⟨k, lt⟩ := x
                have hr := (hx).trans hq
                have c := fun w h => end_any b t5 w h
                rw [hq] at c
                clear hq hx
                go_enter Tryz.func37, Tryz.ntmps37
                go_wp2_with fail
                (with_reducible refine (y0 _ hA).mono ?_); rintro e w1 ⟨rfl, h1, g1⟩
                go_wp2_with fail
                (with_reducible refine (y1 _ h1).mono ?_); rintro e w2 ⟨rfl, h2, g2⟩
                go_wp2_with fail
                (with_reducible refine (y2 _ h2).mono ?_); rintro e w3 ⟨rfl, h3, g3⟩
                go_wp2_with fail
                (with_reducible refine (y3 _ h3).mono ?_); rintro e w4 ⟨rfl, h4, g4⟩
                go_wp2_with fail
                (with_reducible refine (y4 _ h4).mono ?_); rintro e w5 ⟨rfl, h5, g5⟩
                go_wp2_with fail
                (with_reducible refine (y5 _ h5).mono ?_); rintro e w6 ⟨rfl, h6, g6⟩
                go_wp2_with fail
                (with_reducible refine (c _ h6).mono ?_); rintro e w7 ⟨t, ht, v, rfl, hov, h7, g7⟩
                dsimp only at ht hov
                unfold tokVal
                rw [← ht] at hr
                replace hr := Lib.hid hr
                have gP := g0.trans (((((g1.trans g2).trans g3).trans g4).trans g5).trans g6)
                have gA := (((((g1.trans g2).trans g3).trans g4).trans g5).trans g6).trans g7
                have bA := bx.on gA hne
                have d0 := bA.c0
                have d1 := bA.c1
                have d2 := bA.c2
                have d3 := bA.c3
                have d4 := bA.c4
                have f0 := bA.free 0
                have f1 := bA.free 1
                have f2 := bA.free 2
                have f3 := bA.free 3
                have f4 := bA.free 4
                replace bA := Lib.hid bA
                clear bx c
                obtain ⟨ao, cap, hv, -⟩ := pairs_of_owns hov
                rw [List.length_map] at hv
                subst hv
                go_wp2_with fail
                exact tok_end rfl rfl (bA.out.set _ _ _ _ _) (ans_pass hr.out hov gP.size h7 (g0.trans gA) hb bA.out)
            | false =>
              have y5 := fun w h => takes_no b s ⟨#[60, 47]⟩ w h n5
              cases n6 : T.begins [60] s.data.toList with
              | true =>
                obtain ⟨l6, e6⟩ := T.begins_iff.1 n6
                obtain ⟨t6, rfl⟩ := bytes_of l6
                have hx := T.nx6 n0 n1 n2 n3 n4 n5 e6
                have y6 := fun w h => takes_yes b s t6 ⟨#[60]⟩ w h e6
                clear n0 n1 n2 n3 n4 n5 n6 e6
                cases hq : T.opened t6.data.toList with
                | error q =>
                  have hr := Lib.hid ((hx).trans hq)
                  have c := fun w h => start_any b t6 w h
                  rw [hq] at c
                  clear hq hx
                  go_enter Tryz.func37, Tryz.ntmps37
                  go_wp2_with fail
                  (with_reducible refine (y0 _ hA).mono ?_); rintro e w1 ⟨rfl, h1, g1⟩
                  go_wp2_with fail
                  (with_reducible refine (y1 _ h1).mono ?_); rintro e w2 ⟨rfl, h2, g2⟩
                  go_wp2_with fail
                  (with_reducible refine (y2 _ h2).mono ?_); rintro e w3 ⟨rfl, h3, g3⟩
                  go_wp2_with fail
                  (with_reducible refine (y3 _ h3).mono ?_); rintro e w4 ⟨rfl, h4, g4⟩
                  go_wp2_with fail
                  (with_reducible refine (y4 _ h4).mono ?_); rintro e w5 ⟨rfl, h5, g5⟩
                  go_wp2_with fail
                  (with_reducible refine (y5 _ h5).mono ?_); rintro e w6 ⟨rfl, h6, g6⟩
                  go_wp2_with fail
                  (with_reducible refine (y6 _ h6).mono ?_); rintro e w7 ⟨rfl, h7, g7⟩
                  go_wp2_with fail
                  (with_reducible refine (c _ h7).mono ?_); rintro e w8 ⟨rfl, g8⟩
                  exact ⟨rfl, ans_no hr.out ((((((((g0.trans g1).trans g2).trans g3).trans g4).trans g5).trans g6).trans g7).trans g8)⟩
                | ok x =>
                  obtain ⟨k, lt⟩ := x
                  have hr := (hx).trans hq
                  have c := fun w h => start_any b t6 w h
                  rw [hq] at c
                  clear hq hx
                  go_enter Tryz.func37, Tryz.ntmps37
                  go_wp2_with fail
                  (with_reducible refine (y0 _ hA).mono ?_); rintro e w1 ⟨rfl, h1, g1⟩
                  go_wp2_with fail
                  (with_reducible refine (y1 _ h1).mono ?_); rintro e w2 ⟨rfl, h2, g2⟩
                  go_wp2_with fail
                  (with_reducible refine (y2 _ h2).mono ?_); rintro e w3 ⟨rfl, h3, g3⟩
                  go_wp2_with fail
                  (with_reducible refine (y3 _ h3).mono ?_); rintro e w4 ⟨rfl, h4, g4⟩
                  go_wp2_with fail
                  (with_reducible refine (y4 _ h4).mono ?_); rintro e w5 ⟨rfl, h5, g5⟩
                  go_wp2_with fail
                  (with_reducible refine (y5 _ h5).mono ?_); rintro e w6 ⟨rfl, h6, g6⟩
                  go_wp2_with fail
                  (with_reducible refine (y6 _ h6).mono ?_); rintro e w7 ⟨rfl, h7, g7⟩
                  go_wp2_with fail
                  (with_reducible refine (c _ h7).mono ?_); rintro e w8 ⟨t, ht, v, rfl, hov, h8, g8⟩
                  dsimp only at ht hov
                  unfold tokVal
                  rw [← ht] at hr
                  replace hr := Lib.hid hr
                  have gP := g0.trans ((((((g1.trans g2).trans g3).trans g4).trans g5).trans g6).trans g7)
                  have gA := ((((((g1.trans g2).trans g3).trans g4).trans g5).trans g6).trans g7).trans g8
                  have bA := bx.on gA hne
                  have d0 := bA.c0
                  have d1 := bA.c1
                  have d2 := bA.c2
                  have d3 := bA.c3
                  have d4 := bA.c4
                  have f0 := bA.free 0
                  have f1 := bA.free 1
                  have f2 := bA.free 2
                  have f3 := bA.free 3
                  have f4 := bA.free 4
                  replace bA := Lib.hid bA
                  clear bx c
                  obtain ⟨ao, cap, hv, -⟩ := pairs_of_owns hov
                  rw [List.length_map] at hv
                  subst hv
                  go_wp2_with fail
                  exact tok_end rfl rfl (bA.out.set _ _ _ _ _) (ans_pass hr.out hov gP.size h8 (g0.trans gA) hb bA.out)
              | false =>
                have y6 := fun w h => takes_no b s ⟨#[60]⟩ w h n6
                have hx := T.nx7 n0 n1 n2 n3 n4 n5 n6
                clear n0 n1 n2 n3 n4 n5 n6
                cases hq : T.text s.data.toList with
                | error q =>
                  have hr := Lib.hid ((hx).trans hq)
                  have c := fun w h => characters_any b s w h
                  rw [hq] at c
                  clear hq hx
                  go_enter Tryz.func37, Tryz.ntmps37
                  go_wp2_with fail
                  (with_reducible refine (y0 _ hA).mono ?_); rintro e w1 ⟨rfl, h1, g1⟩
                  go_wp2_with fail
                  (with_reducible refine (y1 _ h1).mono ?_); rintro e w2 ⟨rfl, h2, g2⟩
                  go_wp2_with fail
                  (with_reducible refine (y2 _ h2).mono ?_); rintro e w3 ⟨rfl, h3, g3⟩
                  go_wp2_with fail
                  (with_reducible refine (y3 _ h3).mono ?_); rintro e w4 ⟨rfl, h4, g4⟩
                  go_wp2_with fail
                  (with_reducible refine (y4 _ h4).mono ?_); rintro e w5 ⟨rfl, h5, g5⟩
                  go_wp2_with fail
                  (with_reducible refine (y5 _ h5).mono ?_); rintro e w6 ⟨rfl, h6, g6⟩
                  go_wp2_with fail
                  (with_reducible refine (y6 _ h6).mono ?_); rintro e w7 ⟨rfl, h7, g7⟩
                  go_wp2_with fail
                  (with_reducible refine (c _ h7).mono ?_); rintro e w8 ⟨rfl, g8⟩
                  exact ⟨rfl, ans_no hr.out ((((((((g0.trans g1).trans g2).trans g3).trans g4).trans g5).trans g6).trans g7).trans g8)⟩
                | ok x =>
                  obtain ⟨k, lt⟩ := x
                  have hr := (hx).trans hq
                  have c := fun w h => characters_any b s w h
                  rw [hq] at c
                  clear hq hx
                  go_enter Tryz.func37, Tryz.ntmps37
                  go_wp2_with fail
                  (with_reducible refine (y0 _ hA).mono ?_); rintro e w1 ⟨rfl, h1, g1⟩
                  go_wp2_with fail
                  (with_reducible refine (y1 _ h1).mono ?_); rintro e w2 ⟨rfl, h2, g2⟩
                  go_wp2_with fail
                  (with_reducible refine (y2 _ h2).mono ?_); rintro e w3 ⟨rfl, h3, g3⟩
                  go_wp2_with fail
                  (with_reducible refine (y3 _ h3).mono ?_); rintro e w4 ⟨rfl, h4, g4⟩
                  go_wp2_with fail
                  (with_reducible refine (y4 _ h4).mono ?_); rintro e w5 ⟨rfl, h5, g5⟩
                  go_wp2_with fail
                  (with_reducible refine (y5 _ h5).mono ?_); rintro e w6 ⟨rfl, h6, g6⟩
                  go_wp2_with fail
                  (with_reducible refine (y6 _ h6).mono ?_); rintro e w7 ⟨rfl, h7, g7⟩
                  go_wp2_with fail
                  (with_reducible refine (c _ h7).mono ?_); rintro e w8 ⟨t, ht, v, rfl, hov, h8, g8⟩
                  dsimp only at ht hov
                  unfold tokVal
                  rw [← ht] at hr
                  replace hr := Lib.hid hr
                  have gP := g0.trans ((((((g1.trans g2).trans g3).trans g4).trans g5).trans g6).trans g7)
                  have gA := ((((((g1.trans g2).trans g3).trans g4).trans g5).trans g6).trans g7).trans g8
                  have bA := bx.on gA hne
                  have d0 := bA.c0
                  have d1 := bA.c1
                  have d2 := bA.c2
                  have d3 := bA.c3
                  have d4 := bA.c4
                  have f0 := bA.free 0
                  have f1 := bA.free 1
                  have f2 := bA.free 2
                  have f3 := bA.free 3
                  have f4 := bA.free 4
                  replace bA := Lib.hid bA
                  clear bx c
                  obtain ⟨ao, cap, hv, -⟩ := pairs_of_owns hov
                  rw [List.length_map] at hv
                  subst hv
                  go_wp2_with fail
                  exact tok_end rfl rfl (bA.out.set _ _ _ _ _) (ans_pass hr.out hov gP.size h8 (g0.trans gA) hb bA.out)
end Go.Proofs.YtcjlhdmekhifaaaGreatDoor
