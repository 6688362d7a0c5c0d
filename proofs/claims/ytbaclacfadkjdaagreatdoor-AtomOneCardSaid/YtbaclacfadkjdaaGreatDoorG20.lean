/-
  Entries in plain Lean: when a tree is one, over what references, points of time and types are; the order of the kids, and kids of another kind, change nothing.
  What the document's own words of a node come to: Is, Attr, plain.
  What the document's own word of a node's text comes to.
  Rows of nodes that a call owns; what the document's own word of kids of a name comes to: All.
-/
import Derived.Test.YtbaclacfadkjdaaGreatDoorG01
import Derived.Test.YtbaclacfadkjdaaGreatDoorG03
import Derived.Deep.Cut
import Derived.Deep.DeepCutAuto
import Derived.Deep.QuietTactic
import Derived.Laws.AppendOwn
namespace Go.Proofs.YtbaclacfadkjdaaGreatDoor
namespace Am
open Gv (Att)
def atomS : List UInt8 := "http://www.w3.org/2005/Atom".toUTF8.data.toList
def xhtmlS : List UInt8 := "http://www.w3.org/1999/xhtml".toUTF8.data.toList
def lit (s : String) : List UInt8 := s.toUTF8.data.toList
def kindOf : Gv.Node → Int | .mk k _ _ _ _ _ => k
def spaceOf : Gv.Node → ByteArray | .mk _ s _ _ _ _ => s
def nameOf : Gv.Node → ByteArray | .mk _ _ n _ _ _ => n
def attrsOf : Gv.Node → List Att | .mk _ _ _ a _ _ => a
def kidsOf : Gv.Node → List Gv.Node | .mk _ _ _ _ k _ => k
def dataOf : Gv.Node → ByteArray | .mk _ _ _ _ _ d => d
def withKids : Gv.Node → List Gv.Node → Gv.Node | .mk k s n a _ d, l => .mk k s n a l d
def isEl (n : Gv.Node) (space name : List UInt8) : Bool := decide (kindOf n = 0) && decide ((spaceOf n).data.toList = space) && decide ((nameOf n).data.toList = name)
def allIn (l : List Gv.Node) (name : List UInt8) : List Gv.Node := l.filter fun k => isEl k atomS name
def all (n : Gv.Node) (name : List UInt8) : List Gv.Node := allIn (kidsOf n) name
def attr (n : Gv.Node) (name : List UInt8) : Option (List UInt8) := ((attrsOf n).find? fun a => decide (a.space.data.toList = []) && decide (a.name.data.toList = name)).map fun a => a.value.data.toList
def text (n : Gv.Node) : List UInt8 := (kidsOf n).flatMap fun k => if kindOf k = 1 then (dataOf k).data.toList else []
def plain (n : Gv.Node) : Bool := (kidsOf n).all fun k => decide (kindOf k ≠ 0)
def space (b : UInt8) : Bool := b = 32 || b = 9 || b = 10 || b = 13
def trim (l : List UInt8) : List UInt8 := ((l.dropWhile space).reverse.dropWhile space).reverse
structure On where
  /-- a reference, with a scheme if need be -/
  iri : List UInt8 → Bool → Bool
  moment : List UInt8 → Bool
  /-- no type: none; a type: what stands ahead of its slash -/
  type : List UInt8 → Option (List UInt8)
  low : List UInt8 → List UInt8
variable (o : On)
def div (n : Gv.Node) : Bool := decide (((kidsOf n).filter fun k => isEl k xhtmlS (lit "div")).length = 1) &&
  (kidsOf n).all fun k => isEl k xhtmlS (lit "div") || !(decide (kindOf k = 0) || (decide (kindOf k = 1) && !((dataOf k).data.toList.all space)))
def textOk (n : Gv.Node) : Bool := match attr n (lit "type") with
  | none => plain n
  | some t => if t = lit "text" ∨ t = lit "html" then plain n else decide (t = lit "xhtml") && div n
def person (n : Gv.Node) : Bool :=
  (match all n (lit "name") with
    | [x] => plain x && decide (trim (text x) ≠ [])
    | _ => false) &&
  (match all n (lit "uri") with
    | [] => true
    | [x] => plain x && o.iri (trim (text x)) false
    | _ => false) &&
  (match all n (lit "email") with
    | [] => true
    | [x] => plain x && decide ((trim (text x)).count 64 = 1) && decide ((trim (text x)).head? ≠ some 64) && decide ((trim (text x)).getLast? ≠ some 64)
    | _ => false)
def momentOk (n : Gv.Node) : Bool := plain n && o.moment (trim (text n))
def link (n : Gv.Node) : Bool := (match attr n (lit "href") with
    | none => false
    | some h => o.iri h false) && (match attr n (lit "type") with
    | none => true
    | some t => (o.type t).isSome)
def rel (n : Gv.Node) : List UInt8 := (attr n (lit "rel")).getD (lit "alternate")
def alike (a b : Gv.Node) : Bool := decide (rel a = lit "alternate") && decide (rel b = lit "alternate") && decide ((attr a (lit "type")).map o.low = (attr b (lit "type")).map o.low) && decide ((attr a (lit "hreflang")).map o.low = (attr b (lit "hreflang")).map o.low)
theorem alike_symm (a b : Gv.Node) : alike o a b = alike o b a := by
  unfold alike
  rw [Bool.and_comm (decide (rel a = lit "alternate")), decide_eq_decide.2 (eq_comm (a := (attr a (lit "type")).map o.low)), decide_eq_decide.2 (eq_comm (a := (attr a (lit "hreflang")).map o.low))]
def named (t : Option (List UInt8)) : Bool := match t with
  | none => true
  | some t => decide (t = lit "text" ∨ t = lit "html" ∨ t = lit "xhtml")
def content (n : Gv.Node) : Bool := match attr n (lit "src") with
  | some src => o.iri src false && decide ((kidsOf n).length = 0) && (match attr n (lit "type") with
    | none => true
    | some t => !named (some t) && (o.type t).isSome)
  | none => if named (attr n (lit "type")) = true then textOk n else match (attr n (lit "type")).bind o.type with
    | none => false
    | some f => decide (f ≠ lit "multipart" ∧ f ≠ lit "message")
def rules : List (List UInt8 × Bool × (Gv.Node → Bool)) :=
  [(lit "author", true, person o), (lit "contributor", true, person o), (lit "updated", false, momentOk o), (lit "published", false, momentOk o), (lit "title", false, textOk), (lit "summary", false, textOk), (lit "rights", false, textOk),
   (lit "id", false, fun n => plain n && o.iri (trim (text n)) true), (lit "link", true, link o), (lit "category", true, fun n => (attr n (lit "term")).isSome), (lit "content", false, content o)]
def ruled (l : List Gv.Node) (r : List UInt8 × Bool × (Gv.Node → Bool)) : Bool := (allIn l r.1).all r.2.2 && (r.2.1 || decide ((allIn l r.1).length ≤ 1))
def apart (l : List Gv.Node) : Bool := decide ((allIn l (lit "link")).Pairwise fun a b => alike o a b = false)
def has (l : List Gv.Node) (name : List UInt8) : Bool := decide ((allIn l name).length ≠ 0)
def checkIn (l : List Gv.Node) (stored : Bool) : Bool := (rules o).all (ruled l) && has l (lit "author") && has l (lit "title") && (!stored || (has l (lit "id") && has l (lit "updated"))) && apart o l
def check (n : Gv.Node) (stored : Bool) : Bool := isEl n atomS (lit "entry") && checkIn o (kidsOf n) stored
theorem checkIn_perm {l l' : List Gv.Node} (h : ∀ name, (allIn l name).Perm (allIn l' name)) (stored : Bool) : checkIn o l stored = checkIn o l' stored := by
  have hl : ∀ name, (allIn l name).length = (allIn l' name).length := fun name => (h name).length_eq
  have hh : ∀ name, has l name = has l' name := fun name => by unfold has; rw [hl]
  have hr : ∀ r, ruled l r = ruled l' r := fun r => by
    unfold ruled
    rw [hl, (h r.1).all_eq]
  have hp : apart o l = apart o l' := by
    unfold apart
    rw [decide_eq_decide]
    exact (h (lit "link")).pairwise_iff (fun {a b} e => by rw [alike_symm]; exact e)
  unfold checkIn
  rw [hh, hh, hh, hh, hp]
  congr 4
  exact List.all_congr rfl hr
theorem check_reverse (n : Gv.Node) (stored : Bool) : check o (withKids n (kidsOf n).reverse) stored = check o n stored := by
  cases n with
  | mk k s nm a kids d =>
    unfold check
    show (isEl _ _ _ && checkIn o kids.reverse stored) = (isEl _ _ _ && checkIn o kids stored)
    rw [checkIn_perm o (l := kids.reverse) (l' := kids) (fun name => by
      unfold allIn
      rw [List.filter_reverse]
      exact List.reverse_perm _)]
    rfl
theorem check_foreign (n : Gv.Node) (l r : List Gv.Node) (x : Gv.Node) (h : kidsOf n = l ++ r) (hx : ∀ name, isEl x atomS name = false) (stored : Bool) : check o (withKids n (l ++ x :: r)) stored = check o n stored := by
  cases n with
  | mk k s nm a kids d =>
    have h : kids = l ++ r := h
    subst h
    unfold check
    show (isEl _ _ _ && checkIn o (l ++ x :: r) stored) = (isEl _ _ _ && checkIn o (l ++ r) stored)
    rw [checkIn_perm o (l := l ++ x :: r) (l' := l ++ r) (fun name => by
      unfold allIn
      rw [List.filter_append, List.filter_append, List.filter_cons, hx name]
      exact List.Perm.refl _)]
    rfl
theorem check_less (n : Gv.Node) (h : check o n true = true) : check o n false = true := by
  unfold check checkIn at *
  simp only [Bool.and_eq_true, Bool.not_true, Bool.false_or, Bool.not_false, Bool.true_or] at h ⊢
  exact ⟨h.1, ⟨⟨h.2.1.1, trivial⟩, h.2.2⟩⟩
end Am
end Go.Proofs.YtbaclacfadkjdaaGreatDoor
namespace Go.Proofs.YtbaclacfadkjdaaGreatDoor
open Go.RowKit
theorem am_text {a b : ByteArray} : a = b ↔ a.data.toList = b.data.toList := ⟨fun h => by rw [h], fun h => bytes_eq h⟩
theorem am_yes {a b : ByteArray} (h : a.data.toList = b.data.toList) : (a.toList == b.toList) = true := by rw [am_text.2 h]; exact beq_self_eq_true _
theorem am_no {a b : ByteArray} (h : ¬ a.data.toList = b.data.toList) : (a.toList == b.toList) = false := by
  rw [ByteArray.toList_eq, ByteArray.toList_eq]; exact beq_false_of_ne h
set_option maxRecDepth 100000 in
set_option maxHeartbeats 3200000 in
theorem refIs_any (k : Int) (sp nm d s m : ByteArray) (va vk : Value) (as' : List Gv.Att) (kids : List Gv.Node) (w : World) :
    Calls Tryz.prog 21 #[.agg #[.int .i64 k, .string sp, .string nm, va, vk, .string d], .string s, .string m] w fun e w' => e = .returned (.bool (Am.isEl (.mk k sp nm as' kids d) s.data.toList m.data.toList)) ∧ Below w.heap.size w w' := by
  have hq : Hid (Am.isEl (.mk k sp nm as' kids d) s.data.toList m.data.toList = (decide (k = 0) && decide (sp.data.toList = s.data.toList) && decide (nm.data.toList = m.data.toList))) := Lib.hid rfl
  generalize Am.isEl (.mk k sp nm as' kids d) s.data.toList m.data.toList = Q at *
  have b1 := (Below.refl w.heap.size w).alloc (Nat.le_refl _) (.cells #[.int .i64 k, .string sp, .string nm, va, vk, .string d] 25)
  by_cases h0 : k = 0
  · subst h0
    by_cases h1 : sp.data.toList = s.data.toList
    · have e1 := am_yes h1
      by_cases h2 : nm.data.toList = m.data.toList
      · have e2 := am_yes h2
        have hr : Hid (Q = true) := Lib.hid (by rw [hq.out]; simp [h1, h2])
        clear hq h1 h2
        go_enter Tryz.func21, Tryz.ntmps21
        go_wp2_with fail
        go_ret
        exact ⟨ret_bool hr.out.symm, b1⟩
      · have e2 := am_no h2
        have hr : Hid (Q = false) := Lib.hid (by rw [hq.out]; simp [h1, h2])
        clear hq h1 h2
        go_enter Tryz.func21, Tryz.ntmps21
        go_wp2_with fail
        go_ret
        exact ⟨ret_bool hr.out.symm, b1⟩
    · have e1 := am_no h1
      have hr : Hid (Q = false) := Lib.hid (by rw [hq.out]; simp [h1])
      clear hq h1
      go_enter Tryz.func21, Tryz.ntmps21
      go_wp2_with fail
      go_ret
      exact ⟨ret_bool hr.out.symm, b1⟩
  · have e0 : (k == 0) = false := beq_false_of_ne h0
    have hr : Hid (Q = false) := Lib.hid (by rw [hq.out]; simp [h0])
    clear hq h0
    go_enter Tryz.func21, Tryz.ntmps21
    go_wp2_with fail
    go_ret
    exact ⟨ret_bool hr.out.symm, b1⟩
def KidsAt (S : Nat → Prop) (w : World) (v : Value) (l : List Gv.Node) : Prop := ∃ cs, RowsAt S w v l.length cs ∧ ∀ j (h : j < l.length), NodeAt S w (cs j) l[j]
theorem KidsAt.on {S : Nat → Prop} {w w' : World} {v : Value} {l : List Gv.Node} (h : KidsAt S w v l) (hb : Below w.heap.size w w') : KidsAt S w' v l := by
  obtain ⟨cs, h1, h2⟩ := h
  exact ⟨cs, h1.stay (stay_below hb), fun j hj => (h2 j hj).on hb⟩
theorem KidsAt.kid {S : Nat → Prop} {w : World} {ao : Option Addr} {m cap : Nat} {l : List Gv.Node} (h : KidsAt S w (.slice ao m cap) l) {j : Nat} (hj : j < l.length) : ∃ (b off : Nat) (k : Int) (sp nm d : ByteArray) (as' : List Gv.Att) (kids : List Gv.Node) (po qo : Option Addr) (pc qc : Nat), ao = some ⟨b, off, none⟩ ∧ l[j] = .mk k sp nm as' kids d ∧
    w.cell? ⟨b, off + j * 6, none⟩ = some (.int .i64 k) ∧ w.cell? ⟨b, off + j * 6 + 1, none⟩ = some (.string sp) ∧ w.cell? ⟨b, off + j * 6 + 2, none⟩ = some (.string nm) ∧ w.cell? ⟨b, off + j * 6 + 3, none⟩ = some (.slice po as'.length pc) ∧ w.cell? ⟨b, off + j * 6 + 4, none⟩ = some (.slice qo kids.length qc) ∧ w.cell? ⟨b, off + j * 6 + 5, none⟩ = some (.string d) ∧
    AttsAt S w (.slice po as'.length pc) as' ∧ KidsAt S w (.slice qo kids.length qc) kids ∧ as'.length ≤ maxLen ∧ kids.length ≤ maxLen := by
  obtain ⟨cs, h1, h2⟩ := h
  obtain ⟨k, sp, nm, d, as', kids, po, qo, pc, qc, cs', e1, e2, hA, hR, hN, hz⟩ := (h2 j hj).open'
  obtain ⟨b, off, e, c0, c1, c2, c3, c4, c5⟩ := h1.cells hj e2
  exact ⟨b, off, k, sp, nm, d, as', kids, po, qo, pc, qc, e, e1, c0, c1, c2, c3, c4, c5, hA, ⟨cs', hR, hN⟩, hz.1, hz.2⟩
theorem am_all_bad {α : Type} (p : α → Bool) (l : List α) (k : Nat) (h : k < l.length) (hn : p l[k] = false) : l.all p = false := by
  rw [← Bool.not_eq_true, List.all_eq_true]
  intro x
  have := x l[k] (List.getElem_mem h)
  rw [hn] at this; cases this
theorem am_all_more {α : Type} (p : α → Bool) (l : List α) (k : Nat) (h : k < l.length) (ha : (l.take k).all p = true) (hn : p l[k] = true) : (l.take (k + 1)).all p = true := by
  rw [List.take_succ_eq_append_getElem h, List.all_append, ha, List.all_cons, hn]; rfl
set_option maxRecDepth 100000 in
set_option maxHeartbeats 3200000 in
theorem refPlainA_any {S : Nat → Prop} {bo : Option Addr} {cb : Nat} (k : Int) (sp nm d : ByteArray) (va : Value) (as' : List Gv.Att) (kids : List Gv.Node) (w : World) (hK : KidsAt S w (.slice bo kids.length cb) kids) (hl : kids.length ≤ maxLen) :
    Calls Tryz.prog 40 #[.agg #[.int .i64 k, .string sp, .string nm, va, .slice bo kids.length cb, .string d]] w fun e w' => e = .returned (.bool (Am.plain (.mk k sp nm as' kids d))) ∧ Below w.heap.size w w' := by
  unfold maxLen at hl
  have hq : Hid (Am.plain (.mk k sp nm as' kids d) = kids.all fun k => decide (Am.kindOf k ≠ 0)) := Lib.hid rfl
  generalize Am.plain (.mk k sp nm as' kids d) = Q at *
  have b1 := (Below.refl w.heap.size w).alloc (Nat.le_refl _) (.cells #[.int .i64 k, .string sp, .string nm, va, .slice bo kids.length cb, .string d] 25)
  have hK1 := hK.on b1
  go_enter Tryz.func40, Tryz.ntmps40
  go_wp2_with fail
  obtain ⟨-, -, -, -, c4, -⟩ := node_open (Cells.new w 25 (nodeArr k sp nm va (.slice bo kids.length cb) d))
  unfold nodeArr at c4
  generalize w.alloc (.cells #[.int .i64 k, .string sp, .string nm, va, .slice bo kids.length cb, .string d] 25) = wA at *
  replace b1 := Lib.hid b1
  replace hK1 := Lib.hid hK1
  clear hK
  go_loop [3] (fun i => ∃ j : Nat, j ≤ kids.length ∧ i = .int .i64 (j : Int) ∧ Hid ((kids.take j).all (fun k => decide (Am.kindOf k ≠ 0)) = true)) (fun i => kids.length - (intOf i).toNat)
  case atStart => exact ⟨0, Nat.zero_le _, rfl, Lib.hid (by simp)⟩
  case round =>
    obtain ⟨j, hj, rfl, hD⟩ := hrel
    by_cases hlt : j < kids.length
    · obtain ⟨b, off, k', sp', nm', d', as2, kids2, po, qo, pc, qc, rfl, ek, d0, -⟩ := hK1.out.kid hlt
      have hji : (j : Int) < (kids.length : Int) := by omega
      by_cases h0 : k' = 0
      · subst h0
        have hr : Hid (Q = false) := Lib.hid (by rw [hq.out]; exact am_all_bad _ _ j hlt (by rw [ek]; rfl))
        clear hD ek hq
        go_wp2_with fail
        go_ret
        exact ⟨ret_bool hr.out.symm, b1.out⟩
      · have e0 : (k' == 0) = false := beq_false_of_ne h0
        have hD' := Lib.hid (am_all_more _ _ j hlt hD.out (by rw [ek]; exact decide_eq_true h0))
        clear hD ek h0
        go_wp2_with fail
        go_round
        case rel => exact ⟨j + 1, by omega, by go_num, hD'⟩
        case measure => simp [intOf]; omega
    · have hr : Hid (Q = true) := Lib.hid (by rw [hq.out]; have := hD.out; rwa [List.take_of_length_le (by omega)] at this)
      clear hD hq
      go_wp2_with fail
      go_ret
      exact ⟨ret_bool hr.out.symm, b1.out⟩
def atA (o : Option (List UInt8)) : ByteArray := ⟨(o.getD []).toArray⟩
def atB (o : Option (List UInt8)) : Bool := o.isSome
def Am.attrIn (l : List Gv.Att) (name : List UInt8) : Option (List UInt8) := (l.find? fun a => decide (a.space.data.toList = []) && decide (a.name.data.toList = name)).map fun a => a.value.data.toList
theorem Am.attrIn_cons (a : Gv.Att) (l : List Gv.Att) (name : List UInt8) : Am.attrIn (a :: l) name = if a.space.data.toList = [] ∧ a.name.data.toList = name then some a.value.data.toList else Am.attrIn l name := by
  unfold Am.attrIn
  rw [List.find?_cons]
  by_cases h : a.space.data.toList = [] ∧ a.name.data.toList = name
  · rw [if_pos h, decide_eq_true h.1, decide_eq_true h.2]; rfl
  · rw [if_neg h]
    have : (decide (a.space.data.toList = []) && decide (a.name.data.toList = name)) = false := by
      rw [Bool.eq_false_iff]; intro e; rw [Bool.and_eq_true, decide_eq_true_eq, decide_eq_true_eq] at e; exact h e
    rw [this]
theorem am_ret {a b : ByteArray} {x y : Bool} (h1 : a = b) (h2 : x = y) : Ending.returned (.tuple #[.string a, .bool x]) = .returned (.tuple #[.string b, .bool y]) := by rw [h1, h2]
set_option maxRecDepth 100000 in
set_option maxHeartbeats 3200000 in
theorem refAttr_any {S : Nat → Prop} {ao : Option Addr} {ca : Nat} (k : Int) (sp nm d name : ByteArray) (vk : Value) (as' : List Gv.Att) (kids : List Gv.Node) (w : World) (hA : AttsAt S w (.slice ao as'.length ca) as') (hl : as'.length ≤ maxLen) :
    Calls Tryz.prog 44 #[.agg #[.int .i64 k, .string sp, .string nm, .slice ao as'.length ca, vk, .string d], .string name] w fun e w' => e = .returned (.tuple #[.string (atA (Am.attr (.mk k sp nm as' kids d) name.data.toList)), .bool (atB (Am.attr (.mk k sp nm as' kids d) name.data.toList))]) ∧ Below w.heap.size w w' := by
  unfold maxLen at hl
  have hq : Hid (Am.attr (.mk k sp nm as' kids d) name.data.toList = Am.attrIn as' name.data.toList) := Lib.hid rfl
  generalize Am.attr (.mk k sp nm as' kids d) name.data.toList = Q at *
  have b1 := (Below.refl w.heap.size w).alloc (Nat.le_refl _) (.cells #[.int .i64 k, .string sp, .string nm, .slice ao as'.length ca, vk, .string d] 25)
  have hA1 := hA.stay (stay_below b1)
  go_enter Tryz.func44, Tryz.ntmps44
  go_wp2_with fail
  obtain ⟨-, -, -, c3, -, -⟩ := node_open (Cells.new w 25 (nodeArr k sp nm (.slice ao as'.length ca) vk d))
  unfold nodeArr at c3
  generalize w.alloc (.cells #[.int .i64 k, .string sp, .string nm, .slice ao as'.length ca, vk, .string d] 25) = wA at *
  replace b1 := Lib.hid b1
  replace hA1 := Lib.hid hA1
  clear hA
  go_loop [6] (fun i => ∃ j : Nat, j ≤ as'.length ∧ i = .int .i64 (j : Int) ∧ Hid (Q = Am.attrIn (as'.drop j) name.data.toList)) (fun i => as'.length - (intOf i).toNat)
  case atStart => exact ⟨0, Nat.zero_le _, rfl, Lib.hid (by rw [List.drop_zero]; exact hq.out)⟩
  case round =>
    obtain ⟨j, hj, rfl, hD⟩ := hrel
    by_cases hlt : j < as'.length
    · have hst := hD.out
      rw [List.drop_eq_getElem_cons hlt, Am.attrIn_cons] at hst
      obtain ⟨asp, anm, ava, ea⟩ : ∃ asp anm ava, as'[j] = ⟨asp, anm, ava⟩ := ⟨_, _, _, rfl⟩
      obtain ⟨b, off, rfl, d0, d1, d2⟩ := hA1.out.cells hlt ea
      rw [ea] at hst
      dsimp only at hst
      have hji : (j : Int) < (as'.length : Int) := by omega
      clear hD ea hq
      by_cases h1 : asp.data.toList = []
      · have e1 : (asp.toList == []) = true := by rw [ByteArray.toList_eq]; simpa using h1
        by_cases h2 : anm.data.toList = name.data.toList
        · have e2 := am_yes h2
          rw [if_pos ⟨h1, h2⟩] at hst
          replace hst := Lib.hid hst
          clear h1 h2
          go_wp2_with fail
          go_ret2
          exact ⟨am_ret (by rw [hst.out]; exact bytes_eq (by unfold atA; simp)) (by rw [hst.out]; rfl), b1.out⟩
        · have e2 := am_no h2
          rw [if_neg (fun h => h2 h.2)] at hst
          replace hst := Lib.hid hst
          clear h1 h2
          go_wp2_with fail
          go_round
          case rel => exact ⟨j + 1, by omega, by go_num, hst⟩
          case measure => simp [intOf]; omega
      · have e1 : (asp.toList == []) = false := by rw [ByteArray.toList_eq]; exact beq_false_of_ne h1
        rw [if_neg (fun h => h1 h.1)] at hst
        replace hst := Lib.hid hst
        clear h1
        go_wp2_with fail
        go_round
        case rel => exact ⟨j + 1, by omega, by go_num, hst⟩
        case measure => simp [intOf]; omega
    · have hr : Hid (Q = none) := Lib.hid (by rw [hD.out, List.drop_of_length_le (by omega)]; rfl)
      clear hD hq
      go_wp2_with fail
      go_ret2
      exact ⟨am_ret (by rw [hr.out]; rfl) (by rw [hr.out]; rfl), b1.out⟩
end Go.Proofs.YtbaclacfadkjdaaGreatDoor
namespace Go.Proofs.YtbaclacfadkjdaaGreatDoor
open Go.RowKit
def Am.bit (k : Gv.Node) : List UInt8 := if Am.kindOf k = 1 then (Am.dataOf k).data.toList else []
theorem Am.text_is (n : Gv.Node) : Am.text n = (Am.kidsOf n).flatMap Am.bit := rfl
theorem Am.bits_more {l : List Gv.Node} {j : Nat} (h : j < l.length) : (l.take (j + 1)).flatMap Am.bit = (l.take j).flatMap Am.bit ++ Am.bit l[j] := by
  rw [List.take_succ_eq_append_getElem h, List.flatMap_append]; simp
theorem Am.bits_le (l : List Gv.Node) (j : Nat) : ((l.take j).flatMap Am.bit).length ≤ (l.flatMap Am.bit).length := by
  conv => rhs; rw [← List.take_append_drop j l, List.flatMap_append, List.length_append]
  omega
set_option maxRecDepth 100000 in
set_option maxHeartbeats 3200000 in
theorem refText_any {S : Nat → Prop} {bo : Option Addr} {cb : Nat} (k : Int) (sp nm d : ByteArray) (va : Value) (as' : List Gv.Att) (kids : List Gv.Node) (w : World) (hK : KidsAt S w (.slice bo kids.length cb) kids) (hl : kids.length ≤ maxLen) (hz : (Am.text (.mk k sp nm as' kids d)).length ≤ 9223372036854775807) :
    Calls Tryz.prog 13 #[.agg #[.int .i64 k, .string sp, .string nm, va, .slice bo kids.length cb, .string d]] w fun e w' => e = .returned (.string ⟨(Am.text (.mk k sp nm as' kids d)).toArray⟩) ∧ Below w.heap.size w w' := by
  unfold maxLen at hl
  have hq : Hid (Am.text (.mk k sp nm as' kids d) = kids.flatMap Am.bit) := Lib.hid (Am.text_is _)
  generalize Am.text (.mk k sp nm as' kids d) = Q at *
  have b1 := (Below.refl w.heap.size w).alloc (Nat.le_refl _) (.cells #[.int .i64 k, .string sp, .string nm, va, .slice bo kids.length cb, .string d] 25)
  have hK1 := hK.on b1
  go_enter Tryz.func13, Tryz.ntmps13
  go_wp2_with fail
  obtain ⟨-, -, -, -, c4, -⟩ := node_open (Cells.new w 25 (nodeArr k sp nm va (.slice bo kids.length cb) d))
  unfold nodeArr at c4
  generalize w.alloc (.cells #[.int .i64 k, .string sp, .string nm, va, .slice bo kids.length cb, .string d] 25) = wA at *
  replace b1 := Lib.hid b1
  replace hK1 := Lib.hid hK1
  clear hK
  go_loop [3, 4] (fun v i => ∃ (j : Nat) (t : ByteArray), j ≤ kids.length ∧ v = .string t ∧ i = .int .i64 (j : Int) ∧ Hid (t.data.toList = (kids.take j).flatMap Am.bit)) (fun _ i => kids.length - (intOf i).toNat)
  case atStart => exact ⟨0, ⟨#[]⟩, Nat.zero_le _, rfl, rfl, Lib.hid (by simp)⟩
  case round =>
    obtain ⟨j, t, hj, rfl, rfl, hD⟩ := hrel
    by_cases hlt : j < kids.length
    · obtain ⟨b, off, k', sp', nm', d', as2, kids2, po, qo, pc, qc, rfl, ek, d0, d1, d2, d3, d4, d5, -⟩ := hK1.out.kid hlt
      have hji : (j : Int) < (kids.length : Int) := by omega
      have hm := Am.bits_more hlt
      have hle := Am.bits_le kids (j + 1)
      rw [← hq.out] at hle
      rw [ek] at hm
      by_cases h1 : k' = 1
      · subst h1
        have hm' : (kids.take (j + 1)).flatMap Am.bit = (kids.take j).flatMap Am.bit ++ d'.data.toList := hm
        have hsz : t.size + d'.size ≤ 9223372036854775807 := by
          have h1 := list_len t
          have h2 := list_len d'
          have h3 := congrArg List.length hm'
          rw [List.length_append, ← hD.out] at h3
          omega
        have hD' : Hid ((t ++ d').data.toList = (kids.take (j + 1)).flatMap Am.bit) := Lib.hid (by rw [hm', ← hD.out]; simp)
        clear hD ek hm hm' hle d1 d2 d3 d4
        go_wp2_with fail
        go_round
        case rel => exact ⟨j + 1, _, by omega, rfl, by go_num, hD'⟩
        case measure => simp [intOf]; omega
      · have e0 : (k' == 1) = false := beq_false_of_ne h1
        have hD' : Hid (t.data.toList = (kids.take (j + 1)).flatMap Am.bit) := Lib.hid (by
          rw [hm, hD.out]
          show _ = _ ++ (if k' = 1 then _ else _)
          rw [if_neg h1, List.append_nil])
        clear hD ek hm hle d1 d2 d3 d4 d5 h1
        go_wp2_with fail
        go_round
        case rel => exact ⟨j + 1, t, by omega, rfl, by go_num, hD'⟩
        case measure => simp [intOf]; omega
    · have hr : Hid (t = ⟨Q.toArray⟩) := Lib.hid (bytes_eq (by rw [hD.out, hq.out, List.take_of_length_le (by omega)]))
      clear hD hq
      go_wp2_with fail
      go_ret
      exact ⟨by rw [hr.out]; rfl, b1.out⟩
end Go.Proofs.YtbaclacfadkjdaaGreatDoor
namespace Go.Proofs.YtbaclacfadkjdaaGreatDoor
open Go.RowKit
theorem am_infoNode : (Tryz.prog.info? 25).map (fun i => (i.zero, i.size, i.bytes)) = some (some (.agg #[.int .i64 0, .string ByteArray.empty, .string ByteArray.empty, .slice none 0 0, .slice none 0 0, .string ByteArray.empty]), 6, 104) := by kernel_rfl
def OwnsNodes (B : Nat) (v : Value) (l : List Gv.Node) (w : World) : Prop :=
  ∃ css : List (List Value), css.length = l.length ∧ w.ownsRow B 25 6 v l.length css.flatten ∧ ∀ j (h1 : j < css.length) (h2 : j < l.length), NodeAt (fun b => b < B) w css[j] l[j]
theorem OwnsNodes.nil (B : Nat) (w : World) : OwnsNodes B (.slice none 0 0) [] w := ⟨[], rfl, World.ownsRow_nil _ _ _ _, fun j h => by simp at h⟩
theorem OwnsNodes.on {B : Nat} {v : Value} {l : List Gv.Node} {w w' : World} (h : OwnsNodes B v l w) (hb : Below w.heap.size w w') : OwnsNodes B v l w' := by
  obtain ⟨css, h1, h2, h3⟩ := h
  exact ⟨css, h1, World.ownsRow.kept h2 (grown_of_below hb none) (by cases v.ownBlock <;> simp), fun j a b => (h3 j a b).on hb⟩
theorem six_flat : ∀ (css : List (List Value)), (∀ c ∈ css, c.length = 6) → ∀ j i (h : j < css.length), i < 6 → css.flatten[j * 6 + i]? = css[j][i]?
  | [], _, j, i, h, _ => by simp at h
  | c :: css, hc, 0, i, h, hi => by
    have := hc c (by simp)
    simp only [List.flatten_cons, Nat.zero_mul, Nat.zero_add, List.getElem_cons_zero]
    rw [List.getElem?_append_left (by omega)]
  | c :: css, hc, j + 1, i, h, hi => by
    have h6 := hc c (by simp)
    have ih := six_flat css (fun x hx => hc x (by simp [hx])) j i (by simpa using h) hi
    simp only [List.flatten_cons, List.getElem_cons_succ]
    rw [List.getElem?_append_right (by omega), ← ih]
    congr 1; omega
theorem OwnsNodes.form {B : Nat} {v : Value} {l : List Gv.Node} {w : World} (h : OwnsNodes B v l w) : ∃ ao cap, v = .slice ao l.length cap ∧ l.length ≤ cap ∧ KidsAt (fun _ => True) w v l := by
  obtain ⟨css, h1, h2, h3⟩ := h
  have h6 : ∀ c ∈ css, c.length = 6 := fun c hc => by
    obtain ⟨j, hj, rfl⟩ := List.mem_iff_getElem.1 hc
    exact (h3 j hj (by omega)).six
  have hc := fun g hg => World.ownsRow.cells h2 (g := g) hg
  obtain ⟨_, ⟨rfl, h0⟩ | ⟨g, cap, cur, rfl, _, _, hcp, _⟩⟩ := h2
  · have hk0 : l = [] := List.eq_nil_of_length_eq_zero h0
    subst hk0
    exact ⟨none, 0, rfl, Nat.le_refl _, fun _ => [], ⟨none, 0, rfl, fun j hj => by simp at hj⟩, fun j hj => by simp at hj⟩
  · refine ⟨_, cap, rfl, hcp, fun j => css[j]?.getD [], ⟨_, cap, rfl, fun j hj => ?_⟩, fun j hj => ?_⟩
    · have hj2 : j < css.length := by omega
      have e : css[j]?.getD [] = css[j] := by simp [hj2]
      dsimp only
      rw [e]
      refine ⟨h6 _ (List.getElem_mem hj2), g, 0, rfl, trivial, fun i u hu => ?_⟩
      have hi : i < 6 := by
        have := (List.getElem?_eq_some_iff.1 hu).1
        rwa [h6 _ (List.getElem_mem hj2)] at this
      have := hc g rfl (j * 6 + i) u (by rw [six_flat css h6 j i hj2 hi]; exact hu)
      rw [add_at, ← Nat.add_assoc] at this
      exact this
    · have hj2 : j < css.length := by omega
      have e : css[j]?.getD [] = css[j] := by simp [hj2]
      dsimp only
      rw [e]
      exact (h3 j hj2 hj).any
theorem OwnsNodes.pushed {B : Nat} {v v5 : Value} {l : List Gv.Node} {css : List (List Value)} {w w5 : World} {c : List Value} {n : Gv.Node} (h1 : css.length = l.length) (ho : w.ownsRow B 25 6 v l.length css.flatten)
    (h3 : ∀ j (h1 : j < css.length) (h2 : j < l.length), NodeAt (fun b => b < B) w css[j] l[j]) (hn : NodeAt (fun b => b < B) w c n) (hg : w.grownBy w5 v.ownBlock) (h5 : w5.ownsRow B 25 6 v5 (l.length + 1) (css.flatten ++ c)) : OwnsNodes B v5 (l ++ [n]) w5 := by
  have step : ∀ {c : List Value} {n : Gv.Node}, NodeAt (fun b => b < B) w c n → NodeAt (fun b => b < B) w5 c n := fun {c n} h =>
    h.stay (stay_grown hg (fun g e x => by have := (World.ownsRow.lt ho g e).1; omega))
  refine ⟨css ++ [c], by simp [h1], by rw [List.length_append, List.length_singleton, List.flatten_append]; simpa using h5, fun j a b => ?_⟩
  by_cases hj : j < css.length
  · rw [List.getElem_append_left hj, List.getElem_append_left (by omega)]
    exact step (h3 j hj (by omega))
  · have hj2 : j = css.length := by simp at a; omega
    subst hj2
    rw [List.getElem_append_right (Nat.le_refl _), List.getElem_append_right (by omega)]
    simp only [h1, Nat.sub_self, List.getElem_cons_zero]
    exact step hn
theorem am_cells_row (w : World) (xs : List Value) (t : TypeId) : ∀ j u, xs[j]? = some u → (w.alloc (.cells xs.toArray t)).cell? ((⟨w.heap.size, 0, none⟩ : Addr).add j) = some u := by
  intro j u hu
  rw [add_at, Nat.zero_add]
  simp only [World.cell?, heap_alloc_new]
  simpa using hu
theorem am_atom : (⟨#[104, 116, 116, 112, 58, 47, 47, 119, 119, 119, 46, 119, 51, 46, 111, 114, 103, 47, 50, 48, 48, 53, 47, 65, 116, 111, 109]⟩ : ByteArray).data.toList = Am.atomS := by decide +kernel
theorem Am.all_more {l : List Gv.Node} {name : List UInt8} {j : Nat} (h : j < l.length) : Am.allIn (l.take (j + 1)) name = Am.allIn (l.take j) name ++ (if Am.isEl l[j] Am.atomS name = true then [l[j]] else []) := by
  unfold Am.allIn
  rw [List.take_succ_eq_append_getElem h, List.filter_append, List.filter_cons, List.filter_nil]
theorem KidsAt.node {S : Nat → Prop} {w : World} {ao : Option Addr} {m cap : Nat} {l : List Gv.Node} (h : KidsAt S w (.slice ao m cap) l) {j : Nat} (hj : j < l.length) : ∃ (b off : Nat) (k : Int) (sp nm d : ByteArray) (as' : List Gv.Att) (kids : List Gv.Node) (po qo : Option Addr) (pc qc : Nat), ao = some ⟨b, off, none⟩ ∧ l[j] = .mk k sp nm as' kids d ∧
    w.cell? ⟨b, off + j * 6, none⟩ = some (.int .i64 k) ∧ w.cell? ⟨b, off + j * 6 + 1, none⟩ = some (.string sp) ∧ w.cell? ⟨b, off + j * 6 + 2, none⟩ = some (.string nm) ∧ w.cell? ⟨b, off + j * 6 + 3, none⟩ = some (.slice po as'.length pc) ∧ w.cell? ⟨b, off + j * 6 + 4, none⟩ = some (.slice qo kids.length qc) ∧ w.cell? ⟨b, off + j * 6 + 5, none⟩ = some (.string d) ∧
    NodeAt S w [.int .i64 k, .string sp, .string nm, .slice po as'.length pc, .slice qo kids.length qc, .string d] (.mk k sp nm as' kids d) := by
  obtain ⟨cs, h1, h2⟩ := h
  obtain ⟨k, sp, nm, d, as', kids, po, qo, pc, qc, cs', e1, e2, hA, hR, hN, hz⟩ := (h2 j hj).open'
  obtain ⟨b, off, e, c0, c1, c2, c3, c4, c5⟩ := h1.cells hj e2
  have hn := h2 j hj
  rw [e1, e2] at hn
  exact ⟨b, off, k, sp, nm, d, as', kids, po, qo, pc, qc, e, e1, c0, c1, c2, c3, c4, c5, hn⟩
set_option maxRecDepth 100000 in
set_option maxHeartbeats 6400000 in
theorem refAll_any {S : Nat → Prop} {bo : Option Addr} {cb : Nat} (k : Int) (sp nm d name : ByteArray) (va : Value) (as' : List Gv.Att) (kids : List Gv.Node) (w : World) (hK : KidsAt S w (.slice bo kids.length cb) kids) (hl : kids.length ≤ 1000000) :
    Calls Tryz.prog 22 #[.agg #[.int .i64 k, .string sp, .string nm, va, .slice bo kids.length cb, .string d], .string name] w fun e w' => ∃ ao cap, e = .returned (.slice ao (Am.all (.mk k sp nm as' kids d) name.data.toList).length cap) ∧ KidsAt (fun _ => True) w' (.slice ao (Am.all (.mk k sp nm as' kids d) name.data.toList).length cap) (Am.all (.mk k sp nm as' kids d) name.data.toList) ∧ Below w.heap.size w w' := by
  obtain ⟨i0, hi, hz0, hz1, hz2⟩ := info_parts am_infoNode
  have hq : Hid (Am.all (.mk k sp nm as' kids d) name.data.toList = Am.allIn kids name.data.toList) := Lib.hid rfl
  generalize Am.all (.mk k sp nm as' kids d) name.data.toList = Q at *
  have b1 := (Below.refl w.heap.size w).alloc (Nat.le_refl _) (.cells #[.int .i64 k, .string sp, .string nm, va, .slice bo kids.length cb, .string d] 25)
  have hK1 := hK.on b1
  go_enter Tryz.func22, Tryz.ntmps22
  go_wp2_with fail
  obtain ⟨-, -, -, -, c4, -⟩ := node_open (Cells.new w 25 (nodeArr k sp nm va (.slice bo kids.length cb) d))
  unfold nodeArr at c4
  generalize w.alloc (.cells #[.int .i64 k, .string sp, .string nm, va, .slice bo kids.length cb, .string d] 25) = wA at *
  replace b1 := Lib.hid b1
  replace hK1 := Lib.hid hK1
  clear hK
  go_loopw [5, 6] (fun v i wr => ∃ (j : Nat) (acc : List Gv.Node), j ≤ kids.length ∧ i = .int .i64 (j : Int) ∧ acc.length ≤ j ∧ Hid (acc = Am.allIn (kids.take j) name.data.toList) ∧ Hid (OwnsNodes wA.heap.size v acc wr) ∧ Hid (Below wA.heap.size wA wr)) (fun _ i _ => kids.length - (intOf i).toNat)
  case atStart => exact ⟨0, [], Nat.zero_le _, rfl, Nat.le_refl _, Lib.hid rfl, Lib.hid (OwnsNodes.nil _ _), Lib.hid (Below.refl _ _)⟩
  case round =>
    obtain ⟨j, acc, hj, rfl, hun, hacc, ho, bw⟩ := hrel
    have e4 := (bw.out.cell (World.block_lt_of_cell? wA _ c4)).trans c4
    obtain ⟨oo, oc, rfl, hoc, hoK⟩ := ho.out.form
    replace hoK := Lib.hid hoK
    by_cases hlt : j < kids.length
    case neg =>
      have hfin : Hid (Q = acc) := Lib.hid (by rw [hq.out, hacc.out, List.take_of_length_le (by omega)])
      have hki : ¬ (j : Int) < (kids.length : Int) := by omega
      go_wp2_with fail
      go_ret
      exact ⟨oo, oc, by rw [hfin.out]; rfl, by rw [hfin.out]; exact hoK.out, b1.out.trans (bw.out.mono b1.out.size)⟩
    have hki : (j : Int) < (kids.length : Int) := by omega
    obtain ⟨kb, koff, k', sp', nm', d', as2, kids2, po, qo, pc, qc, rfl, ek, d0, d1, d2, d3, d4, d5, hn⟩ := hK1.out.node hlt
    have hmr := Am.all_more (name := name.data.toList) hlt
    rw [ek, ← hacc.out] at hmr
    have hn' : NodeAt (fun b => b < wA.heap.size) wr [.int .i64 k', .string sp', .string nm', .slice po as2.length pc, .slice qo kids2.length qc, .string d'] (.mk k' sp' nm' as2 kids2 d') := (hn.mono (fun b _ h => h)).on bw.out
    replace hn' := Lib.hid hn'
    have on := fun {a : Addr} {v : Value} (hx : wA.cell? a = some v) => (bw.out.cell (World.block_lt_of_cell? wA _ hx)).trans hx
    replace d0 := on d0
    replace d1 := on d1
    replace d2 := on d2
    replace d3 := on d3
    replace d4 := on d4
    replace d5 := on d5
    have his := Lib.hid (refIs_any k' sp' nm' d' ⟨#[104, 116, 116, 112, 58, 47, 47, 119, 119, 119, 46, 119, 51, 46, 111, 114, 103, 47, 50, 48, 48, 53, 47, 65, 116, 111, 109]⟩ name (.slice po as2.length pc) (.slice qo kids2.length qc) as2 kids2 wr)
    rw [am_atom] at his
    clear ek hn on hacc
    generalize Am.isEl (.mk k' sp' nm' as2 kids2 d') Am.atomS name.data.toList = y at *
    generalize (Gv.Node.mk k' sp' nm' as2 kids2 d') = nd at *
    generalize as2.length = al at *
    generalize kids2.length = kl at *
    replace ho := ho.out
    go_wp2_with fail
    (refine (his.out).mono ?_); rintro e w2 ⟨rfl, b2⟩
    have bw2 := Lib.hid (bw.out.trans (b2.mono bw.out.size))
    have on := fun {a : Addr} {v : Value} (hx : wr.cell? a = some v) => (b2.cell (World.block_lt_of_cell? wr _ hx)).trans hx
    replace d0 := on d0
    replace d1 := on d1
    replace d2 := on d2
    replace d3 := on d3
    replace d4 := on d4
    replace d5 := on d5
    replace e4 := on e4
    replace hn' := Lib.hid (hn'.out.on b2)
    replace ho := ho.on b2
    clear on bw b2 his hoK
    cases y with
    | false =>
      have hmr' := Lib.hid (hmr.trans (by rw [if_neg (by simp), List.append_nil]))
      replace ho := Lib.hid ho
      clear d0 d1 d2 d3 d4 d5
      go_wp2_with fail
      go_round
      case rel => exact ⟨j + 1, acc, by omega, by go_num, by omega, Lib.hid hmr'.out.symm, ho, bw2⟩
      case measure => simp [intOf]; omega
    | true =>
      have hmr' := Lib.hid (hmr.trans (by rw [if_pos rfl]))
      obtain ⟨css, c1, c2, c3⟩ := ho
      have hPc : acc.length + 1 ≤ maxLen := by unfold maxLen; omega
      have hPb : (acc.length + 1) * 104 ≤ 140737488355328 := by omega
      replace c3 := Lib.hid c3
      have hk1 := Lib.hid (show j + 1 ≤ kids.length from hlt)
      have hun1 := Lib.hid (show (acc ++ [nd]).length ≤ j + 1 by simp; omega)
      go_wp2_with (at_builtin; refine wpList_append_own _ rfl _ _ 23 rfl wA.heap.size 25 i0 _ 6 104 Tryz.underlying23 hi hz0 hz1 hz2 rfl (by decide) _ _ _ rfl (World.ownsRow.alloc c2 _) ⟨w2.heap.size, 0, none⟩ 1 1 [.int .i64 k', .string sp', .string nm', .slice po al pc, .slice qo kl qc, .string d'] rfl rfl ?a1 ?a2 hPc hPb ?a3 ?_)
      case a1 => exact am_cells_row w2 [.int .i64 k', .string sp', .string nm', .slice po al pc, .slice qo kl qc, .string d'] _
      case a2 => simp [Value.oneCell']
      case a3 => have := bw2.out.size; simp; omega
      intro v5 w5 hown5 hg5 _
      have hga : w2.grownBy w5 _ := (World.grownBy_alloc w2 _ _).trans hg5
      have b5 := Lib.hid (bw2.out.trans ((Below.refl _ _).grown hga bw2.out.size (fun j e => (World.ownsRow.lt c2 j e).1)))
      have ho5 := Lib.hid (OwnsNodes.pushed c1 c2 c3.out hn'.out hga hown5)
      clear hown5 hga hg5 c2 d0 d1 d2 d3 d4 d5
      go_wp2_with fail
      go_round
      case rel => exact ⟨j + 1, _, hk1.out, by go_num, hun1.out, Lib.hid hmr'.out.symm, ho5, b5⟩
      case measure => simp [intOf]; have := hk1.out; omega
end Go.Proofs.YtbaclacfadkjdaaGreatDoor
