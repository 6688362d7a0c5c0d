/-
  Tokens in plain Lean: the theorems of the layer.
  Documents as trees, in plain Lean: a stack of open elements; what stands about the element changes nothing.
  A row of bytes that a call owns.
  What the document's own words of code points come to: contracts of in, Char.
-/
import Derived.Test.YtcjlhdmekhifaaaGreatDoorD02
import Derived.Test.YtcjlhdmekhifaaaGreatDoorD01
import Derived.Lib.AppendStr
import Derived.Lib.OthersKept
import Derived.Maps.AppendAt
namespace Go.Proofs.YtcjlhdmekhifaaaGreatDoor
namespace T

theorem tokens_ok {l : List UInt8} {a : List Tok} (h : tokens l = .ok a) : l.length ≤ 100000 ∧ G.check l = true ∧ run true (G.lines l) = .ok a := by
  unfold tokens at h
  split at h
  · cases h
  · split at h
    · cases h
    · rename_i h1 h2
      exact ⟨by omega, by simpa using h2, h⟩
theorem tokens_mk {l : List UInt8} (h1 : l.length ≤ 100000) (h2 : G.check l = true) : tokens l = run true (G.lines l) := by
  unfold tokens
  rw [if_neg (by omega), if_neg (by rw [h2]; decide)]
  rfl

theorem first_same {l : List UInt8} (h : declares l = false) : next true l = next false l := by
  unfold next
  rw [h]
  rfl
theorem run_first {l : List UInt8} (h : declares l = false) : run true l = run false l := by
  by_cases hl : l = []
  · subst hl; rfl
  · rw [run_step hl, run_step hl, first_same h]
theorem declares_kind {l r : List UInt8} {t : Tok} (hd : declares l = true) (h : next true l = .ok (t, r)) : t.kind = 5 := by
  unfold next at h
  rw [if_pos (by rw [hd]; rfl)] at h
  rw [(decl_append h []).2.2]
/-! ### tags put behind -/
def tags : List UInt8 := [60, 33, 45, 45, 32, 45, 32, 45, 45, 62, 60, 63, 112, 32, 32, 113, 32, 63, 62]
/-! ### a declaration -/
end T
end Go.Proofs.YtcjlhdmekhifaaaGreatDoor
namespace Go.Proofs.YtcjlhdmekhifaaaGreatDoor
namespace Gv
open T (Tok)

structure Att where
  space : ByteArray
  name : ByteArray
  value : ByteArray
  deriving DecidableEq

/-- A node: its kind (0: an element, 1: a text, 2: a comment, 3: an instruction), space, name, attributes, kids, data. -/
inductive Node where
  | mk (kind : Int) (space name : ByteArray) (attrs : List Att) (kids : List Node) (data : ByteArray)

def str (l : List UInt8) : ByteArray := ⟨l.toArray⟩
def text (d : ByteArray) : Node := .mk 1 ByteArray.empty ByteArray.empty [] [] d
def leaf (t : Tok) : Node :=
  if t.kind = 3 then .mk 2 ByteArray.empty ByteArray.empty [] [] (str t.data)
  else if t.kind = 4 then .mk 3 ByteArray.empty (str t.name) [] [] (str t.data) else text (str t.data)
def Node.kind : Node → Int | .mk k _ _ _ _ _ => k
def Node.data : Node → ByteArray | .mk _ _ _ _ _ d => d
/-- Nodes and one more: a text behind a text goes on with it; an empty one is none. -/
def grown (l : List Node) (n : Node) : List Node :=
  if n.kind = 1 ∧ n.data = ByteArray.empty then l
  else match l.getLast? with
    | some m => if n.kind = 1 ∧ m.kind = 1 then l.dropLast ++ [text (m.data ++ n.data)] else l ++ [n]
    | none => [n]

def attrsGo (scope : List Pair) : List Att → List Pair → Except Nat (List Att)
  | acc, [] => .ok acc
  | acc, a :: l => match P.resolve scope a.name true with
    | none => .error 80
    | some (sp, nm) => if acc.any (fun x => decide (x.space = sp ∧ x.name = nm)) then .error 71 else attrsGo scope (acc ++ [⟨sp, nm, a.value⟩]) l

/-- What a start-tag begins, in a scope: space, name, attributes; and the scope within it. -/
def element (t : Tok) (scope : List Pair) : Except Nat ((ByteArray × ByteArray × List Att) × List Pair) :=
  if 50 < t.attrs.length then .error 2
  else match P.declare (t.attrs.map fun p => ⟨str p.1, str p.2⟩) with
    | none => .error 80
    | some (more, rest) => match P.resolve (scope ++ more) (str t.name) false with
      | none => .error 80
      | some (sp, nm) => match attrsGo (scope ++ more) [] rest with
        | .error e => .error e
        | .ok as' => .ok ((sp, nm, as'), scope ++ more)

/-- An element that is open. -/
structure Open where
  tag : List UInt8
  space : ByteArray
  name : ByteArray
  attrs : List Att
  kids : List Node
  scope : List Pair
def Open.node (o : Open) : Node := .mk 0 o.space o.name o.attrs o.kids ByteArray.empty

/-- The open elements, the innermost first; the element that has ended. -/
structure St where
  stack : List Open
  root : Option Node

def ended (s : List Open) (root : Option Node) (n : Node) : St := match s with | [] => ⟨[], some n⟩ | o :: os => ⟨{ o with kids := o.kids ++ [n] } :: os, root⟩
def scopeOf (s : List Open) : List Pair := match s with | [] => [] | o :: _ => o.scope
def opened (s : St) (t : Tok) : Except Nat St :=
  if 30 < s.stack.length + 1 then .error 2
  else match element t (scopeOf s.stack) with
    | .error e => .error e
    | .ok ((sp, nm, l), sc) => if t.alone then .ok (ended s.stack s.root (.mk 0 sp nm l [] ByteArray.empty)) else .ok ⟨⟨t.name, sp, nm, l, [], sc⟩ :: s.stack, s.root⟩
def blankText (l : List UInt8) : Bool := l.all fun b => G.space (b.toNat : Int)
def step (s : St) (t : Tok) : Except Nat St :=
  match s.stack with
  | [] =>
    if t.kind = 2 ∧ (t.alone = true ∨ blankText t.data = false) then .error 90
    else if t.kind = 1 ∨ (t.kind = 0 ∧ s.root.isSome = true) then .error 90
    else if t.kind = 4 ∧ G.plain t.name = false then .error 80
    else if t.kind = 0 then opened s t
    else .ok s
  | o :: os =>
    if t.kind = 1 then (if t.name = o.tag then .ok (ended os s.root o.node) else .error 90)
    else if t.kind = 0 then opened s t
    else if t.kind = 4 ∧ G.plain t.name = false then .error 80
    else .ok ⟨{ o with kids := grown o.kids (leaf t) } :: os, s.root⟩
def steps : St → List Tok → Except Nat St
  | s, [] => .ok s
  | s, t :: l => match step s t with | .error e => .error e | .ok s' => steps s' l
def final (s : St) : Except Nat Node := match s.stack, s.root with | [], some n => .ok n | _, _ => .error 90
def tree (l : List Tok) : Except Nat Node := match steps ⟨[], none⟩ l with | .error e => .error e | .ok s => final s
/-- THE TREE of a text. -/
def parse (l : List UInt8) : Except Nat Node := match T.tokens l with | .error e => .error e | .ok ts => tree ts

/-! ### laws -/
theorem steps_append (s : St) (a b : List Tok) : steps s (a ++ b) = match steps s a with | .error e => .error e | .ok s' => steps s' b := by
  induction a generalizing s with
  | nil => rfl
  | cons t a ih =>
    simp only [List.cons_append, steps]
    cases step s t with
    | error e => rfl
    | ok s' => exact ih s'
/-- What may stand about the element. -/
def Aside (t : Tok) : Prop := t.kind ≠ 0 ∧ t.kind ≠ 1 ∧ (t.kind = 2 → t.alone = false ∧ blankText t.data = true) ∧ (t.kind = 4 → G.plain t.name = true)
theorem step_aside {t : Tok} (h : Aside t) (r : Option Node) : step ⟨[], r⟩ t = .ok ⟨[], r⟩ := by
  obtain ⟨h0, h1, h2, h4⟩ := h
  unfold step
  simp only
  rw [if_neg (by rintro ⟨e, e2⟩; obtain ⟨a, b⟩ := h2 e; rw [a, b] at e2; simp at e2), if_neg (by rintro (e | ⟨e, _⟩); exact h1 e; exact h0 e), if_neg (by rintro ⟨e, e2⟩; rw [h4 e] at e2; cases e2), if_neg h0]
/-! ### an element put into another one -/
end Gv
end Go.Proofs.YtcjlhdmekhifaaaGreatDoor
namespace Go.Proofs.YtcjlhdmekhifaaaGreatDoor
open Go.RowKit

theorem grown_of_below {w w' : World} (h : Below w.heap.size w w') (row : Option Nat) : w.grownBy w' row := ⟨h.os, h.tape, h.output, h.size, fun k hk _ => h.block k hk⟩

theorem infoByte : (Tryz.prog.info? 5).map (fun i => (i.zero, i.size, i.bytes)) = some (some (.int .u8 0), 1, 1) := by kernel_rfl

/-- The call owns a row of these bytes. -/
def Owns (B : Nat) (v : Value) (l : List UInt8) (w : World) : Prop := w.ownsRow B 5 1 v l.length (Lib.byteCells l)

theorem Owns.below {B : Nat} {v : Value} {l : List UInt8} {w w' : World} (h : Owns B v l w) (hg : w.grownBy w' v.ownBlock) (hB : B ≤ w.heap.size) : Below B w w' :=
  (Below.refl _ _).grown hg hB (fun j e => (World.ownsRow.lt h j e).1)

theorem owns_of {B n : Nat} {v : Value} {l : List UInt8} {xs : List Value} {w : World} (h : w.ownsRow B 5 1 v n xs) (hn : n = l.length) (hx : xs = Lib.byteCells l) : Owns B v l w := by
  subst hn; subst hx; exact h

theorem row_form {w : World} {B : Nat} {e : TypeId} {size n : Nat} {v : Value} {xs : List Value} (h : w.ownsRow B e size v n xs) (hn : 0 < n) :
    ∃ g cap, v = .slice (some ⟨g, 0, none⟩) n cap ∧ B ≤ g := by
  obtain ⟨_, ⟨_, rfl⟩ | ⟨g, cap, cur, rfl, hb, _⟩⟩ := h
  · omega
  · exact ⟨g, cap, rfl, hb⟩

/-- A row of the call's own that is not empty, as text. -/
theorem text_of {B : Nat} {v : Value} {l : List UInt8} {w : World} (h : Owns B v l w) (hl : 0 < l.length) : ∃ g cap, v = .slice (some ⟨g, 0, none⟩) l.length cap ∧ ∀ j (hj : j < l.length), w.cell? ((⟨g, 0, none⟩ : Addr).add j) = some (.int .u8 (l[j].toNat : Int)) := by
  obtain ⟨g, cap, rfl, hb⟩ := row_form h hl
  exact ⟨g, cap, rfl, fun j hj => World.ownsRow.cells h (g := g) rfl j _ (by simp [Lib.byteCells, hj])⟩

theorem owns_nil (B : Nat) (w : World) : Owns B (.slice none 0 0) [] w := World.ownsRow_nil _ _ _ _
set_option maxRecDepth 100000 in
/-- Converted to a string. -/
theorem owns_string {B : Nat} {v : Value} {l : List UInt8} {w : World} (h : Owns B v l w) (h0 : l = [] → v = .slice none 0 0) : (convert 78 9 v).run Tryz.prog w = .ok (.string ⟨l.toArray⟩) w := by
  by_cases hl : l = []
  · rw [h0 hl, hl]
    rfl
  · obtain ⟨g, cap, rfl, hc⟩ := text_of h (List.length_pos_iff.2 hl)
    exact run_convert_bytes_back (l := l) w 78 9 5 ⟨g, 0, none⟩ cap Tryz.underlying78 Tryz.underlying5 Tryz.underlying9 hc
end Go.Proofs.YtcjlhdmekhifaaaGreatDoor
namespace Go.Proofs.YtcjlhdmekhifaaaGreatDoor
open Go.RowKit

namespace G
def any (c : Int) (L : List (Int × Int)) : Bool := L.any fun p => inR c p.1 p.2
theorem any_take (c : Int) (L : List (Int × Int)) (k : Nat) (h : k < L.length) : any c (L.take (k + 1)) = (any c (L.take k) || inR c L[k].1 L[k].2) := by
  unfold any
  rw [List.take_succ_eq_append_getElem h, List.any_append, List.any_cons, List.any_nil, Bool.or_false]
theorem any_at (c : Int) (L : List (Int × Int)) (k : Nat) (h : k < L.length) (hi : inR c L[k].1 L[k].2 = true) : any c L = true := by
  unfold any
  rw [List.any_eq_true]
  exact ⟨_, List.getElem_mem h, hi⟩
end G

/-- A ROW OF PAIRS OF NUMBERS LIES AT THE HEAD OF BLOCK b. -/
def PairsAt (b : Nat) (L : List (Int × Int)) (w : World) : Prop := ∀ j (h : j < L.length), w.cell? ⟨b, 2 * j, none⟩ = some (.int .i64 L[j].1) ∧ w.cell? ⟨b, 2 * j + 1, none⟩ = some (.int .i64 L[j].2)

set_option maxHeartbeats 800000 in
theorem refIn_any (c : Int) (L : List (Int × Int)) (b n cap : Nat) (w : World) (hL : PairsAt b L w) (hn : L.length ≤ 1000) (hln : 2 * L.length = n) :
    Calls Tryz.prog 90 #[.int .i64 c, .slice (some ⟨b, 0, none⟩) n cap] w fun e w' => e = .returned (.bool (G.any c L)) ∧ w = w' := by
  have hln := Lib.hid hln
  go_enter Tryz.func90, Tryz.ntmps90
  go_wp2_with fail
  go_loop [5] (fun i => ∃ k : Nat, 2 * k ≤ n ∧ i = .int .i64 ((2 * k : Nat) : Int) ∧ G.any c (L.take k) = false) (fun i => n - (intOf i).toNat)
  case atStart => exact ⟨0, Nat.zero_le _, rfl, rfl⟩
  case round =>
    obtain ⟨k, hk, rfl, hall⟩ := hrel
    by_cases hlt : k < L.length
    · obtain ⟨c0, c1⟩ := hL k hlt
      have hst := Lib.hid (G.any_take c L k hlt)
      have hat := Lib.hid (G.any_at c L k hlt)
      have hk2 : 2 * k + 1 < n := by rw [← hln.out]; omega
      generalize L[k].1 = x at c0 hst hat
      generalize L[k].2 = y at c1 hst hat
      have hall := Lib.hid hall
      by_cases hx : x ≤ c
      · by_cases hy : c ≤ y
        · have hr := Lib.hid (hat.out (by simp [G.inR, hx, hy]))
          go_wp2
          go_ret
          exact ⟨ret_bool hr.out.symm, rfl⟩
        · have hr := Lib.hid (show G.any c (L.take (k + 1)) = false by rw [hst.out, hall.out]; simp [G.inR, hx, hy])
          go_wp2
          go_round
          case rel => exact ⟨k + 1, by omega, by go_num, hr.out⟩
          case measure => simp [intOf]; omega
      · have hr := Lib.hid (show G.any c (L.take (k + 1)) = false by rw [hst.out, hall.out]; simp [G.inR, hx])
        go_wp2
        go_round
        case rel => exact ⟨k + 1, by omega, by go_num, hr.out⟩
        case measure => simp [intOf]; omega
    · have hk2 : 2 * k = n := by rw [← hln.out]; rw [← hln.out] at hk; omega
      have hfull : L.take k = L := List.take_of_length_le (by omega)
      have hr := Lib.hid (show G.any c L = false by rw [← hfull]; exact hall)
      clear hfull
      go_wp2
      go_ret
      exact ⟨ret_bool hr.out.symm, rfl⟩

/-- the cells of pairs. -/
def cellsOf (L : List (Int × Int)) : List Value := L.flatMap fun p => [.int .i64 p.1, .int .i64 p.2]
theorem cellsOf_at (L : List (Int × Int)) : ∀ (j : Nat) (h : j < L.length), (cellsOf L)[2 * j]? = some (.int .i64 L[j].1) ∧ (cellsOf L)[2 * j + 1]? = some (.int .i64 L[j].2) := by
  induction L with
  | nil => intro j h; simp at h
  | cons p L ih =>
    intro j h
    have e : cellsOf (p :: L) = .int .i64 p.1 :: .int .i64 p.2 :: cellsOf L := rfl
    cases j with
    | zero => rw [e]; exact ⟨rfl, rfl⟩
    | succ j =>
      have := ih j (by simpa using h)
      rw [e, show 2 * (j + 1) = 2 * j + 1 + 1 by omega]
      simpa using this

theorem pairsAt_cells {b : Nat} {L : List (Int × Int)} {w : World} {T : TypeId} {fr : Nat × Nat} (h : w.heap[b]? = some (.cells (cellsOf L).toArray T fr)) : PairsAt b L w := by
  intro j hj
  have := cellsOf_at L j hj
  simp only [World.cell?, h]
  simpa using this

set_option maxRecDepth 100000 in
set_option maxHeartbeats 1600000 in
theorem refChar_any (c : Int) (w : World) :
    Calls Tryz.prog 46 #[.int .i64 c] w fun e w' => e = .returned (.bool (G.char c)) ∧ Below w.heap.size w w' := by
  have hm : G.char c = G.any c [(9, 10), (13, 13), (32, 55295), (57344, 65533), (65536, 1114111)] := by simp [G.any, G.char, Bool.or_assoc]
  rw [hm]
  clear hm
  go_enter Tryz.func46, Tryz.ntmps46
  go_wp2_with fail
  (with_reducible refine (refIn_any c [(9, 10), (13, 13), (32, 55295), (57344, 65533), (65536, 1114111)] w.heap.size 10 _ _ ?_ (by decide) rfl).mono ?_)
  · exact pairsAt_cells (heap_alloc_new w _)
  rintro e w1 ⟨rfl, rfl⟩
  go_wp2
  go_ret
  exact ⟨rfl, (Below.refl _ _).alloc (Nat.le_refl _) _⟩

end Go.Proofs.YtcjlhdmekhifaaaGreatDoor
