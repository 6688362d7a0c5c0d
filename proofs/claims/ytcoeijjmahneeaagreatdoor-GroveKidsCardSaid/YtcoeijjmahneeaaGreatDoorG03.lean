/-
  Tokens in plain Lean: the theorems of the layer.
  Documents as trees, in plain Lean: a stack of open elements; what stands about the element changes nothing.
  A row of bytes that a call owns.
  What the document's own words of code points come to: contracts of in, Char.
-/
import Derived.Test.YtcoeijjmahneeaaGreatDoorG02
import Derived.Test.YtcoeijjmahneeaaGreatDoorG01
import Derived.Lib.AppendStr
import Derived.Lib.OthersKept
import Derived.Maps.AppendAt
namespace Go.Proofs.YtcoeijjmahneeaaGreatDoor
namespace T

theorem tokens_ok {l : List UInt8} {a : List Tok} (h : tokens l = .ok a) : l.length ≤ 100000 ∧ G.check l = true ∧ run true (G.lines l) = .ok a := by
  unfold tokens at h
  split at h
  · cases h
  · split at h
    · cases h
    · rename_i h1 h2
      exact ⟨by omega, by simpa using h2, h⟩
theorem tokens_mk {l : List UInt8} (h1 : l.length ≤ 100000) (h2 : G.check l = true) : tokens l = run true (G.lines l) := by
  unfold tokens
  rw [if_neg (by omega), if_neg (by rw [h2]; decide)]
  rfl

theorem first_same {l : List UInt8} (h : declares l = false) : next true l = next false l := by
  unfold next
  rw [h]
  rfl
theorem run_first {l : List UInt8} (h : declares l = false) : run true l = run false l := by
  by_cases hl : l = []
  · subst hl; rfl
  · rw [run_step hl, run_step hl, first_same h]
theorem declares_kind {l r : List UInt8} {t : Tok} (hd : declares l = true) (h : next true l = .ok (t, r)) : t.kind = 5 := by
  unfold next at h
  rw [if_pos (by rw [hd]; rfl)] at h
  rw [(decl_append h []).2.2]
theorem next_head {first : Bool} {l r : List UInt8} {t : Tok} (hl : l ≠ []) (h : next first l = .ok (t, r)) (hk : t.kind ≠ 2) : l.head? = some 60 := by
  cases l with
  | nil => exact absurd rfl hl
  | cons c y =>
    by_cases hc : c = 60
    · subst hc; rfl
    · exfalso
      have hc' : (60 : UInt8) ≠ c := Ne.symm hc
      have h2 : next first (c :: y) = text (c :: y) := by
        simp [next, declares, begins, List.isPrefixOf, hc']
      rw [h2] at h
      exact hk (text_append h [] (.inr (.inl rfl))).2.1
theorem lines_head {t : List UInt8} (h : (G.lines t).head? = some 60) : t.head? = some 60 := by
  cases t with
  | nil => cases h
  | cons c y =>
    by_cases hc : c = 13
    · subst hc
      exfalso
      by_cases hy : y.head? = some 10
      · cases y with
        | nil => cases hy
        | cons d z =>
          simp at hy
          subst hy
          rw [G.lines_crlf] at h
          cases h
      · rw [G.lines_cr y hy] at h
        cases h
    · rw [G.lines_cons c y hc] at h
      exact h
theorem lines_two {s t : List UInt8} (h : t.head? = some 60) : G.lines (s ++ t) = G.lines s ++ G.lines t :=
  G.lines_append s t (by rw [h]; simp)
theorem run_cons {first : Bool} {l : List UInt8} {x : Tok} {y : List Tok} (h : run first l = .ok (x :: y)) : l ≠ [] ∧ ∃ r, next first l = .ok (x, r) := by
  by_cases hl : l = []
  · subst hl; cases h
  · refine ⟨hl, ?_⟩
    rw [run_step hl] at h
    cases hn : next first l with
    | error e => rw [hn] at h; cases h
    | ok z =>
      obtain ⟨t, r⟩ := z
      rw [hn] at h
      simp only at h
      cases hr : run false r with
      | error e => rw [hr] at h; cases h
      | ok ts => rw [hr] at h; cases h; exact ⟨r, rfl⟩
/-- what has no declaration has the same parts further on. -/
theorem run_false {l : List UInt8} {a : List Tok} (h : run true l = .ok a) (hd : ∀ x y, a = x :: y → x.kind ≠ 5) : run false l = .ok a := by
  cases hdl : declares l with
  | false => rw [← run_first hdl]; exact h
  | true =>
    exfalso
    cases a with
    | nil =>
      by_cases hl : l = []
      · subst hl; cases hdl
      · rw [run_step hl] at h
        cases hn : next true l with
        | error e => rw [hn] at h; cases h
        | ok z =>
          rw [hn] at h
          simp only at h
          cases hr : run false z.2 with
          | error e => rw [hr] at h; cases h
          | ok ts => rw [hr] at h; cases h
    | cons x y =>
      obtain ⟨_, r, hn⟩ := run_cons h
      exact hd x y rfl (declares_kind hdl hn)

/-- TOKENS OF TWO TEXTS are those of each. -/
theorem tokens_two {s t : List UInt8} {a b y : List Tok} {x : Tok} (hs : tokens s = .ok a) (ht : tokens t = .ok b) (ha : a ≠ []) (hb : b = x :: y) (h2 : x.kind ≠ 2) (h5 : x.kind ≠ 5) (hlen : s.length + t.length ≤ 100000) : tokens (s ++ t) = .ok (a ++ b) := by
  obtain ⟨s1, s2, s3⟩ := tokens_ok hs
  obtain ⟨t1, t2, t3⟩ := tokens_ok ht
  subst hb
  obtain ⟨tn, r, tx⟩ := run_cons t3
  have hh := next_head tn tx h2
  have hh2 := lines_head hh
  rw [tokens_mk (by rw [List.length_append]; omega) (G.check_append s2 t2), lines_two hh2]
  have hne : G.lines s ≠ [] := by
    intro e
    rw [e] at s3
    cases s3
    exact ha rfl
  rw [run_append hh _ true (G.lines s) a (Nat.le_refl _) hne s3, run_false t3 (fun x' y' e => by cases e; exact h5)]

/-! ### tags put behind -/
def tags : List UInt8 := [60, 33, 45, 45, 32, 45, 32, 45, 45, 62, 60, 63, 112, 32, 32, 113, 32, 63, 62]
theorem check_tags : G.check tags = true := by decide +kernel
theorem lines_tags : G.lines tags = tags := by decide +kernel
theorem run_tags (first : Bool) : run first tags = .ok [⟨3, [], [], false, [32, 45, 32]⟩, ⟨4, [112], [], false, [113, 32]⟩] := by cases first <;> rfl
theorem tokens_tags {s : List UInt8} {a : List Tok} (hs : tokens s = .ok a) (hlen : s.length + 19 ≤ 100000) : tokens (s ++ tags) = .ok (a ++ [⟨3, [], [], false, [32, 45, 32]⟩, ⟨4, [112], [], false, [113, 32]⟩]) := by
  obtain ⟨s1, s2, s3⟩ := tokens_ok hs
  rw [tokens_mk (by rw [List.length_append]; exact hlen) (G.check_append s2 check_tags), lines_two rfl, lines_tags]
  by_cases hne : G.lines s = []
  · rw [hne] at s3 ⊢
    cases s3
    exact run_tags true
  · rw [run_append rfl _ true (G.lines s) a (Nat.le_refl _) hne s3, run_tags]

/-! ### a declaration -/
def decl10 : List UInt8 := [60, 63, 120, 109, 108, 32, 118, 101, 114, 115, 105, 111, 110, 61, 39, 49, 46, 48, 39, 32, 101, 110, 99, 111, 100, 105, 110, 103, 61, 39, 117, 116, 102, 45, 56, 39, 63, 62]
def late : List UInt8 := [60, 97, 47, 62, 60, 63, 120, 109, 108, 32, 118, 101, 114, 115, 105, 111, 110, 61, 39, 49, 46, 48, 39, 63, 62]
theorem check_decl : G.check decl10 = true := by decide +kernel
theorem lines_decl : G.lines decl10 = decl10 := by decide +kernel
theorem decl_decl : decl (decl10.drop 5) = .ok (⟨5, [], [], false, []⟩, []) := by rfl
theorem check_late : G.check late = true := by decide +kernel
theorem lines_late : G.lines late = late := by decide +kernel
theorem run_late (first : Bool) : run first late = .error 70 := by cases first <;> rfl
theorem next_decl (x : List UInt8) : next true (decl10 ++ x) = .ok (⟨5, [], [], false, []⟩, x) := by
  have hd : declares (decl10 ++ x) = true := by rfl
  unfold next
  rw [if_pos (by rw [hd]; rfl), List.drop_append_of_le_length (by decide), (decl_append decl_decl x).1]
  rfl
theorem tokens_declares {s : List UInt8} {a : List Tok} (hs : tokens s = .ok a) (ha : ∀ x y, a = x :: y → x.kind ≠ 5) (hlen : s.length + 100 ≤ 100000) :
    tokens (decl10 ++ s) = .ok (⟨5, [], [], false, []⟩ :: a) ∧ tokens (s ++ late) = .error 70 := by
  obtain ⟨s1, s2, s3⟩ := tokens_ok hs
  constructor
  · rw [tokens_mk (by rw [List.length_append, show decl10.length = 38 from rfl]; omega) (G.check_append check_decl s2), G.lines_append decl10 s (by rw [show decl10.getLast? = some 62 from rfl]; simp), lines_decl]
    rw [run_step (by simp [decl10]), next_decl]
    simp only []
    rw [run_false s3 ha]
  · rw [tokens_mk (by rw [List.length_append, show late.length = 25 from rfl]; omega) (G.check_append s2 check_late), lines_two rfl, lines_late]
    by_cases hne : G.lines s = []
    · rw [hne]
      exact run_late true
    · rw [run_append rfl _ true (G.lines s) a (Nat.le_refl _) hne s3, run_late]
end T
end Go.Proofs.YtcoeijjmahneeaaGreatDoor
namespace Go.Proofs.YtcoeijjmahneeaaGreatDoor
namespace Gv
open T (Tok)

structure Att where
  space : ByteArray
  name : ByteArray
  value : ByteArray
  deriving DecidableEq

/-- A node: its kind (0: an element, 1: a text, 2: a comment, 3: an instruction), space, name, attributes, kids, data. -/
inductive Node where
  | mk (kind : Nat) (space name : ByteArray) (attrs : List Att) (kids : List Node) (data : ByteArray)

def str (l : List UInt8) : ByteArray := ⟨l.toArray⟩
def text (d : ByteArray) : Node := .mk 1 ByteArray.empty ByteArray.empty [] [] d
def leaf (t : Tok) : Node :=
  if t.kind = 3 then .mk 2 ByteArray.empty ByteArray.empty [] [] (str t.data)
  else if t.kind = 4 then .mk 3 ByteArray.empty (str t.name) [] [] (str t.data) else text (str t.data)
def Node.kind : Node → Nat | .mk k _ _ _ _ _ => k
def Node.data : Node → ByteArray | .mk _ _ _ _ _ d => d
/-- Nodes and one more: a text behind a text goes on with it; an empty one is none. -/
def grown (l : List Node) (n : Node) : List Node :=
  if n.kind = 1 ∧ n.data = ByteArray.empty then l
  else match l.getLast? with
    | some m => if n.kind = 1 ∧ m.kind = 1 then l.dropLast ++ [text (m.data ++ n.data)] else l ++ [n]
    | none => [n]

def attrsGo (scope : List Pair) : List Att → List Pair → Except Nat (List Att)
  | acc, [] => .ok acc
  | acc, a :: l => match P.resolve scope a.name true with
    | none => .error 80
    | some (sp, nm) => if acc.any (fun x => decide (x.space = sp ∧ x.name = nm)) then .error 71 else attrsGo scope (acc ++ [⟨sp, nm, a.value⟩]) l

/-- What a start-tag begins, in a scope: space, name, attributes; and the scope within it. -/
def element (t : Tok) (scope : List Pair) : Except Nat ((ByteArray × ByteArray × List Att) × List Pair) :=
  if 50 < t.attrs.length then .error 2
  else match P.declare (t.attrs.map fun p => ⟨str p.1, str p.2⟩) with
    | none => .error 80
    | some (more, rest) => match P.resolve (scope ++ more) (str t.name) false with
      | none => .error 80
      | some (sp, nm) => match attrsGo (scope ++ more) [] rest with
        | .error e => .error e
        | .ok as' => .ok ((sp, nm, as'), scope ++ more)

/-- An element that is open. -/
structure Open where
  tag : List UInt8
  space : ByteArray
  name : ByteArray
  attrs : List Att
  kids : List Node
  scope : List Pair
def Open.node (o : Open) : Node := .mk 0 o.space o.name o.attrs o.kids ByteArray.empty

/-- The open elements, the innermost first; the element that has ended. -/
structure St where
  stack : List Open
  root : Option Node

def ended (s : List Open) (root : Option Node) (n : Node) : St := match s with | [] => ⟨[], some n⟩ | o :: os => ⟨{ o with kids := o.kids ++ [n] } :: os, root⟩
def scopeOf (s : List Open) : List Pair := match s with | [] => [] | o :: _ => o.scope
def opened (s : St) (t : Tok) : Except Nat St :=
  if 30 < s.stack.length + 1 then .error 2
  else match element t (scopeOf s.stack) with
    | .error e => .error e
    | .ok ((sp, nm, l), sc) => if t.alone then .ok (ended s.stack s.root (.mk 0 sp nm l [] ByteArray.empty)) else .ok ⟨⟨t.name, sp, nm, l, [], sc⟩ :: s.stack, s.root⟩
def blankText (l : List UInt8) : Bool := l.all fun b => G.space (b.toNat : Int)
def step (s : St) (t : Tok) : Except Nat St :=
  match s.stack with
  | [] =>
    if t.kind = 2 ∧ (t.alone = true ∨ blankText t.data = false) then .error 90
    else if t.kind = 1 ∨ (t.kind = 0 ∧ s.root.isSome = true) then .error 90
    else if t.kind = 4 ∧ G.plain t.name = false then .error 80
    else if t.kind = 0 then opened s t
    else .ok s
  | o :: os =>
    if t.kind = 1 then (if t.name = o.tag then .ok (ended os s.root o.node) else .error 90)
    else if t.kind = 0 then opened s t
    else if t.kind = 4 ∧ G.plain t.name = false then .error 80
    else .ok ⟨{ o with kids := grown o.kids (leaf t) } :: os, s.root⟩
def steps : St → List Tok → Except Nat St
  | s, [] => .ok s
  | s, t :: l => match step s t with | .error e => .error e | .ok s' => steps s' l
def final (s : St) : Except Nat Node := match s.stack, s.root with | [], some n => .ok n | _, _ => .error 90
def tree (l : List Tok) : Except Nat Node := match steps ⟨[], none⟩ l with | .error e => .error e | .ok s => final s
/-- THE TREE of a text. -/
def parse (l : List UInt8) : Except Nat Node := match T.tokens l with | .error e => .error e | .ok ts => tree ts

/-! ### laws -/
theorem steps_append (s : St) (a b : List Tok) : steps s (a ++ b) = match steps s a with | .error e => .error e | .ok s' => steps s' b := by
  induction a generalizing s with
  | nil => rfl
  | cons t a ih =>
    simp only [List.cons_append, steps]
    cases step s t with
    | error e => rfl
    | ok s' => exact ih s'
theorem final_ok {s : St} {n : Node} (h : final s = .ok n) : s = ⟨[], some n⟩ := by
  obtain ⟨st, r⟩ := s
  unfold final at h
  cases st with
  | nil => cases r with
    | none => cases h
    | some m => cases h; rfl
  | cons o os => cases h
theorem tree_ok {l : List Tok} {n : Node} (h : tree l = .ok n) : steps ⟨[], none⟩ l = .ok ⟨[], some n⟩ := by
  unfold tree at h
  cases hs : steps ⟨[], none⟩ l with
  | error e => rw [hs] at h; cases h
  | ok s => rw [hs] at h; rw [final_ok h]
/-- What may stand about the element. -/
def Aside (t : Tok) : Prop := t.kind ≠ 0 ∧ t.kind ≠ 1 ∧ (t.kind = 2 → t.alone = false ∧ blankText t.data = true) ∧ (t.kind = 4 → G.plain t.name = true)
theorem step_aside {t : Tok} (h : Aside t) (r : Option Node) : step ⟨[], r⟩ t = .ok ⟨[], r⟩ := by
  obtain ⟨h0, h1, h2, h4⟩ := h
  unfold step
  simp only
  rw [if_neg (by rintro ⟨e, e2⟩; obtain ⟨a, b⟩ := h2 e; rw [a, b] at e2; simp at e2), if_neg (by rintro (e | ⟨e, _⟩); exact h1 e; exact h0 e), if_neg (by rintro ⟨e, e2⟩; rw [h4 e] at e2; cases e2), if_neg h0]
theorem steps_aside {l : List Tok} (h : ∀ t ∈ l, Aside t) (r : Option Node) : steps ⟨[], r⟩ l = .ok ⟨[], r⟩ := by
  induction l with
  | nil => rfl
  | cons t l ih =>
    unfold steps
    rw [step_aside (h t (by simp)) r]
    exact ih fun x hx => h x (by simp [hx])
/-- WHAT STANDS ABOUT THE ELEMENT CHANGES NOTHING. -/
theorem tree_about {a l b : List Tok} {n : Node} (ha : ∀ t ∈ a, Aside t) (hb : ∀ t ∈ b, Aside t) (h : tree l = .ok n) : tree (a ++ l ++ b) = .ok n := by
  unfold tree
  rw [steps_append, steps_append, steps_aside ha]
  simp only
  rw [tree_ok h]
  simp only
  rw [steps_aside hb]
  rfl

/-! ### an element put into another one -/
/-- The same stack, standing on another one. -/
theorem ended_on (s : List Open) (hs : s ≠ []) (r r2 : Option Node) (n : Node) (base : List Open) : (ended (s ++ base) r2 n).stack = (ended s r n).stack ++ base ∧ (ended (s ++ base) r2 n).root = r2 ∧ (ended s r n).root = r := by
  cases s with
  | nil => exact absurd rfl hs
  | cons o os => exact ⟨rfl, rfl, rfl⟩
/-- An open element of no prefix that declares nothing has no scope of its own. -/
theorem opened_on {s : List Open} {t : Tok} {r r2 : Option Node} {s' : St} {base : List Open} (hs : s ≠ [] ∨ scopeOf base = []) (h : opened ⟨s, r⟩ t = .ok s') (hd : s.length + base.length + 1 ≤ 30) :
    (t.alone = true → ∃ n, s' = ended s r n ∧ opened ⟨s ++ base, r2⟩ t = .ok (ended (s ++ base) r2 n)) ∧ (t.alone = false → s'.stack.length = s.length + 1 ∧ s'.root = r ∧ opened ⟨s ++ base, r2⟩ t = .ok ⟨s'.stack ++ base, r2⟩) := by
  have hsc : scopeOf (s ++ base) = scopeOf s := by
    cases s with
    | nil =>
      rcases hs with h | h
      · exact absurd rfl h
      · rw [List.nil_append, h]; rfl
    | cons o os => rfl
  unfold opened at *
  simp only at *
  rw [if_neg (by omega)] at h
  rw [if_neg (by rw [List.length_append]; omega), hsc]
  cases he : element t (scopeOf s) with
  | error e => rw [he] at h; cases h
  | ok x =>
    obtain ⟨⟨sp, nm, l⟩, sc⟩ := x
    rw [he] at h
    simp only at h ⊢
    by_cases ha : t.alone = true
    · rw [if_pos ha] at h ⊢
      cases h
      exact ⟨fun _ => ⟨_, rfl, rfl⟩, fun e => by rw [ha] at e; cases e⟩
    · rw [if_neg ha] at h ⊢
      cases h
      exact ⟨fun e => absurd e ha, fun _ => ⟨rfl, rfl, rfl⟩⟩

/-- A step that the base does not feel. -/
theorem step_on {s : List Open} {t : Tok} {r r2 : Option Node} {s' : St} {base : List Open} (hs : s ≠ []) (h : step ⟨s, r⟩ t = .ok s') (hd : s.length + base.length + 1 ≤ 30) (hne : s'.stack ≠ []) :
    s'.root = r ∧ step ⟨s ++ base, r2⟩ t = .ok ⟨s'.stack ++ base, r2⟩ := by
  cases s with
  | nil => exact absurd rfl hs
  | cons o os =>
    unfold step at h ⊢
    simp only [List.cons_append] at h ⊢
    by_cases h1 : t.kind = 1
    · rw [if_pos h1] at h ⊢
      by_cases h2 : t.name = o.tag
      · rw [if_pos h2] at h ⊢
        cases h
        cases os with
        | nil => exact absurd rfl hne
        | cons p ps => exact ⟨rfl, rfl⟩
      · rw [if_neg h2] at h; cases h
    · rw [if_neg h1] at h ⊢
      by_cases h0 : t.kind = 0
      · rw [if_pos h0] at h ⊢
        obtain ⟨c1, c2⟩ := opened_on (r2 := r2) (base := base) (.inl (by simp)) h hd
        by_cases ha : t.alone = true
        · obtain ⟨n, rfl, e2⟩ := c1 ha
          exact ⟨rfl, e2⟩
        · obtain ⟨_, e1, e2⟩ := c2 (by simpa using ha)
          exact ⟨e1, e2⟩
      · rw [if_neg h0] at h ⊢
        by_cases h4 : t.kind = 4 ∧ G.plain t.name = false
        · rw [if_pos h4] at h; cases h
        · rw [if_neg h4] at h ⊢
          cases h
          exact ⟨rfl, rfl⟩
end Gv
end Go.Proofs.YtcoeijjmahneeaaGreatDoor
namespace Go.Proofs.YtcoeijjmahneeaaGreatDoor
open Go.RowKit

theorem grown_of_below {w w' : World} (h : Below w.heap.size w w') (row : Option Nat) : w.grownBy w' row := ⟨h.os, h.tape, h.output, h.size, fun k hk _ => h.block k hk⟩

theorem infoByte : (Tryz.prog.info? 5).map (fun i => (i.zero, i.size, i.bytes)) = some (some (.int .u8 0), 1, 1) := by kernel_rfl

/-- The call owns a row of these bytes. -/
def Owns (B : Nat) (v : Value) (l : List UInt8) (w : World) : Prop := w.ownsRow B 5 1 v l.length (Lib.byteCells l)

theorem Owns.below {B : Nat} {v : Value} {l : List UInt8} {w w' : World} (h : Owns B v l w) (hg : w.grownBy w' v.ownBlock) (hB : B ≤ w.heap.size) : Below B w w' :=
  (Below.refl _ _).grown hg hB (fun j e => (World.ownsRow.lt h j e).1)

theorem owns_of {B n : Nat} {v : Value} {l : List UInt8} {xs : List Value} {w : World} (h : w.ownsRow B 5 1 v n xs) (hn : n = l.length) (hx : xs = Lib.byteCells l) : Owns B v l w := by
  subst hn; subst hx; exact h

theorem row_form {w : World} {B : Nat} {e : TypeId} {size n : Nat} {v : Value} {xs : List Value} (h : w.ownsRow B e size v n xs) (hn : 0 < n) :
    ∃ g cap, v = .slice (some ⟨g, 0, none⟩) n cap ∧ B ≤ g := by
  obtain ⟨_, ⟨_, rfl⟩ | ⟨g, cap, cur, rfl, hb, _⟩⟩ := h
  · omega
  · exact ⟨g, cap, rfl, hb⟩

/-- A row of the call's own that is not empty, as text. -/
theorem text_of {B : Nat} {v : Value} {l : List UInt8} {w : World} (h : Owns B v l w) (hl : 0 < l.length) : ∃ g cap, v = .slice (some ⟨g, 0, none⟩) l.length cap ∧ ∀ j (hj : j < l.length), w.cell? ((⟨g, 0, none⟩ : Addr).add j) = some (.int .u8 (l[j].toNat : Int)) := by
  obtain ⟨g, cap, rfl, hb⟩ := row_form h hl
  exact ⟨g, cap, rfl, fun j hj => World.ownsRow.cells h (g := g) rfl j _ (by simp [Lib.byteCells, hj])⟩

theorem owns_nil (B : Nat) (w : World) : Owns B (.slice none 0 0) [] w := World.ownsRow_nil _ _ _ _
theorem owns_alloc {B : Nat} {v : Value} {l : List UInt8} {w : World} (h : Owns B v l w) (o : Obj) : Owns B v l (w.alloc o) := World.ownsRow.alloc h o
theorem owns_below {B : Nat} {v : Value} {l : List UInt8} {w w' : World} (h : Owns B v l w) (hb : Below w.heap.size w w') : Owns B v l w' := World.ownsRow.kept h (grown_of_below hb none) (by
  obtain ⟨_, ⟨rfl, _⟩ | ⟨g, cap, cur, rfl, _⟩⟩ := h
  · exact .inl rfl
  · right; simp [Value.ownBlock])

set_option maxRecDepth 100000 in
/-- Converted to a string. -/
theorem owns_string {B : Nat} {v : Value} {l : List UInt8} {w : World} (h : Owns B v l w) (h0 : l = [] → v = .slice none 0 0) : (convert 81 9 v).run Tryz.prog w = .ok (.string ⟨l.toArray⟩) w := by
  by_cases hl : l = []
  · rw [h0 hl, hl]
    rfl
  · obtain ⟨g, cap, rfl, hc⟩ := text_of h (List.length_pos_iff.2 hl)
    exact run_convert_bytes_back (l := l) w 81 9 5 ⟨g, 0, none⟩ cap Tryz.underlying81 Tryz.underlying5 Tryz.underlying9 hc
end Go.Proofs.YtcoeijjmahneeaaGreatDoor
namespace Go.Proofs.YtcoeijjmahneeaaGreatDoor
open Go.RowKit

namespace G
def any (c : Int) (L : List (Int × Int)) : Bool := L.any fun p => inR c p.1 p.2
theorem any_take (c : Int) (L : List (Int × Int)) (k : Nat) (h : k < L.length) : any c (L.take (k + 1)) = (any c (L.take k) || inR c L[k].1 L[k].2) := by
  unfold any
  rw [List.take_succ_eq_append_getElem h, List.any_append, List.any_cons, List.any_nil, Bool.or_false]
theorem any_at (c : Int) (L : List (Int × Int)) (k : Nat) (h : k < L.length) (hi : inR c L[k].1 L[k].2 = true) : any c L = true := by
  unfold any
  rw [List.any_eq_true]
  exact ⟨_, List.getElem_mem h, hi⟩
end G

/-- A ROW OF PAIRS OF NUMBERS LIES AT THE HEAD OF BLOCK b. -/
def PairsAt (b : Nat) (L : List (Int × Int)) (w : World) : Prop := ∀ j (h : j < L.length), w.cell? ⟨b, 2 * j, none⟩ = some (.int .i64 L[j].1) ∧ w.cell? ⟨b, 2 * j + 1, none⟩ = some (.int .i64 L[j].2)

set_option maxHeartbeats 800000 in
theorem refIn_any (c : Int) (L : List (Int × Int)) (b n cap : Nat) (w : World) (hL : PairsAt b L w) (hn : L.length ≤ 1000) (hln : 2 * L.length = n) :
    Calls Tryz.prog 94 #[.int .i64 c, .slice (some ⟨b, 0, none⟩) n cap] w fun e w' => e = .returned (.bool (G.any c L)) ∧ w = w' := by
  have hln := Lib.hid hln
  go_enter Tryz.func94, Tryz.ntmps94
  go_wp2_with fail
  go_loop [5] (fun i => ∃ k : Nat, 2 * k ≤ n ∧ i = .int .i64 ((2 * k : Nat) : Int) ∧ G.any c (L.take k) = false) (fun i => n - (intOf i).toNat)
  case atStart => exact ⟨0, Nat.zero_le _, rfl, rfl⟩
  case round =>
    obtain ⟨k, hk, rfl, hall⟩ := hrel
    by_cases hlt : k < L.length
    · obtain ⟨c0, c1⟩ := hL k hlt
      have hst := Lib.hid (G.any_take c L k hlt)
      have hat := Lib.hid (G.any_at c L k hlt)
      have hk2 : 2 * k + 1 < n := by rw [← hln.out]; omega
      generalize L[k].1 = x at c0 hst hat
      generalize L[k].2 = y at c1 hst hat
      have hall := Lib.hid hall
      by_cases hx : x ≤ c
      · by_cases hy : c ≤ y
        · have hr := Lib.hid (hat.out (by simp [G.inR, hx, hy]))
          go_wp2
          go_ret
          exact ⟨ret_bool hr.out.symm, rfl⟩
        · have hr := Lib.hid (show G.any c (L.take (k + 1)) = false by rw [hst.out, hall.out]; simp [G.inR, hx, hy])
          go_wp2
          go_round
          case rel => exact ⟨k + 1, by omega, by go_num, hr.out⟩
          case measure => simp [intOf]; omega
      · have hr := Lib.hid (show G.any c (L.take (k + 1)) = false by rw [hst.out, hall.out]; simp [G.inR, hx])
        go_wp2
        go_round
        case rel => exact ⟨k + 1, by omega, by go_num, hr.out⟩
        case measure => simp [intOf]; omega
    · have hk2 : 2 * k = n := by rw [← hln.out]; rw [← hln.out] at hk; omega
      have hfull : L.take k = L := List.take_of_length_le (by omega)
      have hr := Lib.hid (show G.any c L = false by rw [← hfull]; exact hall)
      clear hfull
      go_wp2
      go_ret
      exact ⟨ret_bool hr.out.symm, rfl⟩

/-- the cells of pairs. -/
def cellsOf (L : List (Int × Int)) : List Value := L.flatMap fun p => [.int .i64 p.1, .int .i64 p.2]
theorem cellsOf_at (L : List (Int × Int)) : ∀ (j : Nat) (h : j < L.length), (cellsOf L)[2 * j]? = some (.int .i64 L[j].1) ∧ (cellsOf L)[2 * j + 1]? = some (.int .i64 L[j].2) := by
  induction L with
  | nil => intro j h; simp at h
  | cons p L ih =>
    intro j h
    have e : cellsOf (p :: L) = .int .i64 p.1 :: .int .i64 p.2 :: cellsOf L := rfl
    cases j with
    | zero => rw [e]; exact ⟨rfl, rfl⟩
    | succ j =>
      have := ih j (by simpa using h)
      rw [e, show 2 * (j + 1) = 2 * j + 1 + 1 by omega]
      simpa using this

theorem pairsAt_cells {b : Nat} {L : List (Int × Int)} {w : World} {T : TypeId} {fr : Nat × Nat} (h : w.heap[b]? = some (.cells (cellsOf L).toArray T fr)) : PairsAt b L w := by
  intro j hj
  have := cellsOf_at L j hj
  simp only [World.cell?, h]
  simpa using this

set_option maxRecDepth 100000 in
set_option maxHeartbeats 1600000 in
theorem refChar_any (c : Int) (w : World) :
    Calls Tryz.prog 50 #[.int .i64 c] w fun e w' => e = .returned (.bool (G.char c)) ∧ Below w.heap.size w w' := by
  have hm : G.char c = G.any c [(9, 10), (13, 13), (32, 55295), (57344, 65533), (65536, 1114111)] := by simp [G.any, G.char, Bool.or_assoc]
  rw [hm]
  clear hm
  go_enter Tryz.func50, Tryz.ntmps50
  go_wp2_with fail
  (with_reducible refine (refIn_any c [(9, 10), (13, 13), (32, 55295), (57344, 65533), (65536, 1114111)] w.heap.size 10 _ _ ?_ (by decide) rfl).mono ?_)
  · exact pairsAt_cells (heap_alloc_new w _)
  rintro e w1 ⟨rfl, rfl⟩
  go_wp2
  go_ret
  exact ⟨rfl, (Below.refl _ _).alloc (Nat.le_refl _) _⟩

end Go.Proofs.YtcoeijjmahneeaaGreatDoor
