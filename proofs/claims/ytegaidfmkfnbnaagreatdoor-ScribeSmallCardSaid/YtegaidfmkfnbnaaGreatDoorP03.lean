/-
  Documents as trees, in plain Lean: a stack of open elements; what stands about the element changes nothing.
  Documents as trees, in plain Lean: comments, instructions and space about the element, in texts.
  Documents as trees, in plain Lean: unlike prefixes for the same spaces make the same tree.
-/
import Derived.Test.YtegaidfmkfnbnaaGreatDoorP01
import Derived.Test.YtegaidfmkfnbnaaGreatDoorP02
namespace Go.Proofs.YtegaidfmkfnbnaaGreatDoor
namespace Gv
open T (Tok)

structure Att where
  space : ByteArray
  name : ByteArray
  value : ByteArray
  deriving DecidableEq

/-- A node: its kind (0: an element, 1: a text, 2: a comment, 3: an instruction), space, name, attributes, kids, data. -/
inductive Node where
  | mk (kind : Int) (space name : ByteArray) (attrs : List Att) (kids : List Node) (data : ByteArray)

def str (l : List UInt8) : ByteArray := ⟨l.toArray⟩
def text (d : ByteArray) : Node := .mk 1 ByteArray.empty ByteArray.empty [] [] d
def leaf (t : Tok) : Node :=
  if t.kind = 3 then .mk 2 ByteArray.empty ByteArray.empty [] [] (str t.data)
  else if t.kind = 4 then .mk 3 ByteArray.empty (str t.name) [] [] (str t.data) else text (str t.data)
def Node.kind : Node → Int | .mk k _ _ _ _ _ => k
def Node.data : Node → ByteArray | .mk _ _ _ _ _ d => d
/-- Nodes and one more: a text behind a text goes on with it; an empty one is none. -/
def grown (l : List Node) (n : Node) : List Node :=
  if n.kind = 1 ∧ n.data = ByteArray.empty then l
  else match l.getLast? with
    | some m => if n.kind = 1 ∧ m.kind = 1 then l.dropLast ++ [text (m.data ++ n.data)] else l ++ [n]
    | none => [n]

def attrsGo (scope : List Pair) : List Att → List Pair → Except Nat (List Att)
  | acc, [] => .ok acc
  | acc, a :: l => match P.resolve scope a.name true with
    | none => .error 80
    | some (sp, nm) => if acc.any (fun x => decide (x.space = sp ∧ x.name = nm)) then .error 71 else attrsGo scope (acc ++ [⟨sp, nm, a.value⟩]) l

/-- What a start-tag begins, in a scope: space, name, attributes; and the scope within it. -/
def element (t : Tok) (scope : List Pair) : Except Nat ((ByteArray × ByteArray × List Att) × List Pair) :=
  if 50 < t.attrs.length then .error 2
  else match P.declare (t.attrs.map fun p => ⟨str p.1, str p.2⟩) with
    | none => .error 80
    | some (more, rest) => match P.resolve (scope ++ more) (str t.name) false with
      | none => .error 80
      | some (sp, nm) => match attrsGo (scope ++ more) [] rest with
        | .error e => .error e
        | .ok as' => .ok ((sp, nm, as'), scope ++ more)

/-- An element that is open. -/
structure Open where
  tag : List UInt8
  space : ByteArray
  name : ByteArray
  attrs : List Att
  kids : List Node
  scope : List Pair
def Open.node (o : Open) : Node := .mk 0 o.space o.name o.attrs o.kids ByteArray.empty

/-- The open elements, the innermost first; the element that has ended. -/
structure St where
  stack : List Open
  root : Option Node

def ended (s : List Open) (root : Option Node) (n : Node) : St := match s with | [] => ⟨[], some n⟩ | o :: os => ⟨{ o with kids := o.kids ++ [n] } :: os, root⟩
def scopeOf (s : List Open) : List Pair := match s with | [] => [] | o :: _ => o.scope
def opened (s : St) (t : Tok) : Except Nat St :=
  if 30 < s.stack.length + 1 then .error 2
  else match element t (scopeOf s.stack) with
    | .error e => .error e
    | .ok ((sp, nm, l), sc) => if t.alone then .ok (ended s.stack s.root (.mk 0 sp nm l [] ByteArray.empty)) else .ok ⟨⟨t.name, sp, nm, l, [], sc⟩ :: s.stack, s.root⟩
def blankText (l : List UInt8) : Bool := l.all fun b => G.space (b.toNat : Int)
def step (s : St) (t : Tok) : Except Nat St :=
  match s.stack with
  | [] =>
    if t.kind = 2 ∧ (t.alone = true ∨ blankText t.data = false) then .error 90
    else if t.kind = 1 ∨ (t.kind = 0 ∧ s.root.isSome = true) then .error 90
    else if t.kind = 4 ∧ G.plain t.name = false then .error 80
    else if t.kind = 0 then opened s t
    else .ok s
  | o :: os =>
    if t.kind = 1 then (if t.name = o.tag then .ok (ended os s.root o.node) else .error 90)
    else if t.kind = 0 then opened s t
    else if t.kind = 4 ∧ G.plain t.name = false then .error 80
    else .ok ⟨{ o with kids := grown o.kids (leaf t) } :: os, s.root⟩
def steps : St → List Tok → Except Nat St
  | s, [] => .ok s
  | s, t :: l => match step s t with | .error e => .error e | .ok s' => steps s' l
def final (s : St) : Except Nat Node := match s.stack, s.root with | [], some n => .ok n | _, _ => .error 90
def tree (l : List Tok) : Except Nat Node := match steps ⟨[], none⟩ l with | .error e => .error e | .ok s => final s
/-- THE TREE of a text. -/
def parse (l : List UInt8) : Except Nat Node := match T.tokens l with | .error e => .error e | .ok ts => tree ts

/-! ### laws -/
theorem steps_append (s : St) (a b : List Tok) : steps s (a ++ b) = match steps s a with | .error e => .error e | .ok s' => steps s' b := by
  induction a generalizing s with
  | nil => rfl
  | cons t a ih =>
    simp only [List.cons_append, steps]
    cases step s t with
    | error e => rfl
    | ok s' => exact ih s'
theorem final_ok {s : St} {n : Node} (h : final s = .ok n) : s = ⟨[], some n⟩ := by
  obtain ⟨st, r⟩ := s
  unfold final at h
  cases st with
  | nil => cases r with
    | none => cases h
    | some m => cases h; rfl
  | cons o os => cases h
theorem tree_ok {l : List Tok} {n : Node} (h : tree l = .ok n) : steps ⟨[], none⟩ l = .ok ⟨[], some n⟩ := by
  unfold tree at h
  cases hs : steps ⟨[], none⟩ l with
  | error e => rw [hs] at h; cases h
  | ok s => rw [hs] at h; rw [final_ok h]
/-- What may stand about the element. -/
def Aside (t : Tok) : Prop := t.kind ≠ 0 ∧ t.kind ≠ 1 ∧ (t.kind = 2 → t.alone = false ∧ blankText t.data = true) ∧ (t.kind = 4 → G.plain t.name = true)
theorem step_aside {t : Tok} (h : Aside t) (r : Option Node) : step ⟨[], r⟩ t = .ok ⟨[], r⟩ := by
  obtain ⟨h0, h1, h2, h4⟩ := h
  unfold step
  simp only
  rw [if_neg (by rintro ⟨e, e2⟩; obtain ⟨a, b⟩ := h2 e; rw [a, b] at e2; simp at e2), if_neg (by rintro (e | ⟨e, _⟩); exact h1 e; exact h0 e), if_neg (by rintro ⟨e, e2⟩; rw [h4 e] at e2; cases e2), if_neg h0]
theorem steps_aside {l : List Tok} (h : ∀ t ∈ l, Aside t) (r : Option Node) : steps ⟨[], r⟩ l = .ok ⟨[], r⟩ := by
  induction l with
  | nil => rfl
  | cons t l ih =>
    unfold steps
    rw [step_aside (h t (by simp)) r]
    exact ih fun x hx => h x (by simp [hx])
/-- WHAT STANDS ABOUT THE ELEMENT CHANGES NOTHING. -/
theorem tree_about {a l b : List Tok} {n : Node} (ha : ∀ t ∈ a, Aside t) (hb : ∀ t ∈ b, Aside t) (h : tree l = .ok n) : tree (a ++ l ++ b) = .ok n := by
  unfold tree
  rw [steps_append, steps_append, steps_aside ha]
  simp only
  rw [tree_ok h]
  simp only
  rw [steps_aside hb]
  rfl

/-! ### an element put into another one -/
/-- The same stack, standing on another one. -/
theorem ended_on (s : List Open) (hs : s ≠ []) (r r2 : Option Node) (n : Node) (base : List Open) : (ended (s ++ base) r2 n).stack = (ended s r n).stack ++ base ∧ (ended (s ++ base) r2 n).root = r2 ∧ (ended s r n).root = r := by
  cases s with
  | nil => exact absurd rfl hs
  | cons o os => exact ⟨rfl, rfl, rfl⟩
/-- An open element of no prefix that declares nothing has no scope of its own. -/
theorem opened_on {s : List Open} {t : Tok} {r r2 : Option Node} {s' : St} {base : List Open} (hs : s ≠ [] ∨ scopeOf base = []) (h : opened ⟨s, r⟩ t = .ok s') (hd : s.length + base.length + 1 ≤ 30) :
    (t.alone = true → ∃ n, s' = ended s r n ∧ opened ⟨s ++ base, r2⟩ t = .ok (ended (s ++ base) r2 n)) ∧ (t.alone = false → s'.stack.length = s.length + 1 ∧ s'.root = r ∧ opened ⟨s ++ base, r2⟩ t = .ok ⟨s'.stack ++ base, r2⟩) := by
  have hsc : scopeOf (s ++ base) = scopeOf s := by
    cases s with
    | nil =>
      rcases hs with h | h
      · exact absurd rfl h
      · rw [List.nil_append, h]; rfl
    | cons o os => rfl
  unfold opened at *
  simp only at *
  rw [if_neg (by omega)] at h
  rw [if_neg (by rw [List.length_append]; omega), hsc]
  cases he : element t (scopeOf s) with
  | error e => rw [he] at h; cases h
  | ok x =>
    obtain ⟨⟨sp, nm, l⟩, sc⟩ := x
    rw [he] at h
    simp only at h ⊢
    by_cases ha : t.alone = true
    · rw [if_pos ha] at h ⊢
      cases h
      exact ⟨fun _ => ⟨_, rfl, rfl⟩, fun e => by rw [ha] at e; cases e⟩
    · rw [if_neg ha] at h ⊢
      cases h
      exact ⟨fun e => absurd e ha, fun _ => ⟨rfl, rfl, rfl⟩⟩

/-- A step that the base does not feel. -/
theorem step_on {s : List Open} {t : Tok} {r r2 : Option Node} {s' : St} {base : List Open} (hs : s ≠ []) (h : step ⟨s, r⟩ t = .ok s') (hd : s.length + base.length + 1 ≤ 30) (hne : s'.stack ≠ []) :
    s'.root = r ∧ step ⟨s ++ base, r2⟩ t = .ok ⟨s'.stack ++ base, r2⟩ := by
  cases s with
  | nil => exact absurd rfl hs
  | cons o os =>
    unfold step at h ⊢
    simp only [List.cons_append] at h ⊢
    by_cases h1 : t.kind = 1
    · rw [if_pos h1] at h ⊢
      by_cases h2 : t.name = o.tag
      · rw [if_pos h2] at h ⊢
        cases h
        cases os with
        | nil => exact absurd rfl hne
        | cons p ps => exact ⟨rfl, rfl⟩
      · rw [if_neg h2] at h; cases h
    · rw [if_neg h1] at h ⊢
      by_cases h0 : t.kind = 0
      · rw [if_pos h0] at h ⊢
        obtain ⟨c1, c2⟩ := opened_on (r2 := r2) (base := base) (.inl (by simp)) h hd
        by_cases ha : t.alone = true
        · obtain ⟨n, rfl, e2⟩ := c1 ha
          exact ⟨rfl, e2⟩
        · obtain ⟨_, e1, e2⟩ := c2 (by simpa using ha)
          exact ⟨e1, e2⟩
      · rw [if_neg h0] at h ⊢
        by_cases h4 : t.kind = 4 ∧ G.plain t.name = false
        · rw [if_pos h4] at h; cases h
        · rw [if_neg h4] at h ⊢
          cases h
          exact ⟨rfl, rfl⟩
end Gv
end Go.Proofs.YtegaidfmkfnbnaaGreatDoor
namespace Go.Proofs.YtegaidfmkfnbnaaGreatDoor
namespace Gv
open T (Tok)

/-- What the law puts behind a text. -/
def behind : List UInt8 := [60, 33, 45, 45, 120, 45, 45, 62, 32, 60, 63, 112, 63, 62, 10]
def behindToks : List Tok := [⟨3, [], [], false, [120]⟩, ⟨2, [], [], false, [32]⟩, ⟨4, [112], [], false, []⟩, ⟨2, [], [], false, [10]⟩]
/-- .. and ahead of it. -/
def ahead : List UInt8 := [60, 63, 120, 109, 108, 32, 118, 101, 114, 115, 105, 111, 110, 61, 34, 49, 46, 49, 34, 63, 62, 9, 60, 33, 45, 45, 121, 45, 45, 62]
def aheadToks : List Tok := [⟨5, [], [], false, []⟩, ⟨2, [], [], false, [9]⟩, ⟨3, [], [], false, [121]⟩]
theorem run_behind (first : Bool) : T.run first behind = .ok behindToks := by cases first <;> rfl
theorem check_behind : G.check behind = true := by decide +kernel
theorem lines_behind : G.lines behind = behind := by decide +kernel
theorem check_ahead : G.check ahead = true := by decide +kernel
theorem lines_ahead : G.lines ahead = ahead := by decide +kernel
theorem aside_behind : ∀ t ∈ behindToks, Aside t := by
  intro t ht
  simp only [behindToks, List.mem_cons, List.not_mem_nil, or_false] at ht
  rcases ht with rfl | rfl | rfl | rfl
  all_goals refine ⟨by decide, by decide, fun h => ?_, fun h => ?_⟩
  all_goals first
    | (exact absurd h (by decide))
    | (exact ⟨rfl, by decide⟩)
    | decide +kernel
theorem aside_ahead : ∀ t ∈ aheadToks, Aside t := by
  intro t ht
  simp only [aheadToks, List.mem_cons, List.not_mem_nil, or_false] at ht
  rcases ht with rfl | rfl | rfl
  all_goals refine ⟨by decide, by decide, fun h => ?_, fun h => ?_⟩
  all_goals first
    | (exact absurd h (by decide))
    | (exact ⟨rfl, by decide⟩)
    | decide +kernel

theorem parse_ok {l : List UInt8} {n : Node} (h : parse l = .ok n) : ∃ ts, T.tokens l = .ok ts ∧ tree ts = .ok n := by
  unfold parse at h
  cases ht : T.tokens l with
  | error e => rw [ht] at h; cases h
  | ok ts => rw [ht] at h; exact ⟨ts, rfl, h⟩
theorem toks_ne {ts : List Tok} {n : Node} (h : tree ts = .ok n) : ts ≠ [] := by
  rintro rfl
  cases h
theorem lines_ne {l : List UInt8} {ts : List Tok} (h : T.run true (G.lines l) = .ok ts) (hne : ts ≠ []) : G.lines l ≠ [] := by
  intro e
  rw [e] at h
  cases h
  exact hne rfl

/-- COMMENTS, INSTRUCTIONS AND SPACE BEHIND THE ELEMENT CHANGE NOTHING. -/
theorem parse_behind {l : List UInt8} {n : Node} (h : parse l = .ok n) (hl : l.length + 15 ≤ 100000) : parse (l ++ behind) = .ok n := by
  obtain ⟨ts, h1, h2⟩ := parse_ok h
  obtain ⟨s1, s2, s3⟩ := T.tokens_ok h1
  have ht : T.tokens (l ++ behind) = .ok (ts ++ behindToks) := by
    rw [T.tokens_mk (by rw [List.length_append]; exact hl) (G.check_append s2 check_behind), T.lines_two rfl, lines_behind, T.run_append rfl _ true (G.lines l) ts (Nat.le_refl _) (lines_ne s3 (toks_ne h2)) s3, run_behind]
  unfold parse
  rw [ht]
  have := tree_about (a := []) (b := behindToks) (fun t ht => by cases ht) aside_behind h2
  simpa using this

theorem next_ahead (x : List UInt8) : T.run true (ahead ++ x) = match T.run false x with | .error e => .error e | .ok b => .ok (aheadToks ++ b) := by
  have e1 : T.next true ahead = .ok (⟨5, [], [], false, []⟩, [9, 60, 33, 45, 45, 121, 45, 45, 62]) := by rfl
  have n1 := (T.next_append (by simp [ahead]) e1 x (.inl (by simp))).1
  have e2 : T.next false [9, 60, 33, 45, 45, 121, 45, 45, 62] = .ok (⟨2, [], [], false, [9]⟩, [60, 33, 45, 45, 121, 45, 45, 62]) := by rfl
  have n2 := (T.next_append (by simp) e2 x (.inl (by simp))).1
  have e3 : T.comment [121, 45, 45, 62] = .ok (⟨3, [], [], false, [121]⟩, []) := by rfl
  have n3 : T.next false ([60, 33, 45, 45, 121, 45, 45, 62] ++ x) = .ok (⟨3, [], [], false, [121]⟩, x) := by
    have c := (T.comment_append e3 x).1
    have hb : T.begins [60, 33, 45, 45] ([60, 33, 45, 45, 121, 45, 45, 62] ++ x) = true := T.begins_iff.2 ⟨[121, 45, 45, 62] ++ x, rfl⟩
    unfold T.next
    rw [if_neg (by simp), if_pos hb]
    exact c
  rw [T.run_step (by simp [ahead]), n1]
  simp only
  rw [T.run_step (by simp), n2]
  simp only
  rw [T.run_step (by simp), n3]
  simp only
  cases T.run false x <;> rfl

/-- Lines begin as the text does. -/
theorem lines_begins : ∀ (p l : List UInt8), (∀ b ∈ p, b ≠ 10 ∧ b ≠ 13) → T.begins p (G.lines l) = true → T.begins p l = true
  | [], l, _, _ => rfl
  | c :: p, [], _, h => by cases h
  | c :: p, b :: t, hp, h => by
    obtain ⟨c1, c2⟩ := hp c (by simp)
    by_cases hb : b = 13
    · subst hb
      exfalso
      have : (G.lines (13 :: t)).head? = some 10 := by
        by_cases ht : t.head? = some 10
        · cases t with
          | nil => cases ht
          | cons d t => cases ht; rw [G.lines_crlf]; rfl
        · rw [G.lines_cr t ht]; rfl
      obtain ⟨x, hx⟩ := T.begins_iff.1 h
      rw [← hx] at this
      simp at this
      exact c1 this
    · rw [G.lines_cons b t hb] at h
      obtain ⟨x, hx⟩ := T.begins_iff.1 h
      rw [List.cons_append] at hx
      injection hx with h1 h2
      subst h1
      have := lines_begins p t (fun b hb => hp b (by simp [hb])) (T.begins_iff.2 ⟨x, h2⟩)
      obtain ⟨y, hy⟩ := T.begins_iff.1 this
      exact T.begins_iff.2 ⟨y, by rw [List.cons_append, hy]⟩
theorem declares_not {l : List UInt8} (h : T.begins [60, 63, 120, 109, 108] l = false) : T.declares (G.lines l) = false := by
  unfold T.declares
  cases hb : T.begins [60, 63, 120, 109, 108] (G.lines l) with
  | false => rfl
  | true =>
    have := lines_begins _ l (by decide) hb
    rw [h] at this
    cases this

/-- .. AND AHEAD OF IT. -/
theorem parse_about {l : List UInt8} {n : Node} (h : parse l = .ok n) (hl : l.length + 45 ≤ 100000) (hd : T.begins [60, 63, 120, 109, 108] l = false) : parse (ahead ++ (l ++ behind)) = .ok n := by
  obtain ⟨ts, h1, h2⟩ := parse_ok h
  obtain ⟨s1, s2, s3⟩ := T.tokens_ok h1
  have s4 := T.run_first (declares_not hd)
  have ht : T.tokens (ahead ++ (l ++ behind)) = .ok (aheadToks ++ (ts ++ behindToks)) := by
    rw [T.tokens_mk (by rw [List.length_append, List.length_append, show ahead.length = 30 from rfl, show behind.length = 15 from rfl]; omega) (G.check_append check_ahead (G.check_append s2 check_behind)), G.lines_append ahead (l ++ behind) (by rw [show ahead.getLast? = some 62 from rfl]; simp), lines_ahead, next_ahead, T.lines_two rfl, lines_behind,
      T.run_append rfl _ false (G.lines l) ts (Nat.le_refl _) (lines_ne s3 (toks_ne h2)) (by rw [← s4]; exact s3), run_behind]
  unfold parse
  rw [ht]
  have := tree_about (a := aheadToks) (b := behindToks) aside_ahead aside_behind h2
  rw [List.append_assoc] at this
  exact this
end Gv
end Go.Proofs.YtegaidfmkfnbnaaGreatDoor
namespace Go.Proofs.YtegaidfmkfnbnaaGreatDoor

namespace G
/-- An ASCII byte does not go on with what is no code point. -/
theorem first_stop {l : List UInt8} (hl : l ≠ []) (h : (first l).2 = 0) (c : UInt8) (t : List UInt8) (hc : c.toNat < 128) : (first (l ++ c :: t)).2 = 0 := by
  refine Decidable.byContradiction fun h0 => ?_
  by_cases hle : (first (l ++ c :: t)).2 ≤ l.length
  · have ft := first_take (l ++ c :: t) l.length hle h0
    rw [List.take_left] at ft
    rw [← ft] at h0
    exact h0 h
  · obtain ⟨e, hne⟩ := first_pos _ h0
    have h1 : 0 < l.length := List.length_pos_iff.2 hl
    have hg : ((l ++ c :: t).getD l.length 0) = c := by simp [List.getD]
    rw [e] at hle
    have hz := mt (first_zero (l ++ c :: t)).2 h0
    have hw := Lib.decodeL_width (l ++ c :: t)
    rw [Lib.decodeL_N] at hle hw hz
    rcases Lib.decodeN_shape (l ++ c :: t).length ((l ++ c :: t).getD 0 0).toNat ((l ++ c :: t).getD 1 0).toNat ((l ++ c :: t).getD 2 0).toNat ((l ++ c :: t).getD 3 0).toNat with ⟨_, e2⟩ | ⟨_, _, c3, _, e2⟩ | ⟨_, _, c3, c4, _, _, e2⟩ | ⟨_, _, c3, c4, c5, _, _, e2⟩ | e2
    · rw [e2] at hle; simp only at hle; omega
    · rw [e2] at hle; simp only at hle
      have : l.length = 1 := by omega
      rw [this] at hg
      rw [hg] at c3
      omega
    · rw [e2] at hle; simp only at hle
      have : l.length = 1 ∨ l.length = 2 := by omega
      rcases this with this | this <;> rw [this] at hg
      · rw [hg] at c3; omega
      · rw [hg] at c4; omega
    · rw [e2] at hle; simp only at hle
      have : l.length = 1 ∨ l.length = 2 ∨ l.length = 3 := by omega
      rcases this with this | this | this <;> rw [this] at hg
      · rw [hg] at c3; omega
      · rw [hg] at c4; omega
      · rw [hg] at c5; omega
    · rw [e2] at hz; exact hz (.inr ⟨rfl, rfl⟩)
theorem span_bad (c : UInt8) (t : List UInt8) (hc : c.toNat < 128) : ∀ s : List UInt8, span char s ≠ s.length → span char (s ++ c :: t) = span char s := by
  intro s
  induction s using along char with
  | stop l h =>
    intro e
    rw [span_stop char l h] at e ⊢
    have hl : l ≠ [] := by rintro rfl; exact e rfl
    refine span_stop char _ ?_
    by_cases h0 : (first l).2 = 0
    · exact .inl (first_stop hl h0 c t hc)
    · rw [first_append l _ h0]
      exact h
  | step l h0 hp ih =>
    intro e
    have hle := first_le l
    have hs := span_step char l h0 hp
    have fa := first_append l (c :: t) h0
    rw [span_step char (l ++ c :: t) (by rw [fa]; exact h0) (by rw [fa]; exact hp), fa, List.drop_append_of_le_length hle, ih (by rw [List.length_drop]; omega), hs]
theorem check_parted (s : List UInt8) (c : UInt8) (t : List UInt8) (hc : c.toNat < 128) : check (s ++ c :: t) = (check s && check (c :: t)) := by
  by_cases hs : span char s = s.length
  · have h1 : check s = true := by unfold check; simpa using hs
    rw [h1, Bool.true_and]
    unfold check
    rw [span_append char (c :: t) s hs, List.length_append]
    congr 1
    simp only [eq_iff_iff]
    omega
  · have h1 : check s = false := by unfold check; simpa using hs
    rw [h1, Bool.false_and]
    unfold check
    rw [span_bad c t hc s hs]
    have := span_le char s
    rw [decide_eq_false_iff_not, List.length_append, List.length_cons]
    omega
theorem check_behind_of {a : List UInt8} (ha : check a = true) (x : List UInt8) : check (a ++ x) = check x := by
  have h := ha
  unfold check at h
  rw [decide_eq_true_eq] at h
  unfold check
  rw [span_append char x a h, List.length_append]
  congr 1
  simp only [eq_iff_iff]
  omega
end G

theorem E.escape_six (l : List UInt8) : (E.escape true l).length ≤ 6 * l.length := by
  induction l with
  | nil => exact Nat.le_refl _
  | cons b l ih =>
    have h6 : (E.esc true b).length ≤ 6 := by unfold E.esc; (repeat' split) <;> simp
    unfold E.escape at ih ⊢
    rw [List.flatMap_cons, List.length_append, List.length_cons]
    omega

namespace T
theorem cutAt_none34 : ∀ (u Y : List UInt8), (∀ b ∈ u, b ≠ 34) → cutAt [34] (u ++ 34 :: Y) = some (u, Y)
  | [], Y, _ => rfl
  | b :: u, Y, h => by
    have hb : begins [34] (b :: (u ++ 34 :: Y)) = false := by
      have h34 : b ≠ 34 := h b (by simp)
      unfold begins
      rw [show List.isPrefixOf [34] (b :: (u ++ 34 :: Y)) = ((34 : UInt8) == b && true) from rfl, Bool.and_true, beq_eq_false_iff_ne]
      exact Ne.symm h34
    rw [List.cons_append]
    unfold cutAt
    rw [hb, cutAt_none34 u Y fun x hx => h x (by simp [hx])]
    rfl
/-- ONE ATTRIBUTE whose value is escaped. -/
theorem attr_escaped {nm : List UInt8} (hn : nameAt (nm ++ [61]) = some (nm, [61])) (s Y : List UInt8) : attr (nm ++ 61 :: 34 :: (E.escape true s ++ 34 :: Y)) = .ok ((nm, s), Y) := by
  have hb := E.escape_bytes true s
  have e1 : nm ++ 61 :: 34 :: (E.escape true s ++ 34 :: Y) = (nm ++ [61]) ++ (34 :: (E.escape true s ++ 34 :: Y)) := by simp
  have h1 := nameAt_append hn rfl (by decide) (34 :: (E.escape true s ++ 34 :: Y))
  have e2 : skip ([61] ++ 34 :: (E.escape true s ++ 34 :: Y)) = 61 :: 34 :: (E.escape true s ++ 34 :: Y) := by
    rw [List.cons_append, skip_head]; rfl
  have e3 : skip (34 :: (E.escape true s ++ 34 :: Y)) = 34 :: (E.escape true s ++ 34 :: Y) := by rw [skip_head]; rfl
  have e4 : quoted (34 :: (E.escape true s ++ 34 :: Y)) = some (E.escape true s, Y) := by
    show (if (34 : UInt8) = 34 ∨ (34 : UInt8) = 39 then cutAt [34] (E.escape true s ++ 34 :: Y) else none) = _
    rw [if_pos (.inl rfl)]
    exact cutAt_none34 _ _ fun b h => ((hb b h).2.2.2 rfl).1
  rw [e1]
  unfold attr
  rw [h1]
  simp only
  rw [e2]
  simp only
  rw [e3, e4]
  simp only
  rw [if_neg (fun h => (hb 60 h).1 rfl), E.expand_escape true true s (fun h => h)]
theorem next_open {first : Bool} {c : UInt8} {l : List UInt8} (h1 : c ≠ 33) (h2 : c ≠ 63) (h3 : c ≠ 47) : next first (60 :: c :: l) = opened (c :: l) := by
  have b2 : ∀ (d : UInt8) (p : List UInt8), c ≠ d → begins (60 :: d :: p) (60 :: c :: l) = false := fun d p h => by
    show ((60 : UInt8) == 60 && ((d == c) && List.isPrefixOf p l)) = false
    rw [beq_eq_false_iff_ne.2 (Ne.symm h), Bool.false_and, Bool.and_false]
  have b1 : begins [60] (60 :: c :: l) = true := rfl
  unfold next declares
  rw [b2 63 [120, 109, 108] h2, Bool.false_and, Bool.and_false, b2 33 [45, 45] h1, b2 33 [91, 67, 68, 65, 84, 65, 91] h1, b2 33 [68, 79, 67, 84, 89, 80, 69] h1, b2 33 [] h1, b2 63 [] h2, b2 47 [] h3, b1]
  rfl
/-- A tag goes on with an attribute. -/
theorem openGo_one {f : Nat} {n : List UInt8} {ps : List (List UInt8 × List UInt8)} {c : UInt8} {l r : List UInt8} {a : List UInt8 × List UInt8} (h1 : c ≠ 62) (h2 : c ≠ 47) (h3 : G.space (c.toNat : Int) = false)
    (ha : attr (c :: l) = .ok (a, r)) (hp : ps.any (fun x => decide (x.1 = a.1)) = false) : openGo (f + 1) n ps (32 :: c :: l) = openGo f n (ps ++ [a]) r := by
  have e : skip (32 :: c :: l) = c :: l := by
    rw [skip_head, if_pos (by decide), skip_head, h3]; rfl
  rw [openGo, e]
  split
  · rename_i h; cases h; exact absurd rfl h1
  · rename_i h; cases h; exact absurd rfl h2
  · rw [if_neg (by simp), ha]
    simp only
    rw [hp]
    rfl
theorem openGo_end {f : Nat} {n : List UInt8} {ps : List (List UInt8 × List UInt8)} {r : List UInt8} : openGo (f + 1) n ps (62 :: r) = .ok (⟨0, n, ps, false, []⟩, r) := by
  rw [openGo, skip_head]
  rfl
theorem opened_one {nm : List UInt8} (hn : nameAt (nm ++ [32]) = some (nm, [32])) {c : UInt8} {l : List UInt8} : opened (nm ++ 32 :: c :: l) = openGo (l.length + 3) nm [] (32 :: c :: l) := by
  have h1 := nameAt_append hn rfl (by decide) (c :: l)
  rw [List.append_assoc] at h1
  unfold opened
  rw [show nm ++ 32 :: c :: l = nm ++ ([32] ++ c :: l) from rfl, h1]
  rfl
end T

namespace Gv
open T (Tok)
/-- The two documents of the law. -/
def docP (u v : List UInt8) : List UInt8 := [60, 112, 58, 97, 32, 120, 109, 108, 110, 115, 58, 112, 61, 34] ++ (u ++ ([34, 32, 112, 58, 98, 61, 34] ++ (v ++ [34, 62, 60, 112, 58, 99, 47, 62, 60, 47, 112, 58, 97, 62])))
def docQ (u v : List UInt8) : List UInt8 := [60, 113, 58, 97, 32, 120, 109, 108, 110, 115, 58, 113, 61, 34] ++ (u ++ ([34, 32, 113, 58, 98, 61, 34] ++ (v ++ ([34, 62, 60, 99, 32, 120, 109, 108, 110, 115, 61, 34] ++ (u ++ [34, 62, 60, 47, 99, 62, 60, 47, 113, 58, 97, 62])))))
theorem check_docP (u v : List UInt8) : G.check (docP u v) = (G.check u && G.check v) := by
  unfold docP
  rw [G.check_behind_of (by decide +kernel), List.cons_append, G.check_parted _ _ _ (by decide), ← List.cons_append, G.check_behind_of (by decide +kernel), G.check_parted _ _ _ (by decide),
    show G.check [34, 62, 60, 112, 58, 99, 47, 62, 60, 47, 112, 58, 97, 62] = true by decide +kernel, Bool.and_true]
theorem check_docQ (u v : List UInt8) : G.check (docQ u v) = (G.check u && G.check v) := by
  unfold docQ
  rw [G.check_behind_of (by decide +kernel), List.cons_append, G.check_parted _ _ _ (by decide), ← List.cons_append, G.check_behind_of (by decide +kernel), List.cons_append, G.check_parted _ _ _ (by decide), ← List.cons_append,
    G.check_behind_of (by decide +kernel), G.check_parted _ _ _ (by decide), show G.check [34, 62, 60, 47, 99, 62, 60, 47, 113, 58, 97, 62] = true by decide +kernel, Bool.and_true]
  cases G.check u <;> cases G.check v <;> rfl
theorem no13 (l : List UInt8) (h : l.all (fun b => b != 13) = true) : ∀ b ∈ l, b ≠ 13 := fun b hb => by
  have := List.all_eq_true.1 h b hb
  simpa using this
theorem lines_docP {u v : List UInt8} (hu : ∀ b ∈ u, b ≠ 13) (hv : ∀ b ∈ v, b ≠ 13) : G.lines (docP u v) = docP u v := by
  refine G.lines_of_no13 _ fun b hb => ?_
  unfold docP at hb
  rcases List.mem_append.1 hb with h | h
  · exact no13 _ rfl b h
  rcases List.mem_append.1 h with h | h
  · exact hu b h
  rcases List.mem_append.1 h with h | h
  · exact no13 _ rfl b h
  rcases List.mem_append.1 h with h | h
  · exact hv b h
  · exact no13 _ rfl b h
theorem lines_docQ {u v : List UInt8} (hu : ∀ b ∈ u, b ≠ 13) (hv : ∀ b ∈ v, b ≠ 13) : G.lines (docQ u v) = docQ u v := by
  refine G.lines_of_no13 _ fun b hb => ?_
  unfold docQ at hb
  rcases List.mem_append.1 hb with h | h
  · exact no13 _ rfl b h
  rcases List.mem_append.1 h with h | h
  · exact hu b h
  rcases List.mem_append.1 h with h | h
  · exact no13 _ rfl b h
  rcases List.mem_append.1 h with h | h
  · exact hv b h
  rcases List.mem_append.1 h with h | h
  · exact no13 _ rfl b h
  rcases List.mem_append.1 h with h | h
  · exact hu b h
  · exact no13 _ rfl b h

def toksP (s v : List UInt8) : List Tok := [⟨0, [112, 58, 97], [([120, 109, 108, 110, 115, 58, 112], s), ([112, 58, 98], v)], false, []⟩, ⟨0, [112, 58, 99], [], true, []⟩, ⟨1, [112, 58, 97], [], false, []⟩]
def toksQ (s v : List UInt8) : List Tok := [⟨0, [113, 58, 97], [([120, 109, 108, 110, 115, 58, 113], s), ([113, 58, 98], v)], false, []⟩, ⟨0, [99], [([120, 109, 108, 110, 115], s)], false, []⟩, ⟨1, [99], [], false, []⟩, ⟨1, [113, 58, 97], [], false, []⟩]
theorem run_docP (s v : List UInt8) : T.run true (docP (E.escape true s) (E.escape true v)) = .ok (toksP s v) := by
  have hd : docP (E.escape true s) (E.escape true v) = 60 :: ([112, 58, 97] ++ 32 :: 120 :: ([109, 108, 110, 115, 58, 112, 61, 34] ++ (E.escape true s ++ 34 :: 32 :: 112 :: ([58, 98, 61, 34] ++ (E.escape true v ++ 34 :: [62, 60, 112, 58, 99, 47, 62, 60, 47, 112, 58, 97, 62]))))) := rfl
  have a1 : T.attr (120 :: ([109, 108, 110, 115, 58, 112, 61, 34] ++ (E.escape true s ++ 34 :: 32 :: 112 :: ([58, 98, 61, 34] ++ (E.escape true v ++ 34 :: [62, 60, 112, 58, 99, 47, 62, 60, 47, 112, 58, 97, 62]))))) = .ok (([120, 109, 108, 110, 115, 58, 112], s), (32 :: 112 :: ([58, 98, 61, 34] ++ (E.escape true v ++ 34 :: [62, 60, 112, 58, 99, 47, 62, 60, 47, 112, 58, 97, 62])))) := T.attr_escaped (nm := [120, 109, 108, 110, 115, 58, 112]) (by decide +kernel) s (32 :: 112 :: ([58, 98, 61, 34] ++ (E.escape true v ++ 34 :: [62, 60, 112, 58, 99, 47, 62, 60, 47, 112, 58, 97, 62])))
  have a2 : T.attr (112 :: ([58, 98, 61, 34] ++ (E.escape true v ++ 34 :: [62, 60, 112, 58, 99, 47, 62, 60, 47, 112, 58, 97, 62]))) = .ok (([112, 58, 98], v), [62, 60, 112, 58, 99, 47, 62, 60, 47, 112, 58, 97, 62]) := T.attr_escaped (nm := [112, 58, 98]) (by decide +kernel) v [62, 60, 112, 58, 99, 47, 62, 60, 47, 112, 58, 97, 62]
  have hn : T.next true (docP (E.escape true s) (E.escape true v)) = .ok (⟨0, [112, 58, 97], [([120, 109, 108, 110, 115, 58, 112], s), ([112, 58, 98], v)], false, []⟩, [60, 112, 58, 99, 47, 62, 60, 47, 112, 58, 97, 62]) := by
    rw [hd]
    have h0 : ∀ x, T.next true (60 :: ([112, 58, 97] ++ x)) = T.opened ([112, 58, 97] ++ x) := fun x => T.next_open (by decide) (by decide) (by decide)
    rw [h0, T.opened_one (nm := [112, 58, 97]) (by decide +kernel), T.openGo_one (by decide) (by decide) (by decide) a1 rfl, T.openGo_one (by decide) (by decide) (by decide) a2 (by rfl), T.openGo_end]
    rfl
  rw [T.run_step (by rw [hd]; simp), hn]
  simp only
  rw [show T.run false [60, 112, 58, 99, 47, 62, 60, 47, 112, 58, 97, 62] = .ok [⟨0, [112, 58, 99], [], true, []⟩, ⟨1, [112, 58, 97], [], false, []⟩] from rfl]
  rfl
theorem run_docQ (s v : List UInt8) : T.run true (docQ (E.escape true s) (E.escape true v)) = .ok (toksQ s v) := by
  have hd : docQ (E.escape true s) (E.escape true v) = 60 :: ([113, 58, 97] ++ 32 :: 120 :: ([109, 108, 110, 115, 58, 113, 61, 34] ++ (E.escape true s ++ 34 :: 32 :: 113 :: ([58, 98, 61, 34] ++ (E.escape true v ++ 34 :: 62 :: 60 :: ([99] ++ 32 :: 120 :: ([109, 108, 110, 115, 61, 34] ++ (E.escape true s ++ 34 :: [62, 60, 47, 99, 62, 60, 47, 113, 58, 97, 62])))))))) := rfl
  have a1 : T.attr (120 :: ([109, 108, 110, 115, 58, 113, 61, 34] ++ (E.escape true s ++ 34 :: 32 :: 113 :: ([58, 98, 61, 34] ++ (E.escape true v ++ 34 :: 62 :: 60 :: ([99] ++ 32 :: 120 :: ([109, 108, 110, 115, 61, 34] ++ (E.escape true s ++ 34 :: [62, 60, 47, 99, 62, 60, 47, 113, 58, 97, 62])))))))) = .ok (([120, 109, 108, 110, 115, 58, 113], s), (32 :: 113 :: ([58, 98, 61, 34] ++ (E.escape true v ++ 34 :: 62 :: 60 :: ([99] ++ 32 :: 120 :: ([109, 108, 110, 115, 61, 34] ++ (E.escape true s ++ 34 :: [62, 60, 47, 99, 62, 60, 47, 113, 58, 97, 62]))))))) := T.attr_escaped (nm := [120, 109, 108, 110, 115, 58, 113]) (by decide +kernel) s (32 :: 113 :: ([58, 98, 61, 34] ++ (E.escape true v ++ 34 :: 62 :: 60 :: ([99] ++ 32 :: 120 :: ([109, 108, 110, 115, 61, 34] ++ (E.escape true s ++ 34 :: [62, 60, 47, 99, 62, 60, 47, 113, 58, 97, 62]))))))
  have a2 : T.attr (113 :: ([58, 98, 61, 34] ++ (E.escape true v ++ 34 :: 62 :: 60 :: ([99] ++ 32 :: 120 :: ([109, 108, 110, 115, 61, 34] ++ (E.escape true s ++ 34 :: [62, 60, 47, 99, 62, 60, 47, 113, 58, 97, 62])))))) = .ok (([113, 58, 98], v), (62 :: 60 :: ([99] ++ 32 :: 120 :: ([109, 108, 110, 115, 61, 34] ++ (E.escape true s ++ 34 :: [62, 60, 47, 99, 62, 60, 47, 113, 58, 97, 62]))))) := T.attr_escaped (nm := [113, 58, 98]) (by decide +kernel) v (62 :: 60 :: ([99] ++ 32 :: 120 :: ([109, 108, 110, 115, 61, 34] ++ (E.escape true s ++ 34 :: [62, 60, 47, 99, 62, 60, 47, 113, 58, 97, 62]))))
  have a3 : T.attr (120 :: ([109, 108, 110, 115, 61, 34] ++ (E.escape true s ++ 34 :: [62, 60, 47, 99, 62, 60, 47, 113, 58, 97, 62]))) = .ok (([120, 109, 108, 110, 115], s), [62, 60, 47, 99, 62, 60, 47, 113, 58, 97, 62]) := T.attr_escaped (nm := [120, 109, 108, 110, 115]) (by decide +kernel) s [62, 60, 47, 99, 62, 60, 47, 113, 58, 97, 62]
  have hn : T.next true (docQ (E.escape true s) (E.escape true v)) = .ok (⟨0, [113, 58, 97], [([120, 109, 108, 110, 115, 58, 113], s), ([113, 58, 98], v)], false, []⟩, 60 :: ([99] ++ 32 :: 120 :: ([109, 108, 110, 115, 61, 34] ++ (E.escape true s ++ 34 :: [62, 60, 47, 99, 62, 60, 47, 113, 58, 97, 62])))) := by
    rw [hd]
    have h0 : ∀ x, T.next true (60 :: ([113, 58, 97] ++ x)) = T.opened ([113, 58, 97] ++ x) := fun x => T.next_open (by decide) (by decide) (by decide)
    rw [h0, T.opened_one (nm := [113, 58, 97]) (by decide +kernel), T.openGo_one (by decide) (by decide) (by decide) a1 rfl, T.openGo_one (by decide) (by decide) (by decide) a2 (by rfl), T.openGo_end]
    rfl
  have hn2 : T.next false (60 :: ([99] ++ 32 :: 120 :: ([109, 108, 110, 115, 61, 34] ++ (E.escape true s ++ 34 :: [62, 60, 47, 99, 62, 60, 47, 113, 58, 97, 62])))) = .ok (⟨0, [99], [([120, 109, 108, 110, 115], s)], false, []⟩, [60, 47, 99, 62, 60, 47, 113, 58, 97, 62]) := by
    have h0 : ∀ x, T.next false (60 :: ([99] ++ x)) = T.opened ([99] ++ x) := fun x => T.next_open (by decide) (by decide) (by decide)
    rw [h0, T.opened_one (nm := [99]) (by decide +kernel), T.openGo_one (by decide) (by decide) (by decide) a3 rfl, T.openGo_end]
    rfl
  rw [T.run_step (by rw [hd]; simp), hn]
  simp only
  rw [T.run_step (by simp), hn2]
  simp only
  rw [show T.run false [60, 47, 99, 62, 60, 47, 113, 58, 97, 62] = .ok [⟨1, [99], [], false, []⟩, ⟨1, [113, 58, 97], [], false, []⟩] from rfl]
  rfl

theorem str_list (l : List UInt8) : (str l).data.toList = l := by simp [str]
theorem bound_plain {p : ByteArray} (h1 : p ≠ P.xmlns) (h2 : p ≠ P.xml) (h3 : p ≠ ByteArray.empty) (v : ByteArray) : P.bound p v = (decide (v ≠ ByteArray.empty) && decide (v ≠ P.xmlS) && decide (v ≠ P.xmlnsS)) := by
  unfold P.bound; rw [if_neg h1, if_neg h2, if_neg h3]
theorem bound_empty (v : ByteArray) : P.bound ByteArray.empty v = (decide (v ≠ P.xmlS) && decide (v ≠ P.xmlnsS)) := by
  unfold P.bound; rw [if_neg (by decide), if_neg (by decide), if_pos rfl]
/-- Two pairs, one that declares and one that does not. -/
theorem declare_two {n1 n2 p m k : ByteArray} {v1 v2 : ByteArray} (h1 : P.split n1 = some (P.xmlns, p)) (h2 : P.split n2 = some (m, k)) (hm : m ≠ P.xmlns) (hm2 : m ≠ ByteArray.empty) : P.declare [⟨n1, v1⟩, ⟨n2, v2⟩] = if P.bound p v1 = true then some ([⟨p, v1⟩], [⟨n2, v2⟩]) else none := by
  have hk : P.key P.xmlns p = p := by unfold P.key; rw [if_neg (by decide)]
  unfold P.declare P.declGo
  rw [h1]
  simp only
  rw [if_neg (by simp), hk]
  split
  · unfold P.declGo
    rw [h2]
    simp only
    rw [if_pos ⟨hm, .inl hm2⟩]
    rfl
  · rfl
theorem resolve_one {p n s v : ByteArray} {attr : Bool} {pre : List Pair} (h1 : P.split s = some (p, n)) (hx : p ≠ P.xml) (hn : p ≠ P.xmlns) (he : attr = true → p ≠ ByteArray.empty) (hl : P.last p pre = some v) (hv : p ≠ ByteArray.empty → v ≠ ByteArray.empty) : P.resolve pre s attr = some (v, n) := by
  unfold P.resolve
  rw [h1]
  simp only
  rw [if_neg hx, if_neg hn, if_neg (fun h => he h.2 h.1), hl]
  simp only
  rw [if_neg (fun h => hv h.1 h.2)]
def bP : ByteArray := ⟨#[112]⟩
def bQ : ByteArray := ⟨#[113]⟩
def bA : ByteArray := ⟨#[97]⟩
def bB : ByteArray := ⟨#[98]⟩
def bC : ByteArray := ⟨#[99]⟩
/-- The tree of both. -/
def treePQ (s v : List UInt8) : Node := .mk 0 (str s) bA [⟨str s, bB, str v⟩] [.mk 0 (str s) bC [] [] ByteArray.empty] ByteArray.empty
theorem last_one (p v : ByteArray) : P.last p [⟨p, v⟩] = some v := by simp [P.last]
theorem elem_first {c : ByteArray} {ca : List UInt8} {n1 n2 : List UInt8} {s v : List UInt8} (h1 : P.split (str n1) = some (P.xmlns, c)) (h2 : P.split (str n2) = some (c, bB)) (h3 : P.split (str ca) = some (c, bA)) (hx : c ≠ P.xml) (hn : c ≠ P.xmlns) (he : c ≠ ByteArray.empty) :
    element ⟨0, ca, [(n1, s), (n2, v)], false, []⟩ [] = if P.bound c (str s) = true then .ok ((str s, bA, [⟨str s, bB, str v⟩]), [⟨c, str s⟩]) else .error 80 := by
  unfold element
  rw [if_neg (by simp)]
  simp only [List.map_cons, List.map_nil]
  rw [declare_two h1 h2 hn he]
  by_cases hb : P.bound c (str s) = true
  · rw [if_pos hb, if_pos hb]
    have hne : str s ≠ ByteArray.empty := by
      rw [bound_plain hn hx he] at hb
      simp only [Bool.and_eq_true, decide_eq_true_eq] at hb
      exact hb.1.1
    simp only [List.nil_append]
    rw [resolve_one h3 hx hn (fun e => by cases e) (last_one c _) (fun _ => hne)]
    simp only
    unfold attrsGo
    rw [resolve_one h2 hx hn (fun _ => he) (last_one c _) (fun _ => hne)]
    simp only [List.any_nil]
    rfl
  · rw [if_neg hb, if_neg hb]
theorem elem_kidP (s : List UInt8) (hne : str s ≠ ByteArray.empty) : element ⟨0, [112, 58, 99], [], true, []⟩ [⟨bP, str s⟩] = .ok ((str s, bC, []), [⟨bP, str s⟩]) := by
  unfold element
  rw [if_neg (by simp)]
  simp only [List.map_nil]
  rw [show P.declare [] = some ([], []) from rfl]
  simp only [List.append_nil]
  rw [resolve_one (p := bP) (n := bC) (by decide +kernel) (by decide) (by decide) (fun e => by cases e) (last_one bP _) (fun _ => hne)]
  rfl
theorem elem_kidQ (s : List UInt8) (hb : P.bound ByteArray.empty (str s) = true) : element ⟨0, [99], [([120, 109, 108, 110, 115], s)], false, []⟩ [⟨bQ, str s⟩] = .ok ((str s, bC, []), [⟨bQ, str s⟩, ⟨ByteArray.empty, str s⟩]) := by
  have h1 : P.split (str [120, 109, 108, 110, 115]) = some (ByteArray.empty, P.xmlns) := by decide +kernel
  have h2 : P.declare [⟨str [120, 109, 108, 110, 115], str s⟩] = some ([⟨ByteArray.empty, str s⟩], []) := by
    have hk : P.key ByteArray.empty P.xmlns = ByteArray.empty := by unfold P.key; rw [if_pos rfl]
    unfold P.declare P.declGo
    rw [h1]
    simp only
    rw [if_neg (by simp), hk, if_pos hb]
    rfl
  unfold element
  rw [if_neg (by simp)]
  simp only [List.map_cons, List.map_nil]
  rw [h2]
  simp only [List.cons_append, List.nil_append]
  rw [resolve_one (p := ByteArray.empty) (n := bC) (v := str s) (by decide +kernel) (by decide) (by decide) (fun e => by cases e) (by simp [P.last]) (fun h => absurd rfl h)]
  rfl
theorem opened_bad {st : St} {t : Tok} {e : Nat} (hd : st.stack.length < 30) (he : element t (scopeOf st.stack) = .error e) : opened st t = .error e := by
  unfold opened
  rw [if_neg (by omega), he]
theorem opened_whole {st : St} {t : Tok} {sp nm : ByteArray} {l : List Att} {sc : List Pair} (hd : st.stack.length < 30) (ha : t.alone = true) (he : element t (scopeOf st.stack) = .ok ((sp, nm, l), sc)) : opened st t = .ok (ended st.stack st.root (.mk 0 sp nm l [] ByteArray.empty)) := by
  unfold opened
  rw [if_neg (by omega), he]
  simp only
  rw [if_pos ha]
theorem opened_goes {st : St} {t : Tok} {sp nm : ByteArray} {l : List Att} {sc : List Pair} (hd : st.stack.length < 30) (ha : t.alone = false) (he : element t (scopeOf st.stack) = .ok ((sp, nm, l), sc)) : opened st t = .ok ⟨⟨t.name, sp, nm, l, [], sc⟩ :: st.stack, st.root⟩ := by
  unfold opened
  rw [if_neg (by omega), he]
  simp only
  rw [if_neg (by rw [ha]; simp)]
theorem step_root {t : Tok} (h0 : t.kind = 0) : step ⟨[], none⟩ t = opened ⟨[], none⟩ t := by
  unfold step; simp only; rw [if_neg (by rintro ⟨e, _⟩; omega), if_neg (by rintro (e | ⟨_, e⟩); omega; cases e), if_neg (by rintro ⟨e, _⟩; omega), if_pos h0]
theorem step_kid {t : Tok} {o : Open} {os : List Open} {r : Option Node} (h0 : t.kind = 0) : step ⟨o :: os, r⟩ t = opened ⟨o :: os, r⟩ t := by
  unfold step; simp only; rw [if_neg (by omega), if_pos h0]
theorem step_shut {t : Tok} {o : Open} {os : List Open} {r : Option Node} (h1 : t.kind = 1) (hn : t.name = o.tag) : step ⟨o :: os, r⟩ t = .ok (ended os r o.node) := by
  unfold step; simp only; rw [if_pos h1, if_pos hn]

/-- UNLIKE PREFIXES FOR THE SAME SPACES MAKE THE SAME TREE: of the tokens .. -/
theorem tree_docP (s v : List UInt8) : tree (toksP s v) = if P.bound bP (str s) = true then .ok (treePQ s v) else .error 80 := by
  have e1 := elem_first (c := bP) (ca := [112, 58, 97]) (n1 := [120, 109, 108, 110, 115, 58, 112]) (n2 := [112, 58, 98]) (s := s) (v := v) (by decide +kernel) (by decide +kernel) (by decide +kernel) (by decide) (by decide) (by decide)
  by_cases hb : P.bound bP (str s) = true
  · rw [if_pos hb] at e1 ⊢
    have hne : str s ≠ ByteArray.empty := by
      rw [bound_plain (by decide) (by decide) (by decide)] at hb
      simp only [Bool.and_eq_true, decide_eq_true_eq] at hb
      exact hb.1.1
    have s1 : step ⟨[], none⟩ ⟨0, [112, 58, 97], [([120, 109, 108, 110, 115, 58, 112], s), ([112, 58, 98], v)], false, []⟩ = .ok ⟨[⟨[112, 58, 97], str s, bA, [⟨str s, bB, str v⟩], [], [⟨bP, str s⟩]⟩], none⟩ :=
      (step_root rfl).trans (opened_goes (st := ⟨[], none⟩) (by simp) rfl e1)
    have s2 : step ⟨[⟨[112, 58, 97], str s, bA, [⟨str s, bB, str v⟩], [], [⟨bP, str s⟩]⟩], none⟩ ⟨0, [112, 58, 99], [], true, []⟩ = .ok ⟨[⟨[112, 58, 97], str s, bA, [⟨str s, bB, str v⟩], [.mk 0 (str s) bC [] [] ByteArray.empty], [⟨bP, str s⟩]⟩], none⟩ :=
      (step_kid rfl).trans (opened_whole (st := ⟨[⟨[112, 58, 97], str s, bA, [⟨str s, bB, str v⟩], [], [⟨bP, str s⟩]⟩], none⟩) (by simp) rfl (elem_kidP s hne))
    have s3 : step ⟨[⟨[112, 58, 97], str s, bA, [⟨str s, bB, str v⟩], [.mk 0 (str s) bC [] [] ByteArray.empty], [⟨bP, str s⟩]⟩], none⟩ ⟨1, [112, 58, 97], [], false, []⟩ = .ok ⟨[], some (treePQ s v)⟩ := step_shut rfl rfl
    unfold tree toksP steps
    rw [s1]
    simp only
    unfold steps
    rw [s2]
    simp only
    unfold steps
    rw [s3]
    rfl
  · rw [if_neg hb] at e1 ⊢
    have s1 : step ⟨[], none⟩ ⟨0, [112, 58, 97], [([120, 109, 108, 110, 115, 58, 112], s), ([112, 58, 98], v)], false, []⟩ = .error 80 :=
      (step_root rfl).trans (opened_bad (st := ⟨[], none⟩) (by simp) e1)
    unfold tree toksP steps
    rw [s1]
theorem tree_docQ (s v : List UInt8) : tree (toksQ s v) = if P.bound bQ (str s) = true then .ok (treePQ s v) else .error 80 := by
  have e1 := elem_first (c := bQ) (ca := [113, 58, 97]) (n1 := [120, 109, 108, 110, 115, 58, 113]) (n2 := [113, 58, 98]) (s := s) (v := v) (by decide +kernel) (by decide +kernel) (by decide +kernel) (by decide) (by decide) (by decide)
  by_cases hb : P.bound bQ (str s) = true
  · rw [if_pos hb] at e1 ⊢
    have hb2 : P.bound ByteArray.empty (str s) = true := by
      rw [bound_plain (by decide) (by decide) (by decide)] at hb
      rw [bound_empty]
      simp only [Bool.and_eq_true, decide_eq_true_eq] at hb ⊢
      exact ⟨hb.1.2, hb.2⟩
    have s1 : step ⟨[], none⟩ ⟨0, [113, 58, 97], [([120, 109, 108, 110, 115, 58, 113], s), ([113, 58, 98], v)], false, []⟩ = .ok ⟨[⟨[113, 58, 97], str s, bA, [⟨str s, bB, str v⟩], [], [⟨bQ, str s⟩]⟩], none⟩ :=
      (step_root rfl).trans (opened_goes (st := ⟨[], none⟩) (by simp) rfl e1)
    have s2 : step ⟨[⟨[113, 58, 97], str s, bA, [⟨str s, bB, str v⟩], [], [⟨bQ, str s⟩]⟩], none⟩ ⟨0, [99], [([120, 109, 108, 110, 115], s)], false, []⟩ = .ok ⟨[⟨[99], str s, bC, [], [], [⟨bQ, str s⟩, ⟨ByteArray.empty, str s⟩]⟩, ⟨[113, 58, 97], str s, bA, [⟨str s, bB, str v⟩], [], [⟨bQ, str s⟩]⟩], none⟩ :=
      (step_kid rfl).trans (opened_goes (st := ⟨[⟨[113, 58, 97], str s, bA, [⟨str s, bB, str v⟩], [], [⟨bQ, str s⟩]⟩], none⟩) (by simp) rfl (elem_kidQ s hb2))
    have s3 : step ⟨[⟨[99], str s, bC, [], [], [⟨bQ, str s⟩, ⟨ByteArray.empty, str s⟩]⟩, ⟨[113, 58, 97], str s, bA, [⟨str s, bB, str v⟩], [], [⟨bQ, str s⟩]⟩], none⟩ ⟨1, [99], [], false, []⟩ = .ok ⟨[⟨[113, 58, 97], str s, bA, [⟨str s, bB, str v⟩], [.mk 0 (str s) bC [] [] ByteArray.empty], [⟨bQ, str s⟩]⟩], none⟩ := step_shut rfl rfl
    have s4 : step ⟨[⟨[113, 58, 97], str s, bA, [⟨str s, bB, str v⟩], [.mk 0 (str s) bC [] [] ByteArray.empty], [⟨bQ, str s⟩]⟩], none⟩ ⟨1, [113, 58, 97], [], false, []⟩ = .ok ⟨[], some (treePQ s v)⟩ := step_shut rfl rfl
    unfold tree toksQ steps
    rw [s1]
    simp only
    unfold steps
    rw [s2]
    simp only
    unfold steps
    rw [s3]
    simp only
    unfold steps
    rw [s4]
    rfl
  · rw [if_neg hb] at e1 ⊢
    have s1 : step ⟨[], none⟩ ⟨0, [113, 58, 97], [([120, 109, 108, 110, 115, 58, 113], s), ([113, 58, 98], v)], false, []⟩ = .error 80 :=
      (step_root rfl).trans (opened_bad (st := ⟨[], none⟩) (by simp) e1)
    unfold tree toksQ steps
    rw [s1]
/-- .. AND OF THE TEXTS. -/
theorem parse_unlike (s v : List UInt8) (hs : s.length ≤ 300) (hv : v.length ≤ 300) : parse (docP (E.escape true s) (E.escape true v)) = parse (docQ (E.escape true s) (E.escape true v)) := by
  have l1 := E.escape_six s
  have l2 := E.escape_six v
  by_cases hc : (G.check (E.escape true s) && G.check (E.escape true v)) = true
  · have t1 : T.tokens (docP (E.escape true s) (E.escape true v)) = .ok (toksP s v) := by
      rw [T.tokens_mk (by unfold docP; simp only [List.length_append, List.length_cons, List.length_nil]; omega) (by rw [check_docP, hc]), lines_docP (fun b h => (E.escape_bytes true s b h).2.2.1) (fun b h => (E.escape_bytes true v b h).2.2.1), run_docP]
    have t2 : T.tokens (docQ (E.escape true s) (E.escape true v)) = .ok (toksQ s v) := by
      rw [T.tokens_mk (by unfold docQ; simp only [List.length_append, List.length_cons, List.length_nil]; omega) (by rw [check_docQ, hc]), lines_docQ (fun b h => (E.escape_bytes true s b h).2.2.1) (fun b h => (E.escape_bytes true v b h).2.2.1), run_docQ]
    unfold parse
    rw [t1, t2]
    simp only
    rw [tree_docP, tree_docQ, bound_plain (p := bP) (by decide) (by decide) (by decide), bound_plain (p := bQ) (by decide) (by decide) (by decide)]
  · have c1 : G.check (docP (E.escape true s) (E.escape true v)) = false := by rw [check_docP]; simpa using hc
    have c2 : G.check (docQ (E.escape true s) (E.escape true v)) = false := by rw [check_docQ]; simpa using hc
    unfold parse T.tokens
    rw [if_neg (by unfold docP; simp only [List.length_append, List.length_cons, List.length_nil]; omega), if_pos c1, if_neg (by unfold docQ; simp only [List.length_append, List.length_cons, List.length_nil]; omega), if_pos c2]
end Gv
end Go.Proofs.YtegaidfmkfnbnaaGreatDoor
