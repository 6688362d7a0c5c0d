/-
  References in texts, in plain Lean: digits, numbers, what a reference's name is (named), expand, escape; and the laws: what is escaped is expanded as it was; two texts that are expanded are so together.
  Tokens in plain Lean, as the document has them; and that what is a token goes on being one, whatever stands behind it.
  Tokens in plain Lean: comments, characters, instructions, tags, the declaration; each goes on being one.
  Tokens in plain Lean: tags, texts, the declaration go on; so do all tokens of a text: the theorems of the layer.
  Tokens in plain Lean: all tokens of a text, and of two texts one behind the other: the theorems of the layer.
-/
import Derived.Test.YtcjlhdmekhifaaaGreatDoorD01
import Derived.Lib.RuneBytes
namespace Go.Proofs.YtcjlhdmekhifaaaGreatDoor
namespace E

def digit (c : UInt8) (base : Nat) : Option Nat :=
  let n := if 48 ≤ c.toNat ∧ c.toNat ≤ 57 then some (c.toNat - 48) else if 65 ≤ c.toNat ∧ c.toNat ≤ 70 then some (c.toNat - 55) else if 97 ≤ c.toNat ∧ c.toNat ≤ 102 then some (c.toNat - 87) else none
  n.bind fun k => if k < base then some k else none

def numGo (base : Nat) : Nat → List UInt8 → Option Nat
  | n, [] => some n
  | n, c :: t => (digit c base).bind fun d => numGo base (min (n * base + d) 1114112) t

/-- The code point that digits are. -/
def number (base : Nat) (l : List UInt8) : Option Nat :=
  if l = [] then none else (numGo base 0 l).bind fun n => if G.char n then some n else none

/-- What a reference's name is. -/
def named (l : List UInt8) : Option (List UInt8) :=
  if l = [108, 116] then some [60] else if l = [103, 116] then some [62] else if l = [97, 109, 112] then some [38] else if l = [113, 117, 111, 116] then some [34] else if l = [97, 112, 111, 115] then some [39]
  else if 2 < l.length ∧ l.take 2 = [35, 120] then (number 16 (l.drop 2)).map fun n => Lib.encodeRune n
  else if 1 < l.length ∧ l.take 1 = [35] then (number 10 (l.drop 1)).map fun n => Lib.encodeRune n
  else none

/-- What stands ahead of the first semicolon, and behind it. -/
def semi (t : List UInt8) : Option (List UInt8 × List UInt8) :=
  match t.drop (t.takeWhile (· ≠ 59)).length with
  | [] => none
  | _ :: r => some (t.takeWhile (· ≠ 59), r)

def blank (attr : Bool) (b : UInt8) : UInt8 := if attr && G.space b.toNat then 32 else b

def expandGo (attr : Bool) : Nat → List UInt8 → Option (List UInt8)
  | _, [] => some []
  | 0, _ :: _ => none
  | f + 1, b :: t =>
    if b = 38 then (semi t).bind fun x => (named x.1).bind fun u => (expandGo attr f x.2).map fun r => u ++ r
    else (expandGo attr f t).map fun r => blank attr b :: r

def expand (attr : Bool) (l : List UInt8) : Option (List UInt8) := expandGo attr l.length l

def esc (attr : Bool) (b : UInt8) : List UInt8 :=
  if b = 38 then [38, 97, 109, 112, 59] else if b = 60 then [38, 108, 116, 59] else if b = 62 then [38, 103, 116, 59] else if b = 13 then [38, 35, 120, 68, 59]
  else if attr = true ∧ b = 34 then [38, 113, 117, 111, 116, 59] else if attr = true ∧ b = 9 then [38, 35, 120, 57, 59] else if attr = true ∧ b = 10 then [38, 35, 120, 65, 59]
  else [b]

def escape (attr : Bool) (l : List UInt8) : List UInt8 := l.flatMap (esc attr)

/-! ### laws -/
theorem semi_le {t a r : List UInt8} (h : semi t = some (a, r)) : t = a ++ 59 :: r ∧ ∀ b ∈ a, b ≠ 59 := by
  unfold semi at h
  have hp : t.takeWhile (· ≠ 59) ++ t.dropWhile (· ≠ 59) = t := List.takeWhile_append_dropWhile
  have hd : t.drop (t.takeWhile (· ≠ 59)).length = t.dropWhile (· ≠ 59) := by
    have key : ∀ a d : List UInt8, a ++ d = t → t.drop a.length = d := by rintro a d rfl; simp
    exact key _ _ hp
  rw [hd] at h
  cases hq : t.dropWhile (· ≠ 59) with
  | nil => rw [hq] at h; cases h
  | cons c r' =>
    rw [hq] at h
    cases h
    have hc : c = 59 := by
      have := List.head?_dropWhile_not (· ≠ (59 : UInt8)) t
      rw [hq] at this
      simpa using this
    subst hc
    refine ⟨by rw [← hq, hp], fun b hb => ?_⟩
    have := List.all_takeWhile (l := t) (p := (· ≠ (59 : UInt8)))
    rw [List.all_eq_true] at this
    simpa using this b hb

theorem semi_mk (a r : List UInt8) (h : ∀ b ∈ a, b ≠ 59) : semi (a ++ 59 :: r) = some (a, r) := by
  have ht : (a ++ 59 :: r).takeWhile (· ≠ 59) = a := by
    rw [List.takeWhile_append_of_pos (by simpa using h)]
    simp
  unfold semi
  rw [ht]
  simp

theorem expandGo_fuel (attr : Bool) : ∀ f g l, l.length ≤ f → l.length ≤ g → expandGo attr f l = expandGo attr g l
  | _, _, [], _, _ => by simp [expandGo]
  | 0, _, _ :: _, h, _ => by simp at h
  | _ + 1, 0, _ :: _, _, h => by simp at h
  | f + 1, g + 1, b :: t, hf, hg => by
    simp only [List.length_cons] at hf hg
    unfold expandGo
    split
    · cases hs : semi t with
      | none => rfl
      | some x =>
        obtain ⟨a, r⟩ := x
        have := (semi_le hs).1
        have hl : r.length < t.length := by rw [this]; simp; omega
        simp only [Option.bind_some]
        rw [expandGo_fuel attr f g r (by omega) (by omega)]
    · rw [expandGo_fuel attr f g t (by omega) (by omega)]

theorem expand_nil (attr : Bool) : expand attr [] = some [] := rfl

theorem expand_ref (attr : Bool) (t : List UInt8) : expand attr (38 :: t) = (semi t).bind fun x => (named x.1).bind fun u => (expand attr x.2).map fun r => u ++ r := by
  unfold expand
  rw [List.length_cons, expandGo, if_pos rfl]
  cases hs : semi t with
  | none => rfl
  | some x =>
    obtain ⟨a, r⟩ := x
    have := (semi_le hs).1
    have hl : r.length < t.length := by rw [this]; simp; omega
    simp only [Option.bind_some]
    rw [expandGo_fuel attr t.length r.length r (by omega) (Nat.le_refl _)]

theorem expand_byte (attr : Bool) (b : UInt8) (t : List UInt8) (h : b ≠ 38) : expand attr (b :: t) = (expand attr t).map fun r => blank attr b :: r := by
  unfold expand
  rw [List.length_cons, expandGo, if_neg h]

end E
end Go.Proofs.YtcjlhdmekhifaaaGreatDoor
namespace Go.Proofs.YtcjlhdmekhifaaaGreatDoor
namespace T

structure Tok where
  kind : Nat
  name : List UInt8
  attrs : List (List UInt8 × List UInt8)
  alone : Bool
  data : List UInt8
  deriving DecidableEq

/-! ### pieces -/
def begins (p l : List UInt8) : Bool := p.isPrefixOf l
def skip (l : List UInt8) : List UInt8 := l.dropWhile (fun b => G.space (b.toNat : Int))
def lower (c : UInt8) : UInt8 := if 65 ≤ c.toNat ∧ c.toNat ≤ 90 then c + 32 else c

/-- What stands ahead of the first such text, and behind it. -/
def cutAt (p : List UInt8) : List UInt8 → Option (List UInt8 × List UInt8)
  | [] => none
  | b :: t => if begins p (b :: t) then some ([], (b :: t).drop p.length) else (cutAt p t).map fun x => (b :: x.1, x.2)

def nameAt (l : List UInt8) : Option (List UInt8 × List UInt8) := if G.name l = 0 then none else some (l.take (G.name l), l.drop (G.name l))

theorem begins_iff {p l : List UInt8} : begins p l = true ↔ ∃ t, p ++ t = l := List.isPrefixOf_iff_prefix
theorem begins_append {p l : List UInt8} (h : begins p l = true) (u : List UInt8) : begins p (l ++ u) = true := by
  obtain ⟨t, rfl⟩ := begins_iff.1 h
  exact begins_iff.2 ⟨t ++ u, by simp⟩
theorem begins_drop {p l : List UInt8} (h : begins p l = true) (u : List UInt8) : (l ++ u).drop p.length = l.drop p.length ++ u := by
  obtain ⟨t, rfl⟩ := begins_iff.1 h
  simp
/-- A text that is as long begins as it did. -/
theorem begins_long {p l : List UInt8} (h : p.length ≤ l.length) (u : List UInt8) : begins p (l ++ u) = begins p l := by
  cases hb : begins p l with
  | true => exact begins_append hb u
  | false =>
    cases hc : begins p (l ++ u) with
    | false => rfl
    | true =>
      obtain ⟨t, ht⟩ := begins_iff.1 hc
      have : begins p l = true := by
        refine begins_iff.2 ⟨l.drop p.length, ?_⟩
        have e3 : l.take p.length ++ l.drop p.length = l := List.take_append_drop _ _
        have e := congrArg (List.take l.length) ht
        rw [List.take_left] at e
        have e2 := congrArg (List.take p.length) e
        rw [List.take_take, Nat.min_eq_left h, List.take_left] at e2
        rwa [← e2] at e3
      rw [this] at hb; cases hb
/-- .. one that is shorter is its head. -/
theorem begins_short {p l u : List UInt8} (h : begins p l = false) (h2 : begins p (l ++ u) = true) : l = p.take l.length ∧ l.length < p.length := by
  have hlen : l.length < p.length := by
    rcases Nat.lt_or_ge l.length p.length with h' | h'
    · exact h'
    · rw [begins_long h' u, h] at h2; cases h2
  obtain ⟨t, ht⟩ := begins_iff.1 h2
  have e := congrArg (List.take l.length) ht
  rw [List.take_left, List.take_append_of_le_length (by omega)] at e
  exact ⟨e.symm, hlen⟩

theorem cutAt_eq {p : List UInt8} : ∀ {l a r : List UInt8}, cutAt p l = some (a, r) → l = a ++ p ++ r
  | [], _, _, h => by cases h
  | b :: t, a, r, h => by
    unfold cutAt at h
    split at h
    · rename_i hb
      obtain ⟨x, hx⟩ := begins_iff.1 hb
      cases h
      rw [← hx]; simp
    · cases hc : cutAt p t with
      | none => rw [hc] at h; cases h
      | some y =>
        rw [hc] at h
        cases h
        rw [cutAt_eq hc]
        simp
theorem cutAt_append {p : List UInt8} (u : List UInt8) : ∀ {l a r : List UInt8}, cutAt p l = some (a, r) → cutAt p (l ++ u) = some (a, r ++ u)
  | [], _, _, h => by cases h
  | b :: t, a, r, h => by
    rw [List.cons_append]
    unfold cutAt at h ⊢
    split at h
    · rename_i hb
      cases h
      rw [← List.cons_append, if_pos (begins_append hb u), begins_drop hb u]
    · rename_i hb
      cases hc : cutAt p t with
      | none => rw [hc] at h; cases h
      | some y =>
        rw [hc] at h
        cases h
        have hl := congrArg List.length (cutAt_eq (a := y.1) (r := y.2) hc)
        simp only [List.length_append] at hl
        have hn : begins p (b :: (t ++ u)) = false := by
          rw [← List.cons_append, begins_long (by rw [List.length_cons]; omega)]
          simpa using hb
        rw [hn, cutAt_append u (a := y.1) (r := y.2) hc]
        rfl

theorem skip_append {l : List UInt8} (h : skip l ≠ []) (u : List UInt8) : skip (l ++ u) = skip l ++ u := by
  unfold skip at *
  rw [List.dropWhile_append]
  rw [if_neg (by simpa using h)]
theorem skip_le (l : List UInt8) : (skip l).length ≤ l.length := (List.dropWhile_sublist _).length_le
/-- A text ahead of whose space something stands begins with that, or with space. -/
theorem skip_head (b : UInt8) (t : List UInt8) : skip (b :: t) = if G.space (b.toNat : Int) then skip t else b :: t := by
  unfold skip
  rw [List.dropWhile_cons]
theorem space_ascii {b : UInt8} (h : G.space (b.toNat : Int) = true) : b.toNat < 128 := by
  simp [G.space] at h
  omega
/-- the head's byte is ASCII, if what stands behind space is so. -/
theorem skip_ascii {l : List UInt8} {c : UInt8} {t : List UInt8} (h : skip l = c :: t) (hc : c.toNat < 128) : ∃ d r, l = d :: r ∧ d.toNat < 128 := by
  cases l with
  | nil => cases h
  | cons b r =>
    refine ⟨b, r, rfl, ?_⟩
    rw [skip_head] at h
    cases hs : G.space (b.toNat : Int) with
    | true => exact space_ascii hs
    | false =>
      rw [hs] at h
      simp at h
      rw [h.1]; exact hc

theorem nameAt_append {l n r : List UInt8} (h : nameAt l = some (n, r)) {c : UInt8} {t : List UInt8} (hr : r = c :: t) (hc : c.toNat < 128) (u : List UInt8) : nameAt (l ++ u) = some (n, r ++ u) := by
  unfold nameAt at h
  split at h
  · cases h
  · rename_i h0
    cases h
    have hrest := G.name_rest l h0
    rw [hr, G.first_ascii c t hc] at hrest
    have hp : G.part (c.toNat : Int) = false := by
      rcases hrest with h' | h'
      · cases h'
      · exact h'
    have hy : (G.first (l.drop (G.name l) ++ u)).2 = 0 ∨ G.part (G.first (l.drop (G.name l) ++ u)).1 = false := by
      rw [hr, List.cons_append, G.first_ascii c _ hc]
      exact .inr hp
    have hn := G.name_append h0 _ hy
    rw [← List.append_assoc, List.take_append_drop] at hn
    have hle := G.name_le l
    unfold nameAt
    rw [hn, if_neg h0, List.take_append_of_le_length hle, List.drop_append_of_le_length hle]
theorem nameAt_le {l n r : List UInt8} (h : nameAt l = some (n, r)) : r.length < l.length := by
  unfold nameAt at h
  split at h
  · cases h
  · rename_i h0
    cases h
    have := G.name_le l
    rw [List.length_drop]; omega
end T
end Go.Proofs.YtcjlhdmekhifaaaGreatDoor
namespace Go.Proofs.YtcjlhdmekhifaaaGreatDoor
namespace T

/-- A part of a document, and what stands behind it; or an error's number. -/
abbrev Got := Except Nat (Tok × List UInt8)

def comment (l : List UInt8) : Got :=
  match cutAt [45, 45] l with
  | some (a, 62 :: r) => .ok (⟨3, [], [], false, a⟩, r)
  | _ => .error 70
def cdata (l : List UInt8) : Got :=
  match cutAt [93, 93, 62] l with
  | some (a, r) => .ok (⟨2, [], [], true, a⟩, r)
  | none => .error 70
def spaced (a : List UInt8) : Bool := match a with | [] => true | b :: _ => G.space (b.toNat : Int)
def pi (l : List UInt8) : Got :=
  match nameAt l with
  | none => .error 70
  | some (n, rest) =>
    if n.map lower = [120, 109, 108] then .error 70
    else match cutAt [63, 62] rest with
      | none => .error 70
      | some (a, r) => if spaced a then .ok (⟨4, n, [], false, skip a⟩, r) else .error 70
def quoted (l : List UInt8) : Option (List UInt8 × List UInt8) :=
  match l with
  | [] => none
  | q :: t => if q = 34 ∨ q = 39 then cutAt [q] t else none
def attr (l : List UInt8) : Except Nat ((List UInt8 × List UInt8) × List UInt8) :=
  match nameAt l with
  | none => .error 70
  | some (n, rest) =>
    match skip rest with
    | 61 :: t =>
      match quoted (skip t) with
      | none => .error 70
      | some (q, r) => if 60 ∈ q then .error 70 else match E.expand true q with | none => .error 60 | some v => .ok ((n, v), r)
    | _ => .error 70
def openGo : Nat → List UInt8 → List (List UInt8 × List UInt8) → List UInt8 → Got
  | 0, _, _, _ => .error 70
  | f + 1, n, ps, rest =>
    match skip rest with
    | 62 :: r => .ok (⟨0, n, ps, false, []⟩, r)
    | 47 :: 62 :: r => .ok (⟨0, n, ps, true, []⟩, r)
    | next =>
      if next.length = rest.length then .error 70
      else match attr next with
        | .error e => .error e
        | .ok (a, more) => if ps.any (fun x => decide (x.1 = a.1)) then .error 71 else openGo f n (ps ++ [a]) more
def opened (l : List UInt8) : Got :=
  match nameAt l with
  | none => .error 70
  | some (n, rest) => openGo (rest.length + 1) n [] rest
def shut (l : List UInt8) : Got :=
  match nameAt l with
  | none => .error 70
  | some (n, rest) => match skip rest with | 62 :: r => .ok (⟨1, n, [], false, []⟩, r) | _ => .error 70
def text (l : List UInt8) : Got :=
  if (cutAt [93, 93, 62] (l.takeWhile (· ≠ 60))).isSome then .error 70
  else match E.expand false (l.takeWhile (· ≠ 60)) with
    | none => .error 60
    | some d => .ok (⟨2, [], [], decide (38 ∈ l.takeWhile (· ≠ 60)), d⟩, l.dropWhile (· ≠ 60))
def word (l name : List UInt8) : Option (List UInt8 × List UInt8) :=
  if (skip l).length = l.length then none
  else if begins name (skip l) then
    match skip ((skip l).drop name.length) with
    | 61 :: t => quoted (skip t)
    | _ => none
  else none
def version (l : List UInt8) : Bool := begins [49, 46] l && decide (3 ≤ l.length) && (l.drop 2).all (fun b => decide (48 ≤ b.toNat ∧ b.toNat ≤ 57))
def encoding (l : List UInt8) : Option (List UInt8) :=
  match word l [101, 110, 99, 111, 100, 105, 110, 103] with
  | none => some l
  | some (v, more) => if v.map lower = [117, 116, 102, 45, 56] then some more else none
def standalone (l : List UInt8) : Option (List UInt8) :=
  match word l [115, 116, 97, 110, 100, 97, 108, 111, 110, 101] with
  | none => some l
  | some (v, more) => if v = [121, 101, 115] ∨ v = [110, 111] then some more else none
def declEnd (l : List UInt8) : Got := match skip l with | 63 :: 62 :: r => .ok (⟨5, [], [], false, []⟩, r) | _ => .error 70
def decl (l : List UInt8) : Got :=
  match word l [118, 101, 114, 115, 105, 111, 110] with
  | none => .error 70
  | some (v, rest) =>
    if version v then
      match encoding rest with
      | none => .error 70
      | some rest => match standalone rest with | none => .error 70 | some rest => declEnd rest
    else .error 70

/-- Is it the declaration's head? -/
def declares (l : List UInt8) : Bool := begins [60, 63, 120, 109, 108] l && (match l.drop 5 with | [] => false | b :: _ => G.space (b.toNat : Int))
def next (first : Bool) (l : List UInt8) : Got :=
  if first && declares l then decl (l.drop 5)
  else if begins [60, 33, 45, 45] l then comment (l.drop 4)
  else if begins [60, 33, 91, 67, 68, 65, 84, 65, 91] l then cdata (l.drop 9)
  else if begins [60, 33, 68, 79, 67, 84, 89, 80, 69] l then .error 72
  else if begins [60, 33] l then .error 70
  else if begins [60, 63] l then pi (l.drop 2)
  else if begins [60, 47] l then shut (l.drop 2)
  else if begins [60] l then opened (l.drop 1)
  else text l

def go : Nat → Bool → List UInt8 → Except Nat (List Tok)
  | _, _, [] => .ok []
  | 0, _, _ :: _ => .error 70
  | f + 1, first, l => match next first l with | .error e => .error e | .ok (t, r) => match go f false r with | .error e => .error e | .ok ts => .ok (t :: ts)

/-- THE TOKENS of a text. -/
def tokens (l : List UInt8) : Except Nat (List Tok) :=
  if 100000 < l.length then .error 2 else if G.check l = false then .error 50 else go (G.lines l).length true (G.lines l)

/-! ### each goes on -/
theorem comment_append {l r : List UInt8} {t : Tok} (h : comment l = .ok (t, r)) (u : List UInt8) : comment (l ++ u) = .ok (t, r ++ u) ∧ r.length < l.length ∧ t.kind = 3 := by
  unfold comment at h
  split at h
  · rename_i a r' hc
    cases h
    unfold comment
    rw [cutAt_append u hc]
    have := congrArg List.length (cutAt_eq hc)
    simp at this
    exact ⟨rfl, by omega, rfl⟩
  · cases h
theorem cdata_append {l r : List UInt8} {t : Tok} (h : cdata l = .ok (t, r)) (u : List UInt8) : cdata (l ++ u) = .ok (t, r ++ u) ∧ r.length < l.length ∧ t.kind = 2 := by
  unfold cdata at h
  split at h
  · rename_i a r' hc
    cases h
    unfold cdata
    rw [cutAt_append u hc]
    have := congrArg List.length (cutAt_eq hc)
    simp at this
    exact ⟨rfl, by omega, rfl⟩
  · cases h
theorem spaced_head {a r : List UInt8} (h : spaced a = true) : ∃ c t, a ++ [63, 62] ++ r = c :: t ∧ c.toNat < 128 := by
  cases a with
  | nil => exact ⟨63, 62 :: r, rfl, by decide⟩
  | cons b a => exact ⟨b, a ++ [63, 62] ++ r, by simp, space_ascii h⟩
theorem pi_append {l r : List UInt8} {t : Tok} (h : pi l = .ok (t, r)) (u : List UInt8) : pi (l ++ u) = .ok (t, r ++ u) ∧ r.length < l.length ∧ t.kind = 4 := by
  unfold pi at h
  split at h
  · cases h
  · rename_i n rest hn
    split at h
    · cases h
    · rename_i hx
      split at h
      · cases h
      · rename_i a r' hc
        split at h
        · rename_i hs
          cases h
          have he := cutAt_eq hc
          obtain ⟨c, t, ht, hcl⟩ := spaced_head (r := r) hs
          have hn2 := nameAt_append hn (he.trans ht) hcl u
          unfold pi
          rw [hn2]
          simp only []
          rw [if_neg hx, cutAt_append u hc]
          simp only []
          rw [if_pos hs]
          have h1 := congrArg List.length he
          have h2 := nameAt_le hn
          simp at h1
          exact ⟨rfl, by omega, by first | rfl | trivial⟩
        · cases h
theorem quoted_append {l a r : List UInt8} (h : quoted l = some (a, r)) (u : List UInt8) : quoted (l ++ u) = some (a, r ++ u) ∧ r.length < l.length := by
  cases l with
  | nil => cases h
  | cons q t =>
    unfold quoted at h
    simp only at h
    split at h
    · rename_i hq
      rw [List.cons_append]
      unfold quoted
      simp only
      rw [if_pos hq, cutAt_append u h]
      have := congrArg List.length (cutAt_eq h)
      simp at this
      exact ⟨rfl, by rw [List.length_cons]; omega⟩
    · cases h
theorem skip_ne {l : List UInt8} {c : UInt8} {t : List UInt8} (h : skip l = c :: t) : skip l ≠ [] := by rw [h]; simp
theorem quoted_skip {l a r : List UInt8} (h : quoted (skip l) = some (a, r)) (u : List UInt8) : quoted (skip (l ++ u)) = some (a, r ++ u) ∧ r.length < l.length := by
  have hne : skip l ≠ [] := by intro e; rw [e] at h; cases h
  have := quoted_append h u
  have h2 := skip_le l
  rw [skip_append hne]
  exact ⟨this.1, by omega⟩
theorem attr_append {l r : List UInt8} {a : List UInt8 × List UInt8} (h : attr l = .ok (a, r)) (u : List UInt8) : attr (l ++ u) = .ok (a, r ++ u) ∧ r.length < l.length := by
  unfold attr at h
  split at h
  · cases h
  · rename_i n rest hn
    split at h
    · rename_i t ht
      split at h
      · cases h
      · rename_i q r' hq
        split at h
        · cases h
        · rename_i h60
          split at h
          · cases h
          · rename_i v hv
            cases h
            obtain ⟨d, x, hd, hdl⟩ := skip_ascii ht (by decide)
            have hn2 := nameAt_append hn hd hdl u
            obtain ⟨q1, q2⟩ := quoted_skip hq u
            unfold attr
            rw [hn2]
            simp only []
            rw [skip_append (skip_ne ht), ht, List.cons_append]
            simp only []
            rw [q1]
            simp only []
            rw [if_neg h60, hv]
            have h1 := nameAt_le hn
            have h2 := skip_le rest
            rw [ht, List.length_cons] at h2
            exact ⟨rfl, by omega⟩
    · cases h
end T
end Go.Proofs.YtcjlhdmekhifaaaGreatDoor
namespace Go.Proofs.YtcjlhdmekhifaaaGreatDoor
namespace T

theorem openGo_append (u : List UInt8) : ∀ (f g : Nat) (n : List UInt8) (ps : List (List UInt8 × List UInt8)) (l : List UInt8) (t : Tok) (r : List UInt8), f ≤ g → openGo f n ps l = .ok (t, r) → openGo g n ps (l ++ u) = .ok (t, r ++ u) ∧ r.length < l.length ∧ t.kind = 0
  | 0, _, _, _, _, _, _, _, h => by cases h
  | f + 1, 0, _, _, _, _, _, hg, _ => by omega
  | f + 1, g + 1, n, ps, l, t, r, hg, h => by
    unfold openGo at h ⊢
    split at h
    · rename_i r' hs
      cases h
      rw [skip_append (skip_ne hs), hs]
      have h2 := skip_le l
      rw [hs, List.length_cons] at h2
      exact ⟨rfl, by omega, rfl⟩
    · rename_i r' hs
      cases h
      rw [skip_append (skip_ne hs), hs]
      have h2 := skip_le l
      rw [hs, List.length_cons, List.length_cons] at h2
      exact ⟨rfl, by omega, rfl⟩
    · rename_i next h1 h2
      split at h
      · cases h
      · rename_i hlen
        split at h
        · cases h
        · rename_i a more ha
          split at h
          · cases h
          · rename_i hany
            have hne : skip l ≠ [] := by intro e; rw [e] at ha; cases ha
            obtain ⟨a1, a2⟩ := attr_append ha u
            obtain ⟨o1, o2, o3⟩ := openGo_append u f g n (ps ++ [a]) more t r (by omega) h
            have hsl := skip_le l
            rw [skip_append hne]
            have e1 : ∀ x, skip l ++ u = 62 :: x → False := fun x e => by
              cases hs : skip l with
              | nil => exact hne hs
              | cons b y => rw [hs] at e; cases e; exact h1 y hs
            have e2 : ∀ x, skip l ++ u = 47 :: 62 :: x → False := fun x e => by
              cases hs : skip l with
              | nil => exact hne hs
              | cons b y =>
                rw [hs, List.cons_append, List.cons.injEq] at e
                obtain ⟨rfl, e⟩ := e
                cases y with
                | nil =>
                  rw [hs] at ha
                  exact absurd ha (by rw [show attr [47] = .error 70 by rfl]; simp)
                | cons c z =>
                  rw [List.cons_append, List.cons.injEq] at e
                  obtain ⟨rfl, _⟩ := e
                  exact h2 z hs
            split
            · rename_i x e; exact (e1 x e).elim
            · rename_i x e; exact (e2 x e).elim
            · rw [if_neg (by rw [List.length_append, List.length_append]; omega), a1]
              simp only []
              rw [if_neg hany]
              exact ⟨o1, by omega, o3⟩

theorem openGo_head : ∀ (f : Nat) (n : List UInt8) (ps : List (List UInt8 × List UInt8)) (l : List UInt8) (t : Tok) (r : List UInt8), openGo f n ps l = .ok (t, r) → ∃ c x, l = c :: x ∧ c.toNat < 128
  | 0, _, _, _, _, _, h => by cases h
  | f + 1, n, ps, l, t, r, h => by
    unfold openGo at h
    split at h
    · rename_i r' hs; exact skip_ascii hs (by decide)
    · rename_i r' hs; exact skip_ascii hs (by decide)
    · split at h
      · cases h
      · rename_i hlen
        cases l with
        | nil => exact absurd rfl hlen
        | cons b x =>
          refine ⟨b, x, rfl, ?_⟩
          rw [skip_head] at hlen
          cases hs : G.space (b.toNat : Int) with
          | true => exact space_ascii hs
          | false => rw [hs] at hlen; exact absurd rfl hlen

theorem opened_append {l r : List UInt8} {t : Tok} (h : opened l = .ok (t, r)) (u : List UInt8) : opened (l ++ u) = .ok (t, r ++ u) ∧ r.length < l.length ∧ t.kind = 0 := by
  unfold opened at h
  split at h
  · cases h
  · rename_i n rest hn
    obtain ⟨c, x, hc, hcl⟩ := openGo_head _ _ _ _ _ _ h
    have hn2 := nameAt_append hn hc hcl u
    obtain ⟨o1, o2, o3⟩ := openGo_append u _ ((rest ++ u).length + 1) _ _ _ _ _ (by simp) h
    have h1 := nameAt_le hn
    unfold opened
    rw [hn2]
    exact ⟨o1, by omega, o3⟩

theorem shut_append {l r : List UInt8} {t : Tok} (h : shut l = .ok (t, r)) (u : List UInt8) : shut (l ++ u) = .ok (t, r ++ u) ∧ r.length < l.length ∧ t.kind = 1 := by
  unfold shut at h
  split at h
  · cases h
  · rename_i n rest hn
    split at h
    · rename_i r' hs
      cases h
      obtain ⟨c, x, hc, hcl⟩ := skip_ascii hs (by decide)
      have hn2 := nameAt_append hn hc hcl u
      unfold shut
      rw [hn2]
      simp only []
      rw [skip_append (skip_ne hs), hs, List.cons_append]
      have h1 := nameAt_le hn
      have h2 := skip_le rest
      rw [hs, List.length_cons] at h2
      exact ⟨rfl, by omega, by first | rfl | trivial⟩
    · cases h

theorem takeWhile_append_ne {l : List UInt8} (h : l.dropWhile (· ≠ (60 : UInt8)) ≠ []) (u : List UInt8) : (l ++ u).takeWhile (· ≠ (60 : UInt8)) = l.takeWhile (· ≠ 60) ∧ (l ++ u).dropWhile (· ≠ (60 : UInt8)) = l.dropWhile (· ≠ 60) ++ u := by
  induction l with
  | nil => exact absurd rfl h
  | cons b t ih =>
    by_cases hb : b = 60
    · subst hb; simp
    · rw [List.dropWhile_cons_of_pos (by simpa using hb)] at h
      obtain ⟨i1, i2⟩ := ih h
      rw [List.cons_append, List.takeWhile_cons_of_pos (by simpa using hb), List.takeWhile_cons_of_pos (by simpa using hb), List.dropWhile_cons_of_pos (by simpa using hb), List.dropWhile_cons_of_pos (by simpa using hb), i1, i2]
      exact ⟨rfl, rfl⟩
theorem takeWhile_append_stop {l : List UInt8} (h : l.dropWhile (· ≠ (60 : UInt8)) = []) {u : List UInt8} (hu : u = [] ∨ u.head? = some 60) : (l ++ u).takeWhile (· ≠ (60 : UInt8)) = l.takeWhile (· ≠ 60) ∧ (l ++ u).dropWhile (· ≠ (60 : UInt8)) = u := by
  induction l with
  | nil =>
    rcases hu with rfl | hu
    · exact ⟨rfl, rfl⟩
    · cases u with
      | nil => cases hu
      | cons c x =>
        simp at hu
        subst hu
        simp
  | cons b t ih =>
    by_cases hb : b = 60
    · subst hb; simp at h
    · rw [List.dropWhile_cons_of_pos (by simpa using hb)] at h
      obtain ⟨i1, i2⟩ := ih h
      rw [List.cons_append, List.takeWhile_cons_of_pos (by simpa using hb), List.takeWhile_cons_of_pos (by simpa using hb), List.dropWhile_cons_of_pos (by simpa using hb), i1, i2]
      exact ⟨rfl, rfl⟩

theorem text_append {l r : List UInt8} {t : Tok} (h : text l = .ok (t, r)) (u : List UInt8) (hu : r ≠ [] ∨ u = [] ∨ u.head? = some 60) : text (l ++ u) = .ok (t, r ++ u) ∧ t.kind = 2 ∧ r = l.dropWhile (· ≠ 60) := by
  unfold text at h
  split at h
  · cases h
  · rename_i hc
    split at h
    · cases h
    · rename_i d hd
      cases h
      unfold text
      by_cases hr : l.dropWhile (· ≠ (60 : UInt8)) = []
      · obtain ⟨e1, e2⟩ := takeWhile_append_stop hr (hu.resolve_left (fun x => x hr))
        rw [e1, e2, if_neg hc, hd, hr]
        exact ⟨rfl, rfl, rfl⟩
      · obtain ⟨e1, e2⟩ := takeWhile_append_ne hr u
        rw [e1, e2, if_neg hc, hd]
        exact ⟨rfl, rfl, rfl⟩

theorem word_append {l n a r : List UInt8} (h : word l n = some (a, r)) (hn : n ≠ []) (u : List UInt8) : word (l ++ u) n = some (a, r ++ u) ∧ r.length < l.length := by
  unfold word at h
  split at h
  · cases h
  · rename_i hlen
    split at h
    · rename_i hb
      split at h
      · rename_i t ht
        have hne : skip l ≠ [] := by
          intro e
          rw [e] at hb
          obtain ⟨x, hx⟩ := begins_iff.1 hb
          cases n with
          | nil => exact hn rfl
          | cons => cases hx
        obtain ⟨q1, q2⟩ := quoted_skip h u
        have h1 := skip_le l
        have h2 := skip_le ((skip l).drop n.length)
        rw [ht, List.length_cons, List.length_drop] at h2
        unfold word
        rw [skip_append hne, if_neg (by rw [List.length_append, List.length_append]; omega), if_pos (begins_append hb u), begins_drop hb u, skip_append (skip_ne ht), ht, List.cons_append]
        simp only []
        exact ⟨q1, by omega⟩
      · cases h
    · cases h
/-- where the declaration ends no word begins. -/
theorem word_end {l : List UInt8} {r : List UInt8} (h : skip l = 63 :: r) {c : UInt8} {n : List UInt8} (hc : c ≠ 63) : word l (c :: n) = none := by
  unfold word
  split
  · rfl
  · rw [if_neg]
    rw [h]
    intro e
    obtain ⟨x, hx⟩ := begins_iff.1 e
    cases hx
    exact hc rfl
theorem declEnd_append {l r : List UInt8} {t : Tok} (h : declEnd l = .ok (t, r)) (u : List UInt8) : declEnd (l ++ u) = .ok (t, r ++ u) ∧ r.length < l.length ∧ t = ⟨5, [], [], false, []⟩ ∧ ∃ y, skip l = 63 :: y := by
  unfold declEnd at h
  split at h
  · rename_i r' hs
    cases h
    unfold declEnd
    rw [skip_append (skip_ne hs), hs]
    have h2 := skip_le l
    rw [hs, List.length_cons, List.length_cons] at h2
    exact ⟨rfl, by omega, rfl, _, rfl⟩
  · cases h
theorem standalone_append {l m r : List UInt8} {t : Tok} (h : standalone l = some m) (he : declEnd m = .ok (t, r)) (u : List UInt8) : standalone (l ++ u) = some (m ++ u) ∧ m.length ≤ l.length := by
  unfold standalone at h
  split at h
  · rename_i hw
    cases h
    obtain ⟨_, _, _, y, hy⟩ := declEnd_append he u
    unfold standalone
    rw [word_end (r := y ++ u) (by rw [skip_append (skip_ne hy), hy]; rfl) (by decide)]
    exact ⟨rfl, Nat.le_refl _⟩
  · rename_i v more hw
    split at h
    · rename_i hv
      cases h
      obtain ⟨w1, w2⟩ := word_append hw (by decide) u
      unfold standalone
      rw [w1]
      simp only []
      rw [if_pos hv]
      exact ⟨rfl, by omega⟩
    · cases h
end T
end Go.Proofs.YtcjlhdmekhifaaaGreatDoor
namespace Go.Proofs.YtcjlhdmekhifaaaGreatDoor
namespace T

theorem word_head {l a r : List UInt8} {c : UInt8} {n : List UInt8} (h : word l (c :: n) = some (a, r)) : ∃ y, skip l = c :: y := by
  unfold word at h
  split at h
  · cases h
  · split at h
    · rename_i hb
      obtain ⟨x, hx⟩ := begins_iff.1 hb
      exact ⟨n ++ x, hx.symm⟩
    · cases h
theorem word_other {l : List UInt8} {d : UInt8} {r : List UInt8} (h : skip l = d :: r) {c : UInt8} {n : List UInt8} (hc : c ≠ d) : word l (c :: n) = none := by
  unfold word
  split
  · rfl
  · rw [if_neg]
    rw [h]
    intro e
    obtain ⟨x, hx⟩ := begins_iff.1 e
    cases hx
    exact hc rfl
theorem standalone_head {l m r : List UInt8} {t : Tok} (h : standalone l = some m) (he : declEnd m = .ok (t, r)) : ∃ d y, skip l = d :: y ∧ (101 : UInt8) ≠ d := by
  unfold standalone at h
  split at h
  · cases h
    obtain ⟨_, _, _, y, hy⟩ := declEnd_append he []
    exact ⟨63, y, hy, by decide⟩
  · rename_i v more hw
    obtain ⟨y, hy⟩ := word_head hw
    exact ⟨115, y, hy, by decide⟩
theorem encoding_append {l m k r : List UInt8} {t : Tok} (h : encoding l = some m) (hs : standalone m = some k) (he : declEnd k = .ok (t, r)) (u : List UInt8) : encoding (l ++ u) = some (m ++ u) ∧ m.length ≤ l.length := by
  unfold encoding at h
  split at h
  · cases h
    obtain ⟨d, y, hy, hd⟩ := standalone_head hs he
    unfold encoding
    rw [word_other (d := d) (r := y ++ u) (by rw [skip_append (skip_ne hy), hy]; rfl) hd]
    exact ⟨rfl, Nat.le_refl _⟩
  · rename_i v more hw
    split at h
    · rename_i hv
      cases h
      obtain ⟨w1, w2⟩ := word_append hw (by decide) u
      unfold encoding
      rw [w1]
      simp only []
      rw [if_pos hv]
      exact ⟨rfl, by omega⟩
    · cases h
theorem decl_append {l r : List UInt8} {t : Tok} (h : decl l = .ok (t, r)) (u : List UInt8) : decl (l ++ u) = .ok (t, r ++ u) ∧ r.length < l.length ∧ t = ⟨5, [], [], false, []⟩ := by
  unfold decl at h
  split at h
  · cases h
  · rename_i v rest hw
    split at h
    · rename_i hv
      split at h
      · cases h
      · rename_i m hm
        split at h
        · cases h
        · rename_i k hk
          obtain ⟨w1, w2⟩ := word_append hw (by decide) u
          obtain ⟨e1, e2⟩ := encoding_append hm hk h u
          obtain ⟨s1, s2⟩ := standalone_append hk h u
          obtain ⟨d1, d2, d3, _⟩ := declEnd_append h u
          unfold decl
          rw [w1]
          simp only []
          rw [if_pos hv, e1]
          simp only []
          rw [s1]
          simp only []
          rw [d1]
          exact ⟨rfl, by omega, d3⟩
    · cases h

def isOk : Got → Bool | .ok _ => true | .error _ => false

/-- heads of what a part begins with are no parts. -/
theorem heads_no : ∀ first : Bool, ∀ k, k < 10 →
    (isOk (next first ([60, 63, 120, 109, 108].take k)) = false ∨ k = 0) ∧ (isOk (next first ([60, 33, 45, 45].take (min k 3))) = false ∨ k = 0) ∧
    (isOk (next first ([60, 33, 91, 67, 68, 65, 84, 65, 91].take (min k 8))) = false ∨ k = 0) ∧ (isOk (next first ([60, 33, 68, 79, 67, 84, 89, 80, 69].take (min k 8))) = false ∨ k = 0) ∧
    (isOk (next first ([60, 33].take (min k 1))) = false ∨ k = 0) ∧ (isOk (next first ([60, 63].take (min k 1))) = false ∨ k = 0) ∧ (isOk (next first ([60, 47].take (min k 1))) = false ∨ k = 0) := by
  decide +kernel

/-- what a part begins with it begins with, whatever stands behind. -/
theorem begins_same {p l u : List UInt8} (hl : l ≠ []) (hno : ∀ k, k < p.length → k ≠ 0 → l ≠ p.take k) : begins p (l ++ u) = begins p l := by
  cases hb : begins p l with
  | true => exact begins_append hb u
  | false =>
    cases hc : begins p (l ++ u) with
    | false => rfl
    | true =>
      obtain ⟨e, hlt⟩ := begins_short hb hc
      exact absurd e (hno _ hlt (fun h => hl (List.length_eq_zero_iff.1 h)))

theorem not_head {first : Bool} {l : List UInt8} {x : Tok × List UInt8} (h : next first l = .ok x) {p : List UInt8} {k : Nat} (hk : isOk (next first (p.take k)) = false ∨ k = 0) (h0 : k ≠ 0) : l ≠ p.take k := by
  intro e
  rcases hk with hk | hk
  · rw [← e, h] at hk; cases hk
  · exact h0 hk

theorem declares_same {first : Bool} {l : List UInt8} {x : Tok × List UInt8} (h : next first l = .ok x) (hl : l ≠ []) (u : List UInt8) : declares (l ++ u) = declares l := by
  unfold declares
  rw [begins_same (p := [60, 63, 120, 109, 108]) hl (fun k hk h0 => not_head h (heads_no first k (by simp at hk; omega)).1 h0)]
  by_cases hlen : 5 < l.length
  · rw [List.drop_append_of_le_length (by omega)]
    cases hd : l.drop 5 with
    | nil =>
      have := congrArg List.length hd
      rw [List.length_drop] at this
      simp at this
      omega
    | cons b y => rfl
  · cases hb : begins [60, 63, 120, 109, 108] l with
    | false => rfl
    | true =>
      exfalso
      obtain ⟨y, hy⟩ := begins_iff.1 hb
      have hy0 : y = [] := by
        have := congrArg List.length hy
        simp at this
        exact List.length_eq_zero_iff.1 (by omega)
      subst hy0
      have hh := (heads_no first 5 (by decide)).1
      have e : l = [60, 63, 120, 109, 108].take 5 := hy.symm
      exact not_head h hh (by decide) e

theorem dropped_le {p l : List UInt8} (h : begins p l = true) : (l.drop p.length).length + p.length = l.length := by
  obtain ⟨y, rfl⟩ := begins_iff.1 h
  simp
  omega

/-- A PART GOES ON BEING ONE. -/
theorem next_append {first : Bool} {l r : List UInt8} {t : Tok} (hl : l ≠ []) (h : next first l = .ok (t, r)) (u : List UInt8) (hu : r ≠ [] ∨ u = [] ∨ u.head? = some 60) :
    next first (l ++ u) = .ok (t, r ++ u) ∧ r.length < l.length := by
  have hq := heads_no first
  have k0 := declares_same h hl u
  have k1 := begins_same (p := [60, 33, 45, 45]) (u := u) hl (fun k hk h0 => not_head h (by have := (hq k (by simp at hk; omega)).2.1; rwa [Nat.min_eq_left (by simp at hk; omega)] at this) h0)
  have k2 := begins_same (p := [60, 33, 91, 67, 68, 65, 84, 65, 91]) (u := u) hl (fun k hk h0 => not_head h (by have := (hq k (by simp at hk; omega)).2.2.1; rwa [Nat.min_eq_left (by simp at hk; omega)] at this) h0)
  have k3 := begins_same (p := [60, 33, 68, 79, 67, 84, 89, 80, 69]) (u := u) hl (fun k hk h0 => not_head h (by have := (hq k (by simp at hk; omega)).2.2.2.1; rwa [Nat.min_eq_left (by simp at hk; omega)] at this) h0)
  have k4 := begins_same (p := [60, 33]) (u := u) hl (fun k hk h0 => not_head h (by have := (hq k (by simp at hk; omega)).2.2.2.2.1; rwa [Nat.min_eq_left (by simp at hk; omega)] at this) h0)
  have k5 := begins_same (p := [60, 63]) (u := u) hl (fun k hk h0 => not_head h (by have := (hq k (by simp at hk; omega)).2.2.2.2.2.1; rwa [Nat.min_eq_left (by simp at hk; omega)] at this) h0)
  have k6 := begins_same (p := [60, 47]) (u := u) hl (fun k hk h0 => not_head h (by have := (hq k (by simp at hk; omega)).2.2.2.2.2.2; rwa [Nat.min_eq_left (by simp at hk; omega)] at this) h0)
  have k7 := begins_same (p := [60]) (u := u) hl (fun k hk h0 => absurd (by simp at hk; omega) h0)
  unfold next at h ⊢
  rw [k0, k1, k2, k3, k4, k5, k6, k7]
  clear k0 k1 k2 k3 k4 k5 k6 k7 hq
  split at h
  · rename_i hc
    have hb : begins [60, 63, 120, 109, 108] l = true := by
      unfold declares at hc
      simp only [Bool.and_eq_true] at hc
      exact hc.2.1
    obtain ⟨d1, d2, _⟩ := decl_append h u
    have hd : (l ++ u).drop 5 = l.drop 5 ++ u := begins_drop hb u
    have hle : (l.drop 5).length + 5 = l.length := dropped_le hb
    rw [if_pos hc]
    rw [hd]
    exact ⟨d1, by omega⟩
  · rename_i h0
    rw [if_neg h0]
    split at h
    · rename_i hb
      obtain ⟨d1, d2, _⟩ := comment_append h u
      have hd : (l ++ u).drop 4 = l.drop 4 ++ u := begins_drop hb u
      have hle : (l.drop 4).length + 4 = l.length := dropped_le hb
      rw [if_pos hb]
      rw [hd]
      exact ⟨d1, by omega⟩
    · rename_i h1
      rw [if_neg h1]
      split at h
      · rename_i hb
        obtain ⟨d1, d2, _⟩ := cdata_append h u
        have hd : (l ++ u).drop 9 = l.drop 9 ++ u := begins_drop hb u
        have hle : (l.drop 9).length + 9 = l.length := dropped_le hb
        rw [if_pos hb]
        rw [hd]
        exact ⟨d1, by omega⟩
      · rename_i h2
        rw [if_neg h2]
        split at h
        · cases h
        · rename_i h3
          rw [if_neg h3]
          split at h
          · cases h
          · rename_i h4
            rw [if_neg h4]
            split at h
            · rename_i hb
              obtain ⟨d1, d2, _⟩ := pi_append h u
              have hd : (l ++ u).drop 2 = l.drop 2 ++ u := begins_drop hb u
              have hle : (l.drop 2).length + 2 = l.length := dropped_le hb
              rw [if_pos hb]
              rw [hd]
              exact ⟨d1, by omega⟩
            · rename_i h5
              rw [if_neg h5]
              split at h
              · rename_i hb
                obtain ⟨d1, d2, _⟩ := shut_append h u
                have hd : (l ++ u).drop 2 = l.drop 2 ++ u := begins_drop hb u
                have hle : (l.drop 2).length + 2 = l.length := dropped_le hb
                rw [if_pos hb]
                rw [hd]
                exact ⟨d1, by omega⟩
              · rename_i h6
                rw [if_neg h6]
                split at h
                · rename_i hb
                  obtain ⟨d1, d2, _⟩ := opened_append h u
                  have hd : (l ++ u).drop 1 = l.drop 1 ++ u := begins_drop hb u
                  have hle : (l.drop 1).length + 1 = l.length := dropped_le hb
                  rw [if_pos hb]
                  rw [hd]
                  exact ⟨d1, by omega⟩
                · rename_i h7
                  rw [if_neg h7]
                  obtain ⟨d1, d2, d3⟩ := text_append h u hu
                  refine ⟨d1, ?_⟩
                  subst d3
                  cases l with
                  | nil => exact absurd rfl hl
                  | cons b y =>
                    have hb60 : b ≠ 60 := by
                      intro e
                      subst e
                      exact h7 (by simp [begins, List.isPrefixOf])
                    rw [List.dropWhile_cons_of_pos (by simpa using hb60)]
                    have := (List.dropWhile_sublist (l := y) (· ≠ (60 : UInt8))).length_le
                    rw [List.length_cons]
                    omega

theorem next_less {first : Bool} {l r : List UInt8} {t : Tok} (hl : l ≠ []) (h : next first l = .ok (t, r)) : r.length < l.length := (next_append hl h [] (.inr (.inl rfl))).2

theorem go_fuel : ∀ (f g : Nat) (first : Bool) (l : List UInt8), l.length ≤ f → l.length ≤ g → go f first l = go g first l
  | _, _, _, [], _, _ => by simp [go]
  | 0, _, _, _ :: _, h, _ => by simp at h
  | _ + 1, 0, _, _ :: _, _, h => by simp at h
  | f + 1, g + 1, first, b :: y, hf, hg => by
    simp only [go]
    cases hn : next first (b :: y) with
    | error e => rfl
    | ok x =>
      obtain ⟨t, r⟩ := x
      have := next_less (by simp) hn
      simp only [List.length_cons] at this hf hg
      simp only []
      rw [go_fuel f g false r (by omega) (by omega)]

/-- The parts of a text. -/
def run (first : Bool) (l : List UInt8) : Except Nat (List Tok) := go l.length first l
theorem run_nil (first : Bool) : run first [] = .ok [] := rfl
theorem run_step {first : Bool} {l : List UInt8} (hl : l ≠ []) : run first l = match next first l with | .error e => .error e | .ok (t, r) => match run false r with | .error e => .error e | .ok ts => .ok (t :: ts) := by
  cases l with
  | nil => exact absurd rfl hl
  | cons b y =>
    unfold run
    rw [List.length_cons]
    simp only [go]
    cases hn : next first (b :: y) with
    | error e => rfl
    | ok x =>
      obtain ⟨t, r⟩ := x
      have := next_less (by simp) hn
      simp only [List.length_cons] at this
      simp only []
      rw [go_fuel y.length r.length false r (by omega) (Nat.le_refl _)]
      first | done | (cases go r.length false r <;> rfl)

/-- THE PARTS OF TWO TEXTS, one behind the other, of which the second one begins with a tag. -/
theorem run_append {t : List UInt8} (ht : t.head? = some 60) : ∀ (n : Nat) (first : Bool) (s : List UInt8) (a : List Tok), s.length ≤ n → s ≠ [] → run first s = .ok a → run first (s ++ t) = match run false t with | .error e => .error e | .ok b => .ok (a ++ b) := by
  intro n
  induction n with
  | zero =>
    intro first s a hn hs _
    exact absurd (List.length_eq_zero_iff.1 (by omega)) hs
  | succ n ih =>
    intro first s a hn hs h
    rw [run_step hs] at h
    cases hx : next first s with
    | error e => rw [hx] at h; cases h
    | ok x =>
      obtain ⟨k, r⟩ := x
      rw [hx] at h
      simp only at h
      obtain ⟨n1, n2⟩ := next_append hs hx t (.inr (.inr ht))
      rw [run_step (by simp [hs]), n1]
      simp only []
      cases hr : run false r with
      | error e => rw [hr] at h; cases h
      | ok ts =>
        rw [hr] at h
        cases h
        by_cases he : r = []
        · subst he
          cases hr
          rw [List.nil_append]
          cases run false t <;> rfl
        · rw [ih false r ts (by omega) he hr]
          cases run false t <;> rfl
end T
end Go.Proofs.YtcjlhdmekhifaaaGreatDoor
