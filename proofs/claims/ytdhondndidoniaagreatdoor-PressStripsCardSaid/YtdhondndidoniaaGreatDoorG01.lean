/-
  Code points and names, in plain Lean: what may be (char, start, part, space), the code point at a text's head (first), the longest head of such (span), names, plain lines; and the laws of names and of lines.
  Texts: what slices of strings read as, in lists of bytes; ends of walks.
  Names with their spaces, in plain Lean: split, declare, resolve; names of other prefixes stay with pairs more behind; what is declared is resolved.
  The code point at a text's head, by its bytes: a class of first bytes at a time.
  Heads of texts that go on: code points, spans, names of a text behind which another one stands.
  References in texts, in plain Lean: digits, numbers, what a reference's name is (named), expand, escape; and the laws: what is escaped is expanded as it was; two texts that are expanded are so together.
  Tokens in plain Lean, as the document has them; and that what is a token goes on being one, whatever stands behind it.
  Tokens in plain Lean: comments, characters, instructions, tags, the declaration; each goes on being one.
  Tokens in plain Lean: tags, texts, the declaration go on; so do all tokens of a text: the theorems of the layer.
  Tokens in plain Lean: all tokens of a text, and of two texts one behind the other: the theorems of the layer.
  Tokens in plain Lean: the theorems of the layer.
  Documents as trees, in plain Lean: a stack of open elements; what stands about the element changes nothing.
  Entries in plain Lean: when a tree is one, over what references, points of time and types are; the order of the kids, and kids of another kind, change nothing.
  What the server sets of an entry, in plain Lean: which kids are its own; texts side by side made one; an entry stripped: stripped again it is the same.
  An entry pressed, in plain Lean: pressed again the client's kids are what they were; what is pressed is an entry, and may be stored.
  What is pressed is an entry that may be stored, in plain Lean.
-/
import Derived.Lib.MapLaws
import Derived.Lib.Hide
import Derived.Test.YtdhondndidoniaaGreatDoorRows
import Derived.WalkKit
import Derived.WalkSpells
import Derived.Lib.RuneBytes
namespace Go.Proofs.YtdhondndidoniaaGreatDoor
namespace G

def inR (c a b : Int) : Bool := decide (a ≤ c) && decide (c ≤ b)

def char (c : Int) : Bool := inR c 9 10 || inR c 13 13 || inR c 32 55295 || inR c 57344 65533 || inR c 65536 1114111
def space (c : Int) : Bool := decide (c = 32) || decide (c = 9) || decide (c = 10) || decide (c = 13)
def start (c : Int) : Bool :=
  inR c 58 58 || inR c 65 90 || inR c 95 95 || inR c 97 122 || inR c 192 214 || inR c 216 246 || inR c 248 767 || inR c 880 893 || inR c 895 8191 || inR c 8204 8205 ||
  inR c 8304 8591 || inR c 11264 12271 || inR c 12289 55295 || inR c 63744 64975 || inR c 65008 65533 || inR c 65536 983039
def part (c : Int) : Bool :=
  start c || (inR c 45 46 || inR c 48 57 || inR c 183 183 || inR c 768 879 || inR c 8255 8256)

/-- The code point at a text's head and its bytes; none: (0, 0). -/
def first (l : List UInt8) : Nat × Nat :=
  if l = [] then (0, 0) else if (Lib.decodeL l).1 = 65533 ∧ (Lib.decodeL l).2 = 1 then (0, 0) else Lib.decodeL l

theorem first_nil : first [] = (0, 0) := rfl

theorem first_le (l : List UInt8) : (first l).2 ≤ l.length := by
  unfold first
  split
  · exact Nat.zero_le _
  · split
    · exact Nat.zero_le _
    · exact Lib.decodeL_le l (by assumption)

open Lib in
/-! ### how long the head is in which all are so -/
def spanGo (p : Int → Bool) : Nat → List UInt8 → Nat
  | 0, _ => 0
  | f + 1, l => if (first l).2 ≠ 0 ∧ p (first l).1 = true then (first l).2 + spanGo p f (l.drop (first l).2) else 0
def span (p : Int → Bool) (l : List UInt8) : Nat := spanGo p l.length l

theorem spanGo_le (p : Int → Bool) : ∀ f l, spanGo p f l ≤ l.length
  | 0, _ => Nat.zero_le _
  | f + 1, l => by
    unfold spanGo
    split
    · have := spanGo_le p f (l.drop (first l).2)
      have h2 := first_le l
      rw [List.length_drop] at this
      omega
    · exact Nat.zero_le _

theorem spanGo_fuel (p : Int → Bool) : ∀ f g l, l.length ≤ f → l.length ≤ g → spanGo p f l = spanGo p g l
  | 0, 0, _, _, _ => rfl
  | 0, g + 1, l, hf, _ => by
    have : l = [] := List.length_eq_zero_iff.1 (by omega)
    subst this
    simp [spanGo, first_nil]
  | f + 1, 0, l, _, hg => by
    have : l = [] := List.length_eq_zero_iff.1 (by omega)
    subst this
    simp [spanGo, first_nil]
  | f + 1, g + 1, l, hf, hg => by
    unfold spanGo
    split
    · rename_i h
      have := first_le l
      rw [spanGo_fuel p f g _ (by rw [List.length_drop]; omega) (by rw [List.length_drop]; omega)]
    · rfl

theorem span_step (p : Int → Bool) (l : List UInt8) (h0 : (first l).2 ≠ 0) (hp : p (first l).1 = true) : span p l = (first l).2 + span p (l.drop (first l).2) := by
  have hle := first_le l
  unfold span
  cases hl : l.length with
  | zero => omega
  | succ n =>
    rw [spanGo, if_pos ⟨h0, hp⟩]
    rw [spanGo_fuel p n (l.drop (first l).2).length _ (by rw [List.length_drop]; omega) (Nat.le_refl _)]

theorem span_stop (p : Int → Bool) (l : List UInt8) (h : (first l).2 = 0 ∨ p (first l).1 = false) : span p l = 0 := by
  unfold span
  cases hl : l.length with
  | zero => rfl
  | succ n =>
    rw [spanGo, if_neg]
    rintro ⟨h0, h1⟩
    rcases h with h | h
    · exact h0 h
    · rw [h] at h1; cases h1

theorem span_le (p : Int → Bool) (l : List UInt8) : span p l ≤ l.length := spanGo_le p _ l

/-! ### names -/
def name (l : List UInt8) : Nat := if (first l).2 ≠ 0 ∧ start (first l).1 = true then (first l).2 + span part (l.drop (first l).2) else 0

def plain (l : List UInt8) : Bool := decide (l ≠ []) && decide (name l = l.length) && l.all (fun b => decide (b ≠ 58))

/-! ### whether all of a text may be -/
def check (l : List UInt8) : Bool := decide (span char l = l.length)

/-! ### plain lines -/
def lines : List UInt8 → List UInt8
  | [] => []
  | [b] => [if b = 13 then 10 else b]
  | b :: c :: t => if b = 13 then (if c = 10 then 10 :: lines t else 10 :: lines (c :: t)) else b :: lines (c :: t)

end G
end Go.Proofs.YtdhondndidoniaaGreatDoor
namespace Go.Proofs.YtdhondndidoniaaGreatDoor
open Go.RowKit

theorem ret_bool {a b : Bool} (h : a = b) : Ending.returned (.bool a) = .returned (.bool b) := by rw [h]

theorem getD_of (s : ByteArray) (k : Nat) (h : k < s.size) : s.data.toList.getD k 0 = s[k] := by
  have h1 : k < s.data.toList.length := by rw [Array.length_toList]; exact h
  rw [List.getD, List.getElem?_eq_getElem h1, Option.getD_some]
  rfl

theorem lst_ne {s : ByteArray} (h : 0 < s.size) : s.data.toList ≠ [] := by
  intro e
  have := congrArg List.length e
  rw [Array.length_toList] at this
  have h1 : 0 < s.data.size := h
  rw [this] at h1
  exact Nat.lt_irrefl _ h1

theorem extract_list (s : ByteArray) (a b : Nat) : (s.extract a b).data.toList = (s.data.toList.take b).drop a := by
  simp [ByteArray.data_extract, Array.toList_extract, List.drop_take]

theorem drop_list (s : ByteArray) (a : Nat) : (s.extract a s.size).data.toList = s.data.toList.drop a := by
  rw [extract_list, List.take_of_length_le (by simp)]

theorem take_list (s : ByteArray) (b : Nat) : (s.extract 0 b).data.toList = s.data.toList.take b := by
  rw [extract_list, List.drop_zero]

theorem bytes_eq {a b : ByteArray} (h : a.data.toList = b.data.toList) : a = b := by
  obtain ⟨⟨a⟩⟩ := a
  obtain ⟨⟨b⟩⟩ := b
  simp at h; rw [h]

theorem extract_full (s : ByteArray) : s.extract 0 s.size = s := bytes_eq (by rw [drop_list, List.drop_zero])

theorem list_len (s : ByteArray) : s.data.toList.length = s.size := by simp

theorem ret_int {a b : Int} (h : a = b) : Ending.returned (.int .i64 a) = .returned (.int .i64 b) := by rw [h]

theorem ne_empty {s : ByteArray} (h : 0 < s.size) : s.toList.isEmpty = false := by
  rw [List.isEmpty_eq_false_iff]; intro e
  rw [ByteArray.toList_eq] at e
  exact lst_ne h e

theorem all_take (p : UInt8 → Bool) (l : List UInt8) (k : Nat) (h : k < l.length) : (l.take (k + 1)).all p = ((l.take k).all p && p l[k]) := by
  rw [List.take_succ_eq_append_getElem h, List.all_append, List.all_cons, List.all_nil, Bool.and_true]
theorem drop_cons (s : ByteArray) (k : Nat) (h : k < s.size) : s.data.toList.drop k = s[k] :: s.data.toList.drop (k + 1) := by
  have h1 : k < s.data.toList.length := by rw [list_len]; exact h
  rw [List.drop_eq_getElem_cons h1]
  rfl

theorem byte_is {b c : UInt8} (h : b.toNat = c.toNat) : b = c := UInt8.toNat_inj.1 h

theorem ret_str {a b : ByteArray} (h : a = b) : Ending.returned (.string a) = .returned (.string b) := by rw [h]

end Go.Proofs.YtdhondndidoniaaGreatDoor
namespace Go.Proofs.YtdhondndidoniaaGreatDoor

structure Pair where
  name : ByteArray
  value : ByteArray
  deriving DecidableEq, Inhabited

namespace P
def xmlS : ByteArray := ⟨#[104, 116, 116, 112, 58, 47, 47, 119, 119, 119, 46, 119, 51, 46, 111, 114, 103, 47, 88, 77, 76, 47, 49, 57, 57, 56, 47, 110, 97, 109, 101, 115, 112, 97, 99, 101]⟩
def xmlnsS : ByteArray := ⟨#[104, 116, 116, 112, 58, 47, 47, 119, 119, 119, 46, 119, 51, 46, 111, 114, 103, 47, 50, 48, 48, 48, 47, 120, 109, 108, 110, 115, 47]⟩
def xml : ByteArray := ⟨#[120, 109, 108]⟩
def xmlns : ByteArray := ⟨#[120, 109, 108, 110, 115]⟩
def plainB (s : ByteArray) : Bool := G.plain s.data.toList

/-- Where the first colon stands. -/
def colon (l : List UInt8) : Nat := (l.takeWhile (· ≠ 58)).length

def split (s : ByteArray) : Option (ByteArray × ByteArray) :=
  if colon s.data.toList < s.size then
    (if plainB (s.extract 0 (colon s.data.toList)) && plainB (s.extract (colon s.data.toList + 1) s.size) then some (s.extract 0 (colon s.data.toList), s.extract (colon s.data.toList + 1) s.size) else none)
  else if plainB s then some (ByteArray.empty, s) else none

def bound (p space : ByteArray) : Bool :=
  if p = xmlns then false else if p = xml then decide (space = xmlS) else if p = ByteArray.empty then decide (space ≠ xmlS) && decide (space ≠ xmlnsS) else decide (space ≠ ByteArray.empty) && decide (space ≠ xmlS) && decide (space ≠ xmlnsS)

/-- the prefix that is declared. -/
def key (p n : ByteArray) : ByteArray := if p = ByteArray.empty then ByteArray.empty else n

def declGo : List Pair → List Pair → List Pair → Option (List Pair × List Pair)
  | sc, re, [] => some (sc, re)
  | sc, re, a :: t => match split a.name with
    | none => none
    | some (p, n) =>
      if p ≠ xmlns ∧ (p ≠ ByteArray.empty ∨ n ≠ xmlns) then declGo sc (re ++ [a]) t
      else if bound (key p n) a.value then declGo (sc ++ [⟨key p n, a.value⟩]) re t else none
def declare (l : List Pair) : Option (List Pair × List Pair) := declGo [] [] l

/-- The last pair of a name. -/
def last (p : ByteArray) : List Pair → Option ByteArray
  | [] => none
  | a :: t => match last p t with
    | some v => some v
    | none => if a.name = p then some a.value else none

def resolve (scope : List Pair) (s : ByteArray) (attr : Bool) : Option (ByteArray × ByteArray) :=
  match split s with
  | none => none
  | some (p, n) =>
    if p = xml then some (xmlS, n) else if p = xmlns then none else if p = ByteArray.empty ∧ attr = true then some (ByteArray.empty, n)
    else match last p scope with
      | some v => if p ≠ ByteArray.empty ∧ v = ByteArray.empty then none else some (v, n)
      | none => if p ≠ ByteArray.empty then none else some (ByteArray.empty, n)

/-! ### laws -/
end P
end Go.Proofs.YtdhondndidoniaaGreatDoor
namespace Go.Proofs.YtdhondndidoniaaGreatDoor
namespace G
open Lib

end G
end Go.Proofs.YtdhondndidoniaaGreatDoor
namespace Go.Proofs.YtdhondndidoniaaGreatDoor
namespace G

end G
end Go.Proofs.YtdhondndidoniaaGreatDoor
namespace Go.Proofs.YtdhondndidoniaaGreatDoor
namespace E

def digit (c : UInt8) (base : Nat) : Option Nat :=
  let n := if 48 ≤ c.toNat ∧ c.toNat ≤ 57 then some (c.toNat - 48) else if 65 ≤ c.toNat ∧ c.toNat ≤ 70 then some (c.toNat - 55) else if 97 ≤ c.toNat ∧ c.toNat ≤ 102 then some (c.toNat - 87) else none
  n.bind fun k => if k < base then some k else none

def numGo (base : Nat) : Nat → List UInt8 → Option Nat
  | n, [] => some n
  | n, c :: t => (digit c base).bind fun d => numGo base (min (n * base + d) 1114112) t

/-- The code point that digits are. -/
def number (base : Nat) (l : List UInt8) : Option Nat :=
  if l = [] then none else (numGo base 0 l).bind fun n => if G.char n then some n else none

/-- What a reference's name is. -/
def named (l : List UInt8) : Option (List UInt8) :=
  if l = [108, 116] then some [60] else if l = [103, 116] then some [62] else if l = [97, 109, 112] then some [38] else if l = [113, 117, 111, 116] then some [34] else if l = [97, 112, 111, 115] then some [39]
  else if 2 < l.length ∧ l.take 2 = [35, 120] then (number 16 (l.drop 2)).map fun n => Lib.encodeRune n
  else if 1 < l.length ∧ l.take 1 = [35] then (number 10 (l.drop 1)).map fun n => Lib.encodeRune n
  else none

/-- What stands ahead of the first semicolon, and behind it. -/
def semi (t : List UInt8) : Option (List UInt8 × List UInt8) :=
  match t.drop (t.takeWhile (· ≠ 59)).length with
  | [] => none
  | _ :: r => some (t.takeWhile (· ≠ 59), r)

def blank (attr : Bool) (b : UInt8) : UInt8 := if attr && G.space b.toNat then 32 else b

def expandGo (attr : Bool) : Nat → List UInt8 → Option (List UInt8)
  | _, [] => some []
  | 0, _ :: _ => none
  | f + 1, b :: t =>
    if b = 38 then (semi t).bind fun x => (named x.1).bind fun u => (expandGo attr f x.2).map fun r => u ++ r
    else (expandGo attr f t).map fun r => blank attr b :: r

def expand (attr : Bool) (l : List UInt8) : Option (List UInt8) := expandGo attr l.length l

def esc (attr : Bool) (b : UInt8) : List UInt8 :=
  if b = 38 then [38, 97, 109, 112, 59] else if b = 60 then [38, 108, 116, 59] else if b = 62 then [38, 103, 116, 59] else if b = 13 then [38, 35, 120, 68, 59]
  else if attr = true ∧ b = 34 then [38, 113, 117, 111, 116, 59] else if attr = true ∧ b = 9 then [38, 35, 120, 57, 59] else if attr = true ∧ b = 10 then [38, 35, 120, 65, 59]
  else [b]

def escape (attr : Bool) (l : List UInt8) : List UInt8 := l.flatMap (esc attr)

/-! ### laws -/
end E
end Go.Proofs.YtdhondndidoniaaGreatDoor
namespace Go.Proofs.YtdhondndidoniaaGreatDoor
namespace T

structure Tok where
  kind : Nat
  name : List UInt8
  attrs : List (List UInt8 × List UInt8)
  alone : Bool
  data : List UInt8
  deriving DecidableEq

/-! ### pieces -/
def begins (p l : List UInt8) : Bool := p.isPrefixOf l
def skip (l : List UInt8) : List UInt8 := l.dropWhile (fun b => G.space (b.toNat : Int))
def lower (c : UInt8) : UInt8 := if 65 ≤ c.toNat ∧ c.toNat ≤ 90 then c + 32 else c

/-- What stands ahead of the first such text, and behind it. -/
def cutAt (p : List UInt8) : List UInt8 → Option (List UInt8 × List UInt8)
  | [] => none
  | b :: t => if begins p (b :: t) then some ([], (b :: t).drop p.length) else (cutAt p t).map fun x => (b :: x.1, x.2)

def nameAt (l : List UInt8) : Option (List UInt8 × List UInt8) := if G.name l = 0 then none else some (l.take (G.name l), l.drop (G.name l))

end T
end Go.Proofs.YtdhondndidoniaaGreatDoor
namespace Go.Proofs.YtdhondndidoniaaGreatDoor
namespace T

/-- A part of a document, and what stands behind it; or an error's number. -/
abbrev Got := Except Nat (Tok × List UInt8)

def comment (l : List UInt8) : Got :=
  match cutAt [45, 45] l with
  | some (a, 62 :: r) => .ok (⟨3, [], [], false, a⟩, r)
  | _ => .error 70
def cdata (l : List UInt8) : Got :=
  match cutAt [93, 93, 62] l with
  | some (a, r) => .ok (⟨2, [], [], true, a⟩, r)
  | none => .error 70
def spaced (a : List UInt8) : Bool := match a with | [] => true | b :: _ => G.space (b.toNat : Int)
def pi (l : List UInt8) : Got :=
  match nameAt l with
  | none => .error 70
  | some (n, rest) =>
    if n.map lower = [120, 109, 108] then .error 70
    else match cutAt [63, 62] rest with
      | none => .error 70
      | some (a, r) => if spaced a then .ok (⟨4, n, [], false, skip a⟩, r) else .error 70
def quoted (l : List UInt8) : Option (List UInt8 × List UInt8) :=
  match l with
  | [] => none
  | q :: t => if q = 34 ∨ q = 39 then cutAt [q] t else none
def attr (l : List UInt8) : Except Nat ((List UInt8 × List UInt8) × List UInt8) :=
  match nameAt l with
  | none => .error 70
  | some (n, rest) =>
    match skip rest with
    | 61 :: t =>
      match quoted (skip t) with
      | none => .error 70
      | some (q, r) => if 60 ∈ q then .error 70 else match E.expand true q with | none => .error 60 | some v => .ok ((n, v), r)
    | _ => .error 70
def openGo : Nat → List UInt8 → List (List UInt8 × List UInt8) → List UInt8 → Got
  | 0, _, _, _ => .error 70
  | f + 1, n, ps, rest =>
    match skip rest with
    | 62 :: r => .ok (⟨0, n, ps, false, []⟩, r)
    | 47 :: 62 :: r => .ok (⟨0, n, ps, true, []⟩, r)
    | next =>
      if next.length = rest.length then .error 70
      else match attr next with
        | .error e => .error e
        | .ok (a, more) => if ps.any (fun x => decide (x.1 = a.1)) then .error 71 else openGo f n (ps ++ [a]) more
def opened (l : List UInt8) : Got :=
  match nameAt l with
  | none => .error 70
  | some (n, rest) => openGo (rest.length + 1) n [] rest
def shut (l : List UInt8) : Got :=
  match nameAt l with
  | none => .error 70
  | some (n, rest) => match skip rest with | 62 :: r => .ok (⟨1, n, [], false, []⟩, r) | _ => .error 70
def text (l : List UInt8) : Got :=
  if (cutAt [93, 93, 62] (l.takeWhile (· ≠ 60))).isSome then .error 70
  else match E.expand false (l.takeWhile (· ≠ 60)) with
    | none => .error 60
    | some d => .ok (⟨2, [], [], decide (38 ∈ l.takeWhile (· ≠ 60)), d⟩, l.dropWhile (· ≠ 60))
def word (l name : List UInt8) : Option (List UInt8 × List UInt8) :=
  if (skip l).length = l.length then none
  else if begins name (skip l) then
    match skip ((skip l).drop name.length) with
    | 61 :: t => quoted (skip t)
    | _ => none
  else none
def version (l : List UInt8) : Bool := begins [49, 46] l && decide (3 ≤ l.length) && (l.drop 2).all (fun b => decide (48 ≤ b.toNat ∧ b.toNat ≤ 57))
def encoding (l : List UInt8) : Option (List UInt8) :=
  match word l [101, 110, 99, 111, 100, 105, 110, 103] with
  | none => some l
  | some (v, more) => if v.map lower = [117, 116, 102, 45, 56] then some more else none
def standalone (l : List UInt8) : Option (List UInt8) :=
  match word l [115, 116, 97, 110, 100, 97, 108, 111, 110, 101] with
  | none => some l
  | some (v, more) => if v = [121, 101, 115] ∨ v = [110, 111] then some more else none
def declEnd (l : List UInt8) : Got := match skip l with | 63 :: 62 :: r => .ok (⟨5, [], [], false, []⟩, r) | _ => .error 70
def decl (l : List UInt8) : Got :=
  match word l [118, 101, 114, 115, 105, 111, 110] with
  | none => .error 70
  | some (v, rest) =>
    if version v then
      match encoding rest with
      | none => .error 70
      | some rest => match standalone rest with | none => .error 70 | some rest => declEnd rest
    else .error 70

/-- Is it the declaration's head? -/
def declares (l : List UInt8) : Bool := begins [60, 63, 120, 109, 108] l && (match l.drop 5 with | [] => false | b :: _ => G.space (b.toNat : Int))
def next (first : Bool) (l : List UInt8) : Got :=
  if first && declares l then decl (l.drop 5)
  else if begins [60, 33, 45, 45] l then comment (l.drop 4)
  else if begins [60, 33, 91, 67, 68, 65, 84, 65, 91] l then cdata (l.drop 9)
  else if begins [60, 33, 68, 79, 67, 84, 89, 80, 69] l then .error 72
  else if begins [60, 33] l then .error 70
  else if begins [60, 63] l then pi (l.drop 2)
  else if begins [60, 47] l then shut (l.drop 2)
  else if begins [60] l then opened (l.drop 1)
  else text l

def go : Nat → Bool → List UInt8 → Except Nat (List Tok)
  | _, _, [] => .ok []
  | 0, _, _ :: _ => .error 70
  | f + 1, first, l => match next first l with | .error e => .error e | .ok (t, r) => match go f false r with | .error e => .error e | .ok ts => .ok (t :: ts)

/-- THE TOKENS of a text. -/
def tokens (l : List UInt8) : Except Nat (List Tok) :=
  if 100000 < l.length then .error 2 else if G.check l = false then .error 50 else go (G.lines l).length true (G.lines l)

/-! ### each goes on -/
end T
end Go.Proofs.YtdhondndidoniaaGreatDoor
namespace Go.Proofs.YtdhondndidoniaaGreatDoor
namespace T

end T
end Go.Proofs.YtdhondndidoniaaGreatDoor
namespace Go.Proofs.YtdhondndidoniaaGreatDoor
namespace T

/-- The parts of a text. -/
def run (first : Bool) (l : List UInt8) : Except Nat (List Tok) := go l.length first l
end T
end Go.Proofs.YtdhondndidoniaaGreatDoor
namespace Go.Proofs.YtdhondndidoniaaGreatDoor
namespace T

/-! ### tags put behind -/
def tags : List UInt8 := [60, 33, 45, 45, 32, 45, 32, 45, 45, 62, 60, 63, 112, 32, 32, 113, 32, 63, 62]
/-! ### a declaration -/
end T
end Go.Proofs.YtdhondndidoniaaGreatDoor
namespace Go.Proofs.YtdhondndidoniaaGreatDoor
namespace Gv
open T (Tok)

structure Att where
  space : ByteArray
  name : ByteArray
  value : ByteArray
  deriving DecidableEq

/-- A node: its kind (0: an element, 1: a text, 2: a comment, 3: an instruction), space, name, attributes, kids, data. -/
inductive Node where
  | mk (kind : Int) (space name : ByteArray) (attrs : List Att) (kids : List Node) (data : ByteArray)

def str (l : List UInt8) : ByteArray := ⟨l.toArray⟩
def text (d : ByteArray) : Node := .mk 1 ByteArray.empty ByteArray.empty [] [] d
def leaf (t : Tok) : Node :=
  if t.kind = 3 then .mk 2 ByteArray.empty ByteArray.empty [] [] (str t.data)
  else if t.kind = 4 then .mk 3 ByteArray.empty (str t.name) [] [] (str t.data) else text (str t.data)
def Node.kind : Node → Int | .mk k _ _ _ _ _ => k
def Node.data : Node → ByteArray | .mk _ _ _ _ _ d => d
/-- Nodes and one more: a text behind a text goes on with it; an empty one is none. -/
def grown (l : List Node) (n : Node) : List Node :=
  if n.kind = 1 ∧ n.data = ByteArray.empty then l
  else match l.getLast? with
    | some m => if n.kind = 1 ∧ m.kind = 1 then l.dropLast ++ [text (m.data ++ n.data)] else l ++ [n]
    | none => [n]

def attrsGo (scope : List Pair) : List Att → List Pair → Except Nat (List Att)
  | acc, [] => .ok acc
  | acc, a :: l => match P.resolve scope a.name true with
    | none => .error 80
    | some (sp, nm) => if acc.any (fun x => decide (x.space = sp ∧ x.name = nm)) then .error 71 else attrsGo scope (acc ++ [⟨sp, nm, a.value⟩]) l

/-- What a start-tag begins, in a scope: space, name, attributes; and the scope within it. -/
def element (t : Tok) (scope : List Pair) : Except Nat ((ByteArray × ByteArray × List Att) × List Pair) :=
  if 50 < t.attrs.length then .error 2
  else match P.declare (t.attrs.map fun p => ⟨str p.1, str p.2⟩) with
    | none => .error 80
    | some (more, rest) => match P.resolve (scope ++ more) (str t.name) false with
      | none => .error 80
      | some (sp, nm) => match attrsGo (scope ++ more) [] rest with
        | .error e => .error e
        | .ok as' => .ok ((sp, nm, as'), scope ++ more)

/-- An element that is open. -/
structure Open where
  tag : List UInt8
  space : ByteArray
  name : ByteArray
  attrs : List Att
  kids : List Node
  scope : List Pair
def Open.node (o : Open) : Node := .mk 0 o.space o.name o.attrs o.kids ByteArray.empty

/-- The open elements, the innermost first; the element that has ended. -/
structure St where
  stack : List Open
  root : Option Node

def ended (s : List Open) (root : Option Node) (n : Node) : St := match s with | [] => ⟨[], some n⟩ | o :: os => ⟨{ o with kids := o.kids ++ [n] } :: os, root⟩
def scopeOf (s : List Open) : List Pair := match s with | [] => [] | o :: _ => o.scope
def opened (s : St) (t : Tok) : Except Nat St :=
  if 30 < s.stack.length + 1 then .error 2
  else match element t (scopeOf s.stack) with
    | .error e => .error e
    | .ok ((sp, nm, l), sc) => if t.alone then .ok (ended s.stack s.root (.mk 0 sp nm l [] ByteArray.empty)) else .ok ⟨⟨t.name, sp, nm, l, [], sc⟩ :: s.stack, s.root⟩
def blankText (l : List UInt8) : Bool := l.all fun b => G.space (b.toNat : Int)
def step (s : St) (t : Tok) : Except Nat St :=
  match s.stack with
  | [] =>
    if t.kind = 2 ∧ (t.alone = true ∨ blankText t.data = false) then .error 90
    else if t.kind = 1 ∨ (t.kind = 0 ∧ s.root.isSome = true) then .error 90
    else if t.kind = 4 ∧ G.plain t.name = false then .error 80
    else if t.kind = 0 then opened s t
    else .ok s
  | o :: os =>
    if t.kind = 1 then (if t.name = o.tag then .ok (ended os s.root o.node) else .error 90)
    else if t.kind = 0 then opened s t
    else if t.kind = 4 ∧ G.plain t.name = false then .error 80
    else .ok ⟨{ o with kids := grown o.kids (leaf t) } :: os, s.root⟩
def steps : St → List Tok → Except Nat St
  | s, [] => .ok s
  | s, t :: l => match step s t with | .error e => .error e | .ok s' => steps s' l
def final (s : St) : Except Nat Node := match s.stack, s.root with | [], some n => .ok n | _, _ => .error 90
def tree (l : List Tok) : Except Nat Node := match steps ⟨[], none⟩ l with | .error e => .error e | .ok s => final s
/-- THE TREE of a text. -/
def parse (l : List UInt8) : Except Nat Node := match T.tokens l with | .error e => .error e | .ok ts => tree ts

/-! ### laws -/
/-! ### an element put into another one -/
end Gv
end Go.Proofs.YtdhondndidoniaaGreatDoor
namespace Go.Proofs.YtdhondndidoniaaGreatDoor
namespace Am
open Gv (Att)

def atomS : List UInt8 := "http://www.w3.org/2005/Atom".toUTF8.data.toList
def xhtmlS : List UInt8 := "http://www.w3.org/1999/xhtml".toUTF8.data.toList
def lit (s : String) : List UInt8 := s.toUTF8.data.toList
def kindOf : Gv.Node → Int | .mk k _ _ _ _ _ => k
def spaceOf : Gv.Node → ByteArray | .mk _ s _ _ _ _ => s
def nameOf : Gv.Node → ByteArray | .mk _ _ n _ _ _ => n
def attrsOf : Gv.Node → List Att | .mk _ _ _ a _ _ => a
def kidsOf : Gv.Node → List Gv.Node | .mk _ _ _ _ k _ => k
def dataOf : Gv.Node → ByteArray | .mk _ _ _ _ _ d => d
def withKids : Gv.Node → List Gv.Node → Gv.Node | .mk k s n a _ d, l => .mk k s n a l d

/-- Is a node an element of that space and name? -/
def isEl (n : Gv.Node) (space name : List UInt8) : Bool := decide (kindOf n = 0) && decide ((spaceOf n).data.toList = space) && decide ((nameOf n).data.toList = name)
/-- The kids of that name, of Atom. -/
def allIn (l : List Gv.Node) (name : List UInt8) : List Gv.Node := l.filter fun k => isEl k atomS name
def all (n : Gv.Node) (name : List UInt8) : List Gv.Node := allIn (kidsOf n) name
/-- An attribute without a space. -/
def attr (n : Gv.Node) (name : List UInt8) : Option (List UInt8) := ((attrsOf n).find? fun a => decide (a.space.data.toList = []) && decide (a.name.data.toList = name)).map fun a => a.value.data.toList
/-- The texts that are kids. -/
def text (n : Gv.Node) : List UInt8 := (kidsOf n).flatMap fun k => if kindOf k = 1 then (dataOf k).data.toList else []
def plain (n : Gv.Node) : Bool := (kidsOf n).all fun k => decide (kindOf k ≠ 0)
def space (b : UInt8) : Bool := b = 32 || b = 9 || b = 10 || b = 13
def trim (l : List UInt8) : List UInt8 := ((l.dropWhile space).reverse.dropWhile space).reverse

/-- WHAT AN ENTRY LEANS ON: references, points of time, types: (kind, family), lower case. -/
structure On where
  /-- a reference, with a scheme if need be -/
  iri : List UInt8 → Bool → Bool
  moment : List UInt8 → Bool
  /-- no type: none; a type: what stands ahead of its slash -/
  type : List UInt8 → Option (List UInt8)
  low : List UInt8 → List UInt8
variable (o : On)

def div (n : Gv.Node) : Bool := decide (((kidsOf n).filter fun k => isEl k xhtmlS (lit "div")).length = 1) &&
  (kidsOf n).all fun k => isEl k xhtmlS (lit "div") || !(decide (kindOf k = 0) || (decide (kindOf k = 1) && !((dataOf k).data.toList.all space)))
def textOk (n : Gv.Node) : Bool := match attr n (lit "type") with
  | none => plain n
  | some t => if t = lit "text" ∨ t = lit "html" then plain n else decide (t = lit "xhtml") && div n
def person (n : Gv.Node) : Bool :=
  (match all n (lit "name") with
    | [x] => plain x && decide (trim (text x) ≠ [])
    | _ => false) &&
  (match all n (lit "uri") with
    | [] => true
    | [x] => plain x && o.iri (trim (text x)) false
    | _ => false) &&
  (match all n (lit "email") with
    | [] => true
    | [x] => plain x && decide ((trim (text x)).count 64 = 1) && decide ((trim (text x)).head? ≠ some 64) && decide ((trim (text x)).getLast? ≠ some 64)
    | _ => false)
def momentOk (n : Gv.Node) : Bool := plain n && o.moment (trim (text n))
def link (n : Gv.Node) : Bool := (match attr n (lit "href") with
    | none => false
    | some h => o.iri h false) && (match attr n (lit "type") with
    | none => true
    | some t => (o.type t).isSome)
def rel (n : Gv.Node) : List UInt8 := (attr n (lit "rel")).getD (lit "alternate")
def alike (a b : Gv.Node) : Bool := decide (rel a = lit "alternate") && decide (rel b = lit "alternate") && decide ((attr a (lit "type")).map o.low = (attr b (lit "type")).map o.low) && decide ((attr a (lit "hreflang")).map o.low = (attr b (lit "hreflang")).map o.low)
def named (t : Option (List UInt8)) : Bool := match t with
  | none => true
  | some t => decide (t = lit "text" ∨ t = lit "html" ∨ t = lit "xhtml")
def content (n : Gv.Node) : Bool := match attr n (lit "src") with
  | some src => o.iri src false && decide ((kidsOf n).length = 0) && (match attr n (lit "type") with
    | none => true
    | some t => !named (some t) && (o.type t).isSome)
  | none => if named (attr n (lit "type")) = true then textOk n else match (attr n (lit "type")).bind o.type with
    | none => false
    | some f => decide (f ≠ lit "multipart" ∧ f ≠ lit "message")
/-- The names, each with: may there be more than one; what each of them must be. -/
def rules : List (List UInt8 × Bool × (Gv.Node → Bool)) :=
  [(lit "author", true, person o), (lit "contributor", true, person o), (lit "updated", false, momentOk o), (lit "published", false, momentOk o), (lit "title", false, textOk), (lit "summary", false, textOk), (lit "rights", false, textOk),
   (lit "id", false, fun n => plain n && o.iri (trim (text n)) true), (lit "link", true, link o), (lit "category", true, fun n => (attr n (lit "term")).isSome), (lit "content", false, content o)]
def ruled (l : List Gv.Node) (r : List UInt8 × Bool × (Gv.Node → Bool)) : Bool := (allIn l r.1).all r.2.2 && (r.2.1 || decide ((allIn l r.1).length ≤ 1))
def apart (l : List Gv.Node) : Bool := decide ((allIn l (lit "link")).Pairwise fun a b => alike o a b = false)
def has (l : List Gv.Node) (name : List UInt8) : Bool := decide ((allIn l name).length ≠ 0)
def checkIn (l : List Gv.Node) (stored : Bool) : Bool := (rules o).all (ruled l) && has l (lit "author") && has l (lit "title") && (!stored || (has l (lit "id") && has l (lit "updated"))) && apart o l
/-- O2: IS A TREE AN ENTRY, and may it be stored? -/
def check (n : Gv.Node) (stored : Bool) : Bool := isEl n atomS (lit "entry") && checkIn o (kidsOf n) stored

end Am
end Go.Proofs.YtdhondndidoniaaGreatDoor
namespace Go.Proofs.YtdhondndidoniaaGreatDoor
namespace Pr
open Am

def appS : List UInt8 := "http://www.w3.org/2007/app".toUTF8.data.toList
/-- Is a kid one that the server sets? -/
def own (n : Gv.Node) : Bool := isEl n atomS (lit "id") || isEl n appS (lit "edited") || (isEl n atomS (lit "link") && (decide (rel n = lit "edit") || decide (rel n = lit "edit-media")))
abbrev txt (d : ByteArray) : Gv.Node := Gv.text d
/-- A node more, behind a text joined to it. -/
def join1 (out : List Gv.Node) (n : Gv.Node) : List Gv.Node := match out.getLast? with
  | some m => if kindOf n = 1 ∧ kindOf m = 1 then out.dropLast ++ [txt (dataOf m ++ dataOf n)] else out ++ [n]
  | none => out ++ [n]
def joined (l : List Gv.Node) : List Gv.Node := l.foldl join1 []
def left (n : Gv.Node) : List Gv.Node := (kidsOf n).filter fun k => !own k
def strip (n : Gv.Node) : Gv.Node := withKids n (joined (left n))

theorem own_text {n : Gv.Node} (h : kindOf n ≠ 0) : own n = false := by
  have e : ∀ s m, isEl n s m = false := fun s m => by unfold isEl; simp [h]
  unfold own
  simp [e]
/-- No two texts side by side. -/
def apart (l : List Gv.Node) : Prop := ∀ j a b, l[j]? = some a → l[j + 1]? = some b → ¬ (kindOf a = 1 ∧ kindOf b = 1)
theorem apart_nil : apart [] := fun j a b h => by simp at h
theorem apart_left {l r : List Gv.Node} (h : apart (l ++ r)) : apart l := fun j a b ha hb => by
  have h1 : j < l.length := (List.getElem?_eq_some_iff.1 ha).1
  have h2 : j + 1 < l.length := (List.getElem?_eq_some_iff.1 hb).1
  exact h j a b (by rw [List.getElem?_append_left h1]; exact ha) (by rw [List.getElem?_append_left h2]; exact hb)
theorem apart_more {l : List Gv.Node} {n : Gv.Node} (h : apart l) (hn : ∀ m, l.getLast? = some m → ¬ (kindOf m = 1 ∧ kindOf n = 1)) : apart (l ++ [n]) := fun j a b ha hb => by
  have hl : j + 1 < (l ++ [n]).length := (List.getElem?_eq_some_iff.1 hb).1
  rw [List.length_append, List.length_singleton] at hl
  have h1 : j < l.length := by omega
  rw [List.getElem?_append_left h1] at ha
  by_cases h2 : j + 1 < l.length
  · rw [List.getElem?_append_left h2] at hb
    exact h j a b ha hb
  · have e : j + 1 = l.length := by omega
    rw [e, List.getElem?_append_right (Nat.le_refl _), Nat.sub_self] at hb
    simp at hb
    subst hb
    refine hn a ?_
    rw [List.getLast?_eq_getElem?, ← ha]
    congr 1
    omega
theorem join1_apart {l : List Gv.Node} (n : Gv.Node) (h : apart l) : apart (join1 l n) := by
  unfold join1
  split
  · rename_i m hm
    obtain ⟨ini, rfl⟩ := List.getLast?_eq_some_iff.1 hm
    split
    · rename_i hk
      rw [List.dropLast_concat]
      refine apart_more (apart_left h) fun q hq => ?_
      obtain ⟨ini2, rfl⟩ := List.getLast?_eq_some_iff.1 hq
      rintro ⟨hq1, -⟩
      exact h ini2.length q m (by simp) (by simp) ⟨hq1, hk.2⟩
    · rename_i hk
      exact apart_more h fun q hq => by
        rw [hm] at hq
        injection hq with hq
        subst hq
        exact fun x => hk ⟨x.2, x.1⟩
  · rename_i hm
    exact apart_more h fun q hq => by rw [hm] at hq; cases hq
theorem fold_apart : ∀ (l o : List Gv.Node), apart o → apart (l.foldl join1 o)
  | [], _, h => h
  | n :: l, _, h => fold_apart l _ (join1_apart n h)
theorem joined_apart (l : List Gv.Node) : apart (joined l) := fold_apart l [] apart_nil
theorem fold_same : ∀ (l o : List Gv.Node), apart (o ++ l) → l.foldl join1 o = o ++ l
  | [], o, _ => by simp
  | n :: l, o, h => by
    have e : join1 o n = o ++ [n] := by
      unfold join1
      split
      · rename_i m hm
        obtain ⟨ini, rfl⟩ := List.getLast?_eq_some_iff.1 hm
        rw [if_neg]
        rintro ⟨h1, h2⟩
        exact h ini.length m n (by simp) (by simp) ⟨h2, h1⟩
      · rfl
    rw [List.foldl_cons, e, fold_same l (o ++ [n]) (by rw [List.append_assoc]; exact h), List.append_assoc]
    rfl
theorem joined_same {l : List Gv.Node} (h : apart l) : joined l = l := fold_same l [] h
theorem join1_all {P : Gv.Node → Prop} (hP : ∀ d, P (txt d)) {l : List Gv.Node} {n : Gv.Node} (h : ∀ x ∈ l, P x) (hn : P n) : ∀ x ∈ join1 l n, P x := by
  have h1 : ∀ x ∈ l ++ [n], P x := fun x hx => by
    rcases List.mem_append.1 hx with hx | hx
    · exact h x hx
    · rw [List.mem_singleton.1 hx]; exact hn
  unfold join1
  split
  · split
    · intro x hx
      rcases List.mem_append.1 hx with hx | hx
      · exact h x (List.dropLast_subset _ hx)
      · rw [List.mem_singleton.1 hx]; exact hP _
    · exact h1
  · exact h1
theorem fold_all {P : Gv.Node → Prop} (hP : ∀ d, P (txt d)) : ∀ (l o : List Gv.Node), (∀ x ∈ o, P x) → (∀ x ∈ l, P x) → ∀ x ∈ l.foldl join1 o, P x
  | [], _, h, _ => h
  | n :: l, _, h, hl => fold_all hP l _ (join1_all hP h (hl n (by simp))) fun x hx => hl x (by simp [hx])
theorem joined_all {P : Gv.Node → Prop} (hP : ∀ d, P (txt d)) {l : List Gv.Node} (h : ∀ x ∈ l, P x) : ∀ x ∈ joined l, P x := fold_all hP l [] (fun _ h => by cases h) h
theorem join1_len (l : List Gv.Node) (n : Gv.Node) : (join1 l n).length ≤ l.length + 1 := by
  unfold join1
  split
  · split
    · rw [List.length_append, List.length_dropLast, List.length_singleton]; omega
    · simp
  · simp
theorem fold_len : ∀ (l o : List Gv.Node), (l.foldl join1 o).length ≤ o.length + l.length
  | [], _ => Nat.le_refl _
  | n :: l, o => by
    have h1 := fold_len l (join1 o n)
    have h2 := join1_len o n
    simp only [List.foldl_cons, List.length_cons]
    omega
theorem joined_len (l : List Gv.Node) : (joined l).length ≤ l.length := by
  have := fold_len l []
  unfold joined
  simpa using this

theorem kids_with (n : Gv.Node) (l : List Gv.Node) : kidsOf (withKids n l) = l := by cases n; rfl
theorem with_with (n : Gv.Node) (l m : List Gv.Node) : withKids (withKids n l) m = withKids n m := by cases n; rfl
theorem left_all (n : Gv.Node) : ∀ x ∈ left n, own x = false := fun x hx => by
  have := (List.mem_filter.1 hx).2
  simpa using this
/-- STRIPPED AGAIN IT IS THE SAME. -/
theorem strip_strip (n : Gv.Node) : strip (strip n) = strip n := by
  have h1 : ∀ x ∈ joined (left n), own x = false := joined_all (fun d => own_text (by show (1 : Int) ≠ 0; decide)) (left_all n)
  have h2 : left (strip n) = joined (left n) := by
    unfold left strip
    rw [kids_with]
    exact List.filter_eq_self.2 fun x hx => by simpa using h1 x hx
  show withKids (strip n) (joined (left (strip n))) = strip n
  rw [h2, joined_same (joined_apart _)]
  unfold strip
  rw [with_with]
theorem strip_len (n : Gv.Node) : (kidsOf (strip n)).length ≤ (kidsOf n).length := by
  unfold strip
  rw [kids_with]
  exact Nat.le_trans (joined_len _) (List.length_filter_le _ _)
end Pr
end Go.Proofs.YtdhondndidoniaaGreatDoor
namespace Go.Proofs.YtdhondndidoniaaGreatDoor
namespace Pr
open Am

def el (s nm t : ByteArray) : Gv.Node := .mk 0 s nm [] [txt t] ByteArray.empty
def idEl (t : ByteArray) : Gv.Node := el "http://www.w3.org/2005/Atom".toUTF8 "id".toUTF8 t
def updEl (t : ByteArray) : Gv.Node := el "http://www.w3.org/2005/Atom".toUTF8 "updated".toUTF8 t
def edEl (t : ByteArray) : Gv.Node := el "http://www.w3.org/2007/app".toUTF8 "edited".toUTF8 t
def linkEl (t : ByteArray) : Gv.Node := .mk 0 "http://www.w3.org/2005/Atom".toUTF8 "link".toUTF8 [⟨ByteArray.empty, "rel".toUTF8, "edit".toUTF8⟩, ⟨ByteArray.empty, "href".toUTF8, t⟩] [] ByteArray.empty
def hasUpd (n : Gv.Node) : Bool := (left n).any fun k => isEl k atomS (lit "updated")
def upd (u : Bool) (t : ByteArray) : List Gv.Node := if u = true then [] else [updEl t]
def press (n : Gv.Node) (id t edit : ByteArray) : Gv.Node := withKids n (joined (left n ++ (idEl id :: (upd (hasUpd n) t ++ [edEl t, linkEl edit]))))

theorem join1_el {o : List Gv.Node} {n : Gv.Node} (h : kindOf n ≠ 1) : join1 o n = o ++ [n] := by
  unfold join1
  split
  · rw [if_neg (fun x => h x.1)]
  · rfl
theorem fold_els : ∀ (l o : List Gv.Node), (∀ x ∈ l, kindOf x ≠ 1) → l.foldl join1 o = o ++ l
  | [], o, _ => by simp
  | n :: l, o, h => by
    rw [List.foldl_cons, join1_el (h n (by simp)), fold_els l _ (fun x hx => h x (by simp [hx])), List.append_assoc]
    rfl
theorem joined_els (l r : List Gv.Node) (h : ∀ x ∈ r, kindOf x ≠ 1) : joined (l ++ r) = joined l ++ r := by
  unfold joined
  rw [List.foldl_append, fold_els r _ h]
theorem isEl_text {n : Gv.Node} (h : kindOf n = 1) (s m : List UInt8) : isEl n s m = false := by
  unfold isEl
  rw [h]
  rfl
theorem allIn_append (l r : List Gv.Node) (nm : List UInt8) : allIn (l ++ r) nm = allIn l nm ++ allIn r nm := List.filter_append ..
theorem allIn_text {n : Gv.Node} (h : kindOf n = 1) (nm : List UInt8) : allIn [n] nm = [] := by
  unfold allIn
  simp [isEl_text h]
theorem allIn_join1 (o : List Gv.Node) (n : Gv.Node) (nm : List UInt8) : allIn (join1 o n) nm = allIn o nm ++ allIn [n] nm := by
  unfold join1
  split
  · rename_i m hm
    obtain ⟨ini, rfl⟩ := List.getLast?_eq_some_iff.1 hm
    split
    · rename_i h
      rw [List.dropLast_concat, allIn_append, allIn_append, allIn_text h.1, allIn_text h.2, allIn_text (n := txt _) rfl]
      simp
    · exact allIn_append ..
  · exact allIn_append ..
theorem allIn_fold (nm : List UInt8) : ∀ (l o : List Gv.Node), allIn (l.foldl join1 o) nm = allIn o nm ++ allIn l nm
  | [], o => by simp [allIn]
  | n :: l, o => by
    rw [List.foldl_cons, allIn_fold nm l, allIn_join1, List.append_assoc, ← allIn_append]
    rfl
theorem allIn_joined (l : List Gv.Node) (nm : List UInt8) : allIn (joined l) nm = allIn l nm := by
  unfold joined
  rw [allIn_fold]
  rfl

/-- The kids of an entry pressed. -/
theorem press_kids (n : Gv.Node) (id t edit : ByteArray) : kidsOf (press n id t edit) = joined (left n) ++ (idEl id :: (upd (hasUpd n) t ++ [edEl t, linkEl edit])) := by
  unfold press
  rw [kids_with, joined_els]
  intro x hx
  have e : ∀ s m d, kindOf (el s m d) ≠ 1 := fun _ _ _ => by show (0 : Int) ≠ 1; decide
  rcases List.mem_cons.1 hx with rfl | hx
  · exact e _ _ _
  · rcases List.mem_append.1 hx with hx | hx
    · unfold upd at hx
      split at hx
      · cases hx
      · rw [List.mem_singleton.1 hx]; exact e _ _ _
    · rcases List.mem_cons.1 hx with rfl | hx
      · exact e _ _ _
      · rw [List.mem_singleton.1 hx]; show (0 : Int) ≠ 1; decide
theorem any_allIn (l : List Gv.Node) : (l.any fun k => isEl k atomS (lit "updated")) = decide (allIn l (lit "updated") ≠ []) := by
  unfold allIn
  rw [Bool.eq_iff_iff]
  simp
end Pr
end Go.Proofs.YtdhondndidoniaaGreatDoor
namespace Go.Proofs.YtdhondndidoniaaGreatDoor
namespace Pr
open Am

theorem isEl_el (s m : ByteArray) (as' : List Gv.Att) (kd : List Gv.Node) (d : ByteArray) (sp nm : List UInt8) : isEl (.mk 0 s m as' kd d) sp nm = (decide (s.data.toList = sp) && decide (m.data.toList = nm)) := by
  show (decide ((0 : Int) = 0) && decide (s.data.toList = sp) && decide (m.data.toList = nm)) = _
  rw [show decide ((0 : Int) = 0) = true from rfl, Bool.true_and]
variable {o : On}
end Pr
end Go.Proofs.YtdhondndidoniaaGreatDoor
