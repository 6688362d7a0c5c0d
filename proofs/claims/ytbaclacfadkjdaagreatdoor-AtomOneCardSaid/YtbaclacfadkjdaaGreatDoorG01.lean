/-
  Texts: what slices of strings read as, in lists of bytes; ends of walks.
  Code points and names, in plain Lean: what may be (char, start, part, space), the code point at a text's head (first), the longest head of such (span), names, plain lines; and the laws of names and of lines.
  Names with their spaces, in plain Lean: split, declare, resolve; names of other prefixes stay with pairs more behind; what is declared is resolved.
  The code point at a text's head, by its bytes: a class of first bytes at a time.
  Heads of texts that go on: code points, spans, names of a text behind which another one stands.
  References in texts, in plain Lean: digits, numbers, what a reference's name is (named), expand, escape; and the laws: what is escaped is expanded as it was; two texts that are expanded are so together.
  Tokens in plain Lean, as the document has them; and that what is a token goes on being one, whatever stands behind it.
  Tokens in plain Lean: comments, characters, instructions, tags, the declaration; each goes on being one.
  Tokens in plain Lean: tags, texts, the declaration go on; so do all tokens of a text: the theorems of the layer.
  Tokens in plain Lean: all tokens of a text, and of two texts one behind the other: the theorems of the layer.
  Tokens in plain Lean: the theorems of the layer.
  Documents as trees, in plain Lean: a stack of open elements; what stands about the element changes nothing.
  A row of bytes that a call owns.
  What the document's own words of code points come to: contracts of in, Char.
  What the document's own words of references come to: contracts of Space, digit, number, utf8.
-/
import Derived.Test.YtbaclacfadkjdaaGreatDoorRows
import Derived.WalkKit
import Derived.WalkSpells
import Derived.Lib.Hide
import Derived.Lib.MapLaws
import Derived.Lib.RuneBytes
import Derived.Lib.AppendStr
import Derived.Lib.OthersKept
import Derived.Maps.AppendAt
import Derived.Deep.DeepCutAuto
namespace Go.Proofs.YtbaclacfadkjdaaGreatDoor
open Go.RowKit
theorem ret_bool {a b : Bool} (h : a = b) : Ending.returned (.bool a) = .returned (.bool b) := by rw [h]
theorem ret_two {a b : Int} {r : Nat × Nat} {x y : Nat} (h : r = (x, y)) (ha : a = (x : Int)) (hb : b = (y : Int)) : Ending.returned (.tuple #[.int .i64 a, .int .i64 b]) = .returned (.tuple #[.int .i64 (r.1 : Int), .int .i64 (r.2 : Int)]) := by
  rw [h, ha, hb]
theorem getD_of (s : ByteArray) (k : Nat) (h : k < s.size) : s.data.toList.getD k 0 = s[k] := by
  have h1 : k < s.data.toList.length := by rw [Array.length_toList]; exact h
  rw [List.getD, List.getElem?_eq_getElem h1, Option.getD_some]
  rfl
theorem lst_ne {s : ByteArray} (h : 0 < s.size) : s.data.toList ≠ [] := by
  intro e
  have := congrArg List.length e
  rw [Array.length_toList] at this
  have h1 : 0 < s.data.size := h
  rw [this] at h1
  exact Nat.lt_irrefl _ h1
theorem extract_list (s : ByteArray) (a b : Nat) : (s.extract a b).data.toList = (s.data.toList.take b).drop a := by
  simp [ByteArray.data_extract, Array.toList_extract, List.drop_take]
theorem drop_list (s : ByteArray) (a : Nat) : (s.extract a s.size).data.toList = s.data.toList.drop a := by
  rw [extract_list, List.take_of_length_le (by simp)]
theorem take_list (s : ByteArray) (b : Nat) : (s.extract 0 b).data.toList = s.data.toList.take b := by
  rw [extract_list, List.drop_zero]
theorem bytes_eq {a b : ByteArray} (h : a.data.toList = b.data.toList) : a = b := by
  obtain ⟨⟨a⟩⟩ := a
  obtain ⟨⟨b⟩⟩ := b
  simp at h; rw [h]
theorem extract_full (s : ByteArray) : s.extract 0 s.size = s := bytes_eq (by rw [drop_list, List.drop_zero])
theorem list_len (s : ByteArray) : s.data.toList.length = s.size := by simp
def strLen : Value → Nat
  | .string t => t.size
  | _ => 0
theorem ret_int {a b : Int} (h : a = b) : Ending.returned (.int .i64 a) = .returned (.int .i64 b) := by rw [h]
theorem ne_empty {s : ByteArray} (h : 0 < s.size) : s.toList.isEmpty = false := by
  rw [List.isEmpty_eq_false_iff]; intro e
  rw [ByteArray.toList_eq] at e
  exact lst_ne h e
theorem all_take (p : UInt8 → Bool) (l : List UInt8) (k : Nat) (h : k < l.length) : (l.take (k + 1)).all p = ((l.take k).all p && p l[k]) := by
  rw [List.take_succ_eq_append_getElem h, List.all_append, List.all_cons, List.all_nil, Bool.and_true]
theorem all_not (p : UInt8 → Bool) (l : List UInt8) (k : Nat) (h : k < l.length) (hn : p l[k] = false) : l.all p = false := by
  rw [← Bool.not_eq_true, List.all_eq_true]
  intro x
  have := x l[k] (List.getElem_mem h)
  rw [hn] at this; cases this
theorem drop_cons (s : ByteArray) (k : Nat) (h : k < s.size) : s.data.toList.drop k = s[k] :: s.data.toList.drop (k + 1) := by
  have h1 : k < s.data.toList.length := by rw [list_len]; exact h
  rw [List.drop_eq_getElem_cons h1]
  rfl
theorem byte_is {b c : UInt8} (h : b.toNat = c.toNat) : b = c := UInt8.toNat_inj.1 h
theorem ret_str {a b : ByteArray} (h : a = b) : Ending.returned (.string a) = .returned (.string b) := by rw [h]
def StrsAt (b : Nat) (L : List ByteArray) (w : World) : Prop := ∀ j (h : j < L.length), w.cell? ⟨b, j, none⟩ = some (.string L[j])
theorem strsAt_cells {b : Nat} {L : List ByteArray} {w : World} {T : TypeId} {fr : Nat × Nat} (h : w.heap[b]? = some (.cells (L.map Value.string).toArray T fr)) : StrsAt b L w := by
  intro j hj
  simp only [World.cell?, h]
  simp [hj]
end Go.Proofs.YtbaclacfadkjdaaGreatDoor
namespace Go.Proofs.YtbaclacfadkjdaaGreatDoor
namespace G
def inR (c a b : Int) : Bool := decide (a ≤ c) && decide (c ≤ b)
def char (c : Int) : Bool := inR c 9 10 || inR c 13 13 || inR c 32 55295 || inR c 57344 65533 || inR c 65536 1114111
def space (c : Int) : Bool := decide (c = 32) || decide (c = 9) || decide (c = 10) || decide (c = 13)
def start (c : Int) : Bool :=
  inR c 58 58 || inR c 65 90 || inR c 95 95 || inR c 97 122 || inR c 192 214 || inR c 216 246 || inR c 248 767 || inR c 880 893 || inR c 895 8191 || inR c 8204 8205 ||
  inR c 8304 8591 || inR c 11264 12271 || inR c 12289 55295 || inR c 63744 64975 || inR c 65008 65533 || inR c 65536 983039
def part (c : Int) : Bool :=
  start c || (inR c 45 46 || inR c 48 57 || inR c 183 183 || inR c 768 879 || inR c 8255 8256)
def first (l : List UInt8) : Nat × Nat :=
  if l = [] then (0, 0) else if (Lib.decodeL l).1 = 65533 ∧ (Lib.decodeL l).2 = 1 then (0, 0) else Lib.decodeL l
theorem first_nil : first [] = (0, 0) := rfl
theorem first_le (l : List UInt8) : (first l).2 ≤ l.length := by
  unfold first
  split
  · exact Nat.zero_le _
  · split
    · exact Nat.zero_le _
    · exact Lib.decodeL_le l (by assumption)
open Lib in
/-! ### how long the head is in which all are so -/
def spanGo (p : Int → Bool) : Nat → List UInt8 → Nat
  | 0, _ => 0
  | f + 1, l => if (first l).2 ≠ 0 ∧ p (first l).1 = true then (first l).2 + spanGo p f (l.drop (first l).2) else 0
def span (p : Int → Bool) (l : List UInt8) : Nat := spanGo p l.length l
theorem spanGo_le (p : Int → Bool) : ∀ f l, spanGo p f l ≤ l.length
  | 0, _ => Nat.zero_le _
  | f + 1, l => by
    unfold spanGo
    split
    · have := spanGo_le p f (l.drop (first l).2)
      have h2 := first_le l
      rw [List.length_drop] at this
      omega
    · exact Nat.zero_le _
theorem spanGo_fuel (p : Int → Bool) : ∀ f g l, l.length ≤ f → l.length ≤ g → spanGo p f l = spanGo p g l
  | 0, 0, _, _, _ => rfl
  | 0, g + 1, l, hf, _ => by
    have : l = [] := List.length_eq_zero_iff.1 (by omega)
    subst this
    simp [spanGo, first_nil]
  | f + 1, 0, l, _, hg => by
    have : l = [] := List.length_eq_zero_iff.1 (by omega)
    subst this
    simp [spanGo, first_nil]
  | f + 1, g + 1, l, hf, hg => by
    unfold spanGo
    split
    · rename_i h
      have := first_le l
      rw [spanGo_fuel p f g _ (by rw [List.length_drop]; omega) (by rw [List.length_drop]; omega)]
    · rfl
theorem span_step (p : Int → Bool) (l : List UInt8) (h0 : (first l).2 ≠ 0) (hp : p (first l).1 = true) : span p l = (first l).2 + span p (l.drop (first l).2) := by
  have hle := first_le l
  unfold span
  cases hl : l.length with
  | zero => omega
  | succ n =>
    rw [spanGo, if_pos ⟨h0, hp⟩]
    rw [spanGo_fuel p n (l.drop (first l).2).length _ (by rw [List.length_drop]; omega) (Nat.le_refl _)]
theorem span_stop (p : Int → Bool) (l : List UInt8) (h : (first l).2 = 0 ∨ p (first l).1 = false) : span p l = 0 := by
  unfold span
  cases hl : l.length with
  | zero => rfl
  | succ n =>
    rw [spanGo, if_neg]
    rintro ⟨h0, h1⟩
    rcases h with h | h
    · exact h0 h
    · rw [h] at h1; cases h1
theorem span_le (p : Int → Bool) (l : List UInt8) : span p l ≤ l.length := spanGo_le p _ l
/-! ### names -/
def name (l : List UInt8) : Nat := if (first l).2 ≠ 0 ∧ start (first l).1 = true then (first l).2 + span part (l.drop (first l).2) else 0
def plain (l : List UInt8) : Bool := decide (l ≠ []) && decide (name l = l.length) && l.all (fun b => decide (b ≠ 58))
/-! ### whether all of a text may be -/
def check (l : List UInt8) : Bool := decide (span char l = l.length)
/-! ### plain lines -/
def lines : List UInt8 → List UInt8
  | [] => []
  | [b] => [if b = 13 then 10 else b]
  | b :: c :: t => if b = 13 then (if c = 10 then 10 :: lines t else 10 :: lines (c :: t)) else b :: lines (c :: t)
end G
end Go.Proofs.YtbaclacfadkjdaaGreatDoor
namespace Go.Proofs.YtbaclacfadkjdaaGreatDoor
structure Pair where
  name : ByteArray
  value : ByteArray
  deriving DecidableEq, Inhabited
namespace P
def xmlS : ByteArray := ⟨#[104, 116, 116, 112, 58, 47, 47, 119, 119, 119, 46, 119, 51, 46, 111, 114, 103, 47, 88, 77, 76, 47, 49, 57, 57, 56, 47, 110, 97, 109, 101, 115, 112, 97, 99, 101]⟩
def xmlnsS : ByteArray := ⟨#[104, 116, 116, 112, 58, 47, 47, 119, 119, 119, 46, 119, 51, 46, 111, 114, 103, 47, 50, 48, 48, 48, 47, 120, 109, 108, 110, 115, 47]⟩
def xml : ByteArray := ⟨#[120, 109, 108]⟩
def xmlns : ByteArray := ⟨#[120, 109, 108, 110, 115]⟩
def plainB (s : ByteArray) : Bool := G.plain s.data.toList
def colon (l : List UInt8) : Nat := (l.takeWhile (· ≠ 58)).length
def split (s : ByteArray) : Option (ByteArray × ByteArray) :=
  if colon s.data.toList < s.size then
    (if plainB (s.extract 0 (colon s.data.toList)) && plainB (s.extract (colon s.data.toList + 1) s.size) then some (s.extract 0 (colon s.data.toList), s.extract (colon s.data.toList + 1) s.size) else none)
  else if plainB s then some (ByteArray.empty, s) else none
def bound (p space : ByteArray) : Bool :=
  if p = xmlns then false else if p = xml then decide (space = xmlS) else if p = ByteArray.empty then decide (space ≠ xmlS) && decide (space ≠ xmlnsS) else decide (space ≠ ByteArray.empty) && decide (space ≠ xmlS) && decide (space ≠ xmlnsS)
def key (p n : ByteArray) : ByteArray := if p = ByteArray.empty then ByteArray.empty else n
def declGo : List Pair → List Pair → List Pair → Option (List Pair × List Pair)
  | sc, re, [] => some (sc, re)
  | sc, re, a :: t => match split a.name with
    | none => none
    | some (p, n) =>
      if p ≠ xmlns ∧ (p ≠ ByteArray.empty ∨ n ≠ xmlns) then declGo sc (re ++ [a]) t
      else if bound (key p n) a.value then declGo (sc ++ [⟨key p n, a.value⟩]) re t else none
def declare (l : List Pair) : Option (List Pair × List Pair) := declGo [] [] l
def last (p : ByteArray) : List Pair → Option ByteArray
  | [] => none
  | a :: t => match last p t with
    | some v => some v
    | none => if a.name = p then some a.value else none
def resolve (scope : List Pair) (s : ByteArray) (attr : Bool) : Option (ByteArray × ByteArray) :=
  match split s with
  | none => none
  | some (p, n) =>
    if p = xml then some (xmlS, n) else if p = xmlns then none else if p = ByteArray.empty ∧ attr = true then some (ByteArray.empty, n)
    else match last p scope with
      | some v => if p ≠ ByteArray.empty ∧ v = ByteArray.empty then none else some (v, n)
      | none => if p ≠ ByteArray.empty then none else some (ByteArray.empty, n)
/-! ### laws -/
end P
end Go.Proofs.YtbaclacfadkjdaaGreatDoor
namespace Go.Proofs.YtbaclacfadkjdaaGreatDoor
namespace G
open Lib
def firstN (n b0 b1 b2 b3 : Nat) : Nat × Nat := if (decodeN n b0 b1 b2 b3).1 = 65533 ∧ (decodeN n b0 b1 b2 b3).2 = 1 then (0, 0) else decodeN n b0 b1 b2 b3
theorem first_N (l : List UInt8) (h : l ≠ []) : first l = firstN l.length (l.getD 0 0).toNat (l.getD 1 0).toNat (l.getD 2 0).toNat (l.getD 3 0).toNat := by
  unfold first firstN
  rw [if_neg h, decodeL_N]
theorem firstN_of {n b0 b1 b2 b3 : Nat} {d : Nat × Nat} (h : decodeN n b0 b1 b2 b3 = d) : firstN n b0 b1 b2 b3 = if d.1 = 65533 ∧ d.2 = 1 then (0, 0) else d := by unfold firstN; rw [h]
theorem firstN_ascii {n b0 b1 b2 b3 : Nat} (h : b0 < 128) : firstN n b0 b1 b2 b3 = (b0, 1) := by
  have e : decodeN n b0 b1 b2 b3 = (b0, 1) := by unfold decodeN; rw [if_pos h]
  rw [firstN_of e, if_neg (by dsimp only; omega)]
theorem firstN_none {n b0 b1 b2 b3 : Nat} (h : decodeN n b0 b1 b2 b3 = (65533, 1)) : firstN n b0 b1 b2 b3 = (0, 0) := by
  rw [firstN_of h, if_pos ⟨rfl, rfl⟩]
theorem firstN_bad {n b0 b1 b2 b3 : Nat} (h : 128 ≤ b0) (hb : b0 < 192 ∨ 248 ≤ b0) (h8 : b0 < 256) : firstN n b0 b1 b2 b3 = (0, 0) := by
  refine firstN_none ?_
  unfold decodeN
  rw [if_neg (by omega), if_neg (by omega), if_neg (by omega), if_neg (by omega)]
theorem firstN_two {n b0 b1 b2 b3 : Nat} (h : 192 ≤ b0) (h' : b0 < 224) (h1 : b1 < 256) :
    firstN n b0 b1 b2 b3 = if 2 ≤ n ∧ (128 ≤ b1 ∧ b1 ≤ 191) ∧ 128 ≤ (b0 - 192) * 64 + (b1 - 128) then ((b0 - 192) * 64 + (b1 - 128), 2) else (0, 0) := by
  by_cases hc : 2 ≤ n ∧ (128 ≤ b1 ∧ b1 ≤ 191)
  · have e : decodeN n b0 b1 b2 b3 = if (b0 - 192) * 64 + (b1 - 128) ≥ 128 then ((b0 - 192) * 64 + (b1 - 128), 2) else (65533, 1) := by
      unfold decodeN
      rw [if_neg (by omega), if_pos (by omega), show b0 % 32 * 64 + b1 % 64 = (b0 - 192) * 64 + (b1 - 128) by omega]
    by_cases hd : 128 ≤ (b0 - 192) * 64 + (b1 - 128)
    · rw [if_pos hd] at e
      rw [firstN_of e, if_neg (by dsimp only; omega), if_pos ⟨hc.1, hc.2, hd⟩]
    · rw [if_neg hd] at e
      rw [firstN_none e, if_neg (by omega)]
  · rw [if_neg (by omega)]
    refine firstN_none ?_
    unfold decodeN
    rw [if_neg (by omega), if_neg (by omega), if_neg (by omega), if_neg (by omega)]
theorem firstN_three {n b0 b1 b2 b3 : Nat} (h : 224 ≤ b0) (h' : b0 < 240) (h1 : b1 < 256) (h2 : b2 < 256) :
    firstN n b0 b1 b2 b3 = if 3 ≤ n ∧ (128 ≤ b1 ∧ b1 ≤ 191) ∧ (128 ≤ b2 ∧ b2 ≤ 191) ∧ 2048 ≤ ((b0 - 224) * 64 + (b1 - 128)) * 64 + (b2 - 128) ∧
        (((b0 - 224) * 64 + (b1 - 128)) * 64 + (b2 - 128) < 55296 ∨ 57344 ≤ ((b0 - 224) * 64 + (b1 - 128)) * 64 + (b2 - 128))
      then (((b0 - 224) * 64 + (b1 - 128)) * 64 + (b2 - 128), 3) else (0, 0) := by
  by_cases hc : 3 ≤ n ∧ (128 ≤ b1 ∧ b1 ≤ 191) ∧ (128 ≤ b2 ∧ b2 ≤ 191)
  · have hv : b0 % 16 * 4096 + b1 % 64 * 64 + b2 % 64 = ((b0 - 224) * 64 + (b1 - 128)) * 64 + (b2 - 128) := by omega
    generalize hq : ((b0 - 224) * 64 + (b1 - 128)) * 64 + (b2 - 128) = c at hv ⊢
    have e : decodeN n b0 b1 b2 b3 = if c ≥ 2048 ∧ (c < 55296 ∨ 57344 ≤ c ∧ c ≤ 1114111) then (c, 3) else (65533, 1) := by
      unfold decodeN
      rw [if_neg (by omega), if_neg (by omega), if_pos (by omega), hv]
    by_cases hd : 2048 ≤ c ∧ (c < 55296 ∨ 57344 ≤ c)
    · rw [if_pos (by omega)] at e
      rw [firstN_of e, if_neg (by dsimp only; omega), if_pos ⟨hc.1, hc.2.1, hc.2.2, hd⟩]
    · rw [if_neg (by omega)] at e
      rw [firstN_none e, if_neg (by omega)]
  · rw [if_neg (by omega)]
    refine firstN_none ?_
    unfold decodeN
    rw [if_neg (by omega), if_neg (by omega), if_neg (by omega), if_neg (by omega)]
theorem firstN_four {n b0 b1 b2 b3 : Nat} (h : 240 ≤ b0) (h' : b0 < 248) (h1 : b1 < 256) (h2 : b2 < 256) (h3 : b3 < 256) :
    firstN n b0 b1 b2 b3 = if 4 ≤ n ∧ (128 ≤ b1 ∧ b1 ≤ 191) ∧ (128 ≤ b2 ∧ b2 ≤ 191) ∧ (128 ≤ b3 ∧ b3 ≤ 191) ∧ 65536 ≤ (((b0 - 240) * 64 + (b1 - 128)) * 64 + (b2 - 128)) * 64 + (b3 - 128) ∧
        (((b0 - 240) * 64 + (b1 - 128)) * 64 + (b2 - 128)) * 64 + (b3 - 128) ≤ 1114111
      then ((((b0 - 240) * 64 + (b1 - 128)) * 64 + (b2 - 128)) * 64 + (b3 - 128), 4) else (0, 0) := by
  by_cases hc : 4 ≤ n ∧ (128 ≤ b1 ∧ b1 ≤ 191) ∧ (128 ≤ b2 ∧ b2 ≤ 191) ∧ (128 ≤ b3 ∧ b3 ≤ 191)
  · have hv : b0 % 8 * 262144 + b1 % 64 * 4096 + b2 % 64 * 64 + b3 % 64 = (((b0 - 240) * 64 + (b1 - 128)) * 64 + (b2 - 128)) * 64 + (b3 - 128) := by omega
    generalize hq : (((b0 - 240) * 64 + (b1 - 128)) * 64 + (b2 - 128)) * 64 + (b3 - 128) = c at hv ⊢
    have e : decodeN n b0 b1 b2 b3 = if c ≥ 65536 ∧ (c < 55296 ∨ 57344 ≤ c ∧ c ≤ 1114111) then (c, 4) else (65533, 1) := by
      unfold decodeN
      rw [if_neg (by omega), if_neg (by omega), if_neg (by omega), if_pos (by omega), hv]
    by_cases hd : 65536 ≤ c ∧ c ≤ 1114111
    · rw [if_pos (by omega)] at e
      rw [firstN_of e, if_neg (by dsimp only; omega), if_pos ⟨hc.1, hc.2.1, hc.2.2.1, hc.2.2.2, hd⟩]
    · rw [if_neg (by omega)] at e
      rw [firstN_none e, if_neg (by omega)]
  · rw [if_neg (by omega)]
    refine firstN_none ?_
    unfold decodeN
    rw [if_neg (by omega), if_neg (by omega), if_neg (by omega), if_neg (by omega)]
end G
end Go.Proofs.YtbaclacfadkjdaaGreatDoor
namespace Go.Proofs.YtbaclacfadkjdaaGreatDoor
namespace G
end G
end Go.Proofs.YtbaclacfadkjdaaGreatDoor
namespace Go.Proofs.YtbaclacfadkjdaaGreatDoor
namespace E
def digit (c : UInt8) (base : Nat) : Option Nat :=
  let n := if 48 ≤ c.toNat ∧ c.toNat ≤ 57 then some (c.toNat - 48) else if 65 ≤ c.toNat ∧ c.toNat ≤ 70 then some (c.toNat - 55) else if 97 ≤ c.toNat ∧ c.toNat ≤ 102 then some (c.toNat - 87) else none
  n.bind fun k => if k < base then some k else none
def numGo (base : Nat) : Nat → List UInt8 → Option Nat
  | n, [] => some n
  | n, c :: t => (digit c base).bind fun d => numGo base (min (n * base + d) 1114112) t
def number (base : Nat) (l : List UInt8) : Option Nat :=
  if l = [] then none else (numGo base 0 l).bind fun n => if G.char n then some n else none
def named (l : List UInt8) : Option (List UInt8) :=
  if l = [108, 116] then some [60] else if l = [103, 116] then some [62] else if l = [97, 109, 112] then some [38] else if l = [113, 117, 111, 116] then some [34] else if l = [97, 112, 111, 115] then some [39]
  else if 2 < l.length ∧ l.take 2 = [35, 120] then (number 16 (l.drop 2)).map fun n => Lib.encodeRune n
  else if 1 < l.length ∧ l.take 1 = [35] then (number 10 (l.drop 1)).map fun n => Lib.encodeRune n
  else none
def semi (t : List UInt8) : Option (List UInt8 × List UInt8) :=
  match t.drop (t.takeWhile (· ≠ 59)).length with
  | [] => none
  | _ :: r => some (t.takeWhile (· ≠ 59), r)
def blank (attr : Bool) (b : UInt8) : UInt8 := if attr && G.space b.toNat then 32 else b
def expandGo (attr : Bool) : Nat → List UInt8 → Option (List UInt8)
  | _, [] => some []
  | 0, _ :: _ => none
  | f + 1, b :: t =>
    if b = 38 then (semi t).bind fun x => (named x.1).bind fun u => (expandGo attr f x.2).map fun r => u ++ r
    else (expandGo attr f t).map fun r => blank attr b :: r
def expand (attr : Bool) (l : List UInt8) : Option (List UInt8) := expandGo attr l.length l
def esc (attr : Bool) (b : UInt8) : List UInt8 :=
  if b = 38 then [38, 97, 109, 112, 59] else if b = 60 then [38, 108, 116, 59] else if b = 62 then [38, 103, 116, 59] else if b = 13 then [38, 35, 120, 68, 59]
  else if attr = true ∧ b = 34 then [38, 113, 117, 111, 116, 59] else if attr = true ∧ b = 9 then [38, 35, 120, 57, 59] else if attr = true ∧ b = 10 then [38, 35, 120, 65, 59]
  else [b]
def escape (attr : Bool) (l : List UInt8) : List UInt8 := l.flatMap (esc attr)
/-! ### laws -/
end E
end Go.Proofs.YtbaclacfadkjdaaGreatDoor
namespace Go.Proofs.YtbaclacfadkjdaaGreatDoor
namespace T
structure Tok where
  kind : Nat
  name : List UInt8
  attrs : List (List UInt8 × List UInt8)
  alone : Bool
  data : List UInt8
  deriving DecidableEq
/-! ### pieces -/
def begins (p l : List UInt8) : Bool := p.isPrefixOf l
def skip (l : List UInt8) : List UInt8 := l.dropWhile (fun b => G.space (b.toNat : Int))
def lower (c : UInt8) : UInt8 := if 65 ≤ c.toNat ∧ c.toNat ≤ 90 then c + 32 else c
def cutAt (p : List UInt8) : List UInt8 → Option (List UInt8 × List UInt8)
  | [] => none
  | b :: t => if begins p (b :: t) then some ([], (b :: t).drop p.length) else (cutAt p t).map fun x => (b :: x.1, x.2)
def nameAt (l : List UInt8) : Option (List UInt8 × List UInt8) := if G.name l = 0 then none else some (l.take (G.name l), l.drop (G.name l))
theorem skip_le (l : List UInt8) : (skip l).length ≤ l.length := (List.dropWhile_sublist _).length_le
theorem skip_head (b : UInt8) (t : List UInt8) : skip (b :: t) = if G.space (b.toNat : Int) then skip t else b :: t := by
  unfold skip
  rw [List.dropWhile_cons]
end T
end Go.Proofs.YtbaclacfadkjdaaGreatDoor
namespace Go.Proofs.YtbaclacfadkjdaaGreatDoor
namespace T
abbrev Got := Except Nat (Tok × List UInt8)
def comment (l : List UInt8) : Got :=
  match cutAt [45, 45] l with
  | some (a, 62 :: r) => .ok (⟨3, [], [], false, a⟩, r)
  | _ => .error 70
def cdata (l : List UInt8) : Got :=
  match cutAt [93, 93, 62] l with
  | some (a, r) => .ok (⟨2, [], [], true, a⟩, r)
  | none => .error 70
def spaced (a : List UInt8) : Bool := match a with | [] => true | b :: _ => G.space (b.toNat : Int)
def pi (l : List UInt8) : Got :=
  match nameAt l with
  | none => .error 70
  | some (n, rest) =>
    if n.map lower = [120, 109, 108] then .error 70
    else match cutAt [63, 62] rest with
      | none => .error 70
      | some (a, r) => if spaced a then .ok (⟨4, n, [], false, skip a⟩, r) else .error 70
def quoted (l : List UInt8) : Option (List UInt8 × List UInt8) :=
  match l with
  | [] => none
  | q :: t => if q = 34 ∨ q = 39 then cutAt [q] t else none
def attr (l : List UInt8) : Except Nat ((List UInt8 × List UInt8) × List UInt8) :=
  match nameAt l with
  | none => .error 70
  | some (n, rest) =>
    match skip rest with
    | 61 :: t =>
      match quoted (skip t) with
      | none => .error 70
      | some (q, r) => if 60 ∈ q then .error 70 else match E.expand true q with | none => .error 60 | some v => .ok ((n, v), r)
    | _ => .error 70
def openGo : Nat → List UInt8 → List (List UInt8 × List UInt8) → List UInt8 → Got
  | 0, _, _, _ => .error 70
  | f + 1, n, ps, rest =>
    match skip rest with
    | 62 :: r => .ok (⟨0, n, ps, false, []⟩, r)
    | 47 :: 62 :: r => .ok (⟨0, n, ps, true, []⟩, r)
    | next =>
      if next.length = rest.length then .error 70
      else match attr next with
        | .error e => .error e
        | .ok (a, more) => if ps.any (fun x => decide (x.1 = a.1)) then .error 71 else openGo f n (ps ++ [a]) more
def opened (l : List UInt8) : Got :=
  match nameAt l with
  | none => .error 70
  | some (n, rest) => openGo (rest.length + 1) n [] rest
def shut (l : List UInt8) : Got :=
  match nameAt l with
  | none => .error 70
  | some (n, rest) => match skip rest with | 62 :: r => .ok (⟨1, n, [], false, []⟩, r) | _ => .error 70
def text (l : List UInt8) : Got :=
  if (cutAt [93, 93, 62] (l.takeWhile (· ≠ 60))).isSome then .error 70
  else match E.expand false (l.takeWhile (· ≠ 60)) with
    | none => .error 60
    | some d => .ok (⟨2, [], [], decide (38 ∈ l.takeWhile (· ≠ 60)), d⟩, l.dropWhile (· ≠ 60))
def word (l name : List UInt8) : Option (List UInt8 × List UInt8) :=
  if (skip l).length = l.length then none
  else if begins name (skip l) then
    match skip ((skip l).drop name.length) with
    | 61 :: t => quoted (skip t)
    | _ => none
  else none
def version (l : List UInt8) : Bool := begins [49, 46] l && decide (3 ≤ l.length) && (l.drop 2).all (fun b => decide (48 ≤ b.toNat ∧ b.toNat ≤ 57))
def encoding (l : List UInt8) : Option (List UInt8) :=
  match word l [101, 110, 99, 111, 100, 105, 110, 103] with
  | none => some l
  | some (v, more) => if v.map lower = [117, 116, 102, 45, 56] then some more else none
def standalone (l : List UInt8) : Option (List UInt8) :=
  match word l [115, 116, 97, 110, 100, 97, 108, 111, 110, 101] with
  | none => some l
  | some (v, more) => if v = [121, 101, 115] ∨ v = [110, 111] then some more else none
def declEnd (l : List UInt8) : Got := match skip l with | 63 :: 62 :: r => .ok (⟨5, [], [], false, []⟩, r) | _ => .error 70
def decl (l : List UInt8) : Got :=
  match word l [118, 101, 114, 115, 105, 111, 110] with
  | none => .error 70
  | some (v, rest) =>
    if version v then
      match encoding rest with
      | none => .error 70
      | some rest => match standalone rest with | none => .error 70 | some rest => declEnd rest
    else .error 70
def declares (l : List UInt8) : Bool := begins [60, 63, 120, 109, 108] l && (match l.drop 5 with | [] => false | b :: _ => G.space (b.toNat : Int))
def next (first : Bool) (l : List UInt8) : Got :=
  if first && declares l then decl (l.drop 5)
  else if begins [60, 33, 45, 45] l then comment (l.drop 4)
  else if begins [60, 33, 91, 67, 68, 65, 84, 65, 91] l then cdata (l.drop 9)
  else if begins [60, 33, 68, 79, 67, 84, 89, 80, 69] l then .error 72
  else if begins [60, 33] l then .error 70
  else if begins [60, 63] l then pi (l.drop 2)
  else if begins [60, 47] l then shut (l.drop 2)
  else if begins [60] l then opened (l.drop 1)
  else text l
def go : Nat → Bool → List UInt8 → Except Nat (List Tok)
  | _, _, [] => .ok []
  | 0, _, _ :: _ => .error 70
  | f + 1, first, l => match next first l with | .error e => .error e | .ok (t, r) => match go f false r with | .error e => .error e | .ok ts => .ok (t :: ts)
def tokens (l : List UInt8) : Except Nat (List Tok) :=
  if 100000 < l.length then .error 2 else if G.check l = false then .error 50 else go (G.lines l).length true (G.lines l)
/-! ### each goes on -/
end T
end Go.Proofs.YtbaclacfadkjdaaGreatDoor
namespace Go.Proofs.YtbaclacfadkjdaaGreatDoor
namespace T
end T
end Go.Proofs.YtbaclacfadkjdaaGreatDoor
namespace Go.Proofs.YtbaclacfadkjdaaGreatDoor
namespace T
def run (first : Bool) (l : List UInt8) : Except Nat (List Tok) := go l.length first l
end T
end Go.Proofs.YtbaclacfadkjdaaGreatDoor
namespace Go.Proofs.YtbaclacfadkjdaaGreatDoor
namespace T
/-! ### tags put behind -/
def tags : List UInt8 := [60, 33, 45, 45, 32, 45, 32, 45, 45, 62, 60, 63, 112, 32, 32, 113, 32, 63, 62]
/-! ### a declaration -/
end T
end Go.Proofs.YtbaclacfadkjdaaGreatDoor
namespace Go.Proofs.YtbaclacfadkjdaaGreatDoor
namespace Gv
open T (Tok)
structure Att where
  space : ByteArray
  name : ByteArray
  value : ByteArray
  deriving DecidableEq
inductive Node where
  | mk (kind : Int) (space name : ByteArray) (attrs : List Att) (kids : List Node) (data : ByteArray)
def str (l : List UInt8) : ByteArray := ⟨l.toArray⟩
def text (d : ByteArray) : Node := .mk 1 ByteArray.empty ByteArray.empty [] [] d
def leaf (t : Tok) : Node :=
  if t.kind = 3 then .mk 2 ByteArray.empty ByteArray.empty [] [] (str t.data)
  else if t.kind = 4 then .mk 3 ByteArray.empty (str t.name) [] [] (str t.data) else text (str t.data)
def Node.kind : Node → Int | .mk k _ _ _ _ _ => k
def Node.data : Node → ByteArray | .mk _ _ _ _ _ d => d
def grown (l : List Node) (n : Node) : List Node :=
  if n.kind = 1 ∧ n.data = ByteArray.empty then l
  else match l.getLast? with
    | some m => if n.kind = 1 ∧ m.kind = 1 then l.dropLast ++ [text (m.data ++ n.data)] else l ++ [n]
    | none => [n]
def attrsGo (scope : List Pair) : List Att → List Pair → Except Nat (List Att)
  | acc, [] => .ok acc
  | acc, a :: l => match P.resolve scope a.name true with
    | none => .error 80
    | some (sp, nm) => if acc.any (fun x => decide (x.space = sp ∧ x.name = nm)) then .error 71 else attrsGo scope (acc ++ [⟨sp, nm, a.value⟩]) l
def element (t : Tok) (scope : List Pair) : Except Nat ((ByteArray × ByteArray × List Att) × List Pair) :=
  if 50 < t.attrs.length then .error 2
  else match P.declare (t.attrs.map fun p => ⟨str p.1, str p.2⟩) with
    | none => .error 80
    | some (more, rest) => match P.resolve (scope ++ more) (str t.name) false with
      | none => .error 80
      | some (sp, nm) => match attrsGo (scope ++ more) [] rest with
        | .error e => .error e
        | .ok as' => .ok ((sp, nm, as'), scope ++ more)
structure Open where
  tag : List UInt8
  space : ByteArray
  name : ByteArray
  attrs : List Att
  kids : List Node
  scope : List Pair
def Open.node (o : Open) : Node := .mk 0 o.space o.name o.attrs o.kids ByteArray.empty
structure St where
  stack : List Open
  root : Option Node
def ended (s : List Open) (root : Option Node) (n : Node) : St := match s with | [] => ⟨[], some n⟩ | o :: os => ⟨{ o with kids := o.kids ++ [n] } :: os, root⟩
def scopeOf (s : List Open) : List Pair := match s with | [] => [] | o :: _ => o.scope
def opened (s : St) (t : Tok) : Except Nat St :=
  if 30 < s.stack.length + 1 then .error 2
  else match element t (scopeOf s.stack) with
    | .error e => .error e
    | .ok ((sp, nm, l), sc) => if t.alone then .ok (ended s.stack s.root (.mk 0 sp nm l [] ByteArray.empty)) else .ok ⟨⟨t.name, sp, nm, l, [], sc⟩ :: s.stack, s.root⟩
def blankText (l : List UInt8) : Bool := l.all fun b => G.space (b.toNat : Int)
def step (s : St) (t : Tok) : Except Nat St :=
  match s.stack with
  | [] =>
    if t.kind = 2 ∧ (t.alone = true ∨ blankText t.data = false) then .error 90
    else if t.kind = 1 ∨ (t.kind = 0 ∧ s.root.isSome = true) then .error 90
    else if t.kind = 4 ∧ G.plain t.name = false then .error 80
    else if t.kind = 0 then opened s t
    else .ok s
  | o :: os =>
    if t.kind = 1 then (if t.name = o.tag then .ok (ended os s.root o.node) else .error 90)
    else if t.kind = 0 then opened s t
    else if t.kind = 4 ∧ G.plain t.name = false then .error 80
    else .ok ⟨{ o with kids := grown o.kids (leaf t) } :: os, s.root⟩
def steps : St → List Tok → Except Nat St
  | s, [] => .ok s
  | s, t :: l => match step s t with | .error e => .error e | .ok s' => steps s' l
def final (s : St) : Except Nat Node := match s.stack, s.root with | [], some n => .ok n | _, _ => .error 90
def tree (l : List Tok) : Except Nat Node := match steps ⟨[], none⟩ l with | .error e => .error e | .ok s => final s
def parse (l : List UInt8) : Except Nat Node := match T.tokens l with | .error e => .error e | .ok ts => tree ts
/-! ### laws -/
/-! ### an element put into another one -/
end Gv
end Go.Proofs.YtbaclacfadkjdaaGreatDoor
namespace Go.Proofs.YtbaclacfadkjdaaGreatDoor
open Go.RowKit
theorem grown_of_below {w w' : World} (h : Below w.heap.size w w') (row : Option Nat) : w.grownBy w' row := ⟨h.os, h.tape, h.output, h.size, fun k hk _ => h.block k hk⟩
theorem infoByte : (Tryz.prog.info? 5).map (fun i => (i.zero, i.size, i.bytes)) = some (some (.int .u8 0), 1, 1) := by kernel_rfl
def Owns (B : Nat) (v : Value) (l : List UInt8) (w : World) : Prop := w.ownsRow B 5 1 v l.length (Lib.byteCells l)
theorem Owns.below {B : Nat} {v : Value} {l : List UInt8} {w w' : World} (h : Owns B v l w) (hg : w.grownBy w' v.ownBlock) (hB : B ≤ w.heap.size) : Below B w w' :=
  (Below.refl _ _).grown hg hB (fun j e => (World.ownsRow.lt h j e).1)
theorem owns_of {B n : Nat} {v : Value} {l : List UInt8} {xs : List Value} {w : World} (h : w.ownsRow B 5 1 v n xs) (hn : n = l.length) (hx : xs = Lib.byteCells l) : Owns B v l w := by
  subst hn; subst hx; exact h
theorem row_form {w : World} {B : Nat} {e : TypeId} {size n : Nat} {v : Value} {xs : List Value} (h : w.ownsRow B e size v n xs) (hn : 0 < n) :
    ∃ g cap, v = .slice (some ⟨g, 0, none⟩) n cap ∧ B ≤ g := by
  obtain ⟨_, ⟨_, rfl⟩ | ⟨g, cap, cur, rfl, hb, _⟩⟩ := h
  · omega
  · exact ⟨g, cap, rfl, hb⟩
theorem text_of {B : Nat} {v : Value} {l : List UInt8} {w : World} (h : Owns B v l w) (hl : 0 < l.length) : ∃ g cap, v = .slice (some ⟨g, 0, none⟩) l.length cap ∧ ∀ j (hj : j < l.length), w.cell? ((⟨g, 0, none⟩ : Addr).add j) = some (.int .u8 (l[j].toNat : Int)) := by
  obtain ⟨g, cap, rfl, hb⟩ := row_form h hl
  exact ⟨g, cap, rfl, fun j hj => World.ownsRow.cells h (g := g) rfl j _ (by simp [Lib.byteCells, hj])⟩
theorem owns_nil (B : Nat) (w : World) : Owns B (.slice none 0 0) [] w := World.ownsRow_nil _ _ _ _
set_option maxRecDepth 100000 in
theorem owns_string {B : Nat} {v : Value} {l : List UInt8} {w : World} (h : Owns B v l w) (h0 : l = [] → v = .slice none 0 0) : (convert 54 9 v).run Tryz.prog w = .ok (.string ⟨l.toArray⟩) w := by
  by_cases hl : l = []
  · rw [h0 hl, hl]
    rfl
  · obtain ⟨g, cap, rfl, hc⟩ := text_of h (List.length_pos_iff.2 hl)
    exact run_convert_bytes_back (l := l) w 54 9 5 ⟨g, 0, none⟩ cap Tryz.underlying54 Tryz.underlying5 Tryz.underlying9 hc
end Go.Proofs.YtbaclacfadkjdaaGreatDoor
namespace Go.Proofs.YtbaclacfadkjdaaGreatDoor
open Go.RowKit
namespace G
def any (c : Int) (L : List (Int × Int)) : Bool := L.any fun p => inR c p.1 p.2
theorem any_take (c : Int) (L : List (Int × Int)) (k : Nat) (h : k < L.length) : any c (L.take (k + 1)) = (any c (L.take k) || inR c L[k].1 L[k].2) := by
  unfold any
  rw [List.take_succ_eq_append_getElem h, List.any_append, List.any_cons, List.any_nil, Bool.or_false]
theorem any_at (c : Int) (L : List (Int × Int)) (k : Nat) (h : k < L.length) (hi : inR c L[k].1 L[k].2 = true) : any c L = true := by
  unfold any
  rw [List.any_eq_true]
  exact ⟨_, List.getElem_mem h, hi⟩
end G
def PairsAt (b : Nat) (L : List (Int × Int)) (w : World) : Prop := ∀ j (h : j < L.length), w.cell? ⟨b, 2 * j, none⟩ = some (.int .i64 L[j].1) ∧ w.cell? ⟨b, 2 * j + 1, none⟩ = some (.int .i64 L[j].2)
set_option maxHeartbeats 800000 in
theorem refIn_any (c : Int) (L : List (Int × Int)) (b n cap : Nat) (w : World) (hL : PairsAt b L w) (hn : L.length ≤ 1000) (hln : 2 * L.length = n) :
    Calls Tryz.prog 154 #[.int .i64 c, .slice (some ⟨b, 0, none⟩) n cap] w fun e w' => e = .returned (.bool (G.any c L)) ∧ w = w' := by
  have hln := Lib.hid hln
  go_enter Tryz.func154, Tryz.ntmps154
  go_wp2_with fail
  go_loop [5] (fun i => ∃ k : Nat, 2 * k ≤ n ∧ i = .int .i64 ((2 * k : Nat) : Int) ∧ G.any c (L.take k) = false) (fun i => n - (intOf i).toNat)
  case atStart => exact ⟨0, Nat.zero_le _, rfl, rfl⟩
  case round =>
    obtain ⟨k, hk, rfl, hall⟩ := hrel
    by_cases hlt : k < L.length
    · obtain ⟨c0, c1⟩ := hL k hlt
      have hst := Lib.hid (G.any_take c L k hlt)
      have hat := Lib.hid (G.any_at c L k hlt)
      have hk2 : 2 * k + 1 < n := by rw [← hln.out]; omega
      generalize L[k].1 = x at c0 hst hat
      generalize L[k].2 = y at c1 hst hat
      have hall := Lib.hid hall
      by_cases hx : x ≤ c
      · by_cases hy : c ≤ y
        · have hr := Lib.hid (hat.out (by simp [G.inR, hx, hy]))
          go_wp2
          go_ret
          exact ⟨ret_bool hr.out.symm, rfl⟩
        · have hr := Lib.hid (show G.any c (L.take (k + 1)) = false by rw [hst.out, hall.out]; simp [G.inR, hx, hy])
          go_wp2
          go_round
          case rel => exact ⟨k + 1, by omega, by go_num, hr.out⟩
          case measure => simp [intOf]; omega
      · have hr := Lib.hid (show G.any c (L.take (k + 1)) = false by rw [hst.out, hall.out]; simp [G.inR, hx])
        go_wp2
        go_round
        case rel => exact ⟨k + 1, by omega, by go_num, hr.out⟩
        case measure => simp [intOf]; omega
    · have hk2 : 2 * k = n := by rw [← hln.out]; rw [← hln.out] at hk; omega
      have hfull : L.take k = L := List.take_of_length_le (by omega)
      have hr := Lib.hid (show G.any c L = false by rw [← hfull]; exact hall)
      clear hfull
      go_wp2
      go_ret
      exact ⟨ret_bool hr.out.symm, rfl⟩
def cellsOf (L : List (Int × Int)) : List Value := L.flatMap fun p => [.int .i64 p.1, .int .i64 p.2]
theorem cellsOf_at (L : List (Int × Int)) : ∀ (j : Nat) (h : j < L.length), (cellsOf L)[2 * j]? = some (.int .i64 L[j].1) ∧ (cellsOf L)[2 * j + 1]? = some (.int .i64 L[j].2) := by
  induction L with
  | nil => intro j h; simp at h
  | cons p L ih =>
    intro j h
    have e : cellsOf (p :: L) = .int .i64 p.1 :: .int .i64 p.2 :: cellsOf L := rfl
    cases j with
    | zero => rw [e]; exact ⟨rfl, rfl⟩
    | succ j =>
      have := ih j (by simpa using h)
      rw [e, show 2 * (j + 1) = 2 * j + 1 + 1 by omega]
      simpa using this
theorem pairsAt_cells {b : Nat} {L : List (Int × Int)} {w : World} {T : TypeId} {fr : Nat × Nat} (h : w.heap[b]? = some (.cells (cellsOf L).toArray T fr)) : PairsAt b L w := by
  intro j hj
  have := cellsOf_at L j hj
  simp only [World.cell?, h]
  simpa using this
set_option maxRecDepth 100000 in
set_option maxHeartbeats 1600000 in
theorem refChar_any (c : Int) (w : World) :
    Calls Tryz.prog 119 #[.int .i64 c] w fun e w' => e = .returned (.bool (G.char c)) ∧ Below w.heap.size w w' := by
  have hm : G.char c = G.any c [(9, 10), (13, 13), (32, 55295), (57344, 65533), (65536, 1114111)] := by simp [G.any, G.char, Bool.or_assoc]
  rw [hm]
  clear hm
  go_enter Tryz.func119, Tryz.ntmps119
  go_wp2_with fail
  (with_reducible refine (refIn_any c [(9, 10), (13, 13), (32, 55295), (57344, 65533), (65536, 1114111)] w.heap.size 10 _ _ ?_ (by decide) rfl).mono ?_)
  · exact pairsAt_cells (heap_alloc_new w _)
  rintro e w1 ⟨rfl, rfl⟩
  go_wp2
  go_ret
  exact ⟨rfl, (Below.refl _ _).alloc (Nat.le_refl _) _⟩
end Go.Proofs.YtbaclacfadkjdaaGreatDoor
namespace Go.Proofs.YtbaclacfadkjdaaGreatDoor
open Go.RowKit
theorem refSpace_any (c : Int) (w : World) :
    Calls Tryz.prog 65 #[.int .i64 c] w fun e w' => e = .returned (.bool (G.space c)) ∧ w = w' := by
  have H : G.space c = (decide (c = 32) || decide (c = 9) || decide (c = 10) || decide (c = 13)) := rfl
  have HH := Lib.hid H
  clear H
  go_enter Tryz.func65, Tryz.ntmps65
  go_wp2
  all_goals go_ret
  all_goals refine ⟨ret_bool ?_, rfl⟩
  all_goals rw [HH.out, Bool.eq_iff_iff]
  all_goals simp
  all_goals omega
namespace E
end E
end Go.Proofs.YtbaclacfadkjdaaGreatDoor
