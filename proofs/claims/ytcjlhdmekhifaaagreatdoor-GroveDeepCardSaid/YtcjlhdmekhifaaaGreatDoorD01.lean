/-
  Code points and names, in plain Lean: what may be (char, start, part, space), the code point at a text's head (first), the longest head of such (span), names, plain lines; and the laws of names and of lines.
  Texts: what slices of strings read as, in lists of bytes; ends of walks.
  Names with their spaces, in plain Lean: split, declare, resolve; names of other prefixes stay with pairs more behind; what is declared is resolved.
  The code point at a text's head, by its bytes: a class of first bytes at a time.
  Heads of texts that go on: code points, spans, names of a text behind which another one stands.
-/
import Derived.Lib.MapLaws
import Derived.Lib.Hide
import Derived.Test.YtcjlhdmekhifaaaGreatDoorRows
import Derived.WalkKit
import Derived.WalkSpells
namespace Go.Proofs.YtcjlhdmekhifaaaGreatDoor
namespace G

def inR (c a b : Int) : Bool := decide (a ≤ c) && decide (c ≤ b)

def char (c : Int) : Bool := inR c 9 10 || inR c 13 13 || inR c 32 55295 || inR c 57344 65533 || inR c 65536 1114111
def space (c : Int) : Bool := decide (c = 32) || decide (c = 9) || decide (c = 10) || decide (c = 13)
def start (c : Int) : Bool :=
  inR c 58 58 || inR c 65 90 || inR c 95 95 || inR c 97 122 || inR c 192 214 || inR c 216 246 || inR c 248 767 || inR c 880 893 || inR c 895 8191 || inR c 8204 8205 ||
  inR c 8304 8591 || inR c 11264 12271 || inR c 12289 55295 || inR c 63744 64975 || inR c 65008 65533 || inR c 65536 983039
def part (c : Int) : Bool :=
  start c || (inR c 45 46 || inR c 48 57 || inR c 183 183 || inR c 768 879 || inR c 8255 8256)

/-- The code point at a text's head and its bytes; none: (0, 0). -/
def first (l : List UInt8) : Nat × Nat :=
  if l = [] then (0, 0) else if (Lib.decodeL l).1 = 65533 ∧ (Lib.decodeL l).2 = 1 then (0, 0) else Lib.decodeL l

theorem first_nil : first [] = (0, 0) := rfl

theorem first_le (l : List UInt8) : (first l).2 ≤ l.length := by
  unfold first
  split
  · exact Nat.zero_le _
  · split
    · exact Nat.zero_le _
    · exact Lib.decodeL_le l (by assumption)

/-- Where there is none: the text is at its end, or what stands there is no code point. -/
theorem first_zero (l : List UInt8) : (first l).2 = 0 ↔ l = [] ∨ (Lib.decodeL l).1 = 65533 ∧ (Lib.decodeL l).2 = 1 := by
  unfold first
  have := Lib.decodeL_width l
  split
  · simp_all
  · split <;> rename_i h1 h2 <;> simp [h1, h2]
    omega

theorem first_pos (l : List UInt8) (h : (first l).2 ≠ 0) : first l = Lib.decodeL l ∧ l ≠ [] := by
  have hz := mt (first_zero l).2 h
  unfold first
  rw [if_neg (fun e => hz (.inl e)), if_neg (fun e => hz (.inr e))]
  exact ⟨rfl, fun e => hz (.inl e)⟩

theorem getD_take (l : List UInt8) (m k : Nat) (h : k < m) : (l.take m).getD k 0 = l.getD k 0 := by
  simp [List.getD, h]

open Lib in
theorem decode_take (l : List UInt8) (m : Nat) (hl : l ≠ []) (h : (decodeL l).2 ≤ m) (hv : ¬ ((decodeL l).1 = 65533 ∧ (decodeL l).2 = 1)) : decodeL (l.take m) = decodeL l := by
  have h0 : 0 < l.length := List.length_pos_iff.2 hl
  have hw := decodeL_width l
  have hle := decodeL_le l hl
  have hlen : (l.take m).length = min m l.length := List.length_take
  rw [decodeL_N (l.take m), hlen, getD_take _ _ _ (by omega)]
  rw [decodeL_N] at h hv hw hle ⊢
  have g1 : 1 < m → (l.take m).getD 1 0 = l.getD 1 0 := getD_take _ _ _
  have g2 : 2 < m → (l.take m).getD 2 0 = l.getD 2 0 := getD_take _ _ _
  have g3 : 3 < m → (l.take m).getD 3 0 = l.getD 3 0 := getD_take _ _ _
  generalize (l.take m).getD 1 0 = d1 at g1 ⊢
  generalize (l.take m).getD 2 0 = d2 at g2 ⊢
  generalize (l.take m).getD 3 0 = d3 at g3 ⊢
  generalize (l.getD 0 0).toNat = b0 at *
  rcases decodeN_shape l.length b0 (l.getD 1 0).toNat (l.getD 2 0).toNat (l.getD 3 0).toNat with ⟨c, e⟩ | ⟨c1, c2, c3, cv, e⟩ | ⟨c1, c2, c3, c4, cv, cs, e⟩ | ⟨c1, c2, c3, c4, c5, cv, cw, e⟩ | e
  · rw [e]; unfold decodeN; rw [if_pos c]
  · rw [e] at h hle ⊢
    dsimp only at h hle
    rw [g1 (by omega)]
    unfold decodeN
    rw [if_neg (by omega), if_pos (by omega), if_pos (by omega)]
  · rw [e] at h hle ⊢
    dsimp only at h hle
    rw [g1 (by omega), g2 (by omega)]
    unfold decodeN
    rw [if_neg (by omega), if_neg (by omega), if_pos (by omega), if_pos (by omega)]
  · rw [e] at h hle ⊢
    dsimp only at h hle
    rw [g1 (by omega), g2 (by omega), g3 (by omega)]
    unfold decodeN
    rw [if_neg (by omega), if_neg (by omega), if_neg (by omega), if_pos (by omega), if_pos (by omega)]
  · rw [e] at hv; simp at hv

/-- What stands behind the code point says nothing of it. -/
theorem first_take (l : List UInt8) (m : Nat) (h : (first l).2 ≤ m) (h0 : (first l).2 ≠ 0) : first (l.take m) = first l := by
  obtain ⟨e, hl⟩ := first_pos l h0
  have hz := mt (first_zero l).2 h0
  rw [e] at h
  have d := decode_take l m hl h (fun x => hz (.inr x))
  have hw := Lib.decodeL_width l
  have hne : l.take m ≠ [] := by
    intro c
    have : (l.take m).length = 0 := by rw [c]; rfl
    rw [List.length_take] at this
    have := List.length_pos_iff.2 hl
    omega
  rw [e]
  unfold first
  rw [if_neg hne, d, if_neg (fun x => hz (.inr x))]

/-! ### how long the head is in which all are so -/
def spanGo (p : Int → Bool) : Nat → List UInt8 → Nat
  | 0, _ => 0
  | f + 1, l => if (first l).2 ≠ 0 ∧ p (first l).1 = true then (first l).2 + spanGo p f (l.drop (first l).2) else 0
def span (p : Int → Bool) (l : List UInt8) : Nat := spanGo p l.length l

theorem spanGo_le (p : Int → Bool) : ∀ f l, spanGo p f l ≤ l.length
  | 0, _ => Nat.zero_le _
  | f + 1, l => by
    unfold spanGo
    split
    · have := spanGo_le p f (l.drop (first l).2)
      have h2 := first_le l
      rw [List.length_drop] at this
      omega
    · exact Nat.zero_le _

theorem spanGo_fuel (p : Int → Bool) : ∀ f g l, l.length ≤ f → l.length ≤ g → spanGo p f l = spanGo p g l
  | 0, 0, _, _, _ => rfl
  | 0, g + 1, l, hf, _ => by
    have : l = [] := List.length_eq_zero_iff.1 (by omega)
    subst this
    simp [spanGo, first_nil]
  | f + 1, 0, l, _, hg => by
    have : l = [] := List.length_eq_zero_iff.1 (by omega)
    subst this
    simp [spanGo, first_nil]
  | f + 1, g + 1, l, hf, hg => by
    unfold spanGo
    split
    · rename_i h
      have := first_le l
      rw [spanGo_fuel p f g _ (by rw [List.length_drop]; omega) (by rw [List.length_drop]; omega)]
    · rfl

theorem span_step (p : Int → Bool) (l : List UInt8) (h0 : (first l).2 ≠ 0) (hp : p (first l).1 = true) : span p l = (first l).2 + span p (l.drop (first l).2) := by
  have hle := first_le l
  unfold span
  cases hl : l.length with
  | zero => omega
  | succ n =>
    rw [spanGo, if_pos ⟨h0, hp⟩]
    rw [spanGo_fuel p n (l.drop (first l).2).length _ (by rw [List.length_drop]; omega) (Nat.le_refl _)]

theorem span_stop (p : Int → Bool) (l : List UInt8) (h : (first l).2 = 0 ∨ p (first l).1 = false) : span p l = 0 := by
  unfold span
  cases hl : l.length with
  | zero => rfl
  | succ n =>
    rw [spanGo, if_neg]
    rintro ⟨h0, h1⟩
    rcases h with h | h
    · exact h0 h
    · rw [h] at h1; cases h1

theorem span_le (p : Int → Bool) (l : List UInt8) : span p l ≤ l.length := spanGo_le p _ l

/-- Induction along the code points. -/
theorem along {M : List UInt8 → Prop} (p : Int → Bool) (stop : ∀ l, ((first l).2 = 0 ∨ p (first l).1 = false) → M l) (step : ∀ l, (first l).2 ≠ 0 → p (first l).1 = true → M (l.drop (first l).2) → M l) : ∀ l, M l := by
  suffices H : ∀ n (l : List UInt8), l.length ≤ n → M l from fun l => H _ l (Nat.le_refl _)
  intro n
  induction n with
  | zero =>
    intro l h
    have : l = [] := List.length_eq_zero_iff.1 (by omega)
    subst this
    exact stop _ (.inl rfl)
  | succ n ih =>
    intro l h
    by_cases h0 : (first l).2 = 0
    · exact stop _ (.inl h0)
    · cases hp : p (first l).1 with
      | false => exact stop _ (.inr hp)
      | true => exact step l h0 hp (ih _ (by rw [List.length_drop]; omega))

/-- The head is one whole. -/
theorem span_take (p : Int → Bool) (l : List UInt8) : span p (l.take (span p l)) = span p l := by
  induction l using along p with
  | stop l h => rw [span_stop p l h]; rfl
  | step l h0 hp ih =>
    have e := span_step p l h0 hp
    have ft := first_take l (span p l) (by omega) h0
    have e2 := span_step p (l.take (span p l)) (by rw [ft]; exact h0) (by rw [ft]; exact hp)
    rw [e2, ft, List.drop_take, e, Nat.add_sub_cancel_left, ih]

/-- What stands behind does not go on with it. -/
theorem span_rest (p : Int → Bool) (l : List UInt8) : (first (l.drop (span p l))).2 = 0 ∨ p (first (l.drop (span p l))).1 = false := by
  induction l using along p with
  | stop l h => rw [span_stop p l h]; exact h
  | step l h0 hp ih =>
    rw [span_step p l h0 hp, ← List.drop_drop]
    exact ih

/-! ### names -/
def name (l : List UInt8) : Nat := if (first l).2 ≠ 0 ∧ start (first l).1 = true then (first l).2 + span part (l.drop (first l).2) else 0

theorem part_of_start {c : Int} (h : start c = true) : part c = true := by unfold part; rw [h]; rfl

theorem name_span (l : List UInt8) (h : name l ≠ 0) : name l = span part l := by
  unfold name at h ⊢
  split at h
  · rename_i hs
    rw [if_pos hs, span_step part l hs.1 (part_of_start hs.2)]
  · exact absurd rfl h

theorem name_le (l : List UInt8) : name l ≤ l.length := by
  by_cases h : name l = 0
  · omega
  · rw [name_span l h]; exact span_le _ _

theorem name_head (l : List UInt8) (h : name l ≠ 0) : (first l).2 ≠ 0 ∧ start (first l).1 = true := by
  unfold name at h
  split at h
  · assumption
  · exact absurd rfl h

theorem name_take (l : List UInt8) (h : name l ≠ 0) : name (l.take (name l)) = name l := by
  obtain ⟨h0, hs⟩ := name_head l h
  have hn := name_span l h
  have hst := span_step part l h0 (part_of_start hs)
  have ft := first_take l (name l) (by omega) h0
  have key := span_take part l
  rw [← hn] at key
  have : name (l.take (name l)) = span part (l.take (name l)) := by
    refine name_span _ ?_
    have e : name (l.take (name l)) = if (first (l.take (name l))).2 ≠ 0 ∧ start (first (l.take (name l))).1 = true then (first (l.take (name l))).2 + span part ((l.take (name l)).drop (first (l.take (name l))).2) else 0 := rfl
    rw [e, ft, if_pos ⟨h0, hs⟩]
    omega
  rw [this, key]

theorem name_rest (l : List UInt8) (h : name l ≠ 0) : (first (l.drop (name l))).2 = 0 ∨ part (first (l.drop (name l))).1 = false := by
  rw [name_span l h]; exact span_rest _ _

def plain (l : List UInt8) : Bool := decide (l ≠ []) && decide (name l = l.length) && l.all (fun b => decide (b ≠ 58))

/-! ### whether all of a text may be -/
def check (l : List UInt8) : Bool := decide (span char l = l.length)

/-! ### plain lines -/
def lines : List UInt8 → List UInt8
  | [] => []
  | [b] => [if b = 13 then 10 else b]
  | b :: c :: t => if b = 13 then (if c = 10 then 10 :: lines t else 10 :: lines (c :: t)) else b :: lines (c :: t)

theorem lines_cons (b : UInt8) (t : List UInt8) (h : b ≠ 13) : lines (b :: t) = b :: lines t := by
  cases t with
  | nil => simp [lines, h]
  | cons c t => simp [lines, h]

theorem lines_cr (t : List UInt8) (h : t.head? ≠ some 10) : lines (13 :: t) = 10 :: lines t := by
  cases t with
  | nil => simp [lines]
  | cons c t =>
    have : c ≠ 10 := by simpa using h
    simp [lines, this]

theorem lines_crlf (t : List UInt8) : lines (13 :: 10 :: t) = 10 :: lines t := by simp [lines]

theorem lines_induct {M : List UInt8 → Prop} (nil : M []) (plain : ∀ b t, b ≠ 13 → M t → M (b :: t)) (cr : ∀ t, t.head? ≠ some 10 → M t → M (13 :: t)) (crlf : ∀ t, M t → M (13 :: 10 :: t)) : ∀ l, M l := by
  suffices H : ∀ n (l : List UInt8), l.length ≤ n → M l from fun l => H _ l (Nat.le_refl _)
  intro n
  induction n with
  | zero =>
    intro l h
    have : l = [] := List.length_eq_zero_iff.1 (by omega)
    subst this; exact nil
  | succ n ih =>
    intro l h
    cases l with
    | nil => exact nil
    | cons b t =>
      rw [List.length_cons] at h
      by_cases hb : b = 13
      · subst hb
        by_cases ht : t.head? = some 10
        · cases t with
          | nil => cases ht
          | cons c t =>
            have : c = 10 := by simpa using ht
            subst this
            rw [List.length_cons] at h
            exact crlf t (ih _ (by omega))
        · exact cr t ht (ih _ (by omega))
      · exact plain b t hb (ih _ (by omega))

theorem lines_length (l : List UInt8) : (lines l).length ≤ l.length := by
  induction l using lines_induct with
  | nil => simp [lines]
  | plain b t hb ih => rw [lines_cons b t hb]; simp; exact ih
  | cr t ht ih => rw [lines_cr t ht]; simp; exact ih
  | crlf t ih => rw [lines_crlf]; simp; omega

end G
end Go.Proofs.YtcjlhdmekhifaaaGreatDoor
namespace Go.Proofs.YtcjlhdmekhifaaaGreatDoor
open Go.RowKit

theorem ret_bool {a b : Bool} (h : a = b) : Ending.returned (.bool a) = .returned (.bool b) := by rw [h]

theorem ret_two {a b : Int} {r : Nat × Nat} {x y : Nat} (h : r = (x, y)) (ha : a = (x : Int)) (hb : b = (y : Int)) : Ending.returned (.tuple #[.int .i64 a, .int .i64 b]) = .returned (.tuple #[.int .i64 (r.1 : Int), .int .i64 (r.2 : Int)]) := by
  rw [h, ha, hb]

theorem getD_of (s : ByteArray) (k : Nat) (h : k < s.size) : s.data.toList.getD k 0 = s[k] := by
  have h1 : k < s.data.toList.length := by rw [Array.length_toList]; exact h
  rw [List.getD, List.getElem?_eq_getElem h1, Option.getD_some]
  rfl

theorem lst_ne {s : ByteArray} (h : 0 < s.size) : s.data.toList ≠ [] := by
  intro e
  have := congrArg List.length e
  rw [Array.length_toList] at this
  have h1 : 0 < s.data.size := h
  rw [this] at h1
  exact Nat.lt_irrefl _ h1

theorem extract_list (s : ByteArray) (a b : Nat) : (s.extract a b).data.toList = (s.data.toList.take b).drop a := by
  simp [ByteArray.data_extract, Array.toList_extract, List.drop_take]

theorem drop_list (s : ByteArray) (a : Nat) : (s.extract a s.size).data.toList = s.data.toList.drop a := by
  rw [extract_list, List.take_of_length_le (by simp)]

theorem take_list (s : ByteArray) (b : Nat) : (s.extract 0 b).data.toList = s.data.toList.take b := by
  rw [extract_list, List.drop_zero]

theorem bytes_eq {a b : ByteArray} (h : a.data.toList = b.data.toList) : a = b := by
  obtain ⟨⟨a⟩⟩ := a
  obtain ⟨⟨b⟩⟩ := b
  simp at h; rw [h]

theorem extract_full (s : ByteArray) : s.extract 0 s.size = s := bytes_eq (by rw [drop_list, List.drop_zero])

theorem list_len (s : ByteArray) : s.data.toList.length = s.size := by simp

/-- A text's length. -/
def strLen : Value → Nat
  | .string t => t.size
  | _ => 0

theorem ret_int {a b : Int} (h : a = b) : Ending.returned (.int .i64 a) = .returned (.int .i64 b) := by rw [h]

theorem ne_empty {s : ByteArray} (h : 0 < s.size) : s.toList.isEmpty = false := by
  rw [List.isEmpty_eq_false_iff]; intro e
  rw [ByteArray.toList_eq] at e
  exact lst_ne h e

theorem all_take (p : UInt8 → Bool) (l : List UInt8) (k : Nat) (h : k < l.length) : (l.take (k + 1)).all p = ((l.take k).all p && p l[k]) := by
  rw [List.take_succ_eq_append_getElem h, List.all_append, List.all_cons, List.all_nil, Bool.and_true]
theorem all_not (p : UInt8 → Bool) (l : List UInt8) (k : Nat) (h : k < l.length) (hn : p l[k] = false) : l.all p = false := by
  rw [← Bool.not_eq_true, List.all_eq_true]
  intro x
  have := x l[k] (List.getElem_mem h)
  rw [hn] at this; cases this

theorem ret_bool' {a b : Bool} (h : a = b) : Ending.returned (.bool a) = .returned (.bool b) := by rw [h]

theorem drop_cons (s : ByteArray) (k : Nat) (h : k < s.size) : s.data.toList.drop k = s[k] :: s.data.toList.drop (k + 1) := by
  have h1 : k < s.data.toList.length := by rw [list_len]; exact h
  rw [List.drop_eq_getElem_cons h1]
  rfl

theorem byte_is {b c : UInt8} (h : b.toNat = c.toNat) : b = c := UInt8.toNat_inj.1 h

theorem ret_str {a b : ByteArray} (h : a = b) : Ending.returned (.string a) = .returned (.string b) := by rw [h]

/-- Strings lie in memory, from the head of a block on. -/
def StrsAt (b : Nat) (L : List ByteArray) (w : World) : Prop := ∀ j (h : j < L.length), w.cell? ⟨b, j, none⟩ = some (.string L[j])
theorem strsAt_cells {b : Nat} {L : List ByteArray} {w : World} {T : TypeId} {fr : Nat × Nat} (h : w.heap[b]? = some (.cells (L.map Value.string).toArray T fr)) : StrsAt b L w := by
  intro j hj
  simp only [World.cell?, h]
  simp [hj]

theorem ex_none (n : ByteArray) (k : Nat) (h : n.size ≤ k) : n.extract k n.size = ByteArray.empty := bytes_eq (by
  rw [drop_list, List.drop_of_length_le (by rw [list_len]; exact h)]; rfl)

end Go.Proofs.YtcjlhdmekhifaaaGreatDoor
namespace Go.Proofs.YtcjlhdmekhifaaaGreatDoor

structure Pair where
  name : ByteArray
  value : ByteArray
  deriving DecidableEq, Inhabited

namespace P
def xmlS : ByteArray := ⟨#[104, 116, 116, 112, 58, 47, 47, 119, 119, 119, 46, 119, 51, 46, 111, 114, 103, 47, 88, 77, 76, 47, 49, 57, 57, 56, 47, 110, 97, 109, 101, 115, 112, 97, 99, 101]⟩
def xmlnsS : ByteArray := ⟨#[104, 116, 116, 112, 58, 47, 47, 119, 119, 119, 46, 119, 51, 46, 111, 114, 103, 47, 50, 48, 48, 48, 47, 120, 109, 108, 110, 115, 47]⟩
def xml : ByteArray := ⟨#[120, 109, 108]⟩
def xmlns : ByteArray := ⟨#[120, 109, 108, 110, 115]⟩
def plainB (s : ByteArray) : Bool := G.plain s.data.toList

/-- Where the first colon stands. -/
def colon (l : List UInt8) : Nat := (l.takeWhile (· ≠ 58)).length

def split (s : ByteArray) : Option (ByteArray × ByteArray) :=
  if colon s.data.toList < s.size then
    (if plainB (s.extract 0 (colon s.data.toList)) && plainB (s.extract (colon s.data.toList + 1) s.size) then some (s.extract 0 (colon s.data.toList), s.extract (colon s.data.toList + 1) s.size) else none)
  else if plainB s then some (ByteArray.empty, s) else none

def bound (p space : ByteArray) : Bool :=
  if p = xmlns then false else if p = xml then decide (space = xmlS) else if p = ByteArray.empty then decide (space ≠ xmlS) && decide (space ≠ xmlnsS) else decide (space ≠ ByteArray.empty) && decide (space ≠ xmlS) && decide (space ≠ xmlnsS)

/-- the prefix that is declared. -/
def key (p n : ByteArray) : ByteArray := if p = ByteArray.empty then ByteArray.empty else n

def declGo : List Pair → List Pair → List Pair → Option (List Pair × List Pair)
  | sc, re, [] => some (sc, re)
  | sc, re, a :: t => match split a.name with
    | none => none
    | some (p, n) =>
      if p ≠ xmlns ∧ (p ≠ ByteArray.empty ∨ n ≠ xmlns) then declGo sc (re ++ [a]) t
      else if bound (key p n) a.value then declGo (sc ++ [⟨key p n, a.value⟩]) re t else none
def declare (l : List Pair) : Option (List Pair × List Pair) := declGo [] [] l

/-- The last pair of a name. -/
def last (p : ByteArray) : List Pair → Option ByteArray
  | [] => none
  | a :: t => match last p t with
    | some v => some v
    | none => if a.name = p then some a.value else none

def resolve (scope : List Pair) (s : ByteArray) (attr : Bool) : Option (ByteArray × ByteArray) :=
  match split s with
  | none => none
  | some (p, n) =>
    if p = xml then some (xmlS, n) else if p = xmlns then none else if p = ByteArray.empty ∧ attr = true then some (ByteArray.empty, n)
    else match last p scope with
      | some v => if p ≠ ByteArray.empty ∧ v = ByteArray.empty then none else some (v, n)
      | none => if p ≠ ByteArray.empty then none else some (ByteArray.empty, n)

/-! ### laws -/
theorem last_append (p : ByteArray) (a b : List Pair) : last p (a ++ b) = match last p b with | some v => some v | none => last p a := by
  induction a with
  | nil =>
    show last p b = _
    cases last p b <;> rfl
  | cons x a ih =>
    simp only [List.cons_append, last, ih]
    cases last p b <;> rfl

theorem last_none (p : ByteArray) (l : List Pair) (h : ∀ x ∈ l, x.name ≠ p) : last p l = none := by
  induction l with
  | nil => rfl
  | cons x l ih => simp [last, ih (fun y hy => h y (by simp [hy])), h x (by simp)]

theorem colon_no (l : List UInt8) (h : ∀ b ∈ l, b ≠ 58) : colon l = l.length := by
  unfold colon
  congr 1
  induction l with
  | nil => rfl
  | cons b t ih => rw [List.takeWhile_cons, if_pos (by simpa using h b (by simp)), ih (fun x hx => h x (by simp [hx]))]

theorem colon_mk (a b : List UInt8) (h : ∀ x ∈ a, x ≠ 58) : colon (a ++ 58 :: b) = a.length := by
  unfold colon
  rw [List.takeWhile_append_of_pos (by simpa using h)]
  simp

theorem plain_no58 {l : List UInt8} (h : G.plain l = true) : ∀ b ∈ l, b ≠ 58 := by
  unfold G.plain at h
  simp only [Bool.and_eq_true, List.all_eq_true, decide_eq_true_eq] at h
  exact h.2

theorem split_plain {s : ByteArray} (h : plainB s = true) : split s = some (ByteArray.empty, s) := by
  unfold split
  rw [if_neg (by rw [colon_no _ (plain_no58 h), list_len]; omega), if_pos h]

/-- What split says: a prefix and a local name; both plain, or the one empty. -/
theorem split_of {s p n : ByteArray} (h : split s = some (p, n)) : plainB n = true ∧ (p = ByteArray.empty ∧ s = n ∨ plainB p = true ∧ s = p ++ ⟨#[58]⟩ ++ n) := by
  unfold split at h
  split at h
  · rename_i hc
    split at h
    · rename_i hp
      rw [Bool.and_eq_true] at hp
      simp only [Option.some.injEq, Prod.mk.injEq] at h
      obtain ⟨rfl, rfl⟩ := h
      refine ⟨hp.2, .inr ⟨hp.1, ?_⟩⟩
      apply bytes_eq
      rw [ByteArray.toList_data_append, ByteArray.toList_data_append, take_list, drop_list]
      have hlen : colon s.data.toList < s.data.toList.length := by rw [list_len]; exact hc
      have h58 : s.data.toList[colon s.data.toList] = 58 := by
        have := List.head?_dropWhile_not (fun x => decide (x ≠ (58 : UInt8))) s.data.toList
        have e : s.data.toList.dropWhile (fun x => decide (x ≠ (58 : UInt8))) = s.data.toList.drop (colon s.data.toList) := by
          have key : ∀ a d : List UInt8, a ++ d = s.data.toList → d = s.data.toList.drop a.length := by rintro a d h; rw [← h]; simp
          exact key _ _ List.takeWhile_append_dropWhile
        rw [e, List.drop_eq_getElem_cons hlen] at this
        simpa using this
      have h2 : s.data.toList.drop (colon s.data.toList) = 58 :: s.data.toList.drop (colon s.data.toList + 1) := by rw [List.drop_eq_getElem_cons hlen, h58]
      have h3 : (⟨#[58]⟩ : ByteArray).data.toList = [58] := rfl
      rw [h3, List.append_assoc, List.singleton_append, ← h2, List.take_append_drop]
    · cases h
  · split at h
    · rename_i hp
      simp only [Option.some.injEq, Prod.mk.injEq] at h
      obtain ⟨rfl, rfl⟩ := h
      exact ⟨hp, .inl ⟨rfl, rfl⟩⟩
    · cases h

end P
end Go.Proofs.YtcjlhdmekhifaaaGreatDoor
namespace Go.Proofs.YtcjlhdmekhifaaaGreatDoor
namespace G
open Lib

def firstN (n b0 b1 b2 b3 : Nat) : Nat × Nat := if (decodeN n b0 b1 b2 b3).1 = 65533 ∧ (decodeN n b0 b1 b2 b3).2 = 1 then (0, 0) else decodeN n b0 b1 b2 b3

theorem first_N (l : List UInt8) (h : l ≠ []) : first l = firstN l.length (l.getD 0 0).toNat (l.getD 1 0).toNat (l.getD 2 0).toNat (l.getD 3 0).toNat := by
  unfold first firstN
  rw [if_neg h, decodeL_N]

theorem firstN_of {n b0 b1 b2 b3 : Nat} {d : Nat × Nat} (h : decodeN n b0 b1 b2 b3 = d) : firstN n b0 b1 b2 b3 = if d.1 = 65533 ∧ d.2 = 1 then (0, 0) else d := by unfold firstN; rw [h]

theorem firstN_ascii {n b0 b1 b2 b3 : Nat} (h : b0 < 128) : firstN n b0 b1 b2 b3 = (b0, 1) := by
  have e : decodeN n b0 b1 b2 b3 = (b0, 1) := by unfold decodeN; rw [if_pos h]
  rw [firstN_of e, if_neg (by dsimp only; omega)]

theorem firstN_none {n b0 b1 b2 b3 : Nat} (h : decodeN n b0 b1 b2 b3 = (65533, 1)) : firstN n b0 b1 b2 b3 = (0, 0) := by
  rw [firstN_of h, if_pos ⟨rfl, rfl⟩]

theorem firstN_bad {n b0 b1 b2 b3 : Nat} (h : 128 ≤ b0) (hb : b0 < 192 ∨ 248 ≤ b0) (h8 : b0 < 256) : firstN n b0 b1 b2 b3 = (0, 0) := by
  refine firstN_none ?_
  unfold decodeN
  rw [if_neg (by omega), if_neg (by omega), if_neg (by omega), if_neg (by omega)]

theorem firstN_two {n b0 b1 b2 b3 : Nat} (h : 192 ≤ b0) (h' : b0 < 224) (h1 : b1 < 256) :
    firstN n b0 b1 b2 b3 = if 2 ≤ n ∧ (128 ≤ b1 ∧ b1 ≤ 191) ∧ 128 ≤ (b0 - 192) * 64 + (b1 - 128) then ((b0 - 192) * 64 + (b1 - 128), 2) else (0, 0) := by
  by_cases hc : 2 ≤ n ∧ (128 ≤ b1 ∧ b1 ≤ 191)
  · have e : decodeN n b0 b1 b2 b3 = if (b0 - 192) * 64 + (b1 - 128) ≥ 128 then ((b0 - 192) * 64 + (b1 - 128), 2) else (65533, 1) := by
      unfold decodeN
      rw [if_neg (by omega), if_pos (by omega), show b0 % 32 * 64 + b1 % 64 = (b0 - 192) * 64 + (b1 - 128) by omega]
    by_cases hd : 128 ≤ (b0 - 192) * 64 + (b1 - 128)
    · rw [if_pos hd] at e
      rw [firstN_of e, if_neg (by dsimp only; omega), if_pos ⟨hc.1, hc.2, hd⟩]
    · rw [if_neg hd] at e
      rw [firstN_none e, if_neg (by omega)]
  · rw [if_neg (by omega)]
    refine firstN_none ?_
    unfold decodeN
    rw [if_neg (by omega), if_neg (by omega), if_neg (by omega), if_neg (by omega)]

theorem firstN_three {n b0 b1 b2 b3 : Nat} (h : 224 ≤ b0) (h' : b0 < 240) (h1 : b1 < 256) (h2 : b2 < 256) :
    firstN n b0 b1 b2 b3 = if 3 ≤ n ∧ (128 ≤ b1 ∧ b1 ≤ 191) ∧ (128 ≤ b2 ∧ b2 ≤ 191) ∧ 2048 ≤ ((b0 - 224) * 64 + (b1 - 128)) * 64 + (b2 - 128) ∧
        (((b0 - 224) * 64 + (b1 - 128)) * 64 + (b2 - 128) < 55296 ∨ 57344 ≤ ((b0 - 224) * 64 + (b1 - 128)) * 64 + (b2 - 128))
      then (((b0 - 224) * 64 + (b1 - 128)) * 64 + (b2 - 128), 3) else (0, 0) := by
  by_cases hc : 3 ≤ n ∧ (128 ≤ b1 ∧ b1 ≤ 191) ∧ (128 ≤ b2 ∧ b2 ≤ 191)
  · have hv : b0 % 16 * 4096 + b1 % 64 * 64 + b2 % 64 = ((b0 - 224) * 64 + (b1 - 128)) * 64 + (b2 - 128) := by omega
    generalize hq : ((b0 - 224) * 64 + (b1 - 128)) * 64 + (b2 - 128) = c at hv ⊢
    have e : decodeN n b0 b1 b2 b3 = if c ≥ 2048 ∧ (c < 55296 ∨ 57344 ≤ c ∧ c ≤ 1114111) then (c, 3) else (65533, 1) := by
      unfold decodeN
      rw [if_neg (by omega), if_neg (by omega), if_pos (by omega), hv]
    by_cases hd : 2048 ≤ c ∧ (c < 55296 ∨ 57344 ≤ c)
    · rw [if_pos (by omega)] at e
      rw [firstN_of e, if_neg (by dsimp only; omega), if_pos ⟨hc.1, hc.2.1, hc.2.2, hd⟩]
    · rw [if_neg (by omega)] at e
      rw [firstN_none e, if_neg (by omega)]
  · rw [if_neg (by omega)]
    refine firstN_none ?_
    unfold decodeN
    rw [if_neg (by omega), if_neg (by omega), if_neg (by omega), if_neg (by omega)]

theorem firstN_four {n b0 b1 b2 b3 : Nat} (h : 240 ≤ b0) (h' : b0 < 248) (h1 : b1 < 256) (h2 : b2 < 256) (h3 : b3 < 256) :
    firstN n b0 b1 b2 b3 = if 4 ≤ n ∧ (128 ≤ b1 ∧ b1 ≤ 191) ∧ (128 ≤ b2 ∧ b2 ≤ 191) ∧ (128 ≤ b3 ∧ b3 ≤ 191) ∧ 65536 ≤ (((b0 - 240) * 64 + (b1 - 128)) * 64 + (b2 - 128)) * 64 + (b3 - 128) ∧
        (((b0 - 240) * 64 + (b1 - 128)) * 64 + (b2 - 128)) * 64 + (b3 - 128) ≤ 1114111
      then ((((b0 - 240) * 64 + (b1 - 128)) * 64 + (b2 - 128)) * 64 + (b3 - 128), 4) else (0, 0) := by
  by_cases hc : 4 ≤ n ∧ (128 ≤ b1 ∧ b1 ≤ 191) ∧ (128 ≤ b2 ∧ b2 ≤ 191) ∧ (128 ≤ b3 ∧ b3 ≤ 191)
  · have hv : b0 % 8 * 262144 + b1 % 64 * 4096 + b2 % 64 * 64 + b3 % 64 = (((b0 - 240) * 64 + (b1 - 128)) * 64 + (b2 - 128)) * 64 + (b3 - 128) := by omega
    generalize hq : (((b0 - 240) * 64 + (b1 - 128)) * 64 + (b2 - 128)) * 64 + (b3 - 128) = c at hv ⊢
    have e : decodeN n b0 b1 b2 b3 = if c ≥ 65536 ∧ (c < 55296 ∨ 57344 ≤ c ∧ c ≤ 1114111) then (c, 4) else (65533, 1) := by
      unfold decodeN
      rw [if_neg (by omega), if_neg (by omega), if_neg (by omega), if_pos (by omega), hv]
    by_cases hd : 65536 ≤ c ∧ c ≤ 1114111
    · rw [if_pos (by omega)] at e
      rw [firstN_of e, if_neg (by dsimp only; omega), if_pos ⟨hc.1, hc.2.1, hc.2.2.1, hc.2.2.2, hd⟩]
    · rw [if_neg (by omega)] at e
      rw [firstN_none e, if_neg (by omega)]
  · rw [if_neg (by omega)]
    refine firstN_none ?_
    unfold decodeN
    rw [if_neg (by omega), if_neg (by omega), if_neg (by omega), if_neg (by omega)]
end G
end Go.Proofs.YtcjlhdmekhifaaaGreatDoor
namespace Go.Proofs.YtcjlhdmekhifaaaGreatDoor
namespace G

theorem getD_append (a x : List UInt8) (k : Nat) (h : k < a.length) : (a ++ x).getD k 0 = a.getD k 0 := by
  simp [List.getD, List.getElem?_append_left h]

/-- A code point at the head stays, whatever stands behind the text. -/
theorem first_append (a x : List UInt8) (h : (first a).2 ≠ 0) : first (a ++ x) = first a := by
  have ha := (first_pos a h).2
  have hl : 0 < a.length := List.length_pos_iff.2 ha
  have hax : a ++ x ≠ [] := by simp [ha]
  rw [first_N a ha] at h ⊢
  rw [first_N (a ++ x) hax, getD_append a x 0 hl]
  have g1 := getD_append a x 1
  have g2 := getD_append a x 2
  have g3 := getD_append a x 3
  have hlen : a.length ≤ (a ++ x).length := by simp
  have b0 := (a.getD 0 0).toNat_lt
  have b1 := (a.getD 1 0).toNat_lt
  have b2 := (a.getD 2 0).toNat_lt
  have b3 := (a.getD 3 0).toNat_lt
  have c1 := ((a ++ x).getD 1 0).toNat_lt
  have c2 := ((a ++ x).getD 2 0).toNat_lt
  have c3 := ((a ++ x).getD 3 0).toNat_lt
  generalize (a ++ x).length = m at *
  generalize a.length = n at *
  generalize (a ++ x).getD 1 0 = d1 at *
  generalize (a ++ x).getD 2 0 = d2 at *
  generalize (a ++ x).getD 3 0 = d3 at *
  generalize a.getD 0 0 = e0 at *
  generalize a.getD 1 0 = e1 at *
  generalize a.getD 2 0 = e2 at *
  generalize a.getD 3 0 = e3 at *
  by_cases r0 : e0.toNat < 128
  · rw [firstN_ascii r0, firstN_ascii r0]
  by_cases r1 : e0.toNat < 192 ∨ 248 ≤ e0.toNat
  · rw [firstN_bad (by omega) r1 b0] at h; exact absurd rfl h
  by_cases r2 : e0.toNat < 224
  · rw [firstN_two (by omega) r2 b1] at h ⊢
    rw [firstN_two (by omega) r2 c1]
    by_cases hc : 2 ≤ n ∧ (128 ≤ e1.toNat ∧ e1.toNat ≤ 191) ∧ 128 ≤ (e0.toNat - 192) * 64 + (e1.toNat - 128)
    · rw [if_pos hc, g1 (by omega), if_pos ⟨by omega, hc.2⟩]
    · rw [if_neg hc] at h; exact absurd rfl h
  by_cases r3 : e0.toNat < 240
  · rw [firstN_three (by omega) r3 b1 b2] at h ⊢
    rw [firstN_three (by omega) r3 c1 c2]
    by_cases hc : 3 ≤ n
    · rw [g1 (by omega), g2 (by omega)]
      by_cases hd : (128 ≤ e1.toNat ∧ e1.toNat ≤ 191) ∧ (128 ≤ e2.toNat ∧ e2.toNat ≤ 191) ∧ 2048 ≤ ((e0.toNat - 224) * 64 + (e1.toNat - 128)) * 64 + (e2.toNat - 128) ∧ (((e0.toNat - 224) * 64 + (e1.toNat - 128)) * 64 + (e2.toNat - 128) < 55296 ∨ 57344 ≤ ((e0.toNat - 224) * 64 + (e1.toNat - 128)) * 64 + (e2.toNat - 128))
      · rw [if_pos ⟨by omega, hd⟩, if_pos ⟨by omega, hd⟩]
      · rw [if_neg (fun x => hd x.2), if_neg (fun x => hd x.2)]
    · rw [if_neg (fun x => hc x.1)] at h; exact absurd rfl h
  · rw [firstN_four (by omega) (by omega) b1 b2 b3] at h ⊢
    rw [firstN_four (by omega) (by omega) c1 c2 c3]
    by_cases hc : 4 ≤ n
    · rw [g1 (by omega), g2 (by omega), g3 (by omega)]
      by_cases hd : (128 ≤ e1.toNat ∧ e1.toNat ≤ 191) ∧ (128 ≤ e2.toNat ∧ e2.toNat ≤ 191) ∧ (128 ≤ e3.toNat ∧ e3.toNat ≤ 191) ∧ 65536 ≤ (((e0.toNat - 240) * 64 + (e1.toNat - 128)) * 64 + (e2.toNat - 128)) * 64 + (e3.toNat - 128) ∧ (((e0.toNat - 240) * 64 + (e1.toNat - 128)) * 64 + (e2.toNat - 128)) * 64 + (e3.toNat - 128) ≤ 1114111
      · rw [if_pos ⟨by omega, hd⟩, if_pos ⟨by omega, hd⟩]
      · rw [if_neg (fun x => hd x.2), if_neg (fun x => hd x.2)]
    · rw [if_neg (fun x => hc x.1)] at h; exact absurd rfl h

/-- What is all of a kind goes on with what stands behind. -/
theorem span_append (p : Int → Bool) (y : List UInt8) : ∀ a : List UInt8, span p a = a.length → span p (a ++ y) = a.length + span p y := by
  intro a
  induction a using along p with
  | stop l h =>
    intro e
    rw [span_stop p l h] at e
    have : l = [] := List.length_eq_zero_iff.1 e.symm
    subst this
    simp
  | step l h0 hp ih =>
    intro e
    have hle := first_le l
    have hs := span_step p l h0 hp
    have fa := first_append l y h0
    rw [span_step p (l ++ y) (by rw [fa]; exact h0) (by rw [fa]; exact hp), fa, List.drop_append_of_le_length hle, ih (by rw [List.length_drop]; omega), List.length_drop]
    omega

theorem first_ascii (c : UInt8) (t : List UInt8) (h : c.toNat < 128) : first (c :: t) = (c.toNat, 1) := by
  rw [first_N (c :: t) (by simp)]
  exact firstN_ascii h

/-- A name stays, whatever stands behind it, if that does not go on with it. -/
theorem name_append {l : List UInt8} (h : name l ≠ 0) (y : List UInt8) (hy : (first y).2 = 0 ∨ part (first y).1 = false) : name (l.take (name l) ++ y) = name l := by
  have hle := name_le l
  have hlen : (l.take (name l)).length = name l := by rw [List.length_take]; omega
  have ht := name_take l h
  have h2 : name (l.take (name l)) ≠ 0 := by rw [ht]; exact h
  obtain ⟨h0, hs⟩ := name_head _ h2
  have hsp := name_span _ h2
  rw [ht] at hsp
  have fa := first_append _ y h0
  have hne : name (l.take (name l) ++ y) ≠ 0 := by
    have e : name (l.take (name l) ++ y) = if (first (l.take (name l) ++ y)).2 ≠ 0 ∧ start (first (l.take (name l) ++ y)).1 = true then (first (l.take (name l) ++ y)).2 + span part ((l.take (name l) ++ y).drop (first (l.take (name l) ++ y)).2) else 0 := rfl
    rw [e, fa, if_pos ⟨h0, hs⟩]
    omega
  rw [name_span _ hne, span_append part y _ (by rw [← hsp, hlen]), hlen, span_stop part y hy, Nat.add_zero]

end G
end Go.Proofs.YtcjlhdmekhifaaaGreatDoor
