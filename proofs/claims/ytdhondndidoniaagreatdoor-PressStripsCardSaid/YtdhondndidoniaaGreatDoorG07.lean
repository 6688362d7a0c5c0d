/-
  What the document's own words of references come to: Parse.
  Media types in plain Lean: tokens, quoted texts, parameters; what is told, and that it is read as it was.
  What the document's own words of tokens come to: contracts of TokenByte, Token, Skip, Lower.
  What the document's own words of small letters, of quoted texts and of values come to: contracts of Lower, Quoted, value.
  What the document's own words of quoted texts and of values come to: contracts of Quoted, value.
  What the document's own word of values comes to: contract of value.
  What the document's own word of parameters comes to: contract of Params.
  What the document's own Parse of media types comes to.
  What the document's own words of references, texts, points of time and links come to: iri, div, text, moment, Rel, link.
  What the document's own words of text constructs come to: div, text.
  What the document's own words of text constructs, points of time, what a link is for, and links come to.
  What the document's own word of links that are alike comes to.
  What the document's own word of kids that the server sets comes to.
-/
import Derived.Test.YtdhondndidoniaaGreatDoorG06
import Derived.Test.YtdhondndidoniaaGreatDoorG03
import Derived.BigQuiet
import Derived.Deep.QuietTactic
import Derived.WalkSmall
import Derived.Test.YtdhondndidoniaaGreatDoorG01
namespace Go.Proofs.YtdhondndidoniaaGreatDoor
open Go.RowKit

namespace Lc
theorem scA_len (l : List UInt8) : (scA l).length ≤ l.length := by
  unfold scA
  split
  · exact cut_len _ _
  · simp
theorem scR_len (l : List UInt8) : (scR l).length ≤ l.length := by
  unfold scR
  split
  · have := rest_len l [58, 47, 63, 35]
    rw [List.length_drop]
    omega
  · omega
theorem hoA_len (l : List UInt8) : (hoA l).length ≤ l.length := by
  unfold hoA
  split
  · have := cut_len (l.drop 2) [47, 63, 35]
    rw [List.length_drop] at this
    omega
  · simp
theorem hoR_len (l : List UInt8) : (hoR l).length ≤ l.length := by
  unfold hoR
  split
  · have := rest_len (l.drop 2) [47, 63, 35]
    rw [List.length_drop] at this
    omega
  · omega
theorem quA_len (l : List UInt8) : (quA l).length ≤ l.length := by
  unfold quA
  split
  · have := cut_len l [35]
    rw [List.length_drop]
    omega
  · simp
theorem quR_len (l : List UInt8) : (quR l).length ≤ l.length := by
  unfold quR
  split
  · exact rest_len l [35]
  · omega
/-- The parts are no longer than the text. -/
theorem split_len (l : List UInt8) : (split l).scheme.length ≤ l.length ∧ (split l).host.length ≤ l.length ∧ (split l).path.length ≤ l.length ∧ (split l).query.length ≤ l.length ∧ (split l).frag.length ≤ l.length := by
  have h1 := scR_len l
  have h2 := hoR_len (scR l)
  have h3 := rest_len (hoR (scR l)) [63, 35]
  have h4 := quR_len (paR (hoR (scR l)))
  have h5 := hoA_len (scR l)
  have h6 := cut_len (hoR (scR l)) [63, 35]
  have h7 := quA_len (paR (hoR (scR l)))
  have h8 := scA_len l
  have h9 : (frA (quR (paR (hoR (scR l))))).length ≤ (quR (paR (hoR (scR l)))).length := by unfold frA; rw [List.length_drop]; omega
  unfold paR at *
  unfold split paA paR
  dsimp only
  exact ⟨by omega, by omega, by omega, by omega, by omega⟩
def fineU (u : U) : Bool := (!u.hasS || scheme u.scheme) && signs [91, 93] u.host && signs [47] u.path && signs [47, 63] u.query && signs [47, 63] u.frag
/-- May a text be a reference. -/
def fine (l : List UInt8) : Bool := decide (G.checkN l = 0) && fineU (split l)
def parseU (l : List UInt8) : U := if fine l = true then split l else none
def parseE (l : List UInt8) : Int := if fine l = true then 0 else 120
end Lc

end Go.Proofs.YtdhondndidoniaaGreatDoor
namespace Go.Proofs.YtdhondndidoniaaGreatDoor
namespace Md

def inB (b : UInt8) (x y : Nat) : Bool := decide (x ≤ b.toNat) && decide (b.toNat ≤ y)
/-- A byte of a token. -/
def tokB (b : UInt8) : Bool :=
  inB b 48 57 || inB b 65 90 || inB b 97 122 || inB b 33 33 || inB b 35 39 || inB b 42 43 || inB b 45 46 || inB b 94 96 || inB b 124 124 || inB b 126 126
def blankB (b : UInt8) : Bool := inB b 32 32 || inB b 9 9
/-- A byte that may not be quoted. -/
def badB (b : UInt8) : Bool := (decide (b.toNat < 32) && decide (b.toNat ≠ 9)) || decide (b.toNat = 127)
def lowB (b : UInt8) : UInt8 := if 65 ≤ b.toNat ∧ b.toNat ≤ 90 then b + 32 else b
def lower (l : List UInt8) : List UInt8 := l.map lowB
def tok (l : List UInt8) : List UInt8 := l.takeWhile tokB
def tokR (l : List UInt8) : List UInt8 := l.dropWhile tokB
def skip (l : List UInt8) : List UInt8 := l.dropWhile blankB

theorem tok_tokR (l : List UInt8) : tok l ++ tokR l = l := List.takeWhile_append_dropWhile
theorem tokR_length (l : List UInt8) : (tokR l).length ≤ l.length := (List.dropWhile_sublist _).length_le
theorem tok_length (l : List UInt8) : (tok l).length ≤ l.length := (List.takeWhile_sublist _).length_le
theorem skip_length (l : List UInt8) : (skip l).length ≤ l.length := (List.dropWhile_sublist _).length_le

/-- What is quoted, behind a quote, and what stands behind it. -/
def quo : List UInt8 → List UInt8 → Option (List UInt8 × List UInt8)
  | _, [] => none
  | acc, [b] => if b = 34 then some (acc, []) else none
  | acc, b :: c :: t =>
    if b = 34 then some (acc, c :: t)
    else if b = 92 then (if badB c = true then none else quo (acc ++ [c]) t)
    else if badB b = true then none
    else quo (acc ++ [b]) (c :: t)

theorem quo_end (acc : List UInt8) (t : List UInt8) : quo acc (34 :: t) = some (acc, t) := by
  cases t <;> simp [quo]
theorem quo_esc (acc : List UInt8) (c : UInt8) (t : List UInt8) (h : badB c = false) : quo acc (92 :: c :: t) = quo (acc ++ [c]) t := by
  simp [quo, h]
theorem quo_esc_bad (acc : List UInt8) (c : UInt8) (t : List UInt8) (h : badB c = true) : quo acc (92 :: c :: t) = none := by
  simp [quo, h]
theorem quo_esc_end (acc : List UInt8) : quo acc [92] = none := by simp [quo]
theorem quo_bad (acc : List UInt8) (b : UInt8) (t : List UInt8) (h1 : b ≠ 34) (h2 : b ≠ 92) (h : badB b = true) : quo acc (b :: t) = none := by
  cases t <;> simp [quo, h1, h2, h]
theorem quo_one (acc : List UInt8) (b : UInt8) (t : List UInt8) (h1 : b ≠ 34) (h2 : b ≠ 92) (h : badB b = false) : quo acc (b :: t) = quo (acc ++ [b]) t := by
  cases t with
  | nil => simp [quo, h1]
  | cons c t => simp [quo, h1, h2, h]
theorem quo_nil (acc : List UInt8) : quo acc [] = none := by simp [quo]

theorem quo_length : ∀ (l acc v r : List UInt8), quo acc l = some (v, r) → r.length < l.length := by
  suffices H : ∀ n (l acc v r : List UInt8), l.length ≤ n → quo acc l = some (v, r) → r.length < l.length from fun l acc v r h => H _ l acc v r (Nat.le_refl _) h
  intro n
  induction n with
  | zero =>
    intro l acc v r hn h
    have : l = [] := List.length_eq_zero_iff.1 (by omega)
    subst this; rw [quo_nil] at h; cases h
  | succ n ih =>
    intro l acc v r hn h
    cases l with
    | nil => rw [quo_nil] at h; cases h
    | cons b t =>
      rw [List.length_cons] at hn ⊢
      by_cases h1 : b = 34
      · subst h1; rw [quo_end] at h; injection h with h; injection h with _ h; subst h; omega
      · by_cases h2 : b = 92
        · subst h2
          cases t with
          | nil => rw [quo_esc_end] at h; cases h
          | cons c u =>
            rw [List.length_cons] at hn ⊢
            cases hb : badB c with
            | true => rw [quo_esc_bad _ _ _ hb] at h; cases h
            | false => rw [quo_esc _ _ _ hb] at h; have := ih u _ v r (by omega) h; omega
        · cases hb : badB b with
          | true => rw [quo_bad _ _ _ h1 h2 hb] at h; cases h
          | false => rw [quo_one _ _ _ h1 h2 hb] at h; have := ih t _ v r (by omega) h; omega

/-- A token or a quoted text, and what stands behind it. -/
def value (l : List UInt8) : Option (List UInt8 × List UInt8) := if l.head? = some 34 then quo [] (l.drop 1) else if tok l = [] then none else some (tok l, tokR l)

theorem value_length {l v r : List UInt8} (h : value l = some (v, r)) : r.length ≤ l.length := by
  unfold value at h
  split at h
  · have := quo_length _ _ _ _ h
    rw [List.length_drop] at this; omega
  · split at h
    · cases h
    · injection h with h; injection h with _ h; subst h; exact tokR_length l

/-- Parameters, each behind a semicolon; the number bounds the steps. -/
def paramsN : Nat → List Pair → List UInt8 → Option (List Pair)
  | 0, _, _ => none
  | n + 1, acc, s =>
    if skip s = [] then some acc
    else if (skip s).head? ≠ some 59 then none
    else if tok (skip ((skip s).drop 1)) = [] then none
    else if (tokR (skip ((skip s).drop 1))).head? ≠ some 61 then none
    else match value ((tokR (skip ((skip s).drop 1))).drop 1) with
      | none => none
      | some (v, r) => paramsN n (acc ++ [⟨⟨(lower (tok (skip ((skip s).drop 1)))).toArray⟩, ⟨v.toArray⟩⟩]) r

def params (s : List UInt8) : Option (List Pair) := paramsN (s.length + 1) [] s

theorem params_shorter {s v r : List UInt8} (h0 : skip s ≠ []) (h : value ((tokR (skip ((skip s).drop 1))).drop 1) = some (v, r)) : r.length < s.length := by
  have a := value_length h
  have b := tokR_length (skip ((skip s).drop 1))
  have c := skip_length ((skip s).drop 1)
  have d := skip_length s
  have e := List.length_pos_iff.2 h0
  rw [List.length_drop] at a c
  omega

theorem paramsN_same : ∀ (n m : Nat) (acc : List Pair) (s : List UInt8), s.length < n → s.length < m → paramsN n acc s = paramsN m acc s
  | 0, _, _, _, h, _ => by omega
  | _ + 1, 0, _, _, _, h => by omega
  | n + 1, m + 1, acc, s, h1, h2 => by
    unfold paramsN
    split
    · rfl
    · rename_i hne
      split
      · rfl
      · split
        · rfl
        · split
          · rfl
          · split
            · rfl
            · rename_i v r hv
              have := params_shorter hne hv
              exact paramsN_same n m _ _ (by omega) (by omega)

/-- .. so the number may be left out. -/
def paramsG (acc : List Pair) (s : List UInt8) : Option (List Pair) := paramsN (s.length + 1) acc s
theorem pg_end {acc : List Pair} {s : List UInt8} (h : skip s = []) : paramsG acc s = some acc := by unfold paramsG paramsN; rw [if_pos h]
theorem pg_semi {acc : List Pair} {s : List UInt8} (h : skip s ≠ []) (h1 : (skip s).head? ≠ some 59) : paramsG acc s = none := by unfold paramsG paramsN; rw [if_neg h, if_pos h1]
theorem pg_name {acc : List Pair} {s : List UInt8} (h : skip s ≠ []) (h1 : (skip s).head? = some 59) (h2 : tok (skip ((skip s).drop 1)) = []) : paramsG acc s = none := by
  unfold paramsG paramsN; rw [if_neg h, if_neg (fun e => e h1), if_pos h2]
theorem pg_sign {acc : List Pair} {s : List UInt8} (h : skip s ≠ []) (h1 : (skip s).head? = some 59) (h2 : tok (skip ((skip s).drop 1)) ≠ []) (h3 : (tokR (skip ((skip s).drop 1))).head? ≠ some 61) : paramsG acc s = none := by
  unfold paramsG paramsN; rw [if_neg h, if_neg (fun e => e h1), if_neg h2, if_pos h3]
theorem pg_value {acc : List Pair} {s : List UInt8} (h : skip s ≠ []) (h1 : (skip s).head? = some 59) (h2 : tok (skip ((skip s).drop 1)) ≠ []) (h3 : (tokR (skip ((skip s).drop 1))).head? = some 61)
    (h4 : value ((tokR (skip ((skip s).drop 1))).drop 1) = none) : paramsG acc s = none := by
  unfold paramsG paramsN; rw [if_neg h, if_neg (fun e => e h1), if_neg h2, if_neg (fun e => e h3), h4]
theorem pg_step {acc : List Pair} {s v r : List UInt8} (h : skip s ≠ []) (h1 : (skip s).head? = some 59) (h2 : tok (skip ((skip s).drop 1)) ≠ []) (h3 : (tokR (skip ((skip s).drop 1))).head? = some 61)
    (h4 : value ((tokR (skip ((skip s).drop 1))).drop 1) = some (v, r)) : paramsG acc s = paramsG (acc ++ [⟨⟨(lower (tok (skip ((skip s).drop 1)))).toArray⟩, ⟨v.toArray⟩⟩]) r := by
  have := params_shorter h h4
  conv => lhs; unfold paramsG paramsN
  rw [if_neg h, if_neg (fun e => e h1), if_neg h2, if_neg (fun e => e h3), h4]
  exact paramsN_same _ _ _ _ (by omega) (by omega)

/-- A media type. -/
structure Med where
  ty : ByteArray
  sub : ByteArray
  params : List Pair
  deriving DecidableEq

def none' : Med := ⟨ByteArray.empty, ByteArray.empty, []⟩

/-- Parse: M1. -/
def parse (l : List UInt8) : Option Med :=
  if tok (skip l) = [] ∨ (tokR (skip l)).head? ≠ some 47 then none
  else if tok ((tokR (skip l)).drop 1) = [] then none
  else match paramsG [] (tokR ((tokR (skip l)).drop 1)) with
    | none => none
    | some ps => if tok (skip l) = [42] ∧ tok ((tokR (skip l)).drop 1) ≠ [42] then none
      else some ⟨⟨(lower (tok (skip l))).toArray⟩, ⟨(lower (tok ((tokR (skip l)).drop 1))).toArray⟩, ps⟩

/-- Param: M2. -/
def param (ps : List Pair) (n : ByteArray) : Option ByteArray := (ps.find? fun p => decide (p.name = n)).map (·.value)

/-- Fits: M3. -/
def star : ByteArray := ⟨#[42]⟩
def fitsP (m : List Pair) (p : Pair) : Bool :=
  decide (p.name = ⟨#[113]⟩) || (match param m p.name with | none => false | some v => decide (lower v.data.toList = lower p.value.data.toList))
def fits (r m : Med) : Bool := (decide (r.ty = star) || decide (r.ty = m.ty)) && (decide (r.sub = star) || decide (r.sub = m.sub)) && r.params.all (fitsP m.params)

/-- A value as it is told. -/
def esc (l : List UInt8) : List UInt8 := l.flatMap fun b => if b = 34 ∨ b = 92 then [92, b] else [b]
def isTok (l : List UInt8) : Bool := !l.isEmpty && l.all tokB
def quote (l : List UInt8) : List UInt8 := if isTok l = true then l else 34 :: (esc l ++ [34])
end Md
end Go.Proofs.YtdhondndidoniaaGreatDoor
namespace Go.Proofs.YtdhondndidoniaaGreatDoor
open Go.RowKit

namespace Md
theorem skip_stop (b : UInt8) (t : List UInt8) (h : blankB b = false) : skip (b :: t) = b :: t := List.dropWhile_cons_of_neg (by rw [h]; simp)
theorem skip_one (b : UInt8) (t : List UInt8) (h : blankB b = true) : skip (b :: t) = skip t := List.dropWhile_cons_of_pos h
end Md

/-- Token's answers, Skip's, Lower's. -/
def tkA (s : ByteArray) : ByteArray := ⟨(Md.tok s.data.toList).toArray⟩
def tkB (s : ByteArray) : ByteArray := ⟨(Md.tokR s.data.toList).toArray⟩
def skA (s : ByteArray) : ByteArray := ⟨(Md.skip s.data.toList).toArray⟩
def loA (s : ByteArray) : ByteArray := ⟨(Md.lower s.data.toList).toArray⟩
theorem mk_list (l : List UInt8) : (⟨l.toArray⟩ : ByteArray).data.toList = l := by simp
theorem tkA_list (s : ByteArray) : (tkA s).data.toList = Md.tok s.data.toList := mk_list _
theorem tkB_list (s : ByteArray) : (tkB s).data.toList = Md.tokR s.data.toList := mk_list _
theorem skA_list (s : ByteArray) : (skA s).data.toList = Md.skip s.data.toList := mk_list _
theorem loA_list (s : ByteArray) : (loA s).data.toList = Md.lower s.data.toList := mk_list _
theorem size_le {a b : ByteArray} (h : a.data.toList.length ≤ b.data.toList.length) : a.size ≤ b.size := by rw [list_len, list_len] at h; exact h
theorem tkA_size (s : ByteArray) : (tkA s).size ≤ s.size := size_le (by rw [tkA_list]; exact Md.tok_length _)
theorem tkB_size (s : ByteArray) : (tkB s).size ≤ s.size := size_le (by rw [tkB_list]; exact Md.tokR_length _)
theorem skA_size (s : ByteArray) : (skA s).size ≤ s.size := size_le (by rw [skA_list]; exact Md.skip_length _)
end Go.Proofs.YtdhondndidoniaaGreatDoor
namespace Go.Proofs.YtdhondndidoniaaGreatDoor
open Go.RowKit

namespace Md
theorem low_small {b : UInt8} (h : 65 ≤ b.toNat ∧ b.toNat ≤ 90) : (lowB b).toNat = b.toNat + 32 := by
  unfold lowB; rw [if_pos h]; simp; omega
theorem low_same {b : UInt8} (h : ¬ (65 ≤ b.toNat ∧ b.toNat ≤ 90)) : lowB b = b := by unfold lowB; rw [if_neg h]
end Md

theorem head_byte {s : ByteArray} (h : 0 < s.size) : s.data.toList.head? = some s[0] := by
  have := drop_cons s 0 h
  rw [List.drop_zero] at this
  rw [this]; rfl

theorem nil_of_size {s : ByteArray} (h : s.size = 0) : s.data.toList = [] := by
  obtain rfl : s = ByteArray.empty := ByteArray.size_eq_zero_iff.1 h
  rfl
theorem not_nil {s : ByteArray} (h : 0 < s.size) : s.data.toList ≠ [] := lst_ne h
theorem empty_yes {s : ByteArray} (h : s.size = 0) : s.toList.isEmpty = true := by
  rw [ByteArray.toList_eq, nil_of_size h]; rfl

end Go.Proofs.YtdhondndidoniaaGreatDoor
namespace Go.Proofs.YtdhondndidoniaaGreatDoor
open Go.RowKit

/-- Quoted's answers. -/
def quA (s : ByteArray) : ByteArray := match Md.quo [] s.data.toList with | some x => ⟨x.1.toArray⟩ | none => ⟨#[]⟩
def quB (s : ByteArray) : ByteArray := match Md.quo [] s.data.toList with | some x => ⟨x.2.toArray⟩ | none => ⟨#[]⟩
def quC (s : ByteArray) : Bool := (Md.quo [] s.data.toList).isSome
theorem qu_none {s : ByteArray} (h : Md.quo [] s.data.toList = none) : quA s = ⟨#[]⟩ ∧ quB s = ⟨#[]⟩ ∧ quC s = false := by unfold quA quB quC; rw [h]; exact ⟨rfl, rfl, rfl⟩
theorem qu_some {s : ByteArray} {v r : List UInt8} (h : Md.quo [] s.data.toList = some (v, r)) : quA s = ⟨v.toArray⟩ ∧ quB s = ⟨r.toArray⟩ ∧ quC s = true := by unfold quA quB quC; rw [h]; exact ⟨rfl, rfl, rfl⟩

end Go.Proofs.YtdhondndidoniaaGreatDoor
namespace Go.Proofs.YtdhondndidoniaaGreatDoor
open Go.RowKit

/-- value's answers. -/
def vaA (s : ByteArray) : ByteArray := if s.data.toList.head? = some 34 then quA (s.extract 1 s.size) else tkA s
def vaB (s : ByteArray) : ByteArray := if s.data.toList.head? = some 34 then quB (s.extract 1 s.size) else tkB s
def vaC (s : ByteArray) : Bool := if s.data.toList.head? = some 34 then quC (s.extract 1 s.size) else !(tkA s).toList.isEmpty
theorem va_none {s : ByteArray} (h : Md.value s.data.toList = none) : vaC s = false := by
  unfold Md.value at h
  unfold vaC
  split at h
  · rename_i h34
    rw [if_pos h34]
    exact (qu_none (by rw [drop_list]; exact h)).2.2
  · rename_i h34
    rw [if_neg h34]
    split at h
    · rename_i ht
      rw [ByteArray.toList_eq, tkA_list, ht]; rfl
    · cases h
theorem va_some {s : ByteArray} {v r : List UInt8} (h : Md.value s.data.toList = some (v, r)) : vaA s = ⟨v.toArray⟩ ∧ vaB s = ⟨r.toArray⟩ ∧ vaC s = true := by
  unfold Md.value at h
  unfold vaA vaB vaC
  split at h
  · rename_i h34
    rw [if_pos h34, if_pos h34, if_pos h34]
    exact qu_some (by rw [drop_list]; exact h)
  · rename_i h34
    rw [if_neg h34, if_neg h34, if_neg h34]
    split at h
    · cases h
    · rename_i ht
      injection h with h; injection h with h1 h2
      subst h1; subst h2
      refine ⟨rfl, rfl, ?_⟩
      rw [ByteArray.toList_eq, tkA_list]
      simpa using ht

end Go.Proofs.YtdhondndidoniaaGreatDoor
namespace Go.Proofs.YtdhondndidoniaaGreatDoor
open Go.RowKit

end Go.Proofs.YtdhondndidoniaaGreatDoor
namespace Go.Proofs.YtdhondndidoniaaGreatDoor
open Go.RowKit

/-- Parse's answers. -/
def mpM (s : ByteArray) : Md.Med := (Md.parse s.data.toList).getD Md.none'
def mpE (s : ByteArray) : Int := if (Md.parse s.data.toList).isSome = true then 0 else 130
theorem mp_none {s : ByteArray} (h : Md.parse s.data.toList = none) : mpM s = Md.none' ∧ mpE s = 130 := by unfold mpM mpE; rw [h]; exact ⟨rfl, rfl⟩
theorem mp_some {s : ByteArray} {m : Md.Med} (h : Md.parse s.data.toList = some m) : mpM s = m ∧ mpE s = 0 := by unfold mpM mpE; rw [h]; exact ⟨rfl, rfl⟩

/-- A box of three. -/
def Box3 (w : World) (b : Nat) (x y z : Value) : Prop := w.heap[b]? = some (.cells #[x, y, z] 120 (0, 0))
theorem Box3.c0 {w : World} {b : Nat} {x y z : Value} (h : Box3 w b x y z) : w.cell? ⟨b, 0, none⟩ = some x := by unfold World.cell?; rw [show w.heap[b]? = _ from h]; rfl
theorem Box3.c1 {w : World} {b : Nat} {x y z : Value} (h : Box3 w b x y z) : w.cell? ⟨b, 1, none⟩ = some y := by unfold World.cell?; rw [show w.heap[b]? = _ from h]; rfl
theorem Box3.c2 {w : World} {b : Nat} {x y z : Value} (h : Box3 w b x y z) : w.cell? ⟨b, 2, none⟩ = some z := by unfold World.cell?; rw [show w.heap[b]? = _ from h]; rfl
theorem row_set {w : World} {B : Nat} {e : TypeId} {size n : Nat} {v : Value} {xs : List Value} (h : w.ownsRow B e size v n xs) {a : Addr} (ha : some a.block ≠ v.ownBlock) (u : Value) : (w.setCell a u).ownsRow B e size v n xs := by
  obtain ⟨hl, h0 | ⟨g, cap, cur, rfl, hb, hh, r⟩⟩ := h
  · exact ⟨hl, .inl h0⟩
  · refine ⟨hl, .inr ⟨g, cap, cur, rfl, hb, ?_, r⟩⟩
    rw [RowKit.Below.heap_setCell _ _ _ _ (by intro e; apply ha; simp [Value.ownBlock, e])]
    exact hh
end Go.Proofs.YtdhondndidoniaaGreatDoor
namespace Go.Proofs.YtdhondndidoniaaGreatDoor
open Go.RowKit

/-- What the document leans on. -/
def Am.onD : Am.On where
  iri l whole := decide (Lc.parseE l = 0) && decide (l ≠ []) && ((Lc.parseU l).hasS || !whole)
  moment l := decide (D.paE l = 0)
  type t := (Md.parse t).map fun m => m.ty.data.toList
  low := Md.lower

end Go.Proofs.YtdhondndidoniaaGreatDoor
namespace Go.Proofs.YtdhondndidoniaaGreatDoor
open Go.RowKit

theorem am_xhtml : (⟨#[104, 116, 116, 112, 58, 47, 47, 119, 119, 119, 46, 119, 51, 46, 111, 114, 103, 47, 49, 57, 57, 57, 47, 120, 104, 116, 109, 108]⟩ : ByteArray).data.toList = Am.xhtmlS := by decide +kernel
theorem am_div : (⟨#[100, 105, 118]⟩ : ByteArray).data.toList = Am.lit "div" := by decide +kernel
def Am.isDiv (k : Gv.Node) : Bool := Am.isEl k Am.xhtmlS (Am.lit "div")
def Am.divOk (k : Gv.Node) : Bool := Am.isDiv k || !(decide (Am.kindOf k = 0) || (decide (Am.kindOf k = 1) && !((Am.dataOf k).data.toList.all Am.space)))
theorem Am.div_is (n : Gv.Node) : Am.div n = (decide (((Am.kidsOf n).filter Am.isDiv).length = 1) && (Am.kidsOf n).all Am.divOk) := rfl
theorem Am.divs_more {l : List Gv.Node} {j : Nat} (h : j < l.length) : ((l.take (j + 1)).filter Am.isDiv).length = ((l.take j).filter Am.isDiv).length + (if Am.isDiv l[j] = true then 1 else 0) := by
  rw [List.take_succ_eq_append_getElem h, List.filter_append, List.length_append, List.filter_cons, List.filter_nil]
  split <;> rfl

end Go.Proofs.YtdhondndidoniaaGreatDoor
namespace Go.Proofs.YtdhondndidoniaaGreatDoor
open Go.RowKit

theorem am_lit_type : Am.lit "type" = [116, 121, 112, 101] := by decide +kernel
theorem am_lit_text : Am.lit "text" = [116, 101, 120, 116] := by decide +kernel
theorem am_lit_html : Am.lit "html" = [104, 116, 109, 108] := by decide +kernel
theorem am_lit_xhtml : Am.lit "xhtml" = [120, 104, 116, 109, 108] := by decide +kernel
theorem am_lit_rel : Am.lit "rel" = [114, 101, 108] := by decide +kernel
theorem am_lit_href : Am.lit "href" = [104, 114, 101, 102] := by decide +kernel
theorem am_lit_hreflang : Am.lit "hreflang" = [104, 114, 101, 102, 108, 97, 110, 103] := by decide +kernel
theorem am_lit_src : Am.lit "src" = [115, 114, 99] := by decide +kernel
theorem am_lit_alternate : Am.lit "alternate" = [97, 108, 116, 101, 114, 110, 97, 116, 101] := by decide +kernel
theorem am_lit_term : Am.lit "term" = [116, 101, 114, 109] := by decide +kernel
theorem atA_list (t : List UInt8) : (atA (some t)).data.toList = t := by simp [atA]
theorem lit_yes {s : ByteArray} {t l : List UInt8} (hs : s.data.toList = t) (h : t = l) : (s.toList == l) = true := str_is (hs.trans h)
theorem lit_no {s : ByteArray} {t l : List UInt8} (hs : s.data.toList = t) (h : ¬ t = l) : (s.toList == l) = false := str_ne (by rw [hs]; exact h)
theorem atA_wt (n : Gv.Node) (name : List UInt8) : (atA (Am.attr n name)).size ≤ Gv.wt n := atA_size

end Go.Proofs.YtdhondndidoniaaGreatDoor
namespace Go.Proofs.YtdhondndidoniaaGreatDoor
open Go.RowKit

end Go.Proofs.YtdhondndidoniaaGreatDoor
namespace Go.Proofs.YtdhondndidoniaaGreatDoor
open Go.RowKit

theorem pr_app : (⟨#[104, 116, 116, 112, 58, 47, 47, 119, 119, 119, 46, 119, 51, 46, 111, 114, 103, 47, 50, 48, 48, 55, 47, 97, 112, 112]⟩ : ByteArray).data.toList = Pr.appS := by decide +kernel
theorem pr_id : (⟨#[105, 100]⟩ : ByteArray).data.toList = Am.lit "id" := by decide +kernel
theorem pr_edited : (⟨#[101, 100, 105, 116, 101, 100]⟩ : ByteArray).data.toList = Am.lit "edited" := by decide +kernel
theorem pr_updated : (⟨#[117, 112, 100, 97, 116, 101, 100]⟩ : ByteArray).data.toList = Am.lit "updated" := by decide +kernel
theorem pr_link : (⟨#[108, 105, 110, 107]⟩ : ByteArray).data.toList = Am.lit "link" := by decide +kernel
theorem pr_edit : Am.lit "edit" = [101, 100, 105, 116] := by decide +kernel
theorem pr_media : Am.lit "edit-media" = [101, 100, 105, 116, 45, 109, 101, 100, 105, 97] := by decide +kernel

end Go.Proofs.YtdhondndidoniaaGreatDoor
