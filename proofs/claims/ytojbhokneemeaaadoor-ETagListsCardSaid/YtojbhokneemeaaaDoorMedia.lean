/-
  Media types in plain Lean: tokens, quoted texts, parameters; what is told, and that it is read as it was.
-/
import Derived.Test.YtojbhokneemeaaaDoorPairs
namespace Go.Proofs.YtojbhokneemeaaaDoor
namespace Md

def inB (b : UInt8) (x y : Nat) : Bool := decide (x ≤ b.toNat) && decide (b.toNat ≤ y)
/-- A byte of a token. -/
def tokB (b : UInt8) : Bool :=
  inB b 48 57 || inB b 65 90 || inB b 97 122 || inB b 33 33 || inB b 35 39 || inB b 42 43 || inB b 45 46 || inB b 94 96 || inB b 124 124 || inB b 126 126
def blankB (b : UInt8) : Bool := inB b 32 32 || inB b 9 9
/-- A byte that may not be quoted. -/
def badB (b : UInt8) : Bool := (decide (b.toNat < 32) && decide (b.toNat ≠ 9)) || decide (b.toNat = 127)
def lowB (b : UInt8) : UInt8 := if 65 ≤ b.toNat ∧ b.toNat ≤ 90 then b + 32 else b
def lower (l : List UInt8) : List UInt8 := l.map lowB
def tok (l : List UInt8) : List UInt8 := l.takeWhile tokB
def tokR (l : List UInt8) : List UInt8 := l.dropWhile tokB
def skip (l : List UInt8) : List UInt8 := l.dropWhile blankB

theorem tok_tokR (l : List UInt8) : tok l ++ tokR l = l := List.takeWhile_append_dropWhile
theorem tokR_length (l : List UInt8) : (tokR l).length ≤ l.length := (List.dropWhile_sublist _).length_le
theorem tok_length (l : List UInt8) : (tok l).length ≤ l.length := (List.takeWhile_sublist _).length_le
theorem skip_length (l : List UInt8) : (skip l).length ≤ l.length := (List.dropWhile_sublist _).length_le

/-- What is quoted, behind a quote, and what stands behind it. -/
def quo : List UInt8 → List UInt8 → Option (List UInt8 × List UInt8)
  | _, [] => none
  | acc, [b] => if b = 34 then some (acc, []) else none
  | acc, b :: c :: t =>
    if b = 34 then some (acc, c :: t)
    else if b = 92 then (if badB c = true then none else quo (acc ++ [c]) t)
    else if badB b = true then none
    else quo (acc ++ [b]) (c :: t)

theorem quo_end (acc : List UInt8) (t : List UInt8) : quo acc (34 :: t) = some (acc, t) := by
  cases t <;> simp [quo]
theorem quo_esc (acc : List UInt8) (c : UInt8) (t : List UInt8) (h : badB c = false) : quo acc (92 :: c :: t) = quo (acc ++ [c]) t := by
  simp [quo, h]
theorem quo_esc_bad (acc : List UInt8) (c : UInt8) (t : List UInt8) (h : badB c = true) : quo acc (92 :: c :: t) = none := by
  simp [quo, h]
theorem quo_esc_end (acc : List UInt8) : quo acc [92] = none := by simp [quo]
theorem quo_bad (acc : List UInt8) (b : UInt8) (t : List UInt8) (h1 : b ≠ 34) (h2 : b ≠ 92) (h : badB b = true) : quo acc (b :: t) = none := by
  cases t <;> simp [quo, h1, h2, h]
theorem quo_one (acc : List UInt8) (b : UInt8) (t : List UInt8) (h1 : b ≠ 34) (h2 : b ≠ 92) (h : badB b = false) : quo acc (b :: t) = quo (acc ++ [b]) t := by
  cases t with
  | nil => simp [quo, h1]
  | cons c t => simp [quo, h1, h2, h]
theorem quo_nil (acc : List UInt8) : quo acc [] = none := by simp [quo]

theorem quo_length : ∀ (l acc v r : List UInt8), quo acc l = some (v, r) → r.length < l.length := by
  suffices H : ∀ n (l acc v r : List UInt8), l.length ≤ n → quo acc l = some (v, r) → r.length < l.length from fun l acc v r h => H _ l acc v r (Nat.le_refl _) h
  intro n
  induction n with
  | zero =>
    intro l acc v r hn h
    have : l = [] := List.length_eq_zero_iff.1 (by omega)
    subst this; rw [quo_nil] at h; cases h
  | succ n ih =>
    intro l acc v r hn h
    cases l with
    | nil => rw [quo_nil] at h; cases h
    | cons b t =>
      rw [List.length_cons] at hn ⊢
      by_cases h1 : b = 34
      · subst h1; rw [quo_end] at h; injection h with h; injection h with _ h; subst h; omega
      · by_cases h2 : b = 92
        · subst h2
          cases t with
          | nil => rw [quo_esc_end] at h; cases h
          | cons c u =>
            rw [List.length_cons] at hn ⊢
            cases hb : badB c with
            | true => rw [quo_esc_bad _ _ _ hb] at h; cases h
            | false => rw [quo_esc _ _ _ hb] at h; have := ih u _ v r (by omega) h; omega
        · cases hb : badB b with
          | true => rw [quo_bad _ _ _ h1 h2 hb] at h; cases h
          | false => rw [quo_one _ _ _ h1 h2 hb] at h; have := ih t _ v r (by omega) h; omega

/-- A token or a quoted text, and what stands behind it. -/
def value (l : List UInt8) : Option (List UInt8 × List UInt8) := if l.head? = some 34 then quo [] (l.drop 1) else if tok l = [] then none else some (tok l, tokR l)

theorem value_length {l v r : List UInt8} (h : value l = some (v, r)) : r.length ≤ l.length := by
  unfold value at h
  split at h
  · have := quo_length _ _ _ _ h
    rw [List.length_drop] at this; omega
  · split at h
    · cases h
    · injection h with h; injection h with _ h; subst h; exact tokR_length l

/-- Parameters, each behind a semicolon; the number bounds the steps. -/
def paramsN : Nat → List Pair → List UInt8 → Option (List Pair)
  | 0, _, _ => none
  | n + 1, acc, s =>
    if skip s = [] then some acc
    else if (skip s).head? ≠ some 59 then none
    else if tok (skip ((skip s).drop 1)) = [] then none
    else if (tokR (skip ((skip s).drop 1))).head? ≠ some 61 then none
    else match value ((tokR (skip ((skip s).drop 1))).drop 1) with
      | none => none
      | some (v, r) => paramsN n (acc ++ [⟨⟨(lower (tok (skip ((skip s).drop 1)))).toArray⟩, ⟨v.toArray⟩⟩]) r

def params (s : List UInt8) : Option (List Pair) := paramsN (s.length + 1) [] s

theorem params_shorter {s v r : List UInt8} (h0 : skip s ≠ []) (h : value ((tokR (skip ((skip s).drop 1))).drop 1) = some (v, r)) : r.length < s.length := by
  have a := value_length h
  have b := tokR_length (skip ((skip s).drop 1))
  have c := skip_length ((skip s).drop 1)
  have d := skip_length s
  have e := List.length_pos_iff.2 h0
  rw [List.length_drop] at a c
  omega

theorem paramsN_same : ∀ (n m : Nat) (acc : List Pair) (s : List UInt8), s.length < n → s.length < m → paramsN n acc s = paramsN m acc s
  | 0, _, _, _, h, _ => by omega
  | _ + 1, 0, _, _, _, h => by omega
  | n + 1, m + 1, acc, s, h1, h2 => by
    unfold paramsN
    split
    · rfl
    · rename_i hne
      split
      · rfl
      · split
        · rfl
        · split
          · rfl
          · split
            · rfl
            · rename_i v r hv
              have := params_shorter hne hv
              exact paramsN_same n m _ _ (by omega) (by omega)

/-- .. so the number may be left out. -/
def paramsG (acc : List Pair) (s : List UInt8) : Option (List Pair) := paramsN (s.length + 1) acc s
theorem pg_end {acc : List Pair} {s : List UInt8} (h : skip s = []) : paramsG acc s = some acc := by unfold paramsG paramsN; rw [if_pos h]
theorem pg_semi {acc : List Pair} {s : List UInt8} (h : skip s ≠ []) (h1 : (skip s).head? ≠ some 59) : paramsG acc s = none := by unfold paramsG paramsN; rw [if_neg h, if_pos h1]
theorem pg_name {acc : List Pair} {s : List UInt8} (h : skip s ≠ []) (h1 : (skip s).head? = some 59) (h2 : tok (skip ((skip s).drop 1)) = []) : paramsG acc s = none := by
  unfold paramsG paramsN; rw [if_neg h, if_neg (fun e => e h1), if_pos h2]
theorem pg_sign {acc : List Pair} {s : List UInt8} (h : skip s ≠ []) (h1 : (skip s).head? = some 59) (h2 : tok (skip ((skip s).drop 1)) ≠ []) (h3 : (tokR (skip ((skip s).drop 1))).head? ≠ some 61) : paramsG acc s = none := by
  unfold paramsG paramsN; rw [if_neg h, if_neg (fun e => e h1), if_neg h2, if_pos h3]
theorem pg_value {acc : List Pair} {s : List UInt8} (h : skip s ≠ []) (h1 : (skip s).head? = some 59) (h2 : tok (skip ((skip s).drop 1)) ≠ []) (h3 : (tokR (skip ((skip s).drop 1))).head? = some 61)
    (h4 : value ((tokR (skip ((skip s).drop 1))).drop 1) = none) : paramsG acc s = none := by
  unfold paramsG paramsN; rw [if_neg h, if_neg (fun e => e h1), if_neg h2, if_neg (fun e => e h3), h4]
theorem pg_step {acc : List Pair} {s v r : List UInt8} (h : skip s ≠ []) (h1 : (skip s).head? = some 59) (h2 : tok (skip ((skip s).drop 1)) ≠ []) (h3 : (tokR (skip ((skip s).drop 1))).head? = some 61)
    (h4 : value ((tokR (skip ((skip s).drop 1))).drop 1) = some (v, r)) : paramsG acc s = paramsG (acc ++ [⟨⟨(lower (tok (skip ((skip s).drop 1)))).toArray⟩, ⟨v.toArray⟩⟩]) r := by
  have := params_shorter h h4
  conv => lhs; unfold paramsG paramsN
  rw [if_neg h, if_neg (fun e => e h1), if_neg h2, if_neg (fun e => e h3), h4]
  exact paramsN_same _ _ _ _ (by omega) (by omega)

/-- A media type. -/
structure Med where
  ty : ByteArray
  sub : ByteArray
  params : List Pair
  deriving DecidableEq

def none' : Med := ⟨ByteArray.empty, ByteArray.empty, []⟩

/-- Parse: M1. -/
def parse (l : List UInt8) : Option Med :=
  if tok (skip l) = [] ∨ (tokR (skip l)).head? ≠ some 47 then none
  else if tok ((tokR (skip l)).drop 1) = [] then none
  else match paramsG [] (tokR ((tokR (skip l)).drop 1)) with
    | none => none
    | some ps => if tok (skip l) = [42] ∧ tok ((tokR (skip l)).drop 1) ≠ [42] then none
      else some ⟨⟨(lower (tok (skip l))).toArray⟩, ⟨(lower (tok ((tokR (skip l)).drop 1))).toArray⟩, ps⟩

/-- Param: M2. -/
def param (ps : List Pair) (n : ByteArray) : Option ByteArray := (ps.find? fun p => decide (p.name = n)).map (·.value)

/-- Fits: M3. -/
def star : ByteArray := ⟨#[42]⟩
def fitsP (m : List Pair) (p : Pair) : Bool :=
  decide (p.name = ⟨#[113]⟩) || (match param m p.name with | none => false | some v => decide (lower v.data.toList = lower p.value.data.toList))
def fits (r m : Med) : Bool := (decide (r.ty = star) || decide (r.ty = m.ty)) && (decide (r.sub = star) || decide (r.sub = m.sub)) && r.params.all (fitsP m.params)

/-- A value as it is told. -/
def esc (l : List UInt8) : List UInt8 := l.flatMap fun b => if b = 34 ∨ b = 92 then [92, b] else [b]
def isTok (l : List UInt8) : Bool := !l.isEmpty && l.all tokB
def quote (l : List UInt8) : List UInt8 := if isTok l = true then l else 34 :: (esc l ++ [34])
def tellP (p : Pair) : List UInt8 := 59 :: 32 :: (p.name.data.toList ++ 61 :: quote p.value.data.toList)
/-- Print: M4. -/
def print (m : Med) : List UInt8 := m.ty.data.toList ++ 47 :: (m.sub.data.toList ++ m.params.flatMap tellP)
end Md
end Go.Proofs.YtojbhokneemeaaaDoor
