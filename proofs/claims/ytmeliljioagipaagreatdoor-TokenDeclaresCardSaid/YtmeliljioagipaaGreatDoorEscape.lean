/-
  References in texts, in plain Lean: digits, numbers, what a reference's name is (named), expand, escape; and the laws: what is escaped is expanded as it was; two texts that are expanded are so together.
-/
import Derived.Test.YtmeliljioagipaaGreatDoorGlyph
import Derived.Lib.RuneBytes
namespace Go.Proofs.YtmeliljioagipaaGreatDoor
namespace E

def digit (c : UInt8) (base : Nat) : Option Nat :=
  let n := if 48 ≤ c.toNat ∧ c.toNat ≤ 57 then some (c.toNat - 48) else if 65 ≤ c.toNat ∧ c.toNat ≤ 70 then some (c.toNat - 55) else if 97 ≤ c.toNat ∧ c.toNat ≤ 102 then some (c.toNat - 87) else none
  n.bind fun k => if k < base then some k else none

def numGo (base : Nat) : Nat → List UInt8 → Option Nat
  | n, [] => some n
  | n, c :: t => (digit c base).bind fun d => numGo base (min (n * base + d) 1114112) t

/-- The code point that digits are. -/
def number (base : Nat) (l : List UInt8) : Option Nat :=
  if l = [] then none else (numGo base 0 l).bind fun n => if G.char n then some n else none

/-- What a reference's name is. -/
def named (l : List UInt8) : Option (List UInt8) :=
  if l = [108, 116] then some [60] else if l = [103, 116] then some [62] else if l = [97, 109, 112] then some [38] else if l = [113, 117, 111, 116] then some [34] else if l = [97, 112, 111, 115] then some [39]
  else if 2 < l.length ∧ l.take 2 = [35, 120] then (number 16 (l.drop 2)).map fun n => Lib.encodeRune n
  else if 1 < l.length ∧ l.take 1 = [35] then (number 10 (l.drop 1)).map fun n => Lib.encodeRune n
  else none

/-- What stands ahead of the first semicolon, and behind it. -/
def semi (t : List UInt8) : Option (List UInt8 × List UInt8) :=
  match t.drop (t.takeWhile (· ≠ 59)).length with
  | [] => none
  | _ :: r => some (t.takeWhile (· ≠ 59), r)

def blank (attr : Bool) (b : UInt8) : UInt8 := if attr && G.space b.toNat then 32 else b

def expandGo (attr : Bool) : Nat → List UInt8 → Option (List UInt8)
  | _, [] => some []
  | 0, _ :: _ => none
  | f + 1, b :: t =>
    if b = 38 then (semi t).bind fun x => (named x.1).bind fun u => (expandGo attr f x.2).map fun r => u ++ r
    else (expandGo attr f t).map fun r => blank attr b :: r

def expand (attr : Bool) (l : List UInt8) : Option (List UInt8) := expandGo attr l.length l

def esc (attr : Bool) (b : UInt8) : List UInt8 :=
  if b = 38 then [38, 97, 109, 112, 59] else if b = 60 then [38, 108, 116, 59] else if b = 62 then [38, 103, 116, 59] else if b = 13 then [38, 35, 120, 68, 59]
  else if attr = true ∧ b = 34 then [38, 113, 117, 111, 116, 59] else if attr = true ∧ b = 9 then [38, 35, 120, 57, 59] else if attr = true ∧ b = 10 then [38, 35, 120, 65, 59]
  else [b]

def escape (attr : Bool) (l : List UInt8) : List UInt8 := l.flatMap (esc attr)

/-! ### laws -/
theorem semi_le {t a r : List UInt8} (h : semi t = some (a, r)) : t = a ++ 59 :: r ∧ ∀ b ∈ a, b ≠ 59 := by
  unfold semi at h
  have hp : t.takeWhile (· ≠ 59) ++ t.dropWhile (· ≠ 59) = t := List.takeWhile_append_dropWhile
  have hd : t.drop (t.takeWhile (· ≠ 59)).length = t.dropWhile (· ≠ 59) := by
    have key : ∀ a d : List UInt8, a ++ d = t → t.drop a.length = d := by rintro a d rfl; simp
    exact key _ _ hp
  rw [hd] at h
  cases hq : t.dropWhile (· ≠ 59) with
  | nil => rw [hq] at h; cases h
  | cons c r' =>
    rw [hq] at h
    cases h
    have hc : c = 59 := by
      have := List.head?_dropWhile_not (· ≠ (59 : UInt8)) t
      rw [hq] at this
      simpa using this
    subst hc
    refine ⟨by rw [← hq, hp], fun b hb => ?_⟩
    have := List.all_takeWhile (l := t) (p := (· ≠ (59 : UInt8)))
    rw [List.all_eq_true] at this
    simpa using this b hb

theorem semi_mk (a r : List UInt8) (h : ∀ b ∈ a, b ≠ 59) : semi (a ++ 59 :: r) = some (a, r) := by
  have ht : (a ++ 59 :: r).takeWhile (· ≠ 59) = a := by
    rw [List.takeWhile_append_of_pos (by simpa using h)]
    simp
  unfold semi
  rw [ht]
  simp

theorem semi_append {t a r : List UInt8} (h : semi t = some (a, r)) (u : List UInt8) : semi (t ++ u) = some (a, r ++ u) := by
  obtain ⟨e, ha⟩ := semi_le h
  rw [e, List.append_assoc, List.cons_append]
  exact semi_mk a (r ++ u) ha

theorem expandGo_fuel (attr : Bool) : ∀ f g l, l.length ≤ f → l.length ≤ g → expandGo attr f l = expandGo attr g l
  | _, _, [], _, _ => by simp [expandGo]
  | 0, _, _ :: _, h, _ => by simp at h
  | _ + 1, 0, _ :: _, _, h => by simp at h
  | f + 1, g + 1, b :: t, hf, hg => by
    simp only [List.length_cons] at hf hg
    unfold expandGo
    split
    · cases hs : semi t with
      | none => rfl
      | some x =>
        obtain ⟨a, r⟩ := x
        have := (semi_le hs).1
        have hl : r.length < t.length := by rw [this]; simp; omega
        simp only [Option.bind_some]
        rw [expandGo_fuel attr f g r (by omega) (by omega)]
    · rw [expandGo_fuel attr f g t (by omega) (by omega)]

theorem expand_nil (attr : Bool) : expand attr [] = some [] := rfl

theorem expand_ref (attr : Bool) (t : List UInt8) : expand attr (38 :: t) = (semi t).bind fun x => (named x.1).bind fun u => (expand attr x.2).map fun r => u ++ r := by
  unfold expand
  rw [List.length_cons, expandGo, if_pos rfl]
  cases hs : semi t with
  | none => rfl
  | some x =>
    obtain ⟨a, r⟩ := x
    have := (semi_le hs).1
    have hl : r.length < t.length := by rw [this]; simp; omega
    simp only [Option.bind_some]
    rw [expandGo_fuel attr t.length r.length r (by omega) (Nat.le_refl _)]

theorem expand_byte (attr : Bool) (b : UInt8) (t : List UInt8) (h : b ≠ 38) : expand attr (b :: t) = (expand attr t).map fun r => blank attr b :: r := by
  unfold expand
  rw [List.length_cons, expandGo, if_neg h]

theorem expand_induct {M : List UInt8 → Prop} (nil : M []) (byte : ∀ b t, b ≠ 38 → M t → M (b :: t)) (none : ∀ t, semi t = none → M (38 :: t)) (ref : ∀ t a r, semi t = some (a, r) → M r → M (38 :: t)) : ∀ l, M l := by
  suffices H : ∀ n (l : List UInt8), l.length ≤ n → M l from fun l => H _ l (Nat.le_refl _)
  intro n
  induction n with
  | zero =>
    intro l h
    have : l = [] := List.length_eq_zero_iff.1 (by omega)
    subst this; exact nil
  | succ n ih =>
    intro l h
    cases l with
    | nil => exact nil
    | cons b t =>
      rw [List.length_cons] at h
      by_cases hb : b = 38
      · subst hb
        cases hs : semi t with
        | none => exact none t hs
        | some x =>
          obtain ⟨a, r⟩ := x
          have := (semi_le hs).1
          have hl : r.length < t.length := by rw [this]; simp; omega
          exact ref t a r hs (ih _ (by omega))
      · exact byte b t hb (ih _ (by omega))

/-- TWO TEXTS THAT ARE EXPANDED ARE SO TOGETHER. -/
theorem expand_append (attr : Bool) (s t a b : List UInt8) (hs : expand attr s = some a) (ht : expand attr t = some b) : expand attr (s ++ t) = some (a ++ b) := by
  induction s using expand_induct generalizing a with
  | nil => cases hs; exact ht
  | byte c u hc ih =>
    rw [expand_byte attr c u hc] at hs
    cases hu : expand attr u with
    | none => rw [hu] at hs; cases hs
    | some x =>
      rw [hu] at hs
      cases hs
      rw [List.cons_append, expand_byte attr c _ hc, ih x hu]
      rfl
  | none u hu =>
    rw [expand_ref, hu] at hs
    cases hs
  | ref u n r hu ih =>
    rw [expand_ref, hu] at hs
    rw [List.cons_append, expand_ref, semi_append hu]
    simp only [Option.bind_some] at hs ⊢
    cases hn : named n with
    | none => rw [hn] at hs; cases hs
    | some v =>
      rw [hn] at hs
      cases hr : expand attr r with
      | none => rw [hr] at hs; cases hs
      | some x =>
        rw [hr] at hs
        cases hs
        rw [ih x hr]
        simp

/-- A text is refused as a value if it is as a text. -/
theorem expand_same (s : List UInt8) : (expand true s).isSome = (expand false s).isSome := by
  induction s using expand_induct with
  | nil => rfl
  | byte c u hc ih => rw [expand_byte true c u hc, expand_byte false c u hc]; simpa using ih
  | none u hu => rw [expand_ref, expand_ref, hu]; rfl
  | ref u n r hu ih =>
    rw [expand_ref, expand_ref, hu]
    simp only [Option.bind_some]
    cases named n with
    | none => rfl
    | some v => simpa using ih

theorem blank_esc (attr : Bool) (b : UInt8) (h : esc attr b = [b]) (h13 : b ≠ 13) (h9 : attr = true → b ≠ 9) (h10 : attr = true → b ≠ 10) : blank attr b = b := by
  have hb : b.toNat < 256 := b.toNat_lt
  unfold blank
  cases attr with
  | false => rfl
  | true =>
    have g13 : b.toNat ≠ 13 := fun e => h13 (UInt8.toNat_inj.1 e)
    have g9 : b.toNat ≠ 9 := fun e => h9 rfl (UInt8.toNat_inj.1 e)
    have g10 : b.toNat ≠ 10 := fun e => h10 rfl (UInt8.toNat_inj.1 e)
    split
    · rename_i hs
      simp [G.space] at hs
      refine UInt8.toNat_inj.1 ?_
      show 32 = b.toNat
      omega
    · rfl

theorem expand_piece (attr : Bool) (a r u : List UInt8) (h : ∀ b ∈ a, b ≠ 59) (hn : named a = some u) : expand attr ((38 :: a ++ [59]) ++ r) = (expand attr r).map fun x => u ++ x := by
  rw [List.append_assoc, List.cons_append, expand_ref, show a ++ ([59] ++ r) = a ++ 59 :: r from rfl, semi_mk a r h]
  simp only [Option.bind_some]
  rw [hn]
  rfl

/-- one byte that is escaped, and expanded again, in text or value. -/
theorem expand_esc (attr eattr : Bool) (b : UInt8) (r : List UInt8) (hv : attr = true → eattr = true) : expand attr (esc eattr b ++ r) = (expand attr r).map fun x => b :: x := by
  by_cases h1 : b = 38
  · subst h1; exact expand_piece attr [97, 109, 112] r [38] (by decide) (by decide)
  by_cases h2 : b = 60
  · subst h2; exact expand_piece attr [108, 116] r [60] (by decide) (by decide)
  by_cases h3 : b = 62
  · subst h3; exact expand_piece attr [103, 116] r [62] (by decide) (by decide)
  by_cases h4 : b = 13
  · subst h4; exact expand_piece attr [35, 120, 68] r [13] (by decide) (by decide)
  by_cases h5 : eattr = true ∧ b = 34
  · obtain ⟨rfl, rfl⟩ := h5; exact expand_piece attr [113, 117, 111, 116] r [34] (by decide) (by decide)
  by_cases h6 : eattr = true ∧ b = 9
  · obtain ⟨rfl, rfl⟩ := h6; exact expand_piece attr [35, 120, 57] r [9] (by decide) (by decide)
  by_cases h7 : eattr = true ∧ b = 10
  · obtain ⟨rfl, rfl⟩ := h7; exact expand_piece attr [35, 120, 65] r [10] (by decide) (by decide)
  have e : ∀ a, esc a b = [b] ∨ a ≠ eattr := by
    intro a
    by_cases ha : a = eattr
    · subst ha; left; unfold esc; rw [if_neg h1, if_neg h2, if_neg h3, if_neg h4, if_neg h5, if_neg h6, if_neg h7]
    · exact .inr ha
  have e0 := (e eattr).resolve_right (fun x => x rfl)
  rw [e0, List.cons_append, List.nil_append, expand_byte attr b r h1]
  have hb : blank attr b = b := by
    cases attr with
    | false => rfl
    | true =>
      have := hv rfl
      subst this
      exact blank_esc true b e0 h4 (fun _ c => h6 ⟨rfl, c⟩) (fun _ c => h7 ⟨rfl, c⟩)
  rw [hb]

/-- WHAT IS ESCAPED IS EXPANDED AS IT WAS. -/
theorem expand_escape (attr eattr : Bool) (s : List UInt8) (hv : attr = true → eattr = true) : expand attr (escape eattr s) = some s := by
  induction s with
  | nil => rfl
  | cons b t ih =>
    rw [escape, List.flatMap_cons, expand_esc attr eattr b _ hv]
    rw [escape] at ih
    rw [ih]; rfl

theorem esc_bytes (attr : Bool) (b : UInt8) : ∀ x ∈ esc attr b, x ≠ 60 ∧ x ≠ 62 ∧ x ≠ 13 ∧ (attr = true → x ≠ 34 ∧ x ≠ 9 ∧ x ≠ 10) := by
  unfold esc
  repeat' split
  all_goals (try (cases attr <;> decide))
  rename_i h1 h2 h3 h4 h5 h6 h7
  intro x hx
  have : x = b := by simpa using hx
  subst this
  exact ⟨h2, h3, h4, fun ha => ⟨fun e => h5 ⟨ha, e⟩, fun e => h6 ⟨ha, e⟩, fun e => h7 ⟨ha, e⟩⟩⟩

theorem escape_bytes (attr : Bool) (s : List UInt8) : ∀ x ∈ escape attr s, x ≠ 60 ∧ x ≠ 62 ∧ x ≠ 13 ∧ (attr = true → x ≠ 34 ∧ x ≠ 9 ∧ x ≠ 10) := by
  intro x hx
  obtain ⟨b, _, hb⟩ := List.mem_flatMap.1 hx
  exact esc_bytes attr b x hb
end E
end Go.Proofs.YtmeliljioagipaaGreatDoor
