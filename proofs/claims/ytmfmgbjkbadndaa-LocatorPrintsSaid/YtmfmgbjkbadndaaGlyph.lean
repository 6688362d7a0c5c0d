/-
  Code points and names, in plain Lean: what may be (char, start, part, space), the code point at a text's head (first), the longest head of such (span), names, plain lines; and the laws of names and of lines.
-/
import Derived.Lib.MapLaws
import Derived.Lib.Hide
namespace Go.Proofs.Ytmfmgbjkbadndaa
namespace G

def inR (c a b : Int) : Bool := decide (a ≤ c) && decide (c ≤ b)

def char (c : Int) : Bool := inR c 9 10 || inR c 13 13 || inR c 32 55295 || inR c 57344 65533 || inR c 65536 1114111
def space (c : Int) : Bool := decide (c = 32) || decide (c = 9) || decide (c = 10) || decide (c = 13)
def start (c : Int) : Bool :=
  inR c 58 58 || inR c 65 90 || inR c 95 95 || inR c 97 122 || inR c 192 214 || inR c 216 246 || inR c 248 767 || inR c 880 893 || inR c 895 8191 || inR c 8204 8205 ||
  inR c 8304 8591 || inR c 11264 12271 || inR c 12289 55295 || inR c 63744 64975 || inR c 65008 65533 || inR c 65536 983039
def part (c : Int) : Bool :=
  start c || (inR c 45 46 || inR c 48 57 || inR c 183 183 || inR c 768 879 || inR c 8255 8256)

/-- The code point at a text's head and its bytes; none: (0, 0). -/
def first (l : List UInt8) : Nat × Nat :=
  if l = [] then (0, 0) else if (Lib.decodeL l).1 = 65533 ∧ (Lib.decodeL l).2 = 1 then (0, 0) else Lib.decodeL l

theorem first_nil : first [] = (0, 0) := rfl

theorem first_le (l : List UInt8) : (first l).2 ≤ l.length := by
  unfold first
  split
  · exact Nat.zero_le _
  · split
    · exact Nat.zero_le _
    · exact Lib.decodeL_le l (by assumption)

/-- Where there is none: the text is at its end, or what stands there is no code point. -/
theorem first_zero (l : List UInt8) : (first l).2 = 0 ↔ l = [] ∨ (Lib.decodeL l).1 = 65533 ∧ (Lib.decodeL l).2 = 1 := by
  unfold first
  have := Lib.decodeL_width l
  split
  · simp_all
  · split <;> rename_i h1 h2 <;> simp [h1, h2]
    omega

theorem first_pos (l : List UInt8) (h : (first l).2 ≠ 0) : first l = Lib.decodeL l ∧ l ≠ [] := by
  have hz := mt (first_zero l).2 h
  unfold first
  rw [if_neg (fun e => hz (.inl e)), if_neg (fun e => hz (.inr e))]
  exact ⟨rfl, fun e => hz (.inl e)⟩

theorem getD_take (l : List UInt8) (m k : Nat) (h : k < m) : (l.take m).getD k 0 = l.getD k 0 := by
  simp [List.getD, h]

open Lib in
theorem decode_take (l : List UInt8) (m : Nat) (hl : l ≠ []) (h : (decodeL l).2 ≤ m) (hv : ¬ ((decodeL l).1 = 65533 ∧ (decodeL l).2 = 1)) : decodeL (l.take m) = decodeL l := by
  have h0 : 0 < l.length := List.length_pos_iff.2 hl
  have hw := decodeL_width l
  have hle := decodeL_le l hl
  have hlen : (l.take m).length = min m l.length := List.length_take
  rw [decodeL_N (l.take m), hlen, getD_take _ _ _ (by omega)]
  rw [decodeL_N] at h hv hw hle ⊢
  have g1 : 1 < m → (l.take m).getD 1 0 = l.getD 1 0 := getD_take _ _ _
  have g2 : 2 < m → (l.take m).getD 2 0 = l.getD 2 0 := getD_take _ _ _
  have g3 : 3 < m → (l.take m).getD 3 0 = l.getD 3 0 := getD_take _ _ _
  generalize (l.take m).getD 1 0 = d1 at g1 ⊢
  generalize (l.take m).getD 2 0 = d2 at g2 ⊢
  generalize (l.take m).getD 3 0 = d3 at g3 ⊢
  generalize (l.getD 0 0).toNat = b0 at *
  rcases decodeN_shape l.length b0 (l.getD 1 0).toNat (l.getD 2 0).toNat (l.getD 3 0).toNat with ⟨c, e⟩ | ⟨c1, c2, c3, cv, e⟩ | ⟨c1, c2, c3, c4, cv, cs, e⟩ | ⟨c1, c2, c3, c4, c5, cv, cw, e⟩ | e
  · rw [e]; unfold decodeN; rw [if_pos c]
  · rw [e] at h hle ⊢
    dsimp only at h hle
    rw [g1 (by omega)]
    unfold decodeN
    rw [if_neg (by omega), if_pos (by omega), if_pos (by omega)]
  · rw [e] at h hle ⊢
    dsimp only at h hle
    rw [g1 (by omega), g2 (by omega)]
    unfold decodeN
    rw [if_neg (by omega), if_neg (by omega), if_pos (by omega), if_pos (by omega)]
  · rw [e] at h hle ⊢
    dsimp only at h hle
    rw [g1 (by omega), g2 (by omega), g3 (by omega)]
    unfold decodeN
    rw [if_neg (by omega), if_neg (by omega), if_neg (by omega), if_pos (by omega), if_pos (by omega)]
  · rw [e] at hv; simp at hv

/-- What stands behind the code point says nothing of it. -/
theorem first_take (l : List UInt8) (m : Nat) (h : (first l).2 ≤ m) (h0 : (first l).2 ≠ 0) : first (l.take m) = first l := by
  obtain ⟨e, hl⟩ := first_pos l h0
  have hz := mt (first_zero l).2 h0
  rw [e] at h
  have d := decode_take l m hl h (fun x => hz (.inr x))
  have hw := Lib.decodeL_width l
  have hne : l.take m ≠ [] := by
    intro c
    have : (l.take m).length = 0 := by rw [c]; rfl
    rw [List.length_take] at this
    have := List.length_pos_iff.2 hl
    omega
  rw [e]
  unfold first
  rw [if_neg hne, d, if_neg (fun x => hz (.inr x))]

/-! ### how long the head is in which all are so -/
def spanGo (p : Int → Bool) : Nat → List UInt8 → Nat
  | 0, _ => 0
  | f + 1, l => if (first l).2 ≠ 0 ∧ p (first l).1 = true then (first l).2 + spanGo p f (l.drop (first l).2) else 0
def span (p : Int → Bool) (l : List UInt8) : Nat := spanGo p l.length l

theorem spanGo_le (p : Int → Bool) : ∀ f l, spanGo p f l ≤ l.length
  | 0, _ => Nat.zero_le _
  | f + 1, l => by
    unfold spanGo
    split
    · have := spanGo_le p f (l.drop (first l).2)
      have h2 := first_le l
      rw [List.length_drop] at this
      omega
    · exact Nat.zero_le _

theorem spanGo_fuel (p : Int → Bool) : ∀ f g l, l.length ≤ f → l.length ≤ g → spanGo p f l = spanGo p g l
  | 0, 0, _, _, _ => rfl
  | 0, g + 1, l, hf, _ => by
    have : l = [] := List.length_eq_zero_iff.1 (by omega)
    subst this
    simp [spanGo, first_nil]
  | f + 1, 0, l, _, hg => by
    have : l = [] := List.length_eq_zero_iff.1 (by omega)
    subst this
    simp [spanGo, first_nil]
  | f + 1, g + 1, l, hf, hg => by
    unfold spanGo
    split
    · rename_i h
      have := first_le l
      rw [spanGo_fuel p f g _ (by rw [List.length_drop]; omega) (by rw [List.length_drop]; omega)]
    · rfl

theorem span_step (p : Int → Bool) (l : List UInt8) (h0 : (first l).2 ≠ 0) (hp : p (first l).1 = true) : span p l = (first l).2 + span p (l.drop (first l).2) := by
  have hle := first_le l
  unfold span
  cases hl : l.length with
  | zero => omega
  | succ n =>
    rw [spanGo, if_pos ⟨h0, hp⟩]
    rw [spanGo_fuel p n (l.drop (first l).2).length _ (by rw [List.length_drop]; omega) (Nat.le_refl _)]

theorem span_stop (p : Int → Bool) (l : List UInt8) (h : (first l).2 = 0 ∨ p (first l).1 = false) : span p l = 0 := by
  unfold span
  cases hl : l.length with
  | zero => rfl
  | succ n =>
    rw [spanGo, if_neg]
    rintro ⟨h0, h1⟩
    rcases h with h | h
    · exact h0 h
    · rw [h] at h1; cases h1

theorem span_nil (p : Int → Bool) : span p [] = 0 := rfl
theorem span_le (p : Int → Bool) (l : List UInt8) : span p l ≤ l.length := spanGo_le p _ l

/-- Induction along the code points. -/
theorem along {M : List UInt8 → Prop} (p : Int → Bool) (stop : ∀ l, ((first l).2 = 0 ∨ p (first l).1 = false) → M l) (step : ∀ l, (first l).2 ≠ 0 → p (first l).1 = true → M (l.drop (first l).2) → M l) : ∀ l, M l := by
  suffices H : ∀ n (l : List UInt8), l.length ≤ n → M l from fun l => H _ l (Nat.le_refl _)
  intro n
  induction n with
  | zero =>
    intro l h
    have : l = [] := List.length_eq_zero_iff.1 (by omega)
    subst this
    exact stop _ (.inl rfl)
  | succ n ih =>
    intro l h
    by_cases h0 : (first l).2 = 0
    · exact stop _ (.inl h0)
    · cases hp : p (first l).1 with
      | false => exact stop _ (.inr hp)
      | true => exact step l h0 hp (ih _ (by rw [List.length_drop]; omega))

/-- The head is one whole. -/
theorem span_take (p : Int → Bool) (l : List UInt8) : span p (l.take (span p l)) = span p l := by
  induction l using along p with
  | stop l h => rw [span_stop p l h]; rfl
  | step l h0 hp ih =>
    have e := span_step p l h0 hp
    have ft := first_take l (span p l) (by omega) h0
    have e2 := span_step p (l.take (span p l)) (by rw [ft]; exact h0) (by rw [ft]; exact hp)
    rw [e2, ft, List.drop_take, e, Nat.add_sub_cancel_left, ih]

/-- What stands behind does not go on with it. -/
theorem span_rest (p : Int → Bool) (l : List UInt8) : (first (l.drop (span p l))).2 = 0 ∨ p (first (l.drop (span p l))).1 = false := by
  induction l using along p with
  | stop l h => rw [span_stop p l h]; exact h
  | step l h0 hp ih =>
    rw [span_step p l h0 hp, ← List.drop_drop]
    exact ih

/-! ### names -/
def name (l : List UInt8) : Nat := if (first l).2 ≠ 0 ∧ start (first l).1 = true then (first l).2 + span part (l.drop (first l).2) else 0

theorem part_of_start {c : Int} (h : start c = true) : part c = true := by unfold part; rw [h]; rfl

theorem name_span (l : List UInt8) (h : name l ≠ 0) : name l = span part l := by
  unfold name at h ⊢
  split at h
  · rename_i hs
    rw [if_pos hs, span_step part l hs.1 (part_of_start hs.2)]
  · exact absurd rfl h

theorem name_le (l : List UInt8) : name l ≤ l.length := by
  by_cases h : name l = 0
  · omega
  · rw [name_span l h]; exact span_le _ _

theorem name_head (l : List UInt8) (h : name l ≠ 0) : (first l).2 ≠ 0 ∧ start (first l).1 = true := by
  unfold name at h
  split at h
  · assumption
  · exact absurd rfl h

theorem name_take (l : List UInt8) (h : name l ≠ 0) : name (l.take (name l)) = name l := by
  obtain ⟨h0, hs⟩ := name_head l h
  have hn := name_span l h
  have hst := span_step part l h0 (part_of_start hs)
  have ft := first_take l (name l) (by omega) h0
  have key := span_take part l
  rw [← hn] at key
  have : name (l.take (name l)) = span part (l.take (name l)) := by
    refine name_span _ ?_
    have e : name (l.take (name l)) = if (first (l.take (name l))).2 ≠ 0 ∧ start (first (l.take (name l))).1 = true then (first (l.take (name l))).2 + span part ((l.take (name l)).drop (first (l.take (name l))).2) else 0 := rfl
    rw [e, ft, if_pos ⟨h0, hs⟩]
    omega
  rw [this, key]

theorem name_rest (l : List UInt8) (h : name l ≠ 0) : (first (l.drop (name l))).2 = 0 ∨ part (first (l.drop (name l))).1 = false := by
  rw [name_span l h]; exact span_rest _ _

def plain (l : List UInt8) : Bool := decide (l ≠ []) && decide (name l = l.length) && l.all (fun b => decide (b ≠ 58))

/-! ### whether all of a text may be -/
def check (l : List UInt8) : Bool := decide (span char l = l.length)

/-! ### plain lines -/
def lines : List UInt8 → List UInt8
  | [] => []
  | [b] => [if b = 13 then 10 else b]
  | b :: c :: t => if b = 13 then (if c = 10 then 10 :: lines t else 10 :: lines (c :: t)) else b :: lines (c :: t)

theorem lines_cons (b : UInt8) (t : List UInt8) (h : b ≠ 13) : lines (b :: t) = b :: lines t := by
  cases t with
  | nil => simp [lines, h]
  | cons c t => simp [lines, h]

theorem lines_cr (t : List UInt8) (h : t.head? ≠ some 10) : lines (13 :: t) = 10 :: lines t := by
  cases t with
  | nil => simp [lines]
  | cons c t =>
    have : c ≠ 10 := by simpa using h
    simp [lines, this]

theorem lines_crlf (t : List UInt8) : lines (13 :: 10 :: t) = 10 :: lines t := by simp [lines]

theorem lines_induct {M : List UInt8 → Prop} (nil : M []) (plain : ∀ b t, b ≠ 13 → M t → M (b :: t)) (cr : ∀ t, t.head? ≠ some 10 → M t → M (13 :: t)) (crlf : ∀ t, M t → M (13 :: 10 :: t)) : ∀ l, M l := by
  suffices H : ∀ n (l : List UInt8), l.length ≤ n → M l from fun l => H _ l (Nat.le_refl _)
  intro n
  induction n with
  | zero =>
    intro l h
    have : l = [] := List.length_eq_zero_iff.1 (by omega)
    subst this; exact nil
  | succ n ih =>
    intro l h
    cases l with
    | nil => exact nil
    | cons b t =>
      rw [List.length_cons] at h
      by_cases hb : b = 13
      · subst hb
        by_cases ht : t.head? = some 10
        · cases t with
          | nil => cases ht
          | cons c t =>
            have : c = 10 := by simpa using ht
            subst this
            rw [List.length_cons] at h
            exact crlf t (ih _ (by omega))
        · exact cr t ht (ih _ (by omega))
      · exact plain b t hb (ih _ (by omega))

theorem lines_no13 (l : List UInt8) : ∀ b ∈ lines l, b ≠ 13 := by
  induction l using lines_induct with
  | nil => simp [lines]
  | plain b t hb ih => rw [lines_cons b t hb]; simp; exact ⟨hb, fun a ha => ih a ha⟩
  | cr t ht ih => rw [lines_cr t ht]; simp; exact fun a ha => ih a ha
  | crlf t ih => rw [lines_crlf]; simp; exact fun a ha => ih a ha

theorem lines_of_no13 (l : List UInt8) (h : ∀ b ∈ l, b ≠ 13) : lines l = l := by
  induction l with
  | nil => rfl
  | cons b t ih =>
    rw [lines_cons b t (h b (by simp)), ih (fun x hx => h x (by simp [hx]))]

theorem lines_lines (l : List UInt8) : lines (lines l) = lines l := lines_of_no13 _ (lines_no13 l)

theorem lines_length (l : List UInt8) : (lines l).length ≤ l.length := by
  induction l using lines_induct with
  | nil => simp [lines]
  | plain b t hb ih => rw [lines_cons b t hb]; simp; exact ih
  | cr t ht ih => rw [lines_cr t ht]; simp; exact ih
  | crlf t ih => rw [lines_crlf]; simp; omega

theorem lines_append (s t : List UInt8) (h : ¬ (s.getLast? = some 13 ∧ t.head? = some 10)) : lines (s ++ t) = lines s ++ lines t := by
  induction s using lines_induct with
  | nil => rfl
  | plain b u hb ih =>
    rw [List.cons_append, lines_cons b _ hb, lines_cons b u hb, List.cons_append, ih]
    rintro ⟨h1, h2⟩
    refine h ⟨?_, h2⟩
    rw [List.getLast?_cons, h1]; rfl
  | cr u hu ih =>
    have e : lines (u ++ t) = lines u ++ lines t := ih (by
      rintro ⟨h1, h2⟩
      refine h ⟨?_, h2⟩
      rw [List.getLast?_cons, h1]; rfl)
    have hne : (u ++ t).head? ≠ some 10 := by
      cases u with
      | nil =>
        intro h2
        exact h ⟨rfl, by simpa using h2⟩
      | cons c u => simpa using hu
    rw [List.cons_append, lines_cr _ hne, lines_cr u hu, List.cons_append, e]
  | crlf u ih =>
    have e : lines (u ++ t) = lines u ++ lines t := ih (by
      rintro ⟨h1, h2⟩
      refine h ⟨?_, h2⟩
      rw [List.getLast?_cons, List.getLast?_cons, h1]; rfl)
    rw [List.cons_append, List.cons_append, lines_crlf, lines_crlf, List.cons_append, e]

end G
end Go.Proofs.Ytmfmgbjkbadndaa
