/-
  Tokens in plain Lean: all tokens of a text, and of two texts one behind the other: the theorems of the layer.
-/
import Derived.Test.YtmeliljioagipaaGreatDoorToken3
namespace Go.Proofs.YtmeliljioagipaaGreatDoor
namespace T

theorem word_head {l a r : List UInt8} {c : UInt8} {n : List UInt8} (h : word l (c :: n) = some (a, r)) : ∃ y, skip l = c :: y := by
  unfold word at h
  split at h
  · cases h
  · split at h
    · rename_i hb
      obtain ⟨x, hx⟩ := begins_iff.1 hb
      exact ⟨n ++ x, hx.symm⟩
    · cases h
theorem word_other {l : List UInt8} {d : UInt8} {r : List UInt8} (h : skip l = d :: r) {c : UInt8} {n : List UInt8} (hc : c ≠ d) : word l (c :: n) = none := by
  unfold word
  split
  · rfl
  · rw [if_neg]
    rw [h]
    intro e
    obtain ⟨x, hx⟩ := begins_iff.1 e
    cases hx
    exact hc rfl
theorem standalone_head {l m r : List UInt8} {t : Tok} (h : standalone l = some m) (he : declEnd m = .ok (t, r)) : ∃ d y, skip l = d :: y ∧ (101 : UInt8) ≠ d := by
  unfold standalone at h
  split at h
  · cases h
    obtain ⟨_, _, _, y, hy⟩ := declEnd_append he []
    exact ⟨63, y, hy, by decide⟩
  · rename_i v more hw
    obtain ⟨y, hy⟩ := word_head hw
    exact ⟨115, y, hy, by decide⟩
theorem encoding_append {l m k r : List UInt8} {t : Tok} (h : encoding l = some m) (hs : standalone m = some k) (he : declEnd k = .ok (t, r)) (u : List UInt8) : encoding (l ++ u) = some (m ++ u) ∧ m.length ≤ l.length := by
  unfold encoding at h
  split at h
  · cases h
    obtain ⟨d, y, hy, hd⟩ := standalone_head hs he
    unfold encoding
    rw [word_other (d := d) (r := y ++ u) (by rw [skip_append (skip_ne hy), hy]; rfl) hd]
    exact ⟨rfl, Nat.le_refl _⟩
  · rename_i v more hw
    split at h
    · rename_i hv
      cases h
      obtain ⟨w1, w2⟩ := word_append hw (by decide) u
      unfold encoding
      rw [w1]
      simp only []
      rw [if_pos hv]
      exact ⟨rfl, by omega⟩
    · cases h
theorem decl_append {l r : List UInt8} {t : Tok} (h : decl l = .ok (t, r)) (u : List UInt8) : decl (l ++ u) = .ok (t, r ++ u) ∧ r.length < l.length ∧ t = ⟨5, [], [], false, []⟩ := by
  unfold decl at h
  split at h
  · cases h
  · rename_i v rest hw
    split at h
    · rename_i hv
      split at h
      · cases h
      · rename_i m hm
        split at h
        · cases h
        · rename_i k hk
          obtain ⟨w1, w2⟩ := word_append hw (by decide) u
          obtain ⟨e1, e2⟩ := encoding_append hm hk h u
          obtain ⟨s1, s2⟩ := standalone_append hk h u
          obtain ⟨d1, d2, d3, _⟩ := declEnd_append h u
          unfold decl
          rw [w1]
          simp only []
          rw [if_pos hv, e1]
          simp only []
          rw [s1]
          simp only []
          rw [d1]
          exact ⟨rfl, by omega, d3⟩
    · cases h

def isOk : Got → Bool | .ok _ => true | .error _ => false

/-- heads of what a part begins with are no parts. -/
theorem heads_no : ∀ first : Bool, ∀ k, k < 10 →
    (isOk (next first ([60, 63, 120, 109, 108].take k)) = false ∨ k = 0) ∧ (isOk (next first ([60, 33, 45, 45].take (min k 3))) = false ∨ k = 0) ∧
    (isOk (next first ([60, 33, 91, 67, 68, 65, 84, 65, 91].take (min k 8))) = false ∨ k = 0) ∧ (isOk (next first ([60, 33, 68, 79, 67, 84, 89, 80, 69].take (min k 8))) = false ∨ k = 0) ∧
    (isOk (next first ([60, 33].take (min k 1))) = false ∨ k = 0) ∧ (isOk (next first ([60, 63].take (min k 1))) = false ∨ k = 0) ∧ (isOk (next first ([60, 47].take (min k 1))) = false ∨ k = 0) := by
  decide +kernel

/-- what a part begins with it begins with, whatever stands behind. -/
theorem begins_same {p l u : List UInt8} (hl : l ≠ []) (hno : ∀ k, k < p.length → k ≠ 0 → l ≠ p.take k) : begins p (l ++ u) = begins p l := by
  cases hb : begins p l with
  | true => exact begins_append hb u
  | false =>
    cases hc : begins p (l ++ u) with
    | false => rfl
    | true =>
      obtain ⟨e, hlt⟩ := begins_short hb hc
      exact absurd e (hno _ hlt (fun h => hl (List.length_eq_zero_iff.1 h)))

theorem not_head {first : Bool} {l : List UInt8} {x : Tok × List UInt8} (h : next first l = .ok x) {p : List UInt8} {k : Nat} (hk : isOk (next first (p.take k)) = false ∨ k = 0) (h0 : k ≠ 0) : l ≠ p.take k := by
  intro e
  rcases hk with hk | hk
  · rw [← e, h] at hk; cases hk
  · exact h0 hk

theorem declares_same {first : Bool} {l : List UInt8} {x : Tok × List UInt8} (h : next first l = .ok x) (hl : l ≠ []) (u : List UInt8) : declares (l ++ u) = declares l := by
  unfold declares
  rw [begins_same (p := [60, 63, 120, 109, 108]) hl (fun k hk h0 => not_head h (heads_no first k (by simp at hk; omega)).1 h0)]
  by_cases hlen : 5 < l.length
  · rw [List.drop_append_of_le_length (by omega)]
    cases hd : l.drop 5 with
    | nil =>
      have := congrArg List.length hd
      rw [List.length_drop] at this
      simp at this
      omega
    | cons b y => rfl
  · cases hb : begins [60, 63, 120, 109, 108] l with
    | false => rfl
    | true =>
      exfalso
      obtain ⟨y, hy⟩ := begins_iff.1 hb
      have hy0 : y = [] := by
        have := congrArg List.length hy
        simp at this
        exact List.length_eq_zero_iff.1 (by omega)
      subst hy0
      have hh := (heads_no first 5 (by decide)).1
      have e : l = [60, 63, 120, 109, 108].take 5 := hy.symm
      exact not_head h hh (by decide) e

theorem dropped_le {p l : List UInt8} (h : begins p l = true) : (l.drop p.length).length + p.length = l.length := by
  obtain ⟨y, rfl⟩ := begins_iff.1 h
  simp
  omega

/-- A PART GOES ON BEING ONE. -/
theorem next_append {first : Bool} {l r : List UInt8} {t : Tok} (hl : l ≠ []) (h : next first l = .ok (t, r)) (u : List UInt8) (hu : r ≠ [] ∨ u = [] ∨ u.head? = some 60) :
    next first (l ++ u) = .ok (t, r ++ u) ∧ r.length < l.length := by
  have hq := heads_no first
  have k0 := declares_same h hl u
  have k1 := begins_same (p := [60, 33, 45, 45]) (u := u) hl (fun k hk h0 => not_head h (by have := (hq k (by simp at hk; omega)).2.1; rwa [Nat.min_eq_left (by simp at hk; omega)] at this) h0)
  have k2 := begins_same (p := [60, 33, 91, 67, 68, 65, 84, 65, 91]) (u := u) hl (fun k hk h0 => not_head h (by have := (hq k (by simp at hk; omega)).2.2.1; rwa [Nat.min_eq_left (by simp at hk; omega)] at this) h0)
  have k3 := begins_same (p := [60, 33, 68, 79, 67, 84, 89, 80, 69]) (u := u) hl (fun k hk h0 => not_head h (by have := (hq k (by simp at hk; omega)).2.2.2.1; rwa [Nat.min_eq_left (by simp at hk; omega)] at this) h0)
  have k4 := begins_same (p := [60, 33]) (u := u) hl (fun k hk h0 => not_head h (by have := (hq k (by simp at hk; omega)).2.2.2.2.1; rwa [Nat.min_eq_left (by simp at hk; omega)] at this) h0)
  have k5 := begins_same (p := [60, 63]) (u := u) hl (fun k hk h0 => not_head h (by have := (hq k (by simp at hk; omega)).2.2.2.2.2.1; rwa [Nat.min_eq_left (by simp at hk; omega)] at this) h0)
  have k6 := begins_same (p := [60, 47]) (u := u) hl (fun k hk h0 => not_head h (by have := (hq k (by simp at hk; omega)).2.2.2.2.2.2; rwa [Nat.min_eq_left (by simp at hk; omega)] at this) h0)
  have k7 := begins_same (p := [60]) (u := u) hl (fun k hk h0 => absurd (by simp at hk; omega) h0)
  unfold next at h ⊢
  rw [k0, k1, k2, k3, k4, k5, k6, k7]
  clear k0 k1 k2 k3 k4 k5 k6 k7 hq
  split at h
  · rename_i hc
    have hb : begins [60, 63, 120, 109, 108] l = true := by
      unfold declares at hc
      simp only [Bool.and_eq_true] at hc
      exact hc.2.1
    obtain ⟨d1, d2, _⟩ := decl_append h u
    have hd : (l ++ u).drop 5 = l.drop 5 ++ u := begins_drop hb u
    have hle : (l.drop 5).length + 5 = l.length := dropped_le hb
    rw [if_pos hc]
    rw [hd]
    exact ⟨d1, by omega⟩
  · rename_i h0
    rw [if_neg h0]
    split at h
    · rename_i hb
      obtain ⟨d1, d2, _⟩ := comment_append h u
      have hd : (l ++ u).drop 4 = l.drop 4 ++ u := begins_drop hb u
      have hle : (l.drop 4).length + 4 = l.length := dropped_le hb
      rw [if_pos hb]
      rw [hd]
      exact ⟨d1, by omega⟩
    · rename_i h1
      rw [if_neg h1]
      split at h
      · rename_i hb
        obtain ⟨d1, d2, _⟩ := cdata_append h u
        have hd : (l ++ u).drop 9 = l.drop 9 ++ u := begins_drop hb u
        have hle : (l.drop 9).length + 9 = l.length := dropped_le hb
        rw [if_pos hb]
        rw [hd]
        exact ⟨d1, by omega⟩
      · rename_i h2
        rw [if_neg h2]
        split at h
        · cases h
        · rename_i h3
          rw [if_neg h3]
          split at h
          · cases h
          · rename_i h4
            rw [if_neg h4]
            split at h
            · rename_i hb
              obtain ⟨d1, d2, _⟩ := pi_append h u
              have hd : (l ++ u).drop 2 = l.drop 2 ++ u := begins_drop hb u
              have hle : (l.drop 2).length + 2 = l.length := dropped_le hb
              rw [if_pos hb]
              rw [hd]
              exact ⟨d1, by omega⟩
            · rename_i h5
              rw [if_neg h5]
              split at h
              · rename_i hb
                obtain ⟨d1, d2, _⟩ := shut_append h u
                have hd : (l ++ u).drop 2 = l.drop 2 ++ u := begins_drop hb u
                have hle : (l.drop 2).length + 2 = l.length := dropped_le hb
                rw [if_pos hb]
                rw [hd]
                exact ⟨d1, by omega⟩
              · rename_i h6
                rw [if_neg h6]
                split at h
                · rename_i hb
                  obtain ⟨d1, d2, _⟩ := opened_append h u
                  have hd : (l ++ u).drop 1 = l.drop 1 ++ u := begins_drop hb u
                  have hle : (l.drop 1).length + 1 = l.length := dropped_le hb
                  rw [if_pos hb]
                  rw [hd]
                  exact ⟨d1, by omega⟩
                · rename_i h7
                  rw [if_neg h7]
                  obtain ⟨d1, d2, d3⟩ := text_append h u hu
                  refine ⟨d1, ?_⟩
                  subst d3
                  cases l with
                  | nil => exact absurd rfl hl
                  | cons b y =>
                    have hb60 : b ≠ 60 := by
                      intro e
                      subst e
                      exact h7 (by simp [begins, List.isPrefixOf])
                    rw [List.dropWhile_cons_of_pos (by simpa using hb60)]
                    have := (List.dropWhile_sublist (l := y) (· ≠ (60 : UInt8))).length_le
                    rw [List.length_cons]
                    omega

theorem next_less {first : Bool} {l r : List UInt8} {t : Tok} (hl : l ≠ []) (h : next first l = .ok (t, r)) : r.length < l.length := (next_append hl h [] (.inr (.inl rfl))).2

theorem go_fuel : ∀ (f g : Nat) (first : Bool) (l : List UInt8), l.length ≤ f → l.length ≤ g → go f first l = go g first l
  | _, _, _, [], _, _ => by simp [go]
  | 0, _, _, _ :: _, h, _ => by simp at h
  | _ + 1, 0, _, _ :: _, _, h => by simp at h
  | f + 1, g + 1, first, b :: y, hf, hg => by
    simp only [go]
    cases hn : next first (b :: y) with
    | error e => rfl
    | ok x =>
      obtain ⟨t, r⟩ := x
      have := next_less (by simp) hn
      simp only [List.length_cons] at this hf hg
      simp only []
      rw [go_fuel f g false r (by omega) (by omega)]

/-- The parts of a text. -/
def run (first : Bool) (l : List UInt8) : Except Nat (List Tok) := go l.length first l
theorem run_nil (first : Bool) : run first [] = .ok [] := rfl
theorem run_step {first : Bool} {l : List UInt8} (hl : l ≠ []) : run first l = match next first l with | .error e => .error e | .ok (t, r) => match run false r with | .error e => .error e | .ok ts => .ok (t :: ts) := by
  cases l with
  | nil => exact absurd rfl hl
  | cons b y =>
    unfold run
    rw [List.length_cons]
    simp only [go]
    cases hn : next first (b :: y) with
    | error e => rfl
    | ok x =>
      obtain ⟨t, r⟩ := x
      have := next_less (by simp) hn
      simp only [List.length_cons] at this
      simp only []
      rw [go_fuel y.length r.length false r (by omega) (Nat.le_refl _)]
      cases go r.length false r <;> rfl

/-- THE PARTS OF TWO TEXTS, one behind the other, of which the second one begins with a tag. -/
theorem run_append {t : List UInt8} (ht : t.head? = some 60) : ∀ (n : Nat) (first : Bool) (s : List UInt8) (a : List Tok), s.length ≤ n → s ≠ [] → run first s = .ok a → run first (s ++ t) = match run false t with | .error e => .error e | .ok b => .ok (a ++ b) := by
  intro n
  induction n with
  | zero =>
    intro first s a hn hs _
    exact absurd (List.length_eq_zero_iff.1 (by omega)) hs
  | succ n ih =>
    intro first s a hn hs h
    rw [run_step hs] at h
    cases hx : next first s with
    | error e => rw [hx] at h; cases h
    | ok x =>
      obtain ⟨k, r⟩ := x
      rw [hx] at h
      simp only at h
      obtain ⟨n1, n2⟩ := next_append hs hx t (.inr (.inr ht))
      rw [run_step (by simp [hs]), n1]
      simp only []
      cases hr : run false r with
      | error e => rw [hr] at h; cases h
      | ok ts =>
        rw [hr] at h
        cases h
        by_cases he : r = []
        · subst he
          cases hr
          rw [List.nil_append]
          cases run false t <;> rfl
        · rw [ih false r ts (by omega) he hr]
          cases run false t <;> rfl
end T
end Go.Proofs.YtmeliljioagipaaGreatDoor
