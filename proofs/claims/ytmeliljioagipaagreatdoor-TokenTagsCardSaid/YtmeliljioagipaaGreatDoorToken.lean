/-
  Tokens in plain Lean, as the document has them; and that what is a token goes on being one, whatever stands behind it.
-/
import Derived.Test.YtmeliljioagipaaGreatDoorSpan
import Derived.Test.YtmeliljioagipaaGreatDoorEscape
namespace Go.Proofs.YtmeliljioagipaaGreatDoor
namespace T

structure Tok where
  kind : Nat
  name : List UInt8
  attrs : List (List UInt8 × List UInt8)
  alone : Bool
  data : List UInt8
  deriving DecidableEq

/-! ### pieces -/
def begins (p l : List UInt8) : Bool := p.isPrefixOf l
def skip (l : List UInt8) : List UInt8 := l.dropWhile (fun b => G.space (b.toNat : Int))
def lower (c : UInt8) : UInt8 := if 65 ≤ c.toNat ∧ c.toNat ≤ 90 then c + 32 else c

/-- What stands ahead of the first such text, and behind it. -/
def cutAt (p : List UInt8) : List UInt8 → Option (List UInt8 × List UInt8)
  | [] => none
  | b :: t => if begins p (b :: t) then some ([], (b :: t).drop p.length) else (cutAt p t).map fun x => (b :: x.1, x.2)

def nameAt (l : List UInt8) : Option (List UInt8 × List UInt8) := if G.name l = 0 then none else some (l.take (G.name l), l.drop (G.name l))

theorem begins_iff {p l : List UInt8} : begins p l = true ↔ ∃ t, p ++ t = l := List.isPrefixOf_iff_prefix
theorem begins_append {p l : List UInt8} (h : begins p l = true) (u : List UInt8) : begins p (l ++ u) = true := by
  obtain ⟨t, rfl⟩ := begins_iff.1 h
  exact begins_iff.2 ⟨t ++ u, by simp⟩
theorem begins_drop {p l : List UInt8} (h : begins p l = true) (u : List UInt8) : (l ++ u).drop p.length = l.drop p.length ++ u := by
  obtain ⟨t, rfl⟩ := begins_iff.1 h
  simp
/-- A text that is as long begins as it did. -/
theorem begins_long {p l : List UInt8} (h : p.length ≤ l.length) (u : List UInt8) : begins p (l ++ u) = begins p l := by
  cases hb : begins p l with
  | true => exact begins_append hb u
  | false =>
    cases hc : begins p (l ++ u) with
    | false => rfl
    | true =>
      obtain ⟨t, ht⟩ := begins_iff.1 hc
      have : begins p l = true := by
        refine begins_iff.2 ⟨l.drop p.length, ?_⟩
        have e3 : l.take p.length ++ l.drop p.length = l := List.take_append_drop _ _
        have e := congrArg (List.take l.length) ht
        rw [List.take_left] at e
        have e2 := congrArg (List.take p.length) e
        rw [List.take_take, Nat.min_eq_left h, List.take_left] at e2
        rwa [← e2] at e3
      rw [this] at hb; cases hb
/-- .. one that is shorter is its head. -/
theorem begins_short {p l u : List UInt8} (h : begins p l = false) (h2 : begins p (l ++ u) = true) : l = p.take l.length ∧ l.length < p.length := by
  have hlen : l.length < p.length := by
    rcases Nat.lt_or_ge l.length p.length with h' | h'
    · exact h'
    · rw [begins_long h' u, h] at h2; cases h2
  obtain ⟨t, ht⟩ := begins_iff.1 h2
  have e := congrArg (List.take l.length) ht
  rw [List.take_left, List.take_append_of_le_length (by omega)] at e
  exact ⟨e.symm, hlen⟩

theorem cutAt_eq {p : List UInt8} : ∀ {l a r : List UInt8}, cutAt p l = some (a, r) → l = a ++ p ++ r
  | [], _, _, h => by cases h
  | b :: t, a, r, h => by
    unfold cutAt at h
    split at h
    · rename_i hb
      obtain ⟨x, hx⟩ := begins_iff.1 hb
      cases h
      rw [← hx]; simp
    · cases hc : cutAt p t with
      | none => rw [hc] at h; cases h
      | some y =>
        rw [hc] at h
        cases h
        rw [cutAt_eq hc]
        simp
theorem cutAt_append {p : List UInt8} (u : List UInt8) : ∀ {l a r : List UInt8}, cutAt p l = some (a, r) → cutAt p (l ++ u) = some (a, r ++ u)
  | [], _, _, h => by cases h
  | b :: t, a, r, h => by
    rw [List.cons_append]
    unfold cutAt at h ⊢
    split at h
    · rename_i hb
      cases h
      rw [← List.cons_append, if_pos (begins_append hb u), begins_drop hb u]
    · rename_i hb
      cases hc : cutAt p t with
      | none => rw [hc] at h; cases h
      | some y =>
        rw [hc] at h
        cases h
        have hl := congrArg List.length (cutAt_eq (a := y.1) (r := y.2) hc)
        simp only [List.length_append] at hl
        have hn : begins p (b :: (t ++ u)) = false := by
          rw [← List.cons_append, begins_long (by rw [List.length_cons]; omega)]
          simpa using hb
        rw [hn, cutAt_append u (a := y.1) (r := y.2) hc]
        rfl

theorem skip_append {l : List UInt8} (h : skip l ≠ []) (u : List UInt8) : skip (l ++ u) = skip l ++ u := by
  unfold skip at *
  rw [List.dropWhile_append]
  rw [if_neg (by simpa using h)]
theorem skip_le (l : List UInt8) : (skip l).length ≤ l.length := (List.dropWhile_sublist _).length_le
theorem skip_all {l : List UInt8} (h : (skip l).length = l.length) : skip l = l := (List.dropWhile_sublist _).eq_of_length h
/-- A text ahead of whose space something stands begins with that, or with space. -/
theorem skip_head (b : UInt8) (t : List UInt8) : skip (b :: t) = if G.space (b.toNat : Int) then skip t else b :: t := by
  unfold skip
  rw [List.dropWhile_cons]
theorem space_ascii {b : UInt8} (h : G.space (b.toNat : Int) = true) : b.toNat < 128 := by
  simp [G.space] at h
  omega
/-- the head's byte is ASCII, if what stands behind space is so. -/
theorem skip_ascii {l : List UInt8} {c : UInt8} {t : List UInt8} (h : skip l = c :: t) (hc : c.toNat < 128) : ∃ d r, l = d :: r ∧ d.toNat < 128 := by
  cases l with
  | nil => cases h
  | cons b r =>
    refine ⟨b, r, rfl, ?_⟩
    rw [skip_head] at h
    cases hs : G.space (b.toNat : Int) with
    | true => exact space_ascii hs
    | false =>
      rw [hs] at h
      simp at h
      rw [h.1]; exact hc

theorem nameAt_append {l n r : List UInt8} (h : nameAt l = some (n, r)) {c : UInt8} {t : List UInt8} (hr : r = c :: t) (hc : c.toNat < 128) (u : List UInt8) : nameAt (l ++ u) = some (n, r ++ u) := by
  unfold nameAt at h
  split at h
  · cases h
  · rename_i h0
    cases h
    have hrest := G.name_rest l h0
    rw [hr, G.first_ascii c t hc] at hrest
    have hp : G.part (c.toNat : Int) = false := by
      rcases hrest with h' | h'
      · cases h'
      · exact h'
    have hy : (G.first (l.drop (G.name l) ++ u)).2 = 0 ∨ G.part (G.first (l.drop (G.name l) ++ u)).1 = false := by
      rw [hr, List.cons_append, G.first_ascii c _ hc]
      exact .inr hp
    have hn := G.name_append h0 _ hy
    rw [← List.append_assoc, List.take_append_drop] at hn
    have hle := G.name_le l
    unfold nameAt
    rw [hn, if_neg h0, List.take_append_of_le_length hle, List.drop_append_of_le_length hle]
theorem nameAt_le {l n r : List UInt8} (h : nameAt l = some (n, r)) : r.length < l.length := by
  unfold nameAt at h
  split at h
  · cases h
  · rename_i h0
    cases h
    have := G.name_le l
    rw [List.length_drop]; omega
end T
end Go.Proofs.YtmeliljioagipaaGreatDoor
