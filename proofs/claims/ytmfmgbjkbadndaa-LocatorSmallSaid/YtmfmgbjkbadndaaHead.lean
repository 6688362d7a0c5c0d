/-
  The longest head of a text by two rules, and what a code point in place of a byte that is none looks like: in plain Lean.
-/
import Derived.Test.YtmfmgbjkbadndaaFirst
import Derived.Test.YtmfmgbjkbadndaaReplaced
namespace Go.Proofs.Ytmfmgbjkbadndaa
namespace G
open Lib

/-- the head: the first code point by one rule, those behind it by another. -/
def hd (p q : Int → Bool) (l : List UInt8) : Nat := if (first l).2 ≠ 0 ∧ p (first l).1 = true then (first l).2 + span q (l.drop (first l).2) else 0

theorem hd_name (l : List UInt8) : hd start part l = name l := rfl
theorem hd_span (p : Int → Bool) (l : List UInt8) : hd p p l = span p l := by
  unfold hd
  split
  · rename_i h; rw [span_step p l h.1 h.2]
  · rename_i h
    refine (span_stop p l ?_).symm
    by_cases h0 : (first l).2 = 0
    · exact .inl h0
    · right
      cases hp : p (first l).1 with
      | false => rfl
      | true => exact absurd ⟨h0, hp⟩ h
theorem hd_nil (p q : Int → Bool) : hd p q [] = 0 := rfl

/-- how far a head is known: at pos 0 nothing yet. -/
def rest (p q : Int → Bool) (pos : Nat) (l : List UInt8) : Nat := if pos = 0 then hd p q l else span q l
theorem rest_stop (p q : Int → Bool) (pos : Nat) (l : List UInt8) (h0 : pos = 0 → (first l).2 = 0 ∨ p (first l).1 = false) (h1 : pos ≠ 0 → (first l).2 = 0 ∨ q (first l).1 = false) : rest p q pos l = 0 := by
  unfold rest
  split
  · rename_i h
    unfold hd
    rw [if_neg]
    rintro ⟨a, b⟩
    rcases h0 h with h | h
    · exact a h
    · rw [h] at b; cases b
  · rename_i h; exact span_stop q l (h1 h)
theorem rest_step (p q : Int → Bool) (pos : Nat) (l : List UInt8) (hf : (first l).2 ≠ 0) (h0 : pos = 0 → p (first l).1 = true) (h1 : pos ≠ 0 → q (first l).1 = true) :
    rest p q pos l = (first l).2 + rest p q (pos + (first l).2) (l.drop (first l).2) := by
  have e : rest p q (pos + (first l).2) (l.drop (first l).2) = span q (l.drop (first l).2) := by
    unfold rest; rw [if_neg (by omega)]
  rw [e]
  unfold rest
  split
  · rename_i h
    unfold hd
    rw [if_pos ⟨hf, h0 h⟩]
  · rename_i h; exact span_step q l hf (h1 h)

/-- A byte that is no code point looks like 65533, and is not told so. -/
theorem bad_iff (l : List UInt8) (hl : l ≠ []) (h : (decodeL l).1 = 65533) : (!hasPrefix l [239, 191, 189]) = decide ((decodeL l).2 = 1) := by
  have hN := decodeL_N l
  rw [Bool.eq_iff_iff, Bool.not_eq_true', decide_eq_true_eq]
  match l, hl with
  | [a], _ =>
    constructor
    · intro _
      have := decodeL_width [a]
      have h2 := decodeL_le [a] (by simp)
      simp at h2; omega
    · intro _; simp [hasPrefix, List.isPrefixOf]
  | [a, b], _ =>
    have ha := a.toNat_lt
    have hb := b.toNat_lt
    simp only [List.length_cons, List.length_nil, List.getD_cons_zero, List.getD_cons_succ, List.getD_nil] at hN
    constructor
    · intro _
      rw [hN] at h ⊢
      unfold decodeN at h ⊢
      split at h
      · simp at h; omega
      · rename_i h1
        rw [if_neg h1]
        split at h
        · rename_i h2
          rw [if_pos h2]
          split at h
          · simp at h; omega
          · rename_i h3; rw [if_neg h3]
        · rename_i h2
          rw [if_neg h2, if_neg (by omega), if_neg (by omega)]
    · intro _; simp [hasPrefix, List.isPrefixOf]
  | a :: b :: c :: t, _ =>
    have ha := a.toNat_lt
    have hb := b.toNat_lt
    have hc := c.toNat_lt
    have e0 : (a :: b :: c :: t).getD 0 0 = a := rfl
    have e1 : (a :: b :: c :: t).getD 1 0 = b := rfl
    have e2 : (a :: b :: c :: t).getD 2 0 = c := rfl
    have hd' := ((a :: b :: c :: t).getD 3 0).toNat_lt
    rw [e0, e1, e2] at hN
    generalize ((a :: b :: c :: t).getD 3 0).toNat = b3 at *
    have hlen : 3 ≤ (a :: b :: c :: t).length := by simp
    generalize (a :: b :: c :: t).length = n at *
    have hpre : hasPrefix (a :: b :: c :: t) [239, 191, 189] = decide (a.toNat = 239 ∧ b.toNat = 191 ∧ c.toNat = 189) := by
      rw [Bool.eq_iff_iff, decide_eq_true_eq]
      simp only [hasPrefix, List.isPrefixOf, Bool.and_true, Bool.and_eq_true, beq_iff_eq]
      constructor
      · rintro ⟨rfl, rfl, rfl⟩; exact ⟨rfl, rfl, rfl⟩
      · rintro ⟨x, y, z⟩; exact ⟨(UInt8.toNat_inj.1 x).symm, (UInt8.toNat_inj.1 y).symm, (UInt8.toNat_inj.1 z).symm⟩
    rw [hpre, decide_eq_false_iff_not]
    rw [hN] at h ⊢
    generalize a.toNat = x at *
    generalize b.toNat = y at *
    generalize c.toNat = z at *
    clear hpre hN e0 e1 e2
    unfold decodeN at h ⊢
    split at h
    · simp at h; omega
    · rename_i h1
      rw [if_neg h1]
      split at h
      · rename_i h2
        rw [if_pos h2]
        split at h
        · simp at h; omega
        · rename_i h3; rw [if_neg h3]; simp; omega
      · rename_i h2
        rw [if_neg h2]
        split at h
        · rename_i h3
          rw [if_pos h3]
          split at h
          · rename_i h4
            rw [if_pos h4]
            simp at h ⊢; omega
          · rename_i h4; rw [if_neg h4]; simp; omega
        · rename_i h3
          rw [if_neg h3]
          split at h
          · rename_i h4
            rw [if_pos h4]
            split at h
            · rename_i h5; simp at h; omega
            · rename_i h5; rw [if_neg h5]; simp; omega
          · rename_i h4; rw [if_neg h4]; simp; omega
end G
end Go.Proofs.Ytmfmgbjkbadndaa
