/-
  The code point at a text's head, by its bytes: a class of first bytes at a time.
-/
import Derived.Test.YtmfmgbjkbadndaaGlyph
namespace Go.Proofs.Ytmfmgbjkbadndaa
namespace G
open Lib

def firstN (n b0 b1 b2 b3 : Nat) : Nat × Nat := if (decodeN n b0 b1 b2 b3).1 = 65533 ∧ (decodeN n b0 b1 b2 b3).2 = 1 then (0, 0) else decodeN n b0 b1 b2 b3

theorem first_N (l : List UInt8) (h : l ≠ []) : first l = firstN l.length (l.getD 0 0).toNat (l.getD 1 0).toNat (l.getD 2 0).toNat (l.getD 3 0).toNat := by
  unfold first firstN
  rw [if_neg h, decodeL_N]

theorem firstN_of {n b0 b1 b2 b3 : Nat} {d : Nat × Nat} (h : decodeN n b0 b1 b2 b3 = d) : firstN n b0 b1 b2 b3 = if d.1 = 65533 ∧ d.2 = 1 then (0, 0) else d := by unfold firstN; rw [h]

theorem firstN_ascii {n b0 b1 b2 b3 : Nat} (h : b0 < 128) : firstN n b0 b1 b2 b3 = (b0, 1) := by
  have e : decodeN n b0 b1 b2 b3 = (b0, 1) := by unfold decodeN; rw [if_pos h]
  rw [firstN_of e, if_neg (by dsimp only; omega)]

theorem firstN_none {n b0 b1 b2 b3 : Nat} (h : decodeN n b0 b1 b2 b3 = (65533, 1)) : firstN n b0 b1 b2 b3 = (0, 0) := by
  rw [firstN_of h, if_pos ⟨rfl, rfl⟩]

theorem firstN_bad {n b0 b1 b2 b3 : Nat} (h : 128 ≤ b0) (hb : b0 < 192 ∨ 248 ≤ b0) (h8 : b0 < 256) : firstN n b0 b1 b2 b3 = (0, 0) := by
  refine firstN_none ?_
  unfold decodeN
  rw [if_neg (by omega), if_neg (by omega), if_neg (by omega), if_neg (by omega)]

theorem firstN_two {n b0 b1 b2 b3 : Nat} (h : 192 ≤ b0) (h' : b0 < 224) (h1 : b1 < 256) :
    firstN n b0 b1 b2 b3 = if 2 ≤ n ∧ (128 ≤ b1 ∧ b1 ≤ 191) ∧ 128 ≤ (b0 - 192) * 64 + (b1 - 128) then ((b0 - 192) * 64 + (b1 - 128), 2) else (0, 0) := by
  by_cases hc : 2 ≤ n ∧ (128 ≤ b1 ∧ b1 ≤ 191)
  · have e : decodeN n b0 b1 b2 b3 = if (b0 - 192) * 64 + (b1 - 128) ≥ 128 then ((b0 - 192) * 64 + (b1 - 128), 2) else (65533, 1) := by
      unfold decodeN
      rw [if_neg (by omega), if_pos (by omega), show b0 % 32 * 64 + b1 % 64 = (b0 - 192) * 64 + (b1 - 128) by omega]
    by_cases hd : 128 ≤ (b0 - 192) * 64 + (b1 - 128)
    · rw [if_pos hd] at e
      rw [firstN_of e, if_neg (by dsimp only; omega), if_pos ⟨hc.1, hc.2, hd⟩]
    · rw [if_neg hd] at e
      rw [firstN_none e, if_neg (by omega)]
  · rw [if_neg (by omega)]
    refine firstN_none ?_
    unfold decodeN
    rw [if_neg (by omega), if_neg (by omega), if_neg (by omega), if_neg (by omega)]

theorem firstN_three {n b0 b1 b2 b3 : Nat} (h : 224 ≤ b0) (h' : b0 < 240) (h1 : b1 < 256) (h2 : b2 < 256) :
    firstN n b0 b1 b2 b3 = if 3 ≤ n ∧ (128 ≤ b1 ∧ b1 ≤ 191) ∧ (128 ≤ b2 ∧ b2 ≤ 191) ∧ 2048 ≤ ((b0 - 224) * 64 + (b1 - 128)) * 64 + (b2 - 128) ∧
        (((b0 - 224) * 64 + (b1 - 128)) * 64 + (b2 - 128) < 55296 ∨ 57344 ≤ ((b0 - 224) * 64 + (b1 - 128)) * 64 + (b2 - 128))
      then (((b0 - 224) * 64 + (b1 - 128)) * 64 + (b2 - 128), 3) else (0, 0) := by
  by_cases hc : 3 ≤ n ∧ (128 ≤ b1 ∧ b1 ≤ 191) ∧ (128 ≤ b2 ∧ b2 ≤ 191)
  · have hv : b0 % 16 * 4096 + b1 % 64 * 64 + b2 % 64 = ((b0 - 224) * 64 + (b1 - 128)) * 64 + (b2 - 128) := by omega
    generalize hq : ((b0 - 224) * 64 + (b1 - 128)) * 64 + (b2 - 128) = c at hv ⊢
    have e : decodeN n b0 b1 b2 b3 = if c ≥ 2048 ∧ (c < 55296 ∨ 57344 ≤ c ∧ c ≤ 1114111) then (c, 3) else (65533, 1) := by
      unfold decodeN
      rw [if_neg (by omega), if_neg (by omega), if_pos (by omega), hv]
    by_cases hd : 2048 ≤ c ∧ (c < 55296 ∨ 57344 ≤ c)
    · rw [if_pos (by omega)] at e
      rw [firstN_of e, if_neg (by dsimp only; omega), if_pos ⟨hc.1, hc.2.1, hc.2.2, hd⟩]
    · rw [if_neg (by omega)] at e
      rw [firstN_none e, if_neg (by omega)]
  · rw [if_neg (by omega)]
    refine firstN_none ?_
    unfold decodeN
    rw [if_neg (by omega), if_neg (by omega), if_neg (by omega), if_neg (by omega)]

theorem firstN_four {n b0 b1 b2 b3 : Nat} (h : 240 ≤ b0) (h' : b0 < 248) (h1 : b1 < 256) (h2 : b2 < 256) (h3 : b3 < 256) :
    firstN n b0 b1 b2 b3 = if 4 ≤ n ∧ (128 ≤ b1 ∧ b1 ≤ 191) ∧ (128 ≤ b2 ∧ b2 ≤ 191) ∧ (128 ≤ b3 ∧ b3 ≤ 191) ∧ 65536 ≤ (((b0 - 240) * 64 + (b1 - 128)) * 64 + (b2 - 128)) * 64 + (b3 - 128) ∧
        (((b0 - 240) * 64 + (b1 - 128)) * 64 + (b2 - 128)) * 64 + (b3 - 128) ≤ 1114111
      then ((((b0 - 240) * 64 + (b1 - 128)) * 64 + (b2 - 128)) * 64 + (b3 - 128), 4) else (0, 0) := by
  by_cases hc : 4 ≤ n ∧ (128 ≤ b1 ∧ b1 ≤ 191) ∧ (128 ≤ b2 ∧ b2 ≤ 191) ∧ (128 ≤ b3 ∧ b3 ≤ 191)
  · have hv : b0 % 8 * 262144 + b1 % 64 * 4096 + b2 % 64 * 64 + b3 % 64 = (((b0 - 240) * 64 + (b1 - 128)) * 64 + (b2 - 128)) * 64 + (b3 - 128) := by omega
    generalize hq : (((b0 - 240) * 64 + (b1 - 128)) * 64 + (b2 - 128)) * 64 + (b3 - 128) = c at hv ⊢
    have e : decodeN n b0 b1 b2 b3 = if c ≥ 65536 ∧ (c < 55296 ∨ 57344 ≤ c ∧ c ≤ 1114111) then (c, 4) else (65533, 1) := by
      unfold decodeN
      rw [if_neg (by omega), if_neg (by omega), if_neg (by omega), if_pos (by omega), hv]
    by_cases hd : 65536 ≤ c ∧ c ≤ 1114111
    · rw [if_pos (by omega)] at e
      rw [firstN_of e, if_neg (by dsimp only; omega), if_pos ⟨hc.1, hc.2.1, hc.2.2.1, hc.2.2.2, hd⟩]
    · rw [if_neg (by omega)] at e
      rw [firstN_none e, if_neg (by omega)]
  · rw [if_neg (by omega)]
    refine firstN_none ?_
    unfold decodeN
    rw [if_neg (by omega), if_neg (by omega), if_neg (by omega), if_neg (by omega)]
end G
end Go.Proofs.Ytmfmgbjkbadndaa
