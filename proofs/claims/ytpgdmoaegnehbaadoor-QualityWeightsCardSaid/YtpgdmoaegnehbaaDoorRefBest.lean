/-
  The document's Best: which of some types somebody would rather have.
-/
import Derived.Test.YtpgdmoaegnehbaaDoorRefOf
namespace Go.Proofs.YtpgdmoaegnehbaaDoor
open Go.RowKit

namespace Ql
def bestG (l : List Rg) : List Md.Med → Nat → Int → Nat → Int × Nat
  | [], _, at_, w => (at_, w)
  | m :: t, k, at_, w => if w < ofL l m then bestG l t (k + 1) k (ofL l m) else bestG l t (k + 1) at_ w
/-- Which of some types is best, and its weight, in thousandths. -/
def best (s : List UInt8) (h : List Md.Med) : Int × Nat := bestG (ranges s) h 0 (-1) 0
theorem ofG_le {m : Md.Med} : ∀ (l : List Rg) (w : Option Nat) (n : Int), (∀ r ∈ l, ∀ k, r.w = some k → k ≤ 1000) → (∀ k, w = some k → k ≤ 1000) → ∀ k, ofG l m w n = some k → k ≤ 1000
  | [], _, _, _, hw => hw
  | r :: l, w, n, hl, hw => by
    unfold ofG
    split
    · exact ofG_le l _ _ (fun r h => hl r (by simp [h])) (hl r (by simp))
    · exact ofG_le l _ _ (fun r h => hl r (by simp [h])) hw
theorem ofL_le {l : List Rg} (m : Md.Med) (h : ∀ r ∈ l, ∀ k, r.w = some k → k ≤ 1000) : ofL l m ≤ 1000 := by
  unfold ofL clampO
  split
  · next n hn => exact ofG_le l _ _ h (fun k hk => by injection hk with hk; omega) n hn
  · omega
theorem bestG_le (l : List Rg) (h : ∀ r ∈ l, ∀ k, r.w = some k → k ≤ 1000) : ∀ (ms : List Md.Med) (k : Nat) (a : Int) (w : Nat), w ≤ 1000 → (bestG l ms k a w).2 ≤ 1000
  | [], _, _, _, hw => hw
  | m :: ms, k, a, w, hw => by
    unfold bestG
    split
    · exact bestG_le l h ms _ _ _ (ofL_le m h)
    · exact bestG_le l h ms _ _ _ hw
/-- Weights stand as their thousandths do. -/
theorem W_gt {n m : Nat} (hn : n ≤ 1000) (hm : m ≤ 1000) : (FloatKind.f64.format.order (Fl.W n) (Fl.W m) == some .gt) = decide (m < n) := by
  rw [Fl.ord_gt, (Fl.W_nan hn).1, (Fl.W_nan hm).1]
  by_cases h : m < n
  · simp [h, Fl.W_lt h hn]
  · rcases Nat.lt_or_eq_of_le (Nat.le_of_not_lt h) with h' | h'
    · have := Fl.W_lt h' hm
      simp [h]; omega
    · subst h'; simp
end Ql

/-- Types lie in memory. -/
def MedsIn (w : World) (ho : Option Addr) (L : List Md.Med) : Prop := ∀ j (h : j < L.length), ∃ b off po pc, ho = some ⟨b, off, none⟩ ∧
  w.cell? ⟨b, off + j * 3, none⟩ = some (.string L[j].ty) ∧ w.cell? ⟨b, off + j * 3 + 1, none⟩ = some (.string L[j].sub) ∧ w.cell? ⟨b, off + j * 3 + 2, none⟩ = some (.slice po L[j].params.length pc) ∧ PairsIn w po L[j].params
theorem MedsIn.below {w w' : World} {ao : Option Addr} {L : List Md.Med} (h : MedsIn w ao L) (hb : Below w.heap.size w w') : MedsIn w' ao L := by
  intro j hj
  obtain ⟨b, off, po, pc, e, c0, c1, c2, hp⟩ := h j hj
  have hlt : b < w.heap.size := World.block_lt_of_cell? w _ c0
  exact ⟨b, off, po, pc, e, (hb.cell hlt).trans c0, (hb.cell hlt).trans c1, (hb.cell hlt).trans c2, hp.below hb⟩

end Go.Proofs.YtpgdmoaegnehbaaDoor
