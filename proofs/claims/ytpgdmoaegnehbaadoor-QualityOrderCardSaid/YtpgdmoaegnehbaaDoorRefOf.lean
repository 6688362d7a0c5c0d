/-
  The document's Of: the weight of a type, by ranges.
-/
import Derived.Test.YtpgdmoaegnehbaaDoorRefRanges
import Derived.Deep.RegionHeld3
import Derived.Deep.RegionWith
import Derived.BigRegion
namespace Go.Proofs.YtpgdmoaegnehbaaDoor
open Go.RowKit

namespace Ql
def clampO (o : Option Nat) : Nat := match o with
  | some n => n
  | none => 0
def ofG : List Rg → Md.Med → Option Nat → Int → Option Nat
  | [], _, w, _ => w
  | r :: l, m, w, n => if Md.fits r.m m = true ∧ n < r.narrow then ofG l m r.w r.narrow else ofG l m w n
/-- A type's weight by ranges, in thousandths. -/
def ofL (l : List Rg) (m : Md.Med) : Nat := clampO (ofG l m (some 0) (-1))
theorem weigh_le {ps : List Pair} {k : Nat} (h : weigh ps = some k) : k ≤ 1000 := by
  unfold weigh at h
  split at h
  · exact weight_le h
  · injection h with h; omega
/-- What a range of a text's is. -/
structure RgOk (r : Rg) : Prop where
  w : ∀ k, r.w = some k → k ≤ 1000
  n : r.narrow ≤ 1000000
  l : r.m.params.length ≤ 1000000
  z : ∀ p ∈ r.m.params, p.value.size ≤ 1000000
theorem ranges_ok {l : List UInt8} (hl : l.length ≤ 100000) : ∀ r ∈ ranges l, RgOk r := by
  intro r hr
  obtain ⟨p, hp, e⟩ := List.mem_filterMap.1 hr
  cases hm : Md.parse p with
  | none => rw [hm] at e; cases e
  | some m =>
    rw [hm] at e
    injection e with e
    subst e
    have h1 := Md.parse_size hm
    have h2 := Md.wt_length m.params
    have h3 := (split_small l).1 p hp
    have h4 := rest_le m.params
    refine ⟨fun k hk => weigh_le hk, ?_, by show m.params.length ≤ 1000000; omega, fun q hq => ?_⟩
    · show rest m.params + _ + _ ≤ 1000000
      have : ∀ c : Prop, ∀ [Decidable c], (if c then 0 else 100) ≤ 100 := fun c _ => by split <;> omega
      have a := this (m.ty = Md.star)
      have b := this (m.sub = Md.star)
      omega
    · have := Md.wt_mem (show q ∈ m.params from hq)
      omega
theorem clamp_is {o : Option Nat} {x : Nat} (h : IsW o x) (ho : ∀ k, o = some k → k ≤ 1000) : Fl.clamp x = Fl.W (clampO o) := by
  cases o with
  | none =>
    have hn : Fl.nan x = true := h
    unfold Fl.clamp clampO
    rw [hn, if_neg (by simp), if_neg (by simp), Fl.W_zero]
  | some n =>
    have hx : x = Fl.W n := h
    have hn := ho n rfl
    subst hx
    have h1 := (Fl.W_nan hn).1
    unfold Fl.clamp clampO
    rw [h1]
    by_cases e1 : n = 1000
    · subst e1
      rw [if_pos ⟨rfl, by rw [Fl.W_one]; exact Int.le_refl _⟩, Fl.W_one]
    · have h2 := Fl.W_lt (show n < 1000 by omega) (Nat.le_refl _)
      rw [Fl.W_one] at h2
      rw [if_neg (by rintro ⟨_, h⟩; omega)]
      by_cases e0 : n = 0
      · subst e0
        rw [Fl.W_zero, Fl.val_zero, if_neg (by rintro ⟨_, h⟩; omega)]
      · have h3 := Fl.W_lt (show 0 < n by omega) hn
        rw [Fl.W_zero, Fl.val_zero] at h3
        rw [if_pos ⟨rfl, h3⟩]
end Ql

theorem keep7 {f : FuncId} {args : Array Value} {v : Value} {W w0 : World} {a0 a1 a2 a3 a4 a5 a6 : Addr} {x0 x1 x2 x3 x4 x5 x6 : Value} (hC : ∀ W, Below w0.heap.size w0 W → Calls Tryd.prog f args W fun e w' => e = .returned v ∧ Below W.heap.size W w')
    (h : W.cell? a0 = some x0 ∧ W.cell? a1 = some x1 ∧ W.cell? a2 = some x2 ∧ W.cell? a3 = some x3 ∧ W.cell? a4 = some x4 ∧ W.cell? a5 = some x5 ∧ W.cell? a6 = some x6 ∧ Below w0.heap.size w0 W) :
    Calls Tryd.prog f args W fun e w' => e = .returned v ∧ (w'.cell? a0 = some x0 ∧ w'.cell? a1 = some x1 ∧ w'.cell? a2 = some x2 ∧ w'.cell? a3 = some x3 ∧ w'.cell? a4 = some x4 ∧ w'.cell? a5 = some x5 ∧ w'.cell? a6 = some x6 ∧ Below w0.heap.size w0 w') := by
  obtain ⟨h0, h1, h2, h3, h4, h5, h6, e⟩ := h
  refine (hC W e).mono fun _ _ ⟨he, hb⟩ => ⟨he, ?_⟩
  have on := fun {a : Addr} {x : Value} (hx : W.cell? a = some x) => (hb.cell (World.block_lt_of_cell? W _ hx)).trans hx
  exact ⟨on h0, on h1, on h2, on h3, on h4, on h5, on h6, e.trans (hb.mono e.size)⟩

end Go.Proofs.YtpgdmoaegnehbaaDoor
