/-
  The document's Best: which of some types somebody would rather have.
-/
import Derived.Test.YtpgdmoaegnehbaaGreatDoorRefOf
namespace Go.Proofs.YtpgdmoaegnehbaaGreatDoor
open Go.RowKit

namespace Ql
def bestG (l : List Rg) : List Md.Med → Nat → Int → Nat → Int × Nat
  | [], _, at_, w => (at_, w)
  | m :: t, k, at_, w => if w < ofL l m then bestG l t (k + 1) k (ofL l m) else bestG l t (k + 1) at_ w
/-- Which of some types is best, and its weight, in thousandths. -/
def best (s : List UInt8) (h : List Md.Med) : Int × Nat := bestG (ranges s) h 0 (-1) 0
theorem ofG_le {m : Md.Med} : ∀ (l : List Rg) (w : Option Nat) (n : Int), (∀ r ∈ l, ∀ k, r.w = some k → k ≤ 1000) → (∀ k, w = some k → k ≤ 1000) → ∀ k, ofG l m w n = some k → k ≤ 1000
  | [], _, _, _, hw => hw
  | r :: l, w, n, hl, hw => by
    unfold ofG
    split
    · exact ofG_le l _ _ (fun r h => hl r (by simp [h])) (hl r (by simp))
    · exact ofG_le l _ _ (fun r h => hl r (by simp [h])) hw
theorem ofL_le {l : List Rg} (m : Md.Med) (h : ∀ r ∈ l, ∀ k, r.w = some k → k ≤ 1000) : ofL l m ≤ 1000 := by
  unfold ofL clampO
  split
  · next n hn => exact ofG_le l _ _ h (fun k hk => by injection hk with hk; omega) n hn
  · omega
theorem bestG_le (l : List Rg) (h : ∀ r ∈ l, ∀ k, r.w = some k → k ≤ 1000) : ∀ (ms : List Md.Med) (k : Nat) (a : Int) (w : Nat), w ≤ 1000 → (bestG l ms k a w).2 ≤ 1000
  | [], _, _, _, hw => hw
  | m :: ms, k, a, w, hw => by
    unfold bestG
    split
    · exact bestG_le l h ms _ _ _ (ofL_le m h)
    · exact bestG_le l h ms _ _ _ hw
/-- Weights stand as their thousandths do. -/
theorem W_gt {n m : Nat} (hn : n ≤ 1000) (hm : m ≤ 1000) : (FloatKind.f64.format.order (Fl.W n) (Fl.W m) == some .gt) = decide (m < n) := by
  rw [Fl.ord_gt, (Fl.W_nan hn).1, (Fl.W_nan hm).1]
  by_cases h : m < n
  · simp [h, Fl.W_lt h hn]
  · rcases Nat.lt_or_eq_of_le (Nat.le_of_not_lt h) with h' | h'
    · have := Fl.W_lt h' hm
      simp [h]; omega
    · subst h'; simp
end Ql

/-- Types lie in memory. -/
def MedsIn (w : World) (ho : Option Addr) (L : List Md.Med) : Prop := ∀ j (h : j < L.length), ∃ b off po pc, ho = some ⟨b, off, none⟩ ∧
  w.cell? ⟨b, off + j * 3, none⟩ = some (.string L[j].ty) ∧ w.cell? ⟨b, off + j * 3 + 1, none⟩ = some (.string L[j].sub) ∧ w.cell? ⟨b, off + j * 3 + 2, none⟩ = some (.slice po L[j].params.length pc) ∧ PairsIn w po L[j].params
theorem MedsIn.below {w w' : World} {ao : Option Addr} {L : List Md.Med} (h : MedsIn w ao L) (hb : Below w.heap.size w w') : MedsIn w' ao L := by
  intro j hj
  obtain ⟨b, off, po, pc, e, c0, c1, c2, hp⟩ := h j hj
  have hlt : b < w.heap.size := World.block_lt_of_cell? w _ c0
  exact ⟨b, off, po, pc, e, (hb.cell hlt).trans c0, (hb.cell hlt).trans c1, (hb.cell hlt).trans c2, hp.below hb⟩

set_option maxRecDepth 100000 in
set_option maxHeartbeats 12800000 in
theorem refBest_any {ho : Option Addr} {cap : Nat} (s : ByteArray) (H : List Md.Med) (w : World) (hs : s.size ≤ 100000) (hH : MedsIn w ho H) (hl : H.length ≤ maxLen) (hp : ∀ m ∈ H, m.params.length ≤ 1000000) (hv : ∀ m ∈ H, ∀ p ∈ m.params, p.value.size ≤ 1000000) :
    Calls Tryz.prog 8 #[.string s, .slice ho H.length cap] w fun e w' => e = .returned (.tuple #[.int .i64 (Ql.best s.data.toList H).1, .float .f64 (Fl.W (Ql.best s.data.toList H).2)]) ∧ Below w.heap.size w w' := by
  unfold maxLen at hl
  have hr := Lib.hid (refRanges_any s w hs)
  obtain ⟨Q, hQ⟩ : ∃ Q, Q = Ql.best s.data.toList H := ⟨_, rfl⟩
  rw [← hQ]
  replace hQ := Lib.hid hQ
  have hzr := Lib.hid (Ql.ranges_ok (l := s.data.toList) (by have := list_len s; omega))
  go_enter Tryz.func8, Tryz.ntmps8
  go_wp2_with fail
  (refine (hr.out).mono ?_); rintro e w1 ⟨ao, cap2, rfl, hR, hb⟩
  have hlr : (Ql.ranges s.data.toList).length ≤ 1000000 := by
    have h1 := (Ql.split_small s.data.toList).2
    have h2 := list_len s
    have h3 : (Ql.ranges s.data.toList).length ≤ (Ql.split s.data.toList).length := List.length_filterMap_le _ _
    omega
  have hwr : Hid (∀ r ∈ Ql.ranges s.data.toList, ∀ k, r.w = some k → k ≤ 1000) := Lib.hid (fun r h => (hzr.out r h).w)
  replace hQ := Lib.hid (show Q = Ql.bestG (Ql.ranges s.data.toList) H 0 (-1) 0 from hQ.out)
  generalize Ql.ranges s.data.toList = L at *
  replace hR := Lib.hid hR
  replace hb := Lib.hid hb
  replace hp := Lib.hid hp
  replace hv := Lib.hid hv
  clear hr hs
  go_wp2_with fail
  go_loopw [7, 8, 9] (fun av xv iv wr => ∃ (k : Nat) (a : Int) (x : Nat), av = .int .i64 a ∧ xv = .float .f64 (Fl.W x) ∧ iv = .int .i64 k ∧ k ≤ H.length ∧ Hid (-1 ≤ a ∧ a ≤ k ∧ x ≤ 1000) ∧ Hid (Q = Ql.bestG L (H.drop k) k a x) ∧ Hid (Below w1.heap.size w1 wr)) (fun _ _ iv _ => H.length - (intOf iv).toNat)
  case atStart => exact ⟨0, -1, 0, rfl, by rw [Fl.W_zero], rfl, Nat.zero_le _, Lib.hid ⟨by omega, by omega, by omega⟩, Lib.hid (by rw [List.drop_zero]; exact hQ.out), Lib.hid (Below.refl _ _)⟩
  case round =>
    obtain ⟨k, a, x, rfl, rfl, rfl, hk, hax, hst, bw⟩ := hrel
    by_cases hlt : k < H.length
    case neg =>
      have hki : ¬ (k : Int) < (H.length : Int) := by omega
      have hfin : Hid (Q = (a, x)) := Lib.hid (by rw [hst.out, List.drop_of_length_le (by omega)]; rfl)
      have bz := Lib.hid (hb.out.trans (bw.out.mono hb.out.size))
      go_wp2_with fail
      go_ret2
      exact ⟨by rw [hfin.out]; rfl, bz.out⟩
    have hki : (k : Int) < (H.length : Int) := by omega
    obtain ⟨rb, roff, po, pc, hae, c0, c1, c2, hps⟩ := ((hH.below hb.out).below bw.out) k hlt
    subst hae
    have hst' := Lib.hid (hst.out.trans (show Ql.bestG L (H.drop k) k a x = if x < Ql.ofL L H[k] then Ql.bestG L (H.drop (k + 1)) (k + 1) k (Ql.ofL L H[k]) else Ql.bestG L (H.drop (k + 1)) (k + 1) a x by rw [List.drop_eq_getElem_cons hlt]; rfl))
    have hm1 := hp.out _ (List.getElem_mem hlt)
    have hm2 := hv.out _ (List.getElem_mem hlt)
    have hof := Lib.hid (refOf_any (ca := cap2) (cb := pc) L H[k] wr (hR.out.below bw.out) hzr.out hlr hps rfl hm1 hm2)
    have hol := Ql.ofL_le H[k] hwr.out
    generalize hoq : Ql.ofL L H[k] = y at *
    have hgt := Ql.W_gt hol hax.out.2.2
    clear hoq hst hm1 hm2 hps
    generalize H[k] = m at *
    obtain ⟨mt, ms, qs⟩ := m
    dsimp only at *
    go_wp2_with fail
    (refine (hof.out).mono ?_); rintro e w2 ⟨rfl, b2⟩
    have bw' := Lib.hid (bw.out.trans (b2.mono bw.out.size))
    clear hof c0 c1 c2 b2 bw hH
    by_cases hyx : x < y
    · rw [decide_eq_true hyx] at hgt
      have hq' := Lib.hid (by have := hst'.out; rw [if_pos hyx] at this; exact this)
      clear hst'
      go_wp2_with fail
      go_round
      case rel => exact ⟨k + 1, k, y, rfl, rfl, by go_num, by omega, Lib.hid ⟨by omega, by omega, hol⟩, hq', bw'⟩
      case measure => simp [intOf]; omega
    · rw [decide_eq_false hyx] at hgt
      have hq' := Lib.hid (by have := hst'.out; rw [if_neg hyx] at this; exact this)
      clear hst'
      go_wp2_with fail
      go_round
      case rel => exact ⟨k + 1, a, x, rfl, rfl, by go_num, by omega, Lib.hid ⟨hax.out.1, by have := hax.out.2.1; omega, hax.out.2.2⟩, hq', bw'⟩
      case measure => simp [intOf]; omega
end Go.Proofs.YtpgdmoaegnehbaaGreatDoor
