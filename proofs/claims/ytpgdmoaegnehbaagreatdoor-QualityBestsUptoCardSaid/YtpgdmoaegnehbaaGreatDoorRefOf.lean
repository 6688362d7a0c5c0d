/-
  The document's Of: the weight of a type, by ranges.
-/
import Derived.Test.YtpgdmoaegnehbaaGreatDoorRefRanges
import Derived.Deep.RegionHeld3
import Derived.Deep.RegionWith
import Derived.BigRegion
namespace Go.Proofs.YtpgdmoaegnehbaaGreatDoor
open Go.RowKit

namespace Ql
def clampO (o : Option Nat) : Nat := match o with
  | some n => n
  | none => 0
def ofG : List Rg → Md.Med → Option Nat → Int → Option Nat
  | [], _, w, _ => w
  | r :: l, m, w, n => if Md.fits r.m m = true ∧ n < r.narrow then ofG l m r.w r.narrow else ofG l m w n
/-- A type's weight by ranges, in thousandths. -/
def ofL (l : List Rg) (m : Md.Med) : Nat := clampO (ofG l m (some 0) (-1))
theorem weigh_le {ps : List Pair} {k : Nat} (h : weigh ps = some k) : k ≤ 1000 := by
  unfold weigh at h
  split at h
  · exact weight_le h
  · injection h with h; omega
/-- What a range of a text's is. -/
structure RgOk (r : Rg) : Prop where
  w : ∀ k, r.w = some k → k ≤ 1000
  n : r.narrow ≤ 1000000
  l : r.m.params.length ≤ 1000000
  z : ∀ p ∈ r.m.params, p.value.size ≤ 1000000
theorem ranges_ok {l : List UInt8} (hl : l.length ≤ 100000) : ∀ r ∈ ranges l, RgOk r := by
  intro r hr
  obtain ⟨p, hp, e⟩ := List.mem_filterMap.1 hr
  cases hm : Md.parse p with
  | none => rw [hm] at e; cases e
  | some m =>
    rw [hm] at e
    injection e with e
    subst e
    have h1 := Md.parse_size hm
    have h2 := Md.wt_length m.params
    have h3 := (split_small l).1 p hp
    have h4 := rest_le m.params
    refine ⟨fun k hk => weigh_le hk, ?_, by show m.params.length ≤ 1000000; omega, fun q hq => ?_⟩
    · show rest m.params + _ + _ ≤ 1000000
      have : ∀ c : Prop, ∀ [Decidable c], (if c then 0 else 100) ≤ 100 := fun c _ => by split <;> omega
      have a := this (m.ty = Md.star)
      have b := this (m.sub = Md.star)
      omega
    · have := Md.wt_mem (show q ∈ m.params from hq)
      omega
theorem clamp_is {o : Option Nat} {x : Nat} (h : IsW o x) (ho : ∀ k, o = some k → k ≤ 1000) : Fl.clamp x = Fl.W (clampO o) := by
  cases o with
  | none =>
    have hn : Fl.nan x = true := h
    unfold Fl.clamp clampO
    rw [hn, if_neg (by simp), if_neg (by simp), Fl.W_zero]
  | some n =>
    have hx : x = Fl.W n := h
    have hn := ho n rfl
    subst hx
    have h1 := (Fl.W_nan hn).1
    unfold Fl.clamp clampO
    rw [h1]
    by_cases e1 : n = 1000
    · subst e1
      rw [if_pos ⟨rfl, by rw [Fl.W_one]; exact Int.le_refl _⟩, Fl.W_one]
    · have h2 := Fl.W_lt (show n < 1000 by omega) (Nat.le_refl _)
      rw [Fl.W_one] at h2
      rw [if_neg (by rintro ⟨_, h⟩; omega)]
      by_cases e0 : n = 0
      · subst e0
        rw [Fl.W_zero, Fl.val_zero, if_neg (by rintro ⟨_, h⟩; omega)]
      · have h3 := Fl.W_lt (show 0 < n by omega) hn
        rw [Fl.W_zero, Fl.val_zero] at h3
        rw [if_pos ⟨rfl, h3⟩]
end Ql

theorem keep7 {f : FuncId} {args : Array Value} {v : Value} {W w0 : World} {a0 a1 a2 a3 a4 a5 a6 : Addr} {x0 x1 x2 x3 x4 x5 x6 : Value} (hC : ∀ W, Below w0.heap.size w0 W → Calls Tryz.prog f args W fun e w' => e = .returned v ∧ Below W.heap.size W w')
    (h : W.cell? a0 = some x0 ∧ W.cell? a1 = some x1 ∧ W.cell? a2 = some x2 ∧ W.cell? a3 = some x3 ∧ W.cell? a4 = some x4 ∧ W.cell? a5 = some x5 ∧ W.cell? a6 = some x6 ∧ Below w0.heap.size w0 W) :
    Calls Tryz.prog f args W fun e w' => e = .returned v ∧ (w'.cell? a0 = some x0 ∧ w'.cell? a1 = some x1 ∧ w'.cell? a2 = some x2 ∧ w'.cell? a3 = some x3 ∧ w'.cell? a4 = some x4 ∧ w'.cell? a5 = some x5 ∧ w'.cell? a6 = some x6 ∧ Below w0.heap.size w0 w') := by
  obtain ⟨h0, h1, h2, h3, h4, h5, h6, e⟩ := h
  refine (hC W e).mono fun _ _ ⟨he, hb⟩ => ⟨he, ?_⟩
  have on := fun {a : Addr} {x : Value} (hx : W.cell? a = some x) => (hb.cell (World.block_lt_of_cell? W _ hx)).trans hx
  exact ⟨on h0, on h1, on h2, on h3, on h4, on h5, on h6, e.trans (hb.mono e.size)⟩

set_option maxRecDepth 100000 in
set_option maxHeartbeats 12800000 in
theorem refOf_any {ao bo : Option Addr} {ca cb n2 : Nat} (L : List Ql.Rg) (m : Md.Med) (w : World) (hL : RgsIn w ao L) (hz : ∀ r ∈ L, Ql.RgOk r) (hl : L.length ≤ 1000000) (hq : PairsIn w bo m.params) (hn2 : m.params.length = n2) (hl2 : n2 ≤ 1000000) (hz2 : ∀ p ∈ m.params, p.value.size ≤ 1000000) :
    Calls Tryz.prog 22 #[.slice ao L.length ca, .agg #[.string m.ty, .string m.sub, .slice bo n2 cb]] w fun e w' => e = .returned (.float .f64 (Fl.W (Ql.ofL L m))) ∧ Below w.heap.size w w' := by
  obtain ⟨Q, hQ⟩ : ∃ Q, Q = Ql.ofL L m := ⟨_, rfl⟩
  rw [← hQ]
  replace hQ := Lib.hid hQ
  replace hn2 := Lib.hid hn2
  have kb := Box3.new w (.string m.ty) (.string m.sub) (.slice bo n2 cb)
  have bA : Below w.heap.size w (w.alloc (.cells #[.string m.ty, .string m.sub, .slice bo n2 cb] 40)) := (Below.refl _ _).alloc (Nat.le_refl _) _
  have hstl : ∀ (x : Nat) (W : World) (a : Addr), W.cell? a = some (.float .f64 x) → W.cell? a = some (.float .f64 x) := fun _ _ _ h => h
  clear hstl
  go_enter Tryz.func22, Tryz.ntmps22
  go_upto_region 1 with fail
  generalize w.alloc (.cells #[.string m.ty, .string m.sub, .slice bo n2 cb] 40) = wA at *
  replace kb := Lib.hid kb
  replace bA := Lib.hid bA
  go_wp2_with fail
  go_loopw [5, 6, 7] (fun xv nv iv wr => ∃ (k : Nat) (o : Option Nat) (x : Nat) (nn : Int), xv = .float .f64 x ∧ nv = .int .i64 nn ∧ iv = .int .i64 k ∧ k ≤ L.length ∧ -1 ≤ nn ∧ nn ≤ 1000000 ∧ Hid (Ql.IsW o x) ∧ Hid (∀ k, o = some k → k ≤ 1000) ∧ Hid (Ql.ofL L m = Ql.clampO (Ql.ofG (L.drop k) m o nn)) ∧ Hid (Below wA.heap.size wA wr)) (fun _ _ iv _ => L.length - (intOf iv).toNat)
  case atStart => exact ⟨0, some 0, 0, -1, rfl, rfl, rfl, Nat.zero_le _, by omega, by omega, Lib.hid (show (0 : Nat) = Fl.W 0 from Fl.W_zero.symm), Lib.hid (fun k h => by injection h with h; omega), Lib.hid (by rw [List.drop_zero]; rfl), Lib.hid (Below.refl _ _)⟩
  case round =>
    obtain ⟨k, o, x, nn, rfl, rfl, rfl, hk, hn0, hn1, hx, ho, hst, bw⟩ := hrel
    by_cases hlt : k < L.length
    case neg =>
      have hki : ¬ (k : Int) < (L.length : Int) := by omega
      have hfin : Hid (Fl.clamp x = Fl.W Q) := Lib.hid (by rw [Ql.clamp_is hx.out ho.out, hQ.out, hst.out, List.drop_of_length_le (by omega)]; rfl)
      have hcl := Lib.hid (refClamp_any x wr)
      have bz := Lib.hid (bA.out.trans (bw.out.mono bA.out.size))
      go_wp2_with fail
      (refine (hcl.out).mono ?_); rintro e w1 ⟨rfl, rfl⟩
      go_wp2_with fail
      go_ret
      exact ⟨by rw [← hfin.out]; rfl, bz.out⟩
    have hki : (k : Int) < (L.length : Int) := by omega
    obtain ⟨rb, roff, y, po, pc, hae, c0, c1, c2, c3, c4, hp, hw⟩ := ((hL.below bA.out).below bw.out) k hlt
    subst hae
    have hok := hz _ (List.getElem_mem hlt)
    have hstp : Hid (Ql.ofL L m = Ql.clampO (if Md.fits L[k].m m = true ∧ nn < L[k].narrow then Ql.ofG (L.drop (k + 1)) m L[k].w L[k].narrow else Ql.ofG (L.drop (k + 1)) m o nn)) := Lib.hid (by
      rw [hst.out, List.drop_eq_getElem_cons hlt]; rfl)
    generalize L[k] = r at *
    obtain ⟨⟨rt, rs, ps⟩, rw_, rn⟩ := r
    dsimp only at *
    clear hst
    obtain ⟨mt, ms, qs⟩ := m
    dsimp only at *
    have on := fun {a : Addr} {v : Value} (hx : wA.cell? a = some v) => (bw.out.cell (World.block_lt_of_cell? wA _ hx)).trans hx
    have d0 := on kb.out.c0
    have d1 := on kb.out.c1
    have d2 := on kb.out.c2
    have hqr := Lib.hid ((hq.below bA.out).below bw.out)
    replace hp := Lib.hid hp
    replace hw := Lib.hid hw
    have hlp := hok.l
    have hln := hok.n
    dsimp only at hlp hln
    have hfit : ∀ W, Below wr.heap.size wr W → Calls Tryz.prog 38 #[.agg #[.string rt, .string rs, .slice po ps.length pc], .agg #[.string mt, .string ms, .slice bo n2 cb]] W fun e w' => e = .returned (.bool (Md.fits ⟨rt, rs, ps⟩ ⟨mt, ms, qs⟩)) ∧ Below W.heap.size W w' :=
      fun W hb => refFits_any rt rs mt ms ps qs W (hp.out.below hb) rfl (by unfold maxLen; omega) (hqr.out.below hb) hn2.out (by unfold maxLen; omega) (fun p h => by have := hok.z p h; omega) (fun p h => by have := hz2 p h; omega)
    have hww := hok.w
    clear hqr on
    generalize Md.fits ⟨rt, rs, ps⟩ ⟨mt, ms, qs⟩ = bf at *
    replace hL := Lib.hid hL
    replace hz := Lib.hid hz
    replace hww := Lib.hid hww
    replace hstp := Lib.hid hstp.out
    clear hok hp hz2
    go_upto_region 5 with fail
    cases bf with
    | false =>
      have hst' := Lib.hid (by have := hstp.out; simp only [Bool.false_eq_true, false_and, if_false] at this; exact this)
      clear hstp c3 c4
      first
        | go_region_with (first | (go_at_call 38; refine (hfit _ ?_).mono ?_; exact (Below.refl _ _).drew; rintro e w' ⟨rfl, hcb⟩))
        | fail "the region"
      all_goals
        have bw' := Lib.hid (bw.out.trans (((Below.refl wr.heap.size wr).drew.trans hcb).mono bw.out.size))
        clear bw hcb hfit c0 c1 c2 d0 d1 d2
        go_wp2_with fail
        go_round
        case rel => exact ⟨k + 1, o, x, nn, rfl, rfl, by go_num, by omega, hn0, by omega, hx, ho, hst', bw'⟩
        case measure => simp [intOf]; omega
    | true =>
      by_cases hlg : nn < (rn : Int)
      all_goals go_region_held3 (fun w' => w'.cell? ⟨rb, roff + k * 5, none⟩ = some (.string rt) ∧ w'.cell? ⟨rb, roff + k * 5 + 1, none⟩ = some (.string rs) ∧ w'.cell? ⟨rb, roff + k * 5 + 2, none⟩ = some (.slice po ps.length pc) ∧ w'.cell? ⟨rb, roff + k * 5 + 4, none⟩ = some (.int .i64 rn) ∧ w'.cell? ⟨w.heap.size, 0, none⟩ = some (.string mt) ∧ w'.cell? ⟨w.heap.size, 1, none⟩ = some (.string ms) ∧ w'.cell? ⟨w.heap.size, 2, none⟩ = some (.slice bo n2 cb) ∧ Below wr.heap.size wr w') (first | exact ⟨c0, c1, c2, c4, d0, d1, d2, (Below.refl _ _).drew⟩ | assumption)
        (first | (go_at_call 38; refine (keep7 (w0 := wr) (a0 := ⟨rb, roff + k * 5, none⟩) (a1 := ⟨rb, roff + k * 5 + 1, none⟩) (a2 := ⟨rb, roff + k * 5 + 2, none⟩) (a3 := ⟨rb, roff + k * 5 + 4, none⟩) (a4 := ⟨w.heap.size, 0, none⟩) (a5 := ⟨w.heap.size, 1, none⟩) (a6 := ⟨w.heap.size, 2, none⟩) (x0 := .string rt) (x1 := .string rs) (x2 := .slice po ps.length pc) (x3 := .int .i64 rn) (x4 := .string mt) (x5 := .string ms) (x6 := .slice bo n2 cb) hfit ?_).mono ?_; assumption; rintro e w' ⟨rfl, hcb⟩))
      all_goals
        obtain ⟨-, -, -, -, -, -, -, hcb⟩ := hcb
      · have hst' := Lib.hid (by have := hstp.out; simp only [true_and, if_pos hlg] at this; exact this)
        have d3 := (hcb.cell (World.block_lt_of_cell? wr _ c3)).trans c3
        have d4 := (hcb.cell (World.block_lt_of_cell? wr _ c4)).trans c4
        have bw' := Lib.hid (bw.out.trans (hcb.mono bw.out.size))
        clear hstp bw hcb hfit c0 c1 c2 c3 c4 d0 d1 d2
        go_upto_region 6 with fail
        go_quiet (fail)
        all_goals
          go_wp2_with fail
          go_round
          case rel => exact ⟨k + 1, rw_, y, rn, rfl, rfl, by go_num, by omega, by omega, by omega, hw, hww, hst', Lib.hid (bw'.out.trans ⟨rfl, rfl, rfl, Nat.le_refl _, fun _ _ => rfl⟩)⟩
          case measure => simp [intOf]; omega
      · have hst' := Lib.hid (by have := hstp.out; simp only [true_and, if_neg (show ¬ nn < (rn : Int) by omega)] at this; exact this)
        have bw' := Lib.hid (bw.out.trans (hcb.mono bw.out.size))
        clear hstp bw hcb hfit c0 c1 c2 c3 c4 d0 d1 d2
        go_wp2_with fail
        go_round
        case rel => exact ⟨k + 1, o, x, nn, rfl, rfl, by go_num, by omega, hn0, by omega, hx, ho, hst', bw'⟩
        case measure => simp [intOf]; omega
end Go.Proofs.YtpgdmoaegnehbaaGreatDoor
