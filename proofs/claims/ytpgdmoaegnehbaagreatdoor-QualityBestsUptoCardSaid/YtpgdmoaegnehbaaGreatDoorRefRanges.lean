/-
  The document's Ranges.
-/
import Derived.Test.YtpgdmoaegnehbaaGreatDoorRgs
import Derived.Test.YtpgdmoaegnehbaaGreatDoorCells
import Derived.Test.YtpgdmoaegnehbaaGreatDoorMediaSize
import Derived.Deep.DeepCutAuto
namespace Go.Proofs.YtpgdmoaegnehbaaGreatDoor
open Go.RowKit

namespace Ql
theorem param_find (ps : List Pair) : (match Md.param ps qn with | some v => weight v.data.toList | none => some 1000) = weigh ps := rfl
theorem rest_more {ps : List Pair} {k : Nat} (h : k < ps.length) : rest (ps.take (k + 1)) = rest (ps.take k) + (if ps[k].name = qn then 0 else 1) := by
  unfold rest
  rw [List.take_succ_eq_append_getElem h, List.filter_append, List.length_append]
  by_cases hq : ps[k].name = qn
  · simp [hq]
  · simp [hq]
theorem rest_le (ps : List Pair) : rest ps ≤ ps.length := List.length_filter_le _ _
end Ql
/-- A range under way: the type's box and the range's own, behind the call that read it. -/
structure RgSt (W0 : World) (bm br : Nat) (m : Md.Med) (v : Value) (x : Nat) (nn : Nat) (W : World) : Prop where
  low : Below W0.heap.size W0 W
  km : Cells W bm 40 #[.string m.ty, .string m.sub, v]
  kr : Cells W br 70 #[.string m.ty, .string m.sub, v, .float .f64 x, .int .i64 (nn : Int)]
  hm : W0.heap.size ≤ bm
  hr : W0.heap.size ≤ br
  ne : bm ≠ br
theorem RgSt.first (W0 : World) (m : Md.Med) (v : Value) (x : Nat) : RgSt W0 W0.heap.size (W0.heap.size + 1) m v x 0 ((W0.alloc (.cells #[.string m.ty, .string m.sub, v] 40)).alloc (.cells #[.string m.ty, .string m.sub, v, .float .f64 x, .int .i64 0] 70)) := by
  refine ⟨((Below.refl _ _).alloc (Nat.le_refl _) _).alloc (by simp) _, (Cells.new _ _ _).alloc _, ?_, Nat.le_refl _, by omega, by omega⟩
  have := Cells.new (W0.alloc (.cells #[.string m.ty, .string m.sub, v] 40)) 70 #[.string m.ty, .string m.sub, v, .float .f64 x, .int .i64 0]
  rwa [World.size_alloc] at this
theorem RgSt.on {W0 W W' : World} {bm br : Nat} {m : Md.Med} {v : Value} {x nn : Nat} (h : RgSt W0 bm br m v x nn W) (b : Below W.heap.size W W') : RgSt W0 bm br m v x nn W' :=
  ⟨h.low.trans (b.mono h.low.size), h.km.on b, h.kr.on b, h.hm, h.hr, h.ne⟩
theorem RgSt.setX {W0 W : World} {bm br : Nat} {m : Md.Med} {v : Value} {x nn : Nat} (h : RgSt W0 bm br m v x nn W) (y : Nat) : RgSt W0 bm br m v y nn (W.setCell ⟨br, 3, none⟩ (.float .f64 y)) :=
  ⟨h.low.setCell (p := ⟨br, 3, none⟩) h.hr _, h.km.other 3 _ h.ne, h.kr.set 3 (.float .f64 y), h.hm, h.hr, h.ne⟩
theorem RgSt.setN {W0 W : World} {bm br : Nat} {m : Md.Med} {v : Value} {x nn : Nat} (h : RgSt W0 bm br m v x nn W) (k : Nat) : RgSt W0 bm br m v x k (W.setCell ⟨br, 4, none⟩ (.int .i64 (k : Int))) :=
  ⟨h.low.setCell (p := ⟨br, 4, none⟩) h.hr _, h.km.other 4 _ h.ne, h.kr.set 4 (.int .i64 (k : Int)), h.hm, h.hr, h.ne⟩
theorem RgSt.m0 {W0 W : World} {bm br : Nat} {m : Md.Med} {v : Value} {x nn : Nat} (h : RgSt W0 bm br m v x nn W) : W.cell? ⟨bm, 0, none⟩ = some (.string m.ty) := h.km.cell rfl
theorem RgSt.m1 {W0 W : World} {bm br : Nat} {m : Md.Med} {v : Value} {x nn : Nat} (h : RgSt W0 bm br m v x nn W) : W.cell? ⟨bm, 1, none⟩ = some (.string m.sub) := h.km.cell rfl
theorem RgSt.m2 {W0 W : World} {bm br : Nat} {m : Md.Med} {v : Value} {x nn : Nat} (h : RgSt W0 bm br m v x nn W) : W.cell? ⟨bm, 2, none⟩ = some v := h.km.cell rfl
theorem RgSt.r0 {W0 W : World} {bm br : Nat} {m : Md.Med} {v : Value} {x nn : Nat} (h : RgSt W0 bm br m v x nn W) : W.cell? ⟨br, 0, none⟩ = some (.string m.ty) := h.kr.cell rfl
theorem RgSt.r1 {W0 W : World} {bm br : Nat} {m : Md.Med} {v : Value} {x nn : Nat} (h : RgSt W0 bm br m v x nn W) : W.cell? ⟨br, 1, none⟩ = some (.string m.sub) := h.kr.cell rfl
theorem RgSt.r2 {W0 W : World} {bm br : Nat} {m : Md.Med} {v : Value} {x nn : Nat} (h : RgSt W0 bm br m v x nn W) : W.cell? ⟨br, 2, none⟩ = some v := h.kr.cell rfl
theorem RgSt.r3 {W0 W : World} {bm br : Nat} {m : Md.Med} {v : Value} {x nn : Nat} (h : RgSt W0 bm br m v x nn W) : W.cell? ⟨br, 3, none⟩ = some (.float .f64 x) := h.kr.cell rfl
theorem RgSt.r4 {W0 W : World} {bm br : Nat} {m : Md.Med} {v : Value} {x nn : Nat} (h : RgSt W0 bm br m v x nn W) : W.cell? ⟨br, 4, none⟩ = some (.int .i64 (nn : Int)) := h.kr.cell rfl
/-- Where Ranges stands: what the pieces so far make. -/
def Ql.upto (l : List (List UInt8)) : List Ql.Rg := l.filterMap fun p => (Md.parse p).map Ql.rg
theorem Ql.upto_more {l : List (List UInt8)} {k : Nat} (h : k < l.length) : Ql.upto (l.take (k + 1)) = Ql.upto (l.take k) ++ (match Md.parse l[k] with | some m => [Ql.rg m] | none => []) := by
  unfold Ql.upto
  rw [List.take_succ_eq_append_getElem h, List.filterMap_append]
  congr 1
  simp only [List.filterMap_cons, List.filterMap_nil]
  cases Md.parse l[k] <;> rfl
theorem Ql.upto_len (l : List (List UInt8)) (k : Nat) : (Ql.upto (l.take k)).length ≤ k := by
  have h1 := List.length_filterMap_le (fun p => (Md.parse p).map Ql.rg) (l.take k)
  have h2 : (l.take k).length ≤ k := by rw [List.length_take]; omega
  unfold Ql.upto
  omega

/-- How long the pieces are, and how many. -/
theorem Ql.splitG_small : ∀ (n : Nat) (l cur : List UInt8) (q : Bool), l.length ≤ n → (∀ p ∈ Ql.splitG cur q l, p.length ≤ cur.length + l.length) ∧ (Ql.splitG cur q l).length ≤ l.length + 1
  | n, [], cur, q, _ => by
    unfold Ql.splitG Ql.keep
    split
    · simp
    · simp
  | 0, b :: t, _, _, h => by simp at h
  | n + 1, b :: t, cur, q, h => by
    simp only [List.length_cons] at h
    unfold Ql.splitG
    split
    · have := Ql.splitG_small n t [] false (by omega)
      unfold Ql.keep
      split
      · refine ⟨fun p hp => ?_, ?_⟩
        · have := this.1 p hp; simp only [List.length_nil, List.length_cons] at *; omega
        · have := this.2; simp only [List.length_cons]; omega
      · refine ⟨fun p hp => ?_, ?_⟩
        · rcases List.mem_cons.1 hp with rfl | hp
          · simp
          · have := this.1 p hp; simp only [List.length_nil, List.length_cons] at *; omega
        · have := this.2; simp only [List.length_cons]; omega
    split
    · have := Ql.splitG_small n t (cur ++ [b]) (!q) (by omega)
      refine ⟨fun p hp => ?_, ?_⟩
      · have := this.1 p hp; simp only [List.length_append, List.length_cons, List.length_nil] at *; omega
      · have := this.2; simp only [List.length_cons]; omega
    cases t with
    | nil =>
      simp only
      unfold Ql.keep
      split <;> simp
    | cons c u =>
      simp only
      split
      · have := Ql.splitG_small n u (cur ++ [b, c]) q (by simp only [List.length_cons] at h; omega)
        refine ⟨fun p hp => ?_, ?_⟩
        · have := this.1 p hp; simp only [List.length_append, List.length_cons, List.length_nil] at *; omega
        · have := this.2; simp only [List.length_cons]; omega
      · have := Ql.splitG_small n (c :: u) (cur ++ [b]) q (by omega)
        refine ⟨fun p hp => ?_, ?_⟩
        · have := this.1 p hp; simp only [List.length_append, List.length_cons, List.length_nil] at *; omega
        · have := this.2; simp only [List.length_cons] at *; omega
theorem Ql.split_small (l : List UInt8) : (∀ p ∈ Ql.split l, p.length ≤ l.length) ∧ (Ql.split l).length ≤ l.length + 1 := by
  have := Ql.splitG_small l.length l [] false (Nat.le_refl _)
  exact ⟨fun p hp => by have := this.1 p hp; simpa using this, this.2⟩

theorem star_yes {x : ByteArray} (h : x = Md.star) : (x.toList == [42]) = true ∧ (x.toList != [42]) = false ∧ x.toList = [42] := by
  have e : x.toList = [42] := by rw [h, ByteArray.toList_eq]; rfl
  exact ⟨by rw [e]; rfl, by rw [e]; rfl, e⟩
theorem star_no {x : ByteArray} (h : ¬ x = Md.star) : (x.toList == [42]) = false ∧ (x.toList != [42]) = true ∧ ¬ x.toList = [42] := by
  have e : (x.toList == [42]) = false := by
    rw [show ([42] : List UInt8) = Md.star.toList from by rw [ByteArray.toList_eq]; rfl]
    exact not_str h
  exact ⟨e, by rw [bne, e]; rfl, beq_eq_false_iff_ne.1 e⟩
theorem star_test (x : ByteArray) : (x.toList != [42]) = !decide (x = Md.star) := by
  rw [show ([42] : List UInt8) = Md.star.toList from by rw [ByteArray.toList_eq]; rfl]
  by_cases h : x = Md.star
  · rw [bne, same_str h]; simp [h]
  · rw [bne, not_str h]; simp [h]
theorem par_none {ps : List Pair} (h : Md.param ps Ql.qn = none) : paB ps Ql.qn = false ∧ Ql.weigh ps = some 1000 := by
  unfold paB Ql.weigh; rw [h]; exact ⟨rfl, rfl⟩
theorem par_some {ps : List Pair} {v : ByteArray} (h : Md.param ps Ql.qn = some v) : paB ps Ql.qn = true ∧ paA ps Ql.qn = v ∧ Ql.weigh ps = Ql.weight v.data.toList := by
  unfold paB paA Ql.weigh; rw [h]; exact ⟨rfl, rfl, rfl⟩
theorem par_mem {ps : List Pair} {v : ByteArray} (h : Md.param ps Ql.qn = some v) : ∃ p ∈ ps, p.value = v := by
  unfold Md.param at h
  cases hf : ps.find? (fun p => decide (p.name = Ql.qn)) with
  | none => rw [hf] at h; cases h
  | some p =>
    rw [hf] at h
    injection h with h
    exact ⟨p, List.mem_of_find?_eq_some hf, h⟩

set_option maxRecDepth 100000 in
set_option maxHeartbeats 12800000 in
theorem refRanges_any (s : ByteArray) (w : World) (hs : s.size ≤ 100000) :
    Calls Tryz.prog 21 #[.string s] w fun e w' => ∃ ao cap, e = .returned (.slice ao (Ql.ranges s.data.toList).length cap) ∧ RgsIn w' ao (Ql.ranges s.data.toList) ∧ Below w.heap.size w w' := by
  obtain ⟨i0, hi, hz0, hz1, hz2⟩ := info_parts infoRange
  have hlen := list_len s
  obtain ⟨hsm1, hsm2⟩ := Ql.split_small s.data.toList
  rw [hlen] at hsm1 hsm2
  obtain ⟨l, hl⟩ : ∃ l, l = Ql.split s.data.toList := ⟨_, rfl⟩
  have hsp := refSplit_any s w (by omega)
  rw [← hl] at hsp hsm1 hsm2
  have hrl : Hid (Ql.ranges s.data.toList = Ql.upto l) := Lib.hid (by rw [hl]; rfl)
  replace hsm1 := Lib.hid hsm1
  replace hl := Lib.hid hl
  replace hlen := Lib.hid hlen
  go_enter Tryz.func21, Tryz.ntmps21
  go_wp2_with fail
  (refine hsp.mono ?_); rintro e w1 ⟨ao, cap, rfl, hT, _, b1⟩
  clear hsp
  replace hT := Lib.hid hT
  replace b1 := Lib.hid b1
  go_wp2_with fail
  go_loopw [3, 5] (fun v iv wr => ∃ (k : Nat) (acc : List Ql.Rg), iv = .int .i64 k ∧ k ≤ l.length ∧ Hid (acc = Ql.upto (l.take k)) ∧ acc.length ≤ k ∧ Hid (OwnsRgs w1.heap.size v acc wr) ∧ Hid (Below w1.heap.size w1 wr)) (fun _ i _ => l.length - (intOf i).toNat)
  case atStart => exact ⟨0, [], rfl, Nat.zero_le _, Lib.hid rfl, Nat.le_refl _, Lib.hid (OwnsRgs.nil _ _), Lib.hid (Below.refl _ _)⟩
  case round =>
    obtain ⟨k, acc, rfl, hk, hacc, hun, ho, bw⟩ := hrel
    have ht := Lib.hid (hT.out.below bw.out)
    obtain ⟨oo, oc, rfl, hoc, hoI⟩ := ho.out.form
    replace hoI := Lib.hid hoI
    by_cases hlt : k < l.length
    case neg =>
      have hfin : Hid (Ql.ranges s.data.toList = acc) := Lib.hid (by rw [hrl.out, hacc.out, List.take_of_length_le (by omega)])
      have hki : ¬ (k : Int) < (l.length : Int) := by omega
      go_wp2_with fail
      go_ret
      exact ⟨oo, ⟨oc, by rw [hfin.out]; rfl⟩, by rw [hfin.out]; exact hoI.out, b1.out.trans (bw.out.mono b1.out.size)⟩
    obtain ⟨tb, toff, hae, hc⟩ := ht.out k hlt
    subst hae
    have hTz := hsm1.out _ (List.getElem_mem hlt)
    obtain ⟨T, hTe⟩ : ∃ T : ByteArray, T = ⟨l[k].toArray⟩ := ⟨_, rfl⟩
    rw [← hTe] at hc
    have hTl : T.data.toList = l[k] := (congrArg (fun x => x.data.toList) hTe).trans (mk_list _)
    have hTs : T.size ≤ 100000 := by rw [← list_len, hTl]; omega
    have hmp := refMParse_any T wr hTs
    have hmore := Ql.upto_more hlt
    rw [← hTl, ← hacc.out] at hmore
    replace hmore := Lib.hid hmore
    replace hTe := Lib.hid hTe
    replace hmp := Lib.hid hmp
    have hki : (k : Int) < (l.length : Int) := by omega
    have hcw := Lib.hid (fun (W : World) (b : Below wr.heap.size wr W) => (⟨bw.out.trans (b.mono bw.out.size), ho.out.on b⟩ : Below w1.heap.size w1 W ∧ OwnsRgs w1.heap.size _ _ W))
    go_wp2_with fail
    (refine (hmp.out).mono ?_); rintro e w2 ⟨v, rfl, hp, b2⟩
    clear hmp
    obtain ⟨po, pc, rfl, hpi⟩ := pairs_of_owns hp
    obtain ⟨q1, q2⟩ := hcw.out w2 b2
    cases hpar : Md.parse T.data.toList with
    | none =>
      obtain ⟨e1, e2⟩ := mp_none hpar
      have hmr : Hid (acc = Ql.upto (l.take (k + 1))) := Lib.hid (by rw [hmore.out, hpar]; simp)
      rw [e1, e2]
      replace hpar := Lib.hid hpar
      have b3 := (Below.refl w2.heap.size w2).alloc (Nat.le_refl _) (.cells #[.string Md.none'.ty, .string Md.none'.sub, .slice po Md.none'.params.length pc] 40)
      have q1' := Lib.hid (q1.trans (b3.mono q1.size))
      have q2' := Lib.hid (q2.on b3)
      rw [e1] at hpi hp
      clear hpi hp q1 q2 b2 b3 hTl hcw
      go_wp2_with fail
      go_round
      case rel => exact ⟨k + 1, acc, by go_num, by omega, hmr, by omega, q2', q1'⟩
      case measure => simp [intOf]; omega
    | some m =>
      obtain ⟨e1, e2⟩ := mp_some hpar
      have hsz := Md.parse_size hpar
      rw [list_len] at hsz
      have hwl := Md.wt_length m.params
      have hpl : m.params.length ≤ 50000 := by omega
      have hpz : Hid (∀ p ∈ m.params, p.name.size ≤ 100000 ∧ p.value.size ≤ 100000) := Lib.hid (fun p hm => by have := Md.wt_mem hm; constructor <;> omega)
      have hmr : Hid (acc ++ [Ql.rg m] = Ql.upto (l.take (k + 1))) := Lib.hid (by rw [hmore.out, hpar])
      rw [e1, e2]
      rw [e1] at hpi hp
      have hp' := Lib.hid (hp.base (B' := w1.heap.size) bw.out.size)
      replace hpi := Lib.hid hpi
      replace hpar := Lib.hid hpar
      have hcw2 := Lib.hid (fun (W : World) (b : Below w2.heap.size w2 W) => (⟨q1.trans (b.mono q1.size), q2.on b, hp'.out.on b, hpi.out.below b⟩ : Below w1.heap.size w1 W ∧ OwnsRgs w1.heap.size _ _ W ∧ OwnsPairs w1.heap.size _ _ W ∧ PairsIn W _ _))
      have hR := RgSt.first w2 m (.slice po m.params.length pc) Fl.one
      clear hp q1 q2 b2 hTl hcw hsz hwl e1 e2 hp' hc
      have hstf : ∀ (x : Nat) (a : Addr) (m : Mode) (W : World), (store a (.float .f64 x) m).run Tryz.prog W = stored Tryz.prog W a (.float .f64 x) m := fun x a m W => run_store Tryz.prog W a _ m rfl
      go_upto_region 9 with fail
      replace hR : RgSt w2 w2.heap.size (w2.heap.size + 1) m (.slice po m.params.length pc) Fl.one 0 ((w2.alloc (.cells #[.string m.ty, .string m.sub, .slice po m.params.length pc] 40)).alloc (.cells #[.string m.ty, .string m.sub, .slice po m.params.length pc, .float .f64 4607182418800017408, .int .i64 0] 70)) := hR
      generalize (w2.alloc (.cells #[.string m.ty, .string m.sub, .slice po m.params.length pc] 40)).alloc (.cells #[.string m.ty, .string m.sub, .slice po m.params.length pc, .float .f64 4607182418800017408, .int .i64 0] 70) = w3 at *
      have y0 := hR.m0
      have y1 := hR.m1
      have y2 := hR.m2
      have hpc := Lib.hid (refParam_any (.string m.ty) (.string m.sub) m.params Ql.qn w3 (hcw2.out w3 hR.low).2.2.2 rfl (by unfold maxLen; omega) (cap := pc))
      replace hR := Lib.hid hR
      go_wp2_with fail
      (refine (hpc.out).mono ?_); rintro e w4 ⟨rfl, b4⟩
      have hR4 := Lib.hid (hR.out.on b4)
      clear hpc b4 hR y0 y1 y2
      obtain ⟨pav, hpav⟩ : ∃ x, x = paA m.params Ql.qn := ⟨_, rfl⟩
      obtain ⟨pbv, hpbv⟩ : ∃ x, x = paB m.params Ql.qn := ⟨_, rfl⟩
      rw [← hpav, ← hpbv]
      replace hpav := Lib.hid hpav
      replace hpbv := Lib.hid hpbv
      go_upto_if 37 with fail
      go_cut [9] (fun _ wx => ∃ y, Hid (RgSt w2 w2.heap.size (w2.heap.size + 1) m (.slice po m.params.length pc) y 0 wx) ∧ Hid (Ql.IsW (Ql.weigh m.params) y))
      case first =>
        cases hq : Md.param m.params Ql.qn with
        | none =>
          obtain ⟨g1, g2⟩ := par_none hq
          obtain rfl : pbv = false := hpbv.out.trans g1
          have hw := Lib.hid (show Ql.IsW (Ql.weigh m.params) Fl.one by rw [g2]; exact Fl.W_one.symm)
          replace hq := Lib.hid hq
          clear g1 g2
          go_wp2_with fail
          go_meet
          exact ⟨_, hR4, hw⟩
        | some q =>
          obtain ⟨g1, g2, g3⟩ := par_some hq
          obtain ⟨pq, pm, pe⟩ := par_mem hq
          have hqz : q.size ≤ maxLen := by have := (hpz.out pq pm).2; rw [pe] at this; unfold maxLen; omega
          have hwt := Lib.hid (refWeight_any q w4 hqz)
          obtain rfl : pbv = true := hpbv.out.trans g1
          obtain rfl : pav = q := hpav.out.trans g2
          replace hq := Lib.hid hq
          replace g3 := Lib.hid g3
          clear pe pm g1 g2 hqz
          go_wp2_with fail
          (refine (hwt.out).mono ?_); rintro e w5 ⟨y, rfl, hy, b5⟩
          have hR5 := Lib.hid (hR4.out.on b5)
          have hw := Lib.hid (show Ql.IsW (Ql.weigh m.params) y by rw [g3.out]; exact hy)
          have c3 := hR5.out.r3
          have f3 := hR5.out.kr.free 3
          have hR6 := Lib.hid (hR5.out.setX y)
          clear hy b5 hR4 hwt hR5
          go_wp2_with fail
          go_meet
          exact ⟨y, hR6, hw⟩
      case rest =>
      obtain ⟨y, hR5, hw⟩ := hcut
      clear hR4
      go_wp2_with fail
      go_loopw [11] (fun jv wx => ∃ j : Nat, jv = .int .i64 j ∧ j ≤ m.params.length ∧ Hid (RgSt w2 w2.heap.size (w2.heap.size + 1) m (.slice po m.params.length pc) y (Ql.rest (m.params.take j)) wx)) (fun jv _ => m.params.length - (intOf jv).toNat)
      case atStart => exact ⟨0, rfl, Nat.zero_le _, Lib.hid (by simpa [Ql.rest] using hR5.out)⟩
      case round =>
        obtain ⟨j, rfl, hj, hR⟩ := hrel
        have m2 := hR.out.m2
        by_cases hjl : j < m.params.length
        · obtain ⟨pb, poff, pae, pn, _⟩ := (hcw2.out _ hR.out.low).2.2.2 j hjl
          subst pae
          have hjm := Ql.rest_more hjl
          have hrl2 := Ql.rest_le (m.params.take j)
          rw [List.length_take] at hrl2
          have r4 := hR.out.r4
          have f4 := hR.out.kr.free 4
          have hji : (j : Int) < (m.params.length : Int) := by omega
          by_cases hq : m.params[j].name = Ql.qn
          · have z1 := same_str hq
            have z2 : (m.params[j].name.toList != Ql.qn.toList) = false := by rw [bne, z1]; rfl
            have z3 : (m.params[j].name.toList != [113]) = false := by rw [show ([113] : List UInt8) = Ql.qn.toList from by rw [ByteArray.toList_eq]; rfl]; exact z2
            have z4 : m.params[j].name.toList = [113] := by rw [hq, ByteArray.toList_eq]; rfl
            have hR2 : Hid (RgSt w2 w2.heap.size (w2.heap.size + 1) m (.slice (some ⟨pb, poff, none⟩) m.params.length pc) y (Ql.rest (m.params.take (j + 1))) wr) := Lib.hid (by rw [hjm, if_pos hq]; exact hR.out)
            replace hq := Lib.hid hq
            clear hjm r4 f4
            go_wp2_with fail
            go_round
            case rel => exact ⟨j + 1, by go_num, by omega, hR2⟩
            case measure => simp [intOf]; omega
          · have z1 := not_str hq
            have z2 : (m.params[j].name.toList != Ql.qn.toList) = true := by rw [bne, z1]; rfl
            have z5 : ([113] : List UInt8) = Ql.qn.toList := by rw [ByteArray.toList_eq]; rfl
            have z3 : (m.params[j].name.toList != [113]) = true := by rw [z5]; exact z2
            have z6 : (m.params[j].name.toList == [113]) = false := by rw [z5]; exact z1
            have z4 : ¬ m.params[j].name.toList = [113] := beq_eq_false_iff_ne.1 z6
            have hR2 : Hid (RgSt w2 w2.heap.size (w2.heap.size + 1) m (.slice (some ⟨pb, poff, none⟩) m.params.length pc) y (Ql.rest (m.params.take (j + 1))) (wr.setCell ⟨w2.heap.size + 1, 4, none⟩ (.int .i64 ((Ql.rest (m.params.take j) : Int) + 1)))) := Lib.hid (by
              have := hR.out.setN (Ql.rest (m.params.take (j + 1)))
              rw [hjm, if_neg hq] at this ⊢
              exact this)
            generalize Ql.rest (m.params.take j) = rj at *
            replace hq := Lib.hid hq
            clear hjm
            go_wp2_with fail
            go_round
            case rel => exact ⟨j + 1, by go_num, by omega, hR2⟩
            case measure => simp [intOf]; omega
        · have hjd : m.params.take j = m.params := List.take_of_length_le (by omega)
          rw [hjd] at hR
          have hji : ¬ (j : Int) < (m.params.length : Int) := by omega
          have hrl2 := Ql.rest_le m.params
          clear hjd
          obtain ⟨r0, hr0⟩ : ∃ r, r = Ql.rest m.params := ⟨_, rfl⟩
          rw [← hr0] at hR hrl2
          replace hr0 := Lib.hid hr0
          go_upto_region 17 with fail
          obtain ⟨sb, hse⟩ : ∃ x, x = !decide (m.ty = Md.star) := ⟨_, rfl⟩
          obtain ⟨a1, ha1⟩ : ∃ x : Nat, x = if m.ty = Md.star then 0 else 100 := ⟨_, rfl⟩
          have ha1b : a1 ≤ 100 := by rw [ha1]; split <;> omega
          have hsa : Hid ((sb = true → a1 = 100) ∧ (sb = false → a1 = 0)) := Lib.hid (by
            rw [hse, ha1]
            by_cases h : m.ty = Md.star
            · simp [h]
            · simp [h])
          replace ha1 := Lib.hid ha1
          replace hse := Lib.hid hse
          have x0 := hR.out.m0
          go_cut [61] (fun c wx => c = .bool sb ∧ wr = wx)
          case first =>
            by_cases h : m.ty = Md.star
            · obtain ⟨z1, z2, z3⟩ := star_yes h
              obtain rfl : sb = false := by rw [hse.out, decide_eq_true h]; rfl
              replace h := Lib.hid h
              go_wp2_with fail
              go_meet
              exact ⟨rfl, rfl⟩
            · obtain ⟨z1, z2, z3⟩ := star_no h
              obtain rfl : sb = true := by rw [hse.out, decide_eq_false h]; rfl
              replace h := Lib.hid h
              go_wp2_with fail
              go_meet
              exact ⟨rfl, rfl⟩
          case rest =>
          obtain ⟨rfl, rfl⟩ := hcut
          go_upto_if 61 with fail
          go_cut [62] (fun _ wx => Hid (RgSt w2 w2.heap.size (w2.heap.size + 1) m (.slice po m.params.length pc) y (r0 + a1) wx))
          case first =>
            cases sb
            · have hR2 := Lib.hid (show RgSt w2 w2.heap.size (w2.heap.size + 1) m (.slice po m.params.length pc) y (r0 + a1) wr by rw [hsa.out.2 rfl]; exact hR.out)
              go_wp2_with fail
              go_meet
              exact hR2
            · have hR2 : Hid (RgSt w2 w2.heap.size (w2.heap.size + 1) m (.slice po m.params.length pc) y (r0 + a1) (wr.setCell ⟨w2.heap.size + 1, 4, none⟩ (.int .i64 ((r0 : Int) + 100)))) := Lib.hid (by
                have := hR.out.setN (r0 + a1)
                rw [hsa.out.1 rfl] at this ⊢
                exact this)
              have r4 := hR.out.r4
              have f4 := hR.out.kr.free 4
              go_wp2_with fail
              go_meet
              exact hR2
          case rest =>
          have hR1 := hcut
          clear hcut hR hsa x0 m2
          obtain ⟨sb2, hse2⟩ : ∃ x, x = !decide (m.sub = Md.star) := ⟨_, rfl⟩
          obtain ⟨a2, ha2⟩ : ∃ x : Nat, x = if m.sub = Md.star then 0 else 100 := ⟨_, rfl⟩
          have ha2b : a2 ≤ 100 := by rw [ha2]; split <;> omega
          have hsa : Hid ((sb2 = true → a2 = 100) ∧ (sb2 = false → a2 = 0)) := Lib.hid (by
            rw [hse2, ha2]
            by_cases h : m.sub = Md.star
            · simp [h]
            · simp [h])
          have hnar : Hid ((Ql.rg m).narrow = r0 + a1 + a2) := Lib.hid (by rw [hr0.out, ha1.out, ha2]; rfl)
          obtain ⟨n1, hn1⟩ : ∃ x, x = r0 + a1 := ⟨_, rfl⟩
          rw [← hn1] at hR1 hnar
          have hn1b : n1 ≤ 60000 := by omega
          replace ha2 := Lib.hid ha2
          replace hse2 := Lib.hid hse2
          replace hn1 := Lib.hid hn1
          have x1 := hR1.out.m1
          go_upto_region 19 with fail
          go_cut [68] (fun c wx => c = .bool sb2 ∧ wc = wx)
          case first =>
            by_cases h : m.sub = Md.star
            · obtain ⟨z1, z2, z3⟩ := star_yes h
              obtain rfl : sb2 = false := by rw [hse2.out, decide_eq_true h]; rfl
              replace h := Lib.hid h
              go_wp2_with fail
              go_meet
              exact ⟨rfl, rfl⟩
            · obtain ⟨z1, z2, z3⟩ := star_no h
              obtain rfl : sb2 = true := by rw [hse2.out, decide_eq_false h]; rfl
              replace h := Lib.hid h
              go_wp2_with fail
              go_meet
              exact ⟨rfl, rfl⟩
          case rest =>
          obtain ⟨rfl, rfl⟩ := hcut
          go_upto_if 68 with fail
          go_cut [69] (fun _ wx => Hid (RgSt w2 w2.heap.size (w2.heap.size + 1) m (.slice po m.params.length pc) y (n1 + a2) wx))
          case first =>
            cases sb2
            · have hR2 := Lib.hid (show RgSt w2 w2.heap.size (w2.heap.size + 1) m (.slice po m.params.length pc) y (n1 + a2) wc by rw [hsa.out.2 rfl]; exact hR1.out)
              go_wp2_with fail
              go_meet
              exact hR2
            · have hR2 : Hid (RgSt w2 w2.heap.size (w2.heap.size + 1) m (.slice po m.params.length pc) y (n1 + a2) (wc.setCell ⟨w2.heap.size + 1, 4, none⟩ (.int .i64 ((n1 : Int) + 100)))) := Lib.hid (by
                have := hR1.out.setN (n1 + a2)
                rw [hsa.out.1 rfl] at this ⊢
                exact this)
              have r4 := hR1.out.r4
              have f4 := hR1.out.kr.free 4
              go_wp2_with fail
              go_meet
              exact hR2
          case rest =>
          have hR2 := hcut
          clear hcut hR1 hsa x1
          obtain ⟨n2, hn2⟩ : ∃ x, x = n1 + a2 := ⟨_, rfl⟩
          rw [← hn2] at hR2 hnar
          replace hn2 := Lib.hid hn2
          obtain ⟨q1, ⟨css, c1, c2, c3⟩, q4, _⟩ := hcw2.out _ hR2.out.low
          have y0 := hR2.out.r0
          have y1 := hR2.out.r1
          have y2 := hR2.out.r2
          have y3 := hR2.out.r3
          have y4 := hR2.out.r4
          have hRg : Hid (RgIn w1.heap.size wc [.string m.ty, .string m.sub, .slice po m.params.length pc, .float .f64 y, .int .i64 (n2 : Int)] (Ql.rg m)) := Lib.hid ⟨y, .slice po m.params.length pc, by unfold rgCells; rw [hnar.out]; rfl, q4, hw.out⟩
          have hPc : acc.length + 1 ≤ maxLen := by unfold maxLen; omega
          have hPb : (acc.length + 1) * 72 ≤ 140737488355328 := by omega
          replace c3 := Lib.hid c3
          replace q1 := Lib.hid q1
          have hk1 := Lib.hid (show k + 1 ≤ l.length from hlt)
          have hk2 := Lib.hid (show l.length - (k + 1) < l.length - k by omega)
          have hun1 := Lib.hid (show (acc ++ [Ql.rg m]).length ≤ k + 1 by simp; omega)
          clear hR2 q4
          go_wp2_with (at_builtin; refine wpList_append_own _ rfl _ _ 46 rfl w1.heap.size 70 i0 _ 5 72 Tryz.underlying46 hi hz0 hz1 hz2 rfl (by decide) _ _ _ rfl (World.ownsRow.alloc c2 _) ⟨wc.heap.size, 0, none⟩ 1 1 [.string m.ty, .string m.sub, .slice po m.params.length pc, .float .f64 y, .int .i64 (n2 : Int)] rfl rfl ?a1 ?a2 hPc hPb ?a3 ?_)
          case a2 => exact ⟨rfl, rfl, rfl, rfl, rfl⟩
          case a3 => have := q1.out.size; simp; omega
          intro v5 w5 hown5 hg5 _
          have hga : wc.grownBy w5 _ := (World.grownBy_alloc wc _ _).trans hg5
          have b5 := Lib.hid (q1.out.trans ((Below.refl _ _).grown hga q1.out.size (fun j e => (World.ownsRow.lt c2 j e).1)))
          have ho5 := Lib.hid (OwnsRgs.pushed c1 c2 c3.out hRg.out hga hown5)
          clear hown5 hga hg5 c2 y0 y1 y2 y3 y4
          go_wp2_with fail
          go_round
          case rel => exact ⟨k + 1, _, by go_num, hk1.out, hmr, hun1.out, ho5, b5⟩
          case measure => simp [intOf]; have := hk1.out; omega
end Go.Proofs.YtpgdmoaegnehbaaGreatDoor
