/-
  The program's own weight of a type, and which of some types is best.
-/
import Derived.Test.YtpgdmoaegnehbaaGreatDoorProgWish
import Derived.Test.YtpgdmoaegnehbaaGreatDoorProgFloat
import Derived.Test.YtpgdmoaegnehbaaGreatDoorRefBest
import Derived.BigQuiet
namespace Go.Proofs.YtpgdmoaegnehbaaGreatDoor
open Go.RowKit

theorem Fl.rank_W {n : Nat} (h : n ≤ 1000) : rank (W n) = 0 := by
  obtain ⟨h1, h2⟩ := W_nan h
  unfold rank
  rw [h1, if_neg (by simp), h2]
  rw [if_neg (fun hv => by have := val_neg hv; rw [h2] at this; cases this), if_neg (by simp)]
theorem Fl.ahead_W {n m : Nat} (hn : n ≤ 1000) (hm : m ≤ 1000) : ahead (W n) (W m) = decide (m < n) := by
  unfold ahead
  rw [rank_W hn, rank_W hm, if_pos rfl]
  by_cases h : m < n
  · rw [decide_eq_true h, decide_eq_true ⟨by decide, W_lt h hn⟩]
  · rw [decide_eq_false h]
    rcases Nat.lt_or_eq_of_le (Nat.le_of_not_lt h) with h' | h'
    · have := W_lt h' hm
      exact decide_eq_false (fun g => by have := g.2; omega)
    · subst h'
      exact decide_eq_false (fun g => by have := g.2; omega)

set_option maxRecDepth 100000 in
set_option maxHeartbeats 12800000 in
theorem weightOf_any {ao bo : Option Addr} {ca cb n2 : Nat} (L : List Ql.Rg) (m : Md.Med) (w : World) (hL : RgsIn w ao L) (hz : ∀ r ∈ L, Ql.RgOk r ∧ r.m.params.length ≤ 100000 ∧ ∀ p ∈ r.m.params, p.value.size ≤ 100000) (hl : L.length ≤ 1000000) (hq : PairsIn w bo m.params) (hn2 : m.params.length = n2) (hl2 : n2 ≤ 100000) (hz2 : ∀ p ∈ m.params, p.value.size ≤ 100000) (hE : Env w) :
    Calls Tryz.prog 19 #[.agg #[.string m.ty, .string m.sub, .slice bo n2 cb], .slice ao L.length ca] w fun e w' => e = .returned (.float .f64 (Fl.W (Ql.ofL L m))) ∧ Below w.heap.size w w' := by
  obtain ⟨Q, hQ⟩ : ∃ Q, Q = Ql.ofL L m := ⟨_, rfl⟩
  rw [← hQ]
  replace hQ := Lib.hid hQ
  replace hn2 := Lib.hid hn2
  have kb := Box3.new w (.string m.ty) (.string m.sub) (.slice bo n2 cb)
  have bA : Below w.heap.size w (w.alloc (.cells #[.string m.ty, .string m.sub, .slice bo n2 cb] 40)) := (Below.refl _ _).alloc (Nat.le_refl _) _
  have hEA := hE.on bA
  go_enter Tryz.func19, Tryz.ntmps19
  go_upto_region 1 with fail
  generalize w.alloc (.cells #[.string m.ty, .string m.sub, .slice bo n2 cb] 40) = wA at *
  replace kb := Lib.hid kb
  replace bA := Lib.hid bA
  replace hE := Lib.hid hE
  replace hEA := Lib.hid hEA
  replace hz2 := Lib.hid hz2
  go_wp2_with fail
  go_loopw [5, 6, 11] (fun nv xv iv wr => ∃ (k : Nat) (o : Option Nat) (x : Nat) (nn : Int), xv = .float .f64 x ∧ nv = .int .i64 nn ∧ iv = .int .i64 k ∧ k ≤ L.length ∧ -1 ≤ nn ∧ nn ≤ 1000000 ∧ Hid (Ql.IsW o x) ∧ Hid (∀ k, o = some k → k ≤ 1000) ∧ Hid (Ql.ofL L m = Ql.clampO (Ql.ofG (L.drop k) m o nn)) ∧ Hid (Below wA.heap.size wA wr)) (fun _ _ iv _ => L.length - (intOf iv).toNat)
  case atStart => exact ⟨0, some 0, 0, -1, rfl, rfl, rfl, Nat.zero_le _, by omega, by omega, Lib.hid (show (0 : Nat) = Fl.W 0 from Fl.W_zero.symm), Lib.hid (fun k h => by injection h with h; omega), Lib.hid (by rw [List.drop_zero]; rfl), Lib.hid (Below.refl _ _)⟩
  case round =>
    obtain ⟨k, o, x, nn, rfl, rfl, rfl, hk, hn0, hn1, hx, ho, hst, bw⟩ := hrel
    by_cases hlt : k < L.length
    case neg =>
      have hki : ¬ (k : Int) < (L.length : Int) := by omega
      have hfin : Hid (Fl.clamp x = Fl.W Q) := Lib.hid (by rw [Ql.clamp_is hx.out ho.out, hQ.out, hst.out, List.drop_of_length_le (by omega)]; rfl)
      have hcl := Lib.hid (qClamp_at x wr)
      have bz := Lib.hid (bA.out.trans (bw.out.mono bA.out.size))
      go_wp2_with fail
      (refine (hcl.out).mono ?_); rintro e w1 ⟨rfl, rfl⟩
      go_wp2_with fail
      go_ret
      exact ⟨by rw [← hfin.out]; rfl, bz.out⟩
    have hki : (k : Int) < (L.length : Int) := by omega
    obtain ⟨rb, roff, y, po, pc, hae, c0, c1, c2, c3, c4, hp, hw⟩ := ((hL.below bA.out).below bw.out) k hlt
    subst hae
    obtain ⟨hok, hokl, hokz⟩ := hz _ (List.getElem_mem hlt)
    have hstp : Hid (Ql.ofL L m = Ql.clampO (if Md.fits L[k].m m = true ∧ nn < L[k].narrow then Ql.ofG (L.drop (k + 1)) m L[k].w L[k].narrow else Ql.ofG (L.drop (k + 1)) m o nn)) := Lib.hid (by
      rw [hst.out, List.drop_eq_getElem_cons hlt]; rfl)
    generalize L[k] = r at *
    obtain ⟨⟨rt, rs, ps⟩, rw_, rn⟩ := r
    dsimp only at *
    clear hst
    obtain ⟨mt, ms, qs⟩ := m
    dsimp only at *
    have hnn := hok.n
    have hww := hok.w
    dsimp only at hnn
    have R := Cells.new wr 67 #[.string rt, .string rs, .slice po ps.length pc, .float .f64 y, .int .i64 (rn : Int)]
    have bB := (Below.refl wr.heap.size wr).alloc (Nat.le_refl _) (.cells #[.string rt, .string rs, .slice po ps.length pc, .float .f64 y, .int .i64 (rn : Int)] 67)
    have hqr := hq.below bA.out
    replace hp := Lib.hid hp
    replace hqr := Lib.hid hqr
    replace hw := Lib.hid hw
    replace hL := Lib.hid hL
    replace hz := Lib.hid hz
    replace hww := Lib.hid hww
    replace hq := Lib.hid hq
    clear hok
    have hstf : ∀ (x : Nat) (a : Addr) (m : Mode) (W : World), (store a (.float .f64 x) m).run Tryz.prog W = stored Tryz.prog W a (.float .f64 x) m := fun x a m W => run_store Tryz.prog W a _ m rfl
    go_upto_region 5 with fail
    clear hstf
    generalize wr.alloc (.cells #[.string rt, .string rs, .slice po ps.length pc, .float .f64 y, .int .i64 (rn : Int)] 67) = wB at *
    have bWB := bw.out.trans (bB.mono bw.out.size)
    have q0 := R.cell (i := 0) rfl
    have q1 := R.cell (i := 1) rfl
    have q2 := R.cell (i := 2) rfl
    have q3 := R.cell (i := 3) rfl
    have q4 := R.cell (i := 4) rfl
    have kB := kb.out.on bWB
    have d0 := kB.c0
    have d1 := kB.c1
    have d2 := kB.c2
    by_cases hlg : nn < (rn : Int)
    case neg =>
      have hlg2 : ¬ nn < (rn : Int) := hlg
      have hst' := Lib.hid (by have := hstp.out; rw [if_neg (fun h => hlg h.2)] at this; exact this)
      have bW := Lib.hid bWB
      clear hstp R kB bWB bB c0 c1 c2 c3 c4 hokz
      go_wp2_with fail
      go_round
      case rel => exact ⟨k + 1, o, x, nn, rfl, rfl, by go_num, by omega, hn0, by omega, hx, ho, hst', bW⟩
      case measure => simp [intOf]; omega
    have hfit := Lib.hid (mFits_any (ca := pc) (cb := cb) rt rs mt ms ps qs wB (hp.out.below bB) rfl hokl (hqr.out.below bWB) hn2.out hl2 hokz hz2.out (hEA.out.on bWB))
    have hR := Lib.hid R
    have bW := Lib.hid bWB
    replace hstp := Lib.hid (by have := hstp.out; simp only [hlg, and_true] at this; exact this)
    generalize Md.fits ⟨rt, rs, ps⟩ ⟨mt, ms, qs⟩ = bf at *
    clear R kB bWB bB c0 c1 c2 c3 c4 hokz
    go_wp2_with fail
    (refine (hfit.out).mono ?_); rintro e w1 ⟨rfl, b1⟩
    have bW1 := Lib.hid (bW.out.trans (b1.mono bW.out.size))
    have hR1 := hR.out.on b1
    have e3 := hR1.cell (i := 3) rfl
    have e4 := hR1.cell (i := 4) rfl
    clear hfit b1 q0 q1 q2 q3 q4 d0 d1 d2 hR1
    cases bf with
    | false =>
      have hst' := Lib.hid (by have := hstp.out; rw [if_neg (by simp)] at this; exact this)
      clear hstp
      go_wp2_with fail
      go_round
      case rel => exact ⟨k + 1, o, x, nn, rfl, rfl, by go_num, by omega, hn0, by omega, hx, ho, hst', bW1⟩
      case measure => simp [intOf]; omega
    | true =>
      have hst' := Lib.hid (by have := hstp.out; rw [if_pos rfl] at this; exact this)
      clear hstp
      go_upto_region 6 with fail
      go_quiet (fail)
      all_goals
        go_wp2_with fail
        go_round
        case rel => exact ⟨k + 1, rw_, y, rn, rfl, rfl, by go_num, by omega, by omega, by omega, hw, hww, hst', Lib.hid (bW1.out.trans ⟨rfl, rfl, rfl, Nat.le_refl _, fun _ _ => rfl⟩)⟩
        case measure => simp [intOf]; omega

theorem Ql.ranges_fit {l : List UInt8} (hl : l.length ≤ 100000) : ∀ r ∈ Ql.ranges l, Ql.RgOk r ∧ r.m.params.length ≤ 100000 ∧ ∀ p ∈ r.m.params, p.value.size ≤ 100000 := by
  intro r hr
  have h0 := Ql.ranges_ok hl r hr
  obtain ⟨p, hp, e⟩ := List.mem_filterMap.1 hr
  cases hm : Md.parse p with
  | none => rw [hm] at e; cases e
  | some m =>
    rw [hm] at e
    injection e with e
    subst e
    have h1 := Md.parse_size hm
    have h2 := Md.wt_length m.params
    have h3 := (Ql.split_small l).1 p hp
    refine ⟨h0, by show m.params.length ≤ 100000; omega, fun q hq => ?_⟩
    have := Md.wt_mem (show q ∈ m.params from hq)
    omega

set_option maxRecDepth 100000 in
set_option maxHeartbeats 12800000 in
theorem qBest_any {ho : Option Addr} {cap : Nat} (s : ByteArray) (H : List Md.Med) (w : World) (hs : s.size ≤ 100000) (hH : MedsIn w ho H) (hl : H.length ≤ 100000) (hp : ∀ m ∈ H, m.params.length ≤ 100000) (hv : ∀ m ∈ H, ∀ p ∈ m.params, p.value.size ≤ 100000) (hE : Env w) :
    Calls Tryz.prog 7 #[.string s, .slice ho H.length cap] w fun e w' => e = .returned (.tuple #[.int .i64 (Ql.best s.data.toList H).1, .float .f64 (Fl.W (Ql.best s.data.toList H).2)]) ∧ Below w.heap.size w w' := by
  have hr := Lib.hid (wishes_any s w hs hE)
  obtain ⟨Q, hQ⟩ : ∃ Q, Q = Ql.best s.data.toList H := ⟨_, rfl⟩
  rw [← hQ]
  replace hQ := Lib.hid hQ
  have hzr := Lib.hid (Ql.ranges_fit (l := s.data.toList) (by have := list_len s; omega))
  replace hE := Lib.hid hE
  go_enter Tryz.func7, Tryz.ntmps7
  go_wp2_with fail
  (refine (hr.out).mono ?_); rintro e w1 ⟨ao, cap2, rfl, hR, hb⟩
  have hlr : (Ql.ranges s.data.toList).length ≤ 1000000 := by
    have h1 := (Ql.split_small s.data.toList).2
    have h2 := list_len s
    have h3 : (Ql.ranges s.data.toList).length ≤ (Ql.split s.data.toList).length := List.length_filterMap_le _ _
    omega
  have hwr : Hid (∀ r ∈ Ql.ranges s.data.toList, ∀ k, r.w = some k → k ≤ 1000) := Lib.hid (fun r h => (hzr.out r h).1.w)
  replace hQ := Lib.hid (show Q = Ql.bestG (Ql.ranges s.data.toList) H 0 (-1) 0 from hQ.out)
  generalize Ql.ranges s.data.toList = L at *
  have hE1 := Lib.hid (hE.out.on hb)
  replace hR := Lib.hid hR
  replace hb := Lib.hid hb
  replace hp := Lib.hid hp
  replace hv := Lib.hid hv
  clear hr hs
  go_wp2_with fail
  go_loopw [4, 5, 14] (fun av xv iv wr => ∃ (k : Nat) (a : Int) (x : Nat), av = .int .i64 a ∧ xv = .float .f64 (Fl.W x) ∧ iv = .int .i64 k ∧ k ≤ H.length ∧ Hid (-1 ≤ a ∧ a ≤ k ∧ x ≤ 1000) ∧ Hid (Q = Ql.bestG L (H.drop k) k a x) ∧ Hid (Below w1.heap.size w1 wr)) (fun _ _ iv _ => H.length - (intOf iv).toNat)
  case atStart => exact ⟨0, -1, 0, rfl, by rw [Fl.W_zero], rfl, Nat.zero_le _, Lib.hid ⟨by omega, by omega, by omega⟩, Lib.hid (by rw [List.drop_zero]; exact hQ.out), Lib.hid (Below.refl _ _)⟩
  case round =>
    obtain ⟨k, a, x, rfl, rfl, rfl, hk, hax, hst, bw⟩ := hrel
    by_cases hlt : k < H.length
    case neg =>
      have hki : ¬ (k : Int) < (H.length : Int) := by omega
      have hfin : Hid (Q = (a, x)) := Lib.hid (by rw [hst.out, List.drop_of_length_le (by omega)]; rfl)
      have bz := Lib.hid (hb.out.trans (bw.out.mono hb.out.size))
      go_wp2_with fail
      go_ret2
      exact ⟨by rw [hfin.out]; rfl, bz.out⟩
    have hki : (k : Int) < (H.length : Int) := by omega
    obtain ⟨rb, roff, po, pc, hae, c0, c1, c2, hps⟩ := ((hH.below hb.out).below bw.out) k hlt
    subst hae
    have hst' := Lib.hid (hst.out.trans (show Ql.bestG L (H.drop k) k a x = if x < Ql.ofL L H[k] then Ql.bestG L (H.drop (k + 1)) (k + 1) k (Ql.ofL L H[k]) else Ql.bestG L (H.drop (k + 1)) (k + 1) a x by rw [List.drop_eq_getElem_cons hlt]; rfl))
    have hm1 := hp.out _ (List.getElem_mem hlt)
    have hm2 := hv.out _ (List.getElem_mem hlt)
    have kb := Box3.new wr (.string H[k].ty) (.string H[k].sub) (.slice po H[k].params.length pc)
    have bB := (Below.refl wr.heap.size wr).alloc (Nat.le_refl _) (.cells #[.string H[k].ty, .string H[k].sub, .slice po H[k].params.length pc] 40)
    have hof := Lib.hid (fun (W : World) (b : Below wr.heap.size wr W) => weightOf_any (ca := cap2) (cb := pc) L H[k] W ((hR.out.below bw.out).below b) hzr.out hlr (hps.below b) rfl hm1 hm2 ((hE1.out.on bw.out).on b))
    have hol := Ql.ofL_le H[k] hwr.out
    generalize hoq : Ql.ofL L H[k] = y at *
    have hgt := Lib.hid (Fl.ahead_W hol hax.out.2.2)
    clear hoq hst hm1 hm2 hps
    generalize H[k] = m at *
    obtain ⟨mt, ms, qs⟩ := m
    dsimp only at *
    go_upto_region 6 with fail
    generalize wr.alloc (.cells #[.string mt, .string ms, .slice po qs.length pc] 40) = wB at *
    have d0 := kb.c0
    have d1 := kb.c1
    have d2 := kb.c2
    have hofB := Lib.hid (hof.out wB bB)
    have bWB := Lib.hid (bw.out.trans (bB.mono bw.out.size))
    clear hof c0 c1 c2 bw hH kb bB
    go_wp2_with fail
    (refine (hofB.out).mono ?_); rintro e w2 ⟨rfl, b2⟩
    have bw' := Lib.hid (bWB.out.trans (b2.mono bWB.out.size))
    have hah := Lib.hid (qAhead_at (Fl.W y) (Fl.W x) w2)
    rw [hgt.out] at hah
    clear hofB b2 bWB d0 d1 d2
    go_wp2_with fail
    (refine (hah.out).mono ?_); rintro e w3 ⟨rfl, rfl⟩
    clear hah
    by_cases hyx : x < y
    · rw [decide_eq_true hyx]
      have hq' := Lib.hid (by have := hst'.out; rw [if_pos hyx] at this; exact this)
      clear hst'
      go_wp2_with fail
      go_round
      case rel => exact ⟨k + 1, k, y, rfl, rfl, by go_num, by omega, Lib.hid ⟨by omega, by omega, hol⟩, hq', bw'⟩
      case measure => simp [intOf]; omega
    · rw [decide_eq_false hyx]
      have hq' := Lib.hid (by have := hst'.out; rw [if_neg hyx] at this; exact this)
      clear hst'
      go_wp2_with fail
      go_round
      case rel => exact ⟨k + 1, a, x, rfl, rfl, by go_num, by omega, Lib.hid ⟨hax.out.1, by have := hax.out.2.1; omega, hax.out.2.2⟩, hq', bw'⟩
      case measure => simp [intOf]; omega

theorem qAhead_any (x y : Nat) (w : World) (_ : Env w) :
    Calls Tryz.prog 20 #[.float .f64 x, .float .f64 y] w fun e w' => e = .returned (.bool (Fl.ahead x y)) ∧ Below w.heap.size w w' :=
  (qAhead_at x y w).mono fun _ _ ⟨h, e⟩ => ⟨h, e ▸ Below.refl _ _⟩
theorem qClamp_any (x : Nat) (w : World) (_ : Env w) :
    Calls Tryz.prog 17 #[.float .f64 x] w fun e w' => e = .returned (.float .f64 (Fl.clamp x)) ∧ Below w.heap.size w w' :=
  (qClamp_at x w).mono fun _ _ ⟨h, e⟩ => ⟨h, e ▸ Below.refl _ _⟩
theorem qSplit_any (s : ByteArray) (w : World) (hs : s.size ≤ 100000) (_ : Env w) :
    Calls Tryz.prog 13 #[.string s] w fun e w' => ∃ ao cap, e = .returned (.slice ao (Ql.split s.data.toList).length cap) ∧ TextsIn w' ao (Ql.split s.data.toList) ∧ Below w.heap.size w w' :=
  qSplit_at s w hs
end Go.Proofs.YtpgdmoaegnehbaaGreatDoor
