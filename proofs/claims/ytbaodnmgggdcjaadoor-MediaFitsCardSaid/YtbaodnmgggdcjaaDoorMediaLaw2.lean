/-
  The statements' walks: few, MediaFits, MediaTexts.
-/
import Derived.Test.YtbaodnmgggdcjaaDoorMediaLaw
import Derived.IntWalk
namespace Go.Proofs.YtbaodnmgggdcjaaDoor
open Go.RowKit

def wt1 : List Pair → Nat
  | [] => 0
  | p :: l => p.name.size + p.value.size + 1 + wt1 l
theorem wt1_app (l m : List Pair) : wt1 (l ++ m) = wt1 l + wt1 m := by
  induction l with
  | nil => simp [wt1]
  | cons p l ih => simp only [List.cons_append, wt1, ih]; omega
theorem wt1_take (l : List Pair) (k : Nat) (h : k < l.length) : wt1 (l.take (k + 1)) = wt1 (l.take k) + l[k].name.size + l[k].value.size + 1 := by
  rw [List.take_succ_eq_append_getElem h, wt1_app]; simp only [wt1]; omega
theorem wt1_le (l : List Pair) (k : Nat) : wt1 (l.take k) ≤ wt1 l := by
  have := congrArg wt1 (List.take_append_drop k l)
  rw [wt1_app] at this; omega
def fewB (x y : ByteArray) (ps : List Pair) : Bool := decide (x.size + y.size + wt1 ps ≤ 1000)
theorem wt_wt1 (ps : List Pair) : Md.wt ps ≤ 2 * wt1 ps := by
  induction ps with
  | nil => simp [Md.wt]
  | cons p l ih => simp only [Md.wt, wt1]; omega
theorem few_wt {x y : ByteArray} {ps : List Pair} (h : fewB x y ps = true) : x.size ≤ 1000 ∧ y.size ≤ 1000 ∧ Md.wt ps ≤ 2000 := by
  unfold fewB at h
  have h := of_decide_eq_true h
  have := wt_wt1 ps
  omega

set_option maxRecDepth 100000 in
set_option maxHeartbeats 1600000 in
theorem few_any {ao : Option Addr} {cap n : Nat} (x y : ByteArray) (ps : List Pair) (w : World) (hp : PairsIn w ao ps) (hn : ps.length = n) (hl : n ≤ maxLen) (hx : x.size ≤ 140737488355328) (hy : y.size ≤ 140737488355328) (hz : ∀ p ∈ ps, p.name.size ≤ 140737488355328 ∧ p.value.size ≤ 140737488355328) :
    Calls Tryd.prog 13 #[.agg #[.string x, .string y, .slice ao n cap]] w fun e w' => e = .returned (.bool (fewB x y ps)) ∧ Below w.heap.size w w' := by
  unfold maxLen at hl
  replace hn := Lib.hid hn
  replace hz := Lib.hid hz
  have bA : Below w.heap.size w (w.alloc (.cells #[.string x, .string y, .slice ao n cap] 25)) := (Below.refl _ _).alloc (Nat.le_refl _) _
  have k0 := Box3.new w (.string x) (.string y) (.slice ao n cap)
  have hp2 := hp.below bA
  have c0 := k0.c0
  have c1 := k0.c1
  have c2 := k0.c2
  clear k0 hp
  go_enter Tryd.func13, Tryd.ntmps13
  obtain ⟨wA, hA⟩ : ∃ wA, (w.alloc (.cells #[.string x, .string y, .slice ao n cap] 25)) = wA := ⟨_, rfl⟩
  rw [hA] at bA hp2 c0 c1 c2
  go_wp2_with fail
  clear hA
  go_loopw [3, 4] (fun v i wr => ∃ (k N : Nat), k ≤ n ∧ i = .int .i64 (k : Int) ∧ v = .int .i64 (N : Int) ∧ N ≤ 600000000000000 ∧ Hid (N = x.size + y.size + wt1 (ps.take k)) ∧ Below wA.heap.size wA wr) (fun _ i _ => n - (intOf i).toNat)
  case atStart => exact ⟨0, x.size + y.size, Nat.zero_le _, rfl, by go_num, by omega, Lib.hid (by simp [wt1]), Below.refl _ _⟩
  case round =>
    obtain ⟨k, N, hk, rfl, rfl, hN, hw, bw⟩ := hrel
    have on := fun {a : Addr} {x : Value} (hx : wA.cell? a = some x) => (bw.cell (World.block_lt_of_cell? wA _ hx)).trans hx
    have e2 := on c2
    clear on c0 c1 c2
    by_cases hlt : k < n
    · by_cases h1000 : N ≤ 1000
      · have hkl : k < ps.length := by rw [hn.out]; exact hlt
        obtain ⟨b, off, rfl, v0, v1⟩ := (hp2.below bw) k hkl
        have hst := wt1_take ps k hkl
        obtain ⟨z1, z2⟩ := hz.out ps[k] (List.getElem_mem hkl)
        generalize ps[k] = a at *
        obtain ⟨an, av⟩ := a
        dsimp only at *
        have g5 : (k : Int) < (n : Int) := by omega
        have w1 : IntKind.i64.wrap ((N : Int) + (an.size : Int)) = (N : Int) + (an.size : Int) := IntWalk.i64_in _ (by omega)
        have w2 : IntKind.i64.wrap ((N : Int) + (an.size : Int) + (av.size : Int)) = (N : Int) + (an.size : Int) + (av.size : Int) := IntWalk.i64_in _ (by omega)
        have w3 : IntKind.i64.wrap ((N : Int) + (an.size : Int) + (av.size : Int) + 1) = (N : Int) + (an.size : Int) + (av.size : Int) + 1 := IntWalk.i64_in _ (by omega)
        have hst2 : Hid (N + an.size + av.size + 1 = x.size + y.size + wt1 (ps.take (k + 1))) := Lib.hid (by rw [hst, hw.out]; omega)
        have hb : N + an.size + av.size + 1 ≤ 600000000000000 := by omega
        clear hst
        go_wp2_with fail
        go_quiet (fail)
        clear w1 w2 w3
        go_wp2_with fail
        go_roundw
        case rel => exact ⟨k + 1, N + an.size + av.size + 1, by omega, by go_num, by go_num, hb, hst2, below_drewN bw _⟩
        case measure => simp [intOf]; omega
      · have hr : Hid (fewB x y ps = false) := Lib.hid (by
          unfold fewB
          have := wt1_le ps k
          have := hw.out
          exact decide_eq_false (by omega))
        go_wp2_with fail
        go_ret
        exact ⟨ret_bool (by rw [hr.out]; simp; omega), bA.trans (bw.mono bA.size)⟩
    · have hr : Hid (fewB x y ps = decide (N ≤ 1000)) := Lib.hid (by
        unfold fewB
        rw [hw.out, List.take_of_length_le (by rw [hn.out]; omega)])
      go_wp2_with fail
      go_ret
      exact ⟨ret_bool (by rw [hr.out]; simp; omega), bA.trans (bw.mono bA.size)⟩

set_option maxRecDepth 100000 in
set_option maxHeartbeats 12800000 in
theorem fits_any {ao bo : Option Addr} {ca cb n n2 : Nat} (rt rs mt ms nm : ByteArray) (ps qs : List Pair) (w : World) (hp : PairsIn w ao ps) (hn : ps.length = n) (hl0 : n ≤ maxLen) (hq : PairsIn w bo qs) (hn2 : qs.length = n2) (hl20 : n2 ≤ maxLen)
    (z1 : rt.size ≤ 140737488355328) (z2 : rs.size ≤ 140737488355328) (z3 : ∀ p ∈ ps, p.name.size ≤ 140737488355328 ∧ p.value.size ≤ 140737488355328)
    (z4 : mt.size ≤ 140737488355328) (z5 : ms.size ≤ 140737488355328) (z6 : ∀ p ∈ qs, p.name.size ≤ 140737488355328 ∧ p.value.size ≤ 140737488355328) (hE : Env w) :
    Calls Tryd.prog 4 #[.agg #[.string rt, .string rs, .slice ao n ca], .agg #[.string mt, .string ms, .slice bo n2 cb], .string nm] w fun e w' => e = .returned (.bool true) ∧ Below w.heap.size w w' := by
  replace hn := Lib.hid hn
  replace hn2 := Lib.hid hn2
  replace z3 := Lib.hid z3
  replace z6 := Lib.hid z6
  have b1 := (Below.refl w.heap.size w).alloc (Nat.le_refl _) (.cells #[.string rt, .string rs, .slice ao n ca] 25)
  have bA := b1.alloc (by simp) (.cells #[.string mt, .string ms, .slice bo n2 cb] 25)
  have p0 := Box3.new w (.string rt) (.string rs) (.slice ao n ca)
  have q1 := Box3.new (w.alloc (.cells #[.string rt, .string rs, .slice ao n ca] 25)) (.string mt) (.string ms) (.slice bo n2 cb)
  have p1 := p0.on ((Below.refl _ _).alloc (Nat.le_refl _) (.cells #[.string mt, .string ms, .slice bo n2 cb] 25))
  have hsz : (w.alloc (.cells #[.string rt, .string rs, .slice ao n ca] 25)).heap.size = w.heap.size + 1 := by simp
  rw [hsz] at q1
  have hpA := Lib.hid (hp.below bA)
  have hqA := Lib.hid (hq.below bA)
  clear hsz p0 b1 hp hq
  go_enter Tryd.func4, Tryd.ntmps4
  obtain ⟨wA, hA⟩ : ∃ wA, ((w.alloc (.cells #[.string rt, .string rs, .slice ao n ca] 25)).alloc (.cells #[.string mt, .string ms, .slice bo n2 cb] 25)) = wA := ⟨_, rfl⟩
  rw [hA] at bA hpA hqA p1 q1
  replace bA := Lib.hid bA
  have kp := Lib.hid p1
  have kq := Lib.hid q1
  have c0 := p1.c0
  have c1 := p1.c1
  have c2 := p1.c2
  have d0 := q1.c0
  have d1 := q1.c1
  have d2 := q1.c2
  clear p1 q1
  go_wp2_with fail
  clear hA
  (with_reducible refine (few_any rt rs ps _ hpA.out hn.out hl0 z1 z2 z3.out).mono ?_); rintro e w2 ⟨rfl, b2⟩
  have hX := Lib.hid (bA.out.trans (b2.mono bA.out.size))
  have hP := Lib.hid (hpA.out.below b2)
  have hQ := Lib.hid (hqA.out.below b2)
  replace kp := Lib.hid (kp.out.on b2)
  replace kq := Lib.hid (kq.out.on b2)
  clear b2 c0 c1 c2 d0 d1 d2 bA hpA hqA
  cases hf1 : fewB rt rs ps
  · replace hf1 := Lib.hid hf1
    go_wp2_with fail
    (with_reducible refine (awake_any _ (hE.on hX.out)).mono ?_); rintro e w3 ⟨rfl, b3⟩
    go_wp2
    go_ret
    exact ⟨rfl, hX.out.trans (b3.mono hX.out.size)⟩
  have d0 := kq.out.c0
  have d1 := kq.out.c1
  have d2 := kq.out.c2
  go_wp2_with fail
  (with_reducible refine (few_any mt ms qs _ hQ.out hn2.out hl20 z4 z5 z6.out).mono ?_); rintro e w3 ⟨rfl, b3⟩
  replace hP := Lib.hid (hP.out.below b3)
  replace hQ := Lib.hid (hQ.out.below b3)
  replace kp := Lib.hid (kp.out.on b3)
  replace kq := Lib.hid (kq.out.on b3)
  replace hX := Lib.hid (hX.out.trans (b3.mono hX.out.size))
  clear b3 d0 d1 d2
  cases hf2 : fewB mt ms qs
  · replace hf2 := Lib.hid hf2
    go_wp2_with fail
    (with_reducible refine (awake_any _ (hE.on hX.out)).mono ?_); rintro e w4 ⟨rfl, b4⟩
    go_wp2
    go_ret
    exact ⟨rfl, hX.out.trans (b4.mono hX.out.size)⟩
  obtain ⟨-, -, g1⟩ := few_wt hf1
  obtain ⟨hmt, hms, g2⟩ := few_wt hf2
  obtain ⟨hl, hz, hzp⟩ := wt_pairs (c := 2000) g1 (by decide)
  obtain ⟨hl2, hz2, hz2p⟩ := wt_pairs (c := 2000) g2 (by decide)
  rw [hn.out] at hl
  rw [hn2.out] at hl2
  have hmt : mt.size ≤ 100000 := by omega
  have hms : ms.size ≤ 100000 := by omega
  have hlm : n ≤ maxLen := hl0
  have hl2m : n2 ≤ maxLen := hl20
  have hzb := Lib.hid (fun p hp => Nat.le_trans (hz p hp) (show 100000 ≤ 70368744177664 by decide))
  have hz2b := Lib.hid (fun p hp => Nat.le_trans (hz2 p hp) (show 100000 ≤ 70368744177664 by decide))
  replace hz := Lib.hid hz
  replace hz2 := Lib.hid hz2
  replace hz2p := Lib.hid hz2p
  clear hf1 hf2 hzp z3 z6
  have d0 := kq.out.c0
  have d1 := kq.out.c1
  have d2 := kq.out.c2
  go_wp2_with fail
  (with_reducible refine (mParam_any mt ms qs nm _ hQ.out hn2.out hl2 (hE.on hX.out)).mono ?_); rintro e w4 ⟨rfl, b4⟩
  have hpr := refParam_any (ao := bo) (cap := cb) (n := n2) (.string mt) (.string ms) qs nm
  generalize paA qs nm = pa at *
  generalize paB qs nm = pb at *
  replace hP := Lib.hid (hP.out.below b4)
  replace hQ := Lib.hid (hQ.out.below b4)
  replace kp := Lib.hid (kp.out.on b4)
  replace kq := Lib.hid (kq.out.on b4)
  replace hX := Lib.hid (hX.out.trans (b4.mono hX.out.size))
  clear b4 d0 d1 d2
  have d0 := kq.out.c0
  have d1 := kq.out.c1
  have d2 := kq.out.c2
  go_wp2_with fail
  (with_reducible refine (hpr _ hQ.out hn2.out hl2m).mono ?_); rintro e w5 ⟨rfl, b5⟩
  replace hP := Lib.hid (hP.out.below b5)
  replace hQ := Lib.hid (hQ.out.below b5)
  replace kp := Lib.hid (kp.out.on b5)
  replace kq := Lib.hid (kq.out.on b5)
  replace hX := Lib.hid (hX.out.trans (b5.mono hX.out.size))
  clear b5 d0 d1 d2 hpr
  have c0 := kp.out.c0
  have c1 := kp.out.c1
  have c2 := kp.out.c2
  have d0 := kq.out.c0
  have d1 := kq.out.c1
  have d2 := kq.out.c2
  go_wp2_with fail
  go_region_held3 (fun w' => w'.cell? ⟨w.heap.size, 0, none⟩ = some (.string rt) ∧ w'.cell? ⟨w.heap.size, 1, none⟩ = some (.string rs) ∧ w'.cell? ⟨w.heap.size, 2, none⟩ = some (.slice ao n ca) ∧ w'.cell? ⟨w.heap.size + 1, 0, none⟩ = some (.string mt) ∧ w'.cell? ⟨w.heap.size + 1, 1, none⟩ = some (.string ms) ∧ w'.cell? ⟨w.heap.size + 1, 2, none⟩ = some (.slice bo n2 cb) ∧ Below w5.heap.size w5 w') (first | exact ⟨c0, c1, c2, d0, d1, d2, (Below.refl _ _).drew⟩ | assumption)
    (first
      | (go_at_call 9; refine (keep6 (w0 := w5) (a0 := ⟨w.heap.size, 0, none⟩) (a1 := ⟨w.heap.size, 1, none⟩) (a2 := ⟨w.heap.size, 2, none⟩) (a3 := ⟨w.heap.size + 1, 0, none⟩) (a4 := ⟨w.heap.size + 1, 1, none⟩) (a5 := ⟨w.heap.size + 1, 2, none⟩) (x0 := .string rt) (x1 := .string rs) (x2 := .slice ao n ca) (x3 := .string mt) (x4 := .string ms) (x5 := .slice bo n2 cb) (fun W hb => awake_any W (hE.on (hX.out.trans (hb.mono hX.out.size)))) ?_).mono ?_; assumption; rintro e w' ⟨rfl, hcb⟩)
      | (go_at_call 16; refine (keep6 (w0 := w5) (a0 := ⟨w.heap.size, 0, none⟩) (a1 := ⟨w.heap.size, 1, none⟩) (a2 := ⟨w.heap.size, 2, none⟩) (a3 := ⟨w.heap.size + 1, 0, none⟩) (a4 := ⟨w.heap.size + 1, 1, none⟩) (a5 := ⟨w.heap.size + 1, 2, none⟩) (x0 := .string rt) (x1 := .string rs) (x2 := .slice ao n ca) (x3 := .string mt) (x4 := .string ms) (x5 := .slice bo n2 cb) (fun W hb => mFits_any rt rs mt ms ps qs W (hP.out.below hb) hn.out hl (hQ.out.below hb) hn2.out hl2 hz.out hz2.out (hE.on (hX.out.trans (hb.mono hX.out.size)))) ?_).mono ?_; assumption; rintro e w' ⟨rfl, hcb⟩)
      | (go_at_call 17; refine (keep6 (w0 := w5) (a0 := ⟨w.heap.size, 0, none⟩) (a1 := ⟨w.heap.size, 1, none⟩) (a2 := ⟨w.heap.size, 2, none⟩) (a3 := ⟨w.heap.size + 1, 0, none⟩) (a4 := ⟨w.heap.size + 1, 1, none⟩) (a5 := ⟨w.heap.size + 1, 2, none⟩) (x0 := .string rt) (x1 := .string rs) (x2 := .slice ao n ca) (x3 := .string mt) (x4 := .string ms) (x5 := .slice bo n2 cb) (fun W hb => refFits_any rt rs mt ms ps qs W (hP.out.below hb) hn.out hlm (hQ.out.below hb) hn2.out hl2m hzb.out hz2b.out) ?_).mono ?_; assumption; rintro e w' ⟨rfl, hcb⟩)
      | (go_at_call 18; refine (keep6 (w0 := w5) (a0 := ⟨w.heap.size, 0, none⟩) (a1 := ⟨w.heap.size, 1, none⟩) (a2 := ⟨w.heap.size, 2, none⟩) (a3 := ⟨w.heap.size + 1, 0, none⟩) (a4 := ⟨w.heap.size + 1, 1, none⟩) (a5 := ⟨w.heap.size + 1, 2, none⟩) (x0 := .string rt) (x1 := .string rs) (x2 := .slice ao n ca) (x3 := .string mt) (x4 := .string ms) (x5 := .slice bo n2 cb) (fun W hb => mPrint_any mt ms qs W (hQ.out.below hb) hn2.out hl2 hmt hms hz2p.out (hE.on (hX.out.trans (hb.mono hX.out.size)))) ?_).mono ?_; assumption; rintro e w' ⟨rfl, hcb⟩)
      | (go_at_call 19; refine (keep6 (w0 := w5) (a0 := ⟨w.heap.size, 0, none⟩) (a1 := ⟨w.heap.size, 1, none⟩) (a2 := ⟨w.heap.size, 2, none⟩) (a3 := ⟨w.heap.size + 1, 0, none⟩) (a4 := ⟨w.heap.size + 1, 1, none⟩) (a5 := ⟨w.heap.size + 1, 2, none⟩) (x0 := .string rt) (x1 := .string rs) (x2 := .slice ao n ca) (x3 := .string mt) (x4 := .string ms) (x5 := .slice bo n2 cb) (fun W hb => refMPrint_any mt ms qs W (hQ.out.below hb) hn2.out hl2 hmt hms hz2p.out) ?_).mono ?_; assumption; rintro e w' ⟨rfl, hcb⟩))
  all_goals
    obtain ⟨-, -, -, -, -, -, b6⟩ := hcb
    go_wp2
    go_ret
    exact ⟨rfl, hX.out.trans (b6.mono hX.out.size)⟩
end Go.Proofs.YtbaodnmgggdcjaaDoor
