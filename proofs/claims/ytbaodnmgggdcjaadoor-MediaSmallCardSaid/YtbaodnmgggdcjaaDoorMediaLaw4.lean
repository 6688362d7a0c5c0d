/-
  The statements' walks: MediaWide.
-/
import Derived.Test.YtbaodnmgggdcjaaDoorMediaLaw3
namespace Go.Proofs.YtbaodnmgggdcjaaDoor
open Go.RowKit

/-- no name twice among the first i. -/
def OnceTo (l : List Pair) (i : Nat) : Prop := ∀ a b (ha : a < l.length) (hb : b < l.length), a < i → b < a → l[a].name ≠ l[b].name
theorem onceTo_all {l : List Pair} (h : OnceTo l l.length) : Md.once l := fun a b ha hb hab => h a b ha hb ha hab
def NewAt (l : List Pair) (i k : Nat) : Prop := ∀ (hi : i < l.length) b (hb : b < l.length), b < k → l[i].name ≠ l[b].name
theorem onceTo_step {l : List Pair} {i : Nat} (h : OnceTo l i) (hn : NewAt l i i) : OnceTo l (i + 1) := fun a b ha hb hai hba => by
  by_cases e : a = i
  · subst e; exact hn ha b hb hba
  · exact h a b ha hb (by omega) hba
theorem newAt_step {l : List Pair} {i k : Nat} (hi : i < l.length) (hk : k < l.length) (h : NewAt l i k) (hne : l[i].name ≠ l[k].name) : NewAt l i (k + 1) := fun hi' b hb hbk => by
  by_cases e : b = k
  · subst e; exact hne
  · exact h hi' b hb (by omega)

set_option maxRecDepth 100000 in
set_option maxHeartbeats 12800000 in
theorem wide_any {ao bo : Option Addr} {ca cb n n2 : Nat} (rt rs mt ms : ByteArray) (ps qs : List Pair) (w : World) (hp : PairsIn w ao ps) (hn : ps.length = n) (hl0 : n ≤ maxLen) (hq : PairsIn w bo qs) (hn2 : qs.length = n2) (hl20 : n2 ≤ maxLen)
    (z1 : rt.size ≤ 140737488355328) (z2 : rs.size ≤ 140737488355328) (z3 : ∀ p ∈ ps, p.name.size ≤ 140737488355328 ∧ p.value.size ≤ 140737488355328)
    (z4 : mt.size ≤ 140737488355328) (z5 : ms.size ≤ 140737488355328) (z6 : ∀ p ∈ qs, p.name.size ≤ 140737488355328 ∧ p.value.size ≤ 140737488355328) (hE : Env w) :
    Calls Tryd.prog 7 #[.agg #[.string rt, .string rs, .slice ao n ca], .agg #[.string mt, .string ms, .slice bo n2 cb]] w fun e w' => e = .returned (.bool true) ∧ Below w.heap.size w w' := by
  replace hn := Lib.hid hn
  replace hn2 := Lib.hid hn2
  replace z3 := Lib.hid z3
  replace z6 := Lib.hid z6
  have b1 := (Below.refl w.heap.size w).alloc (Nat.le_refl _) (.cells #[.string rt, .string rs, .slice ao n ca] 25)
  have bA := b1.alloc (by simp) (.cells #[.string mt, .string ms, .slice bo n2 cb] 25)
  have p0 := Box3.new w (.string rt) (.string rs) (.slice ao n ca)
  have q1 := Box3.new (w.alloc (.cells #[.string rt, .string rs, .slice ao n ca] 25)) (.string mt) (.string ms) (.slice bo n2 cb)
  have p1 := p0.on ((Below.refl _ _).alloc (Nat.le_refl _) (.cells #[.string mt, .string ms, .slice bo n2 cb] 25))
  have hsz : (w.alloc (.cells #[.string rt, .string rs, .slice ao n ca] 25)).heap.size = w.heap.size + 1 := by simp
  rw [hsz] at q1
  have hpA := Lib.hid (hp.below bA)
  have hqA := Lib.hid (hq.below bA)
  clear hsz p0 b1 hp hq
  go_enter Tryd.func7, Tryd.ntmps7
  obtain ⟨wA, hA⟩ : ∃ wA, ((w.alloc (.cells #[.string rt, .string rs, .slice ao n ca] 25)).alloc (.cells #[.string mt, .string ms, .slice bo n2 cb] 25)) = wA := ⟨_, rfl⟩
  rw [hA] at bA hpA hqA p1 q1
  replace bA := Lib.hid bA
  have kp := Lib.hid p1
  have kq := Lib.hid q1
  clear p1 q1
  go_wp2_with fail
  clear hA
  (with_reducible refine (awake_any _ (hE.on bA.out)).mono ?_); rintro e w0 ⟨rfl, b0⟩
  have hX := Lib.hid (bA.out.trans (b0.mono bA.out.size))
  have hP := Lib.hid (hpA.out.below b0)
  have hQ := Lib.hid (hqA.out.below b0)
  replace kp := Lib.hid (kp.out.on b0)
  replace kq := Lib.hid (kq.out.on b0)
  clear b0 bA hpA hqA
  have c0 := kp.out.c0
  have c1 := kp.out.c1
  have c2 := kp.out.c2
  go_wp2_with fail
  (with_reducible refine (few_any rt rs ps _ hP.out hn.out hl0 z1 z2 z3.out).mono ?_); rintro e w2 ⟨rfl, b2⟩
  replace hX := Lib.hid (hX.out.trans (b2.mono hX.out.size))
  replace hP := Lib.hid (hP.out.below b2)
  replace hQ := Lib.hid (hQ.out.below b2)
  replace kp := Lib.hid (kp.out.on b2)
  replace kq := Lib.hid (kq.out.on b2)
  clear b2 c0 c1 c2
  cases hf1 : fewB rt rs ps
  · replace hf1 := Lib.hid hf1
    go_wp2
    go_ret
    exact ⟨rfl, hX.out⟩
  have d0 := kq.out.c0
  have d1 := kq.out.c1
  have d2 := kq.out.c2
  go_wp2_with fail
  (with_reducible refine (few_any mt ms qs _ hQ.out hn2.out hl20 z4 z5 z6.out).mono ?_); rintro e w3 ⟨rfl, b3⟩
  replace hX := Lib.hid (hX.out.trans (b3.mono hX.out.size))
  replace hP := Lib.hid (hP.out.below b3)
  replace hQ := Lib.hid (hQ.out.below b3)
  replace kp := Lib.hid (kp.out.on b3)
  replace kq := Lib.hid (kq.out.on b3)
  clear b3 d0 d1 d2
  cases hf2 : fewB mt ms qs
  · replace hf2 := Lib.hid hf2
    go_wp2
    go_ret
    exact ⟨rfl, hX.out⟩
  obtain ⟨-, -, g1⟩ := few_wt hf1
  obtain ⟨-, -, g2⟩ := few_wt hf2
  obtain ⟨hl, hz, -⟩ := wt_pairs (c := 2000) g1 (by decide)
  obtain ⟨hl2, hz2, -⟩ := wt_pairs (c := 2000) g2 (by decide)
  rw [hn.out] at hl
  rw [hn2.out] at hl2
  replace hz := Lib.hid hz
  replace hz2 := Lib.hid hz2
  clear hf1 hf2 z3 z6 g1 g2
  have c0 := kp.out.c0
  have c1 := kp.out.c1
  have c2 := kp.out.c2
  have d0 := kq.out.c0
  have d1 := kq.out.c1
  have d2 := kq.out.c2
  go_wp2_with fail
  (with_reducible refine (mFits_any rt rs mt ms ps qs _ hP.out hn.out hl hQ.out hn2.out hl2 hz.out hz2.out (hE.on hX.out)).mono ?_); rintro e w4 ⟨rfl, b4⟩
  have hwide := Lib.hid (@Md.fits_wide ⟨rt, rs, ps⟩ ⟨mt, ms, qs⟩)
  have hstars := Lib.hid (Md.fits_stars ⟨mt, ms, qs⟩)
  have hself := Lib.hid (@Md.fits_self ⟨mt, ms, qs⟩)
  replace hX := Lib.hid (hX.out.trans (b4.mono hX.out.size))
  replace hP := Lib.hid (hP.out.below b4)
  replace hQ := Lib.hid (hQ.out.below b4)
  replace kp := Lib.hid (kp.out.on b4)
  replace kq := Lib.hid (kq.out.on b4)
  clear b4 c0 c1 c2 d0 d1 d2
  cases hf : Md.fits ⟨rt, rs, ps⟩ ⟨mt, ms, qs⟩
  case' true =>
    obtain ⟨t1, t2⟩ := hwide.out hf
    dsimp only at t1 t2
    replace t1 := Lib.hid t1
    replace t2 := Lib.hid t2
    replace hf := Lib.hid hf
    have c0 := kp.out.c0
    have c1 := kp.out.c1
    have d0 := kq.out.c0
    have d1 := kq.out.c1
    have d2 := kq.out.c2
    go_wp2_with fail
    (with_reducible refine (mFits_any (n := 0) rt rs mt ms [] qs _ (pairsIn_nil _ _) rfl (by decide) hQ.out hn2.out hl2 nil_small hz2.out (hE.on hX.out)).mono ?_); rintro e w5 ⟨rfl, b5⟩
    rw [t1.out]
    replace hX := Lib.hid (hX.out.trans (b5.mono hX.out.size))
    replace hQ := Lib.hid (hQ.out.below b5)
    replace kq := Lib.hid (kq.out.on b5)
    clear b5 c0 c1 d0 d1 d2 hP kp
    have d0 := kq.out.c0
    have d1 := kq.out.c1
    have d2 := kq.out.c2
    go_wp2_with fail
    (with_reducible refine (mFits_any (n := 0) mt ⟨#[42]⟩ mt ms [] qs _ (pairsIn_nil _ _) rfl (by decide) hQ.out hn2.out hl2 nil_small hz2.out (hE.on hX.out)).mono ?_); rintro e w6 ⟨rfl, b6⟩
    rw [show Md.fits ⟨mt, ⟨#[42]⟩, []⟩ ⟨mt, ms, qs⟩ = true from t2.out]
    replace hX := Lib.hid (hX.out.trans (b6.mono hX.out.size))
    replace hQ := Lib.hid (hQ.out.below b6)
    replace kq := Lib.hid (kq.out.on b6)
    clear b6 d0 d1 d2 t1 t2
    generalize w6 = W0 at *
  case' false =>
    replace hf := Lib.hid hf
    clear hP kp
    generalize w4 = W0 at *
  all_goals
    clear hwide hf
    have d0 := kq.out.c0
    have d1 := kq.out.c1
    have d2 := kq.out.c2
    go_wp2_with fail
    go_loopw [6, 7, 8] (fun v i _ wr => ∃ (k : Nat) (b : Bool), k ≤ n2 ∧ i = .int .i64 (k : Int) ∧ v = .bool b ∧ Hid (b = true → OnceTo qs k) ∧ Below W0.heap.size W0 wr) (fun _ i _ _ => n2 - (intOf i).toNat)
    case atStart => exact ⟨0, true, Nat.zero_le _, rfl, rfl, Lib.hid (fun _ a b ha hb hai => absurd hai (by omega)), Below.refl _ _⟩
    case round =>
      obtain ⟨i, b, hi, rfl, rfl, ho, bw⟩ := hrel
      replace kq := Lib.hid (kq.out.on bw)
      replace hQ := Lib.hid (hQ.out.below bw)
      replace hX := Lib.hid (hX.out.trans (bw.mono hX.out.size))
      clear d0 d1 d2
      have d0 := kq.out.c0
      have d1 := kq.out.c1
      have d2 := kq.out.c2
      by_cases hlt : i < n2
      · have hil : i < qs.length := by rw [hn2.out]; exact hlt
        go_wp2_with fail
        go_loopw [6, 8] (fun v k wx => ∃ (j : Nat) (c : Bool), j ≤ i ∧ k = .int .i64 (j : Int) ∧ v = .bool c ∧ Hid (c = true → OnceTo qs i ∧ NewAt qs i j) ∧ Below wr.heap.size wr wx) (fun _ k _ => i - (intOf k).toNat)
        case atStart => exact ⟨0, b, Nat.zero_le _, rfl, rfl, Lib.hid (fun h => ⟨ho.out h, fun _ b hb hb0 => absurd hb0 (by omega)⟩), Below.refl _ _⟩
        case round =>
          obtain ⟨j, c, hj, rfl, rfl, hc, bx⟩ := hrel
          have kx := kq.out.on bx
          have hQx := hQ.out.below bx
          by_cases hjl : j < i
          · have hjq : j < qs.length := by omega
            obtain ⟨b1, off, hbo, v0, -⟩ := hQx i hil
            obtain ⟨b2, off2, hbo2, u0, -⟩ := hQx j hjq
            rw [hbo] at hbo2
            simp only [Option.some.injEq, Addr.mk.injEq, and_true] at hbo2
            obtain ⟨rfl, rfl⟩ := hbo2
            subst hbo
            have e2 := kx.c2
            have hst := Lib.hid (fun (h : c = true) (hne : ¬ qs[i].name = qs[j].name) => (⟨(hc.out h).1, newAt_step hil hjq (hc.out h).2 hne⟩ : OnceTo qs i ∧ NewAt qs i (j + 1)))
            generalize qs[i].name = x at *
            generalize qs[j].name = y at *
            have g1 : (i : Int) < (n2 : Int) := by omega
            have g2 : (j : Int) < (n2 : Int) := by omega
            clear kx hQx d0 d1 d2
            cases c
            · go_wp2_with fail
              go_quiet (fail)
              go_wp2_with fail
              go_roundw
              case rel => exact ⟨j + 1, false, by omega, by go_num, rfl, Lib.hid (fun h => by cases h), below_drewN bx _⟩
              case measure => simp [intOf]; omega
            · by_cases hxy : x = y
              · have s1 := same_str hxy
                have s2 : (x.toList != y.toList) = false := by rw [bne, s1]; rfl
                clear hxy
                go_wp2_with fail
                go_quiet (fail)
                go_wp2_with fail
                go_roundw
                case rel => exact ⟨j + 1, false, by omega, by go_num, rfl, Lib.hid (fun h => by cases h), below_drewN bx _⟩
                case measure => simp [intOf]; omega
              · have s1 := not_str hxy
                have s2 : (x.toList != y.toList) = true := by rw [bne, s1]; rfl
                have hst2 := Lib.hid (hst.out rfl hxy)
                clear hxy
                go_wp2_with fail
                go_quiet (fail)
                go_wp2_with fail
                go_roundw
                case rel => exact ⟨j + 1, true, by omega, by go_num, rfl, Lib.hid (fun _ => hst2.out), below_drewN bx _⟩
                case measure => simp [intOf]; omega
          · have hji : j = i := by omega
            go_wp2_with fail
            go_roundw
            case rel => exact ⟨i + 1, c, by omega, by go_num, rfl, Lib.hid (fun h => onceTo_step (hc.out h).1 (by rw [hji] at hc; exact (hc.out h).2)), bw.trans (bx.mono bw.size)⟩
            case measure => simp [intOf]; omega
      · have hie : i = n2 := by omega
        go_wp2_with fail
        (with_reducible refine (mFits_any (n := 0) ⟨#[42]⟩ ⟨#[42]⟩ mt ms [] qs _ (pairsIn_nil _ _) rfl (by decide) hQ.out hn2.out hl2 nil_small hz2.out (hE.on hX.out)).mono ?_); rintro e wy ⟨rfl, by'⟩
        rw [show Md.fits ⟨⟨#[42]⟩, ⟨#[42]⟩, []⟩ ⟨mt, ms, qs⟩ = true from hstars.out]
        replace kq := Lib.hid (kq.out.on by')
        replace hQ := Lib.hid (hQ.out.below by')
        replace hX := Lib.hid (hX.out.trans (by'.mono hX.out.size))
        clear by' d0 d1 d2
        have d0 := kq.out.c0
        have d1 := kq.out.c1
        have d2 := kq.out.c2
        cases b
        · go_wp2
          go_ret
          exact ⟨rfl, hX.out⟩
        · have hfs := hself.out (onceTo_all (by rw [hn2.out, ← hie]; exact ho.out rfl))
          go_wp2_with fail
          (with_reducible refine (mFits_any mt ms mt ms qs qs _ hQ.out hn2.out hl2 hQ.out hn2.out hl2 hz2.out hz2.out (hE.on hX.out)).mono ?_); rintro e wz ⟨rfl, bz⟩
          rw [hfs]
          go_wp2
          go_ret
          exact ⟨rfl, hX.out.trans (bz.mono hX.out.size)⟩
end Go.Proofs.YtbaodnmgggdcjaaDoor
