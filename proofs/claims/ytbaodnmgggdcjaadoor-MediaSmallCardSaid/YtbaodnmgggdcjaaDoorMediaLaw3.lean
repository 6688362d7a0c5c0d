/-
  The statements' walks: MediaTexts.
-/
import Derived.Test.YtbaodnmgggdcjaaDoorMediaLaw2
namespace Go.Proofs.YtbaodnmgggdcjaaDoor
open Go.RowKit

set_option maxRecDepth 100000 in
set_option maxHeartbeats 12800000 in
theorem texts_any (s t nm : ByteArray) (w : World) (_ : s.size ≤ maxLen) (_ : t.size ≤ maxLen) (hE : Env w) :
    Calls Tryd.prog 5 #[.string s, .string t, .string nm] w fun e w' => e = .returned (.bool true) ∧ Below w.heap.size w w' := by
  go_enter Tryd.func5, Tryd.ntmps5
  have hc : 500 < s.size ∨ (¬ 500 < s.size ∧ 500 < t.size) ∨ (¬ 500 < s.size ∧ ¬ 500 < t.size) := by omega
  rcases hc with h | ⟨h, h'⟩ | ⟨h, h'⟩
  · go_wp2_with fail
    (with_reducible refine (awake_any _ hE).mono ?_); rintro e w1 ⟨rfl, b1⟩
    go_wp2
    go_ret
    exact ⟨rfl, b1⟩
  · go_wp2_with fail
    (with_reducible refine (awake_any _ hE).mono ?_); rintro e w1 ⟨rfl, b1⟩
    go_wp2
    go_ret
    exact ⟨rfl, b1⟩
  · go_wp2_with fail
    (with_reducible refine (refMParse_any s _ (by omega)).mono ?_); rintro e w1 ⟨v, rfl, ho, b1⟩
    have hsz := mp_size s
    generalize mpM s = m1 at *
    generalize mpE s = er at *
    obtain ⟨rt, rs, ps⟩ := m1
    dsimp only at *
    obtain ⟨ao, ca, rfl, hp⟩ := pairs_of_owns ho
    obtain ⟨hl, hz, -⟩ := wt_pairs (ps := ps) (c := s.size) (by omega) (by omega)
    obtain ⟨n, hn⟩ : ∃ n, ps.length = n := ⟨_, rfl⟩
    rw [hn] at hl ⊢
    replace hn := Lib.hid hn
    have hzb := Lib.hid (fun p hp => Nat.le_trans (hz p hp) (show 100000 ≤ 70368744177664 by decide))
    replace hz := Lib.hid hz
    have hX := Lib.hid (b1.alloc b1.size (.cells #[.string rt, .string rs, .slice ao n ca] 25))
    have kp := Lib.hid (Box3.new w1 (.string rt) (.string rs) (.slice ao n ca))
    have hP := Lib.hid (hp.below ((Below.refl _ w1).alloc (Nat.le_refl _) (.cells #[.string rt, .string rs, .slice ao n ca] 25)))
    clear ho hp b1 hsz
    go_wp2_with fail
    (with_reducible refine (refMParse_any t _ (by omega)).mono ?_); rintro e w2 ⟨v, rfl, ho, b2⟩
    have hsz := mp_size t
    generalize mpM t = m2 at *
    generalize mpE t = er2 at *
    obtain ⟨mt, ms, qs⟩ := m2
    dsimp only at *
    obtain ⟨bo, cb, rfl, hq⟩ := pairs_of_owns ho
    obtain ⟨hl2, hz2, -⟩ := wt_pairs (ps := qs) (c := t.size) (by omega) (by omega)
    obtain ⟨n2, hn2⟩ : ∃ n, qs.length = n := ⟨_, rfl⟩
    rw [hn2] at hl2 ⊢
    replace hn2 := Lib.hid hn2
    have hz2b := Lib.hid (fun p hp => Nat.le_trans (hz2 p hp) (show 100000 ≤ 70368744177664 by decide))
    replace hz2 := Lib.hid hz2
    replace hX := Lib.hid (hX.out.trans (b2.mono hX.out.size))
    replace kp := Lib.hid (kp.out.on b2)
    replace hP := Lib.hid (hP.out.below b2)
    have hlt : w1.heap.size < w2.heap.size := kp.out.lt
    clear ho b2 hsz
    have b3 := Lib.hid ((Below.refl _ w2).alloc (Nat.le_refl _) (.cells #[.string mt, .string ms, .slice bo n2 cb] 25))
    replace hX := Lib.hid (hX.out.alloc hX.out.size (.cells #[.string mt, .string ms, .slice bo n2 cb] 25))
    have kq := Lib.hid (Box3.new w2 (.string mt) (.string ms) (.slice bo n2 cb))
    replace kp := Lib.hid (kp.out.on b3.out)
    replace hP := Lib.hid (hP.out.below b3.out)
    have hQ := Lib.hid (hq.below b3.out)
    clear hq b3
    have d0 := kq.out.c0
    have d1 := kq.out.c1
    have d2 := kq.out.c2
    have hlm : n ≤ maxLen := by unfold maxLen; omega
    have hl2m : n2 ≤ maxLen := by unfold maxLen; omega
    go_wp2_with fail
    (with_reducible refine (mParam_any mt ms qs nm _ hQ.out hn2.out hl2 (hE.on hX.out)).mono ?_); rintro e w4 ⟨rfl, b4⟩
    have hpr := refParam_any (ao := bo) (cap := cb) (n := n2) (.string mt) (.string ms) qs nm
    generalize paA qs nm = pa at *
    generalize paB qs nm = pb at *
    replace hP := Lib.hid (hP.out.below b4)
    replace hQ := Lib.hid (hQ.out.below b4)
    replace kp := Lib.hid (kp.out.on b4)
    replace kq := Lib.hid (kq.out.on b4)
    replace hX := Lib.hid (hX.out.trans (b4.mono hX.out.size))
    clear b4 d0 d1 d2 hlt
    have d0 := kq.out.c0
    have d1 := kq.out.c1
    have d2 := kq.out.c2
    go_wp2_with fail
    (with_reducible refine (hpr _ hQ.out hn2.out hl2m).mono ?_); rintro e w6 ⟨rfl, b5⟩
    replace hP := Lib.hid (hP.out.below b5)
    replace hQ := Lib.hid (hQ.out.below b5)
    replace kp := Lib.hid (kp.out.on b5)
    replace kq := Lib.hid (kq.out.on b5)
    replace hX := Lib.hid (hX.out.trans (b5.mono hX.out.size))
    clear b5 d0 d1 d2 hpr
    have c0 := kp.out.c0
    have c1 := kp.out.c1
    have c2 := kp.out.c2
    have d0 := kq.out.c0
    have d1 := kq.out.c1
    have d2 := kq.out.c2
    obtain ⟨B1, hB1⟩ : ∃ B, w1.heap.size = B := ⟨_, rfl⟩
    obtain ⟨B2, hB2⟩ : ∃ B, w2.heap.size = B := ⟨_, rfl⟩
    rw [hB1] at c0 c1 c2
    rw [hB2] at d0 d1 d2
    go_wp2_with fail
    clear hB1 hB2
    go_region_held3 (fun w' => w'.cell? ⟨B1, 0, none⟩ = some (.string rt) ∧ w'.cell? ⟨B1, 1, none⟩ = some (.string rs) ∧ w'.cell? ⟨B1, 2, none⟩ = some (.slice ao n ca) ∧ w'.cell? ⟨B2, 0, none⟩ = some (.string mt) ∧ w'.cell? ⟨B2, 1, none⟩ = some (.string ms) ∧ w'.cell? ⟨B2, 2, none⟩ = some (.slice bo n2 cb) ∧ Below w6.heap.size w6 w') (first | exact ⟨c0, c1, c2, d0, d1, d2, (Below.refl _ _).drew⟩ | assumption)
      (first
        | (go_at_call 9; refine (keep6 (w0 := w6) (a0 := ⟨B1, 0, none⟩) (a1 := ⟨B1, 1, none⟩) (a2 := ⟨B1, 2, none⟩) (a3 := ⟨B2, 0, none⟩) (a4 := ⟨B2, 1, none⟩) (a5 := ⟨B2, 2, none⟩) (x0 := .string rt) (x1 := .string rs) (x2 := .slice ao n ca) (x3 := .string mt) (x4 := .string ms) (x5 := .slice bo n2 cb) (fun W hb => awake_any W (hE.on (hX.out.trans (hb.mono hX.out.size)))) ?_).mono ?_; assumption; rintro e w' ⟨rfl, hcb⟩)
        | (go_at_call 16; refine (keep6 (w0 := w6) (a0 := ⟨B1, 0, none⟩) (a1 := ⟨B1, 1, none⟩) (a2 := ⟨B1, 2, none⟩) (a3 := ⟨B2, 0, none⟩) (a4 := ⟨B2, 1, none⟩) (a5 := ⟨B2, 2, none⟩) (x0 := .string rt) (x1 := .string rs) (x2 := .slice ao n ca) (x3 := .string mt) (x4 := .string ms) (x5 := .slice bo n2 cb) (fun W hb => mFits_any rt rs mt ms ps qs W (hP.out.below hb) hn.out hl (hQ.out.below hb) hn2.out hl2 hz.out hz2.out (hE.on (hX.out.trans (hb.mono hX.out.size)))) ?_).mono ?_; assumption; rintro e w' ⟨rfl, hcb⟩)
        | (go_at_call 17; refine (keep6 (w0 := w6) (a0 := ⟨B1, 0, none⟩) (a1 := ⟨B1, 1, none⟩) (a2 := ⟨B1, 2, none⟩) (a3 := ⟨B2, 0, none⟩) (a4 := ⟨B2, 1, none⟩) (a5 := ⟨B2, 2, none⟩) (x0 := .string rt) (x1 := .string rs) (x2 := .slice ao n ca) (x3 := .string mt) (x4 := .string ms) (x5 := .slice bo n2 cb) (fun W hb => refFits_any rt rs mt ms ps qs W (hP.out.below hb) hn.out hlm (hQ.out.below hb) hn2.out hl2m hzb.out hz2b.out) ?_).mono ?_; assumption; rintro e w' ⟨rfl, hcb⟩))
    all_goals
      obtain ⟨-, -, -, -, -, -, b6⟩ := hcb
      go_wp2
      go_ret
      exact ⟨rfl, hX.out.trans (b6.mono hX.out.size)⟩
end Go.Proofs.YtbaodnmgggdcjaaDoor
