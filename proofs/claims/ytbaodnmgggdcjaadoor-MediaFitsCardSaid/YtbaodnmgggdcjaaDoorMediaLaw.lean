/-
  The statements' walks: awake, MediaParses, MediaBack.
-/
import Derived.Test.YtbaodnmgggdcjaaDoorMediaDone
namespace Go.Proofs.YtbaodnmgggdcjaaDoor
open Go.RowKit

theorem pairsIn_nil (w : World) (ao : Option Addr) : PairsIn w ao [] := fun j hj => by simp at hj
theorem nil_small {c : Nat} : ∀ p ∈ ([] : List Pair), p.value.size ≤ c := fun p hp => by simp at hp
theorem mp_size (s : ByteArray) : (mpM s).ty.size + (mpM s).sub.size + Md.wt (mpM s).params ≤ s.size := by
  unfold mpM
  cases h : Md.parse s.data.toList with
  | none =>
    show ByteArray.empty.size + ByteArray.empty.size + Md.wt [] ≤ s.size
    have : ByteArray.empty.size = 0 := rfl
    rw [this]; unfold Md.wt; omega
  | some m =>
    have := Md.parse_size h
    rw [Md.sz'] at this
    exact this
theorem mt_size (m : Md.Med) : (mtA m).size ≤ m.ty.size + m.sub.size + 1 + 3 * Md.wt m.params := by
  have := Md.print_size m
  rw [← mtA_list, Md.sz'] at this
  exact this
theorem wt_pairs {ps : List Pair} {c : Nat} (h : Md.wt ps ≤ c) (hc : c ≤ 100000) : ps.length ≤ 100000 ∧ (∀ p ∈ ps, p.value.size ≤ 100000) ∧ ∀ p ∈ ps, p.name.size ≤ 100000 ∧ p.value.size ≤ 100000 := by
  have := Md.wt_length ps
  exact ⟨by omega, fun p hp => by have := Md.wt_mem hp; omega, fun p hp => by have := Md.wt_mem hp; omega⟩

set_option maxRecDepth 100000 in
set_option maxHeartbeats 3200000 in
theorem awake_any (w : World) (hE : Env w) : Calls Tryd.prog 9 #[] w fun e w' => e = .returned (.bool true) ∧ Below w.heap.size w w' := by
  obtain ⟨a1, a2⟩ := mp_some (s := ⟨#[84, 101, 120, 116, 47, 72, 84, 77, 76, 59, 32, 67, 104, 97, 114, 115, 101, 116, 61, 34, 85, 84, 70, 45, 56, 34]⟩) (m := ⟨⟨#[116, 101, 120, 116]⟩, ⟨#[104, 116, 109, 108]⟩, [⟨⟨#[99, 104, 97, 114, 115, 101, 116]⟩, ⟨#[85, 84, 70, 45, 56]⟩⟩]⟩) (by decide +kernel)
  obtain ⟨a3, a4⟩ := mp_none (s := ⟨#[42, 47, 97]⟩) (by decide +kernel)
  have a5 : paA [⟨⟨#[99, 104, 97, 114, 115, 101, 116]⟩, ⟨#[85, 84, 70, 45, 56]⟩⟩] ⟨#[99, 104, 97, 114, 115, 101, 116]⟩ = ⟨#[85, 84, 70, 45, 56]⟩ := by decide +kernel
  have a6 : paB [⟨⟨#[99, 104, 97, 114, 115, 101, 116]⟩, ⟨#[85, 84, 70, 45, 56]⟩⟩] ⟨#[99, 104, 97, 114, 115, 101, 116]⟩ = true := by decide +kernel
  have a7 : Md.fits ⟨⟨#[116, 101, 120, 116]⟩, ⟨#[42]⟩, []⟩ ⟨⟨#[116, 101, 120, 116]⟩, ⟨#[104, 116, 109, 108]⟩, [⟨⟨#[99, 104, 97, 114, 115, 101, 116]⟩, ⟨#[85, 84, 70, 45, 56]⟩⟩]⟩ = true := by decide +kernel
  have a8 : mtA ⟨⟨#[116, 101, 120, 116]⟩, ⟨#[104, 116, 109, 108]⟩, [⟨⟨#[99, 104, 97, 114, 115, 101, 116]⟩, ⟨#[85, 84, 70, 45, 56]⟩⟩]⟩ = ⟨#[116, 101, 120, 116, 47, 104, 116, 109, 108, 59, 32, 99, 104, 97, 114, 115, 101, 116, 61, 85, 84, 70, 45, 56]⟩ := by decide +kernel
  obtain ⟨ps, hps⟩ : ∃ ps : List Pair, [(⟨⟨#[99, 104, 97, 114, 115, 101, 116]⟩, ⟨#[85, 84, 70, 45, 56]⟩⟩ : Pair)] = ps := ⟨_, rfl⟩
  have hz : ∀ p ∈ ps, p.name.size ≤ 100000 ∧ p.value.size ≤ 100000 := by rw [← hps]; decide
  have hz1 : ∀ p ∈ ps, p.value.size ≤ 100000 := fun p hp => (hz p hp).2
  have hlen : ps.length = 1 := by rw [← hps]; rfl
  rw [hps] at a1 a5 a6 a7 a8
  replace hz := Lib.hid hz
  replace hz1 := Lib.hid hz1
  clear hps
  replace hlen := Lib.hid hlen
  go_enter Tryd.func9, Tryd.ntmps9
  go_wp2_with fail
  (with_reducible refine (mParse_any _ _ (by decide) hE).mono ?_); rintro e w1 ⟨v, rfl, ho, b1⟩
  rw [a1] at ho ⊢
  rw [a2]
  dsimp only at ho ⊢
  obtain ⟨ao, cap, rfl, hp⟩ := pairs_of_owns ho
  rw [hlen.out]
  clear a1 a2 ho
  have x1 := Lib.hid (b1.alloc b1.size (.cells #[.string ⟨#[116, 101, 120, 116]⟩, .string ⟨#[104, 116, 109, 108]⟩, .slice ao 1 cap] 25))
  have k1 := Lib.hid (Box3.new w1 (.string ⟨#[116, 101, 120, 116]⟩) (.string ⟨#[104, 116, 109, 108]⟩) (.slice ao 1 cap))
  have hp1 := Lib.hid (hp.below ((Below.refl _ w1).alloc (Nat.le_refl _) (.cells #[.string ⟨#[116, 101, 120, 116]⟩, .string ⟨#[104, 116, 109, 108]⟩, .slice ao 1 cap] 25)))
  clear hp b1
  go_wp2_with fail
  (with_reducible refine (mParse_any _ _ (by decide) (hE.on x1.out)).mono ?_); rintro e w2 ⟨v, rfl, ho, b2⟩
  rw [a3] at ho ⊢
  rw [a4]
  unfold Md.none' at ho ⊢
  dsimp only at ho ⊢
  obtain ⟨ao2, cap2, rfl, -⟩ := pairs_of_owns ho
  have x2 := Lib.hid (x1.out.trans (b2.mono x1.out.size))
  have k2 := Lib.hid (k1.out.on b2)
  have hp2 := Lib.hid (hp1.out.below b2)
  clear a3 a4 ho x1 k1 hp1 b2
  have x3 := Lib.hid (x2.out.alloc x2.out.size (.cells #[.string ByteArray.empty, .string ByteArray.empty, .slice ao2 0 cap2] 25))
  have b3 := Lib.hid ((Below.refl _ w2).alloc (Nat.le_refl _) (.cells #[.string ByteArray.empty, .string ByteArray.empty, .slice ao2 0 cap2] 25))
  have hlt : w1.heap.size < w2.heap.size := k2.out.lt
  have k3 := k2.out.on b3.out
  have c0 := k3.c0
  have c1 := k3.c1
  have c2 := k3.c2
  have hp3 := Lib.hid (hp2.out.below b3.out)
  have k3 := Lib.hid k3
  go_wp2_with fail
  (with_reducible refine (mParam_any _ _ ps _ _ hp3.out hlen.out (by decide) (hE.on x3.out)).mono ?_); rintro e w4 ⟨rfl, b4⟩
  rw [a5, a6]
  have x4 := Lib.hid (x3.out.trans (b4.mono x3.out.size))
  have k4 := Lib.hid (k3.out.on b4)
  have hp4 := Lib.hid (hp3.out.below b4)
  clear a5 a6 x3 x2 k3 k2 hp3 hp2 b3 b4 c0 c1 c2 hlt
  have c0 := k4.out.c0
  have c1 := k4.out.c1
  have c2 := k4.out.c2
  go_wp2_with fail
  (with_reducible refine (mFits_any (n := 0) _ _ _ _ [] ps _ (pairsIn_nil _ _) rfl (by decide) hp4.out hlen.out (by decide) nil_small hz1.out (hE.on x4.out)).mono ?_); rintro e w5 ⟨rfl, b5⟩
  rw [a7]
  have x5 := Lib.hid (x4.out.trans (b5.mono x4.out.size))
  have k5 := Lib.hid (k4.out.on b5)
  have hp5 := Lib.hid (hp4.out.below b5)
  clear a7 x4 k4 hp4 b5 c0 c1 c2
  have c0 := k5.out.c0
  have c1 := k5.out.c1
  have c2 := k5.out.c2
  go_wp2_with fail
  (with_reducible refine (mPrint_any _ _ ps _ hp5.out hlen.out (by decide) (by decide) (by decide) hz.out (hE.on x5.out)).mono ?_); rintro e w6 ⟨rfl, b6⟩
  rw [a8]
  have x6 := Lib.hid (x5.out.trans (b6.mono x5.out.size))
  clear a8 c0 c1 c2
  go_wp2
  go_ret
  exact ⟨rfl, x6.out⟩

set_option maxRecDepth 100000 in
set_option maxHeartbeats 3200000 in
theorem parses_any (s : ByteArray) (w : World) (_ : s.size ≤ maxLen) (hE : Env w) : Calls Tryd.prog 3 #[.string s] w fun e w' => e = .returned (.bool true) ∧ Below w.heap.size w w' := by
  by_cases hl : 1000 < s.size
  · go_enter Tryd.func3, Tryd.ntmps3
    go_wp2_with fail
    (with_reducible refine (awake_any _ hE).mono ?_); rintro e w1 ⟨rfl, b1⟩
    go_wp2
    go_ret
    exact ⟨rfl, b1⟩
  · go_enter Tryd.func3, Tryd.ntmps3
    go_wp2_with fail
    (with_reducible refine (mParse_any s _ (by omega) hE).mono ?_); rintro e w1 ⟨v, rfl, ho, b1⟩
    have hpar := refMParse_any s
    have hsz := mp_size s
    generalize mpM s = m at *
    generalize mpE s = er at *
    obtain ⟨ty, sub, ps⟩ := m
    dsimp only at *
    obtain ⟨ao, cap, rfl, hp⟩ := pairs_of_owns ho
    have hw := (wt_pairs (ps := ps) (c := s.size) (by omega) (by omega)).1
    obtain ⟨n, hn⟩ : ∃ n, ps.length = n := ⟨_, rfl⟩
    rw [hn] at hw ⊢
    replace hn := Lib.hid hn
    clear ho hsz
    have x1 := Lib.hid (b1.alloc b1.size (.cells #[.string ty, .string sub, .slice ao n cap] 25))
    have k1 := Lib.hid (Box3.new w1 (.string ty) (.string sub) (.slice ao n cap))
    have hp1 := Lib.hid (hp.below ((Below.refl _ w1).alloc (Nat.le_refl _) (.cells #[.string ty, .string sub, .slice ao n cap] 25)))
    clear hp b1
    go_wp2_with fail
    (with_reducible refine (hpar _ (by omega)).mono ?_); rintro e w2 ⟨v, rfl, ho, b2⟩
    obtain ⟨ao2, cap2, rfl, hq⟩ := pairs_of_owns ho
    rw [hn.out]
    have x2 := Lib.hid (x1.out.trans (b2.mono x1.out.size))
    have k2 := Lib.hid (k1.out.on b2)
    have hp2 := Lib.hid (hp1.out.below b2)
    clear ho x1 k1 hp1 b2 hpar
    have x3 := Lib.hid (x2.out.alloc x2.out.size (.cells #[.string ty, .string sub, .slice ao2 n cap2] 25))
    have b3 := Lib.hid ((Below.refl _ w2).alloc (Nat.le_refl _) (.cells #[.string ty, .string sub, .slice ao2 n cap2] 25))
    have k3 := Lib.hid (k2.out.on b3.out)
    have hp3 := Lib.hid (hp2.out.below b3.out)
    have hq3 := Lib.hid (hq.below b3.out)
    have j3 := Lib.hid (Box3.new w2 (.string ty) (.string sub) (.slice ao2 n cap2))
    clear hq
    go_wp2_with fail
    (with_reducible refine (awake_any _ (hE.on x3.out)).mono ?_); rintro e w4 ⟨rfl, b4⟩
    have x4 := Lib.hid (x3.out.trans (b4.mono x3.out.size))
    have hp4 := Lib.hid (hp3.out.below b4)
    have hq4 := Lib.hid (hq3.out.below b4)
    have k4 := k3.out.on b4
    have j4 := j3.out.on b4
    have c0 := k4.c0
    have c1 := k4.c1
    have c2 := k4.c2
    have d0 := j4.c0
    have d1 := j4.c1
    have d2 := j4.c2
    clear k4 j4 b4 x3 x2 k3 k2 hp3 hp2 hq3 j3 b3
    go_wp2_with fail
    (with_reducible refine (refSame_any ty sub ty sub ps ps _ hp4.out hn.out (by omega) hq4.out hn.out).mono ?_); rintro e w5 ⟨rfl, b5⟩
    have x5 := Lib.hid (x4.out.trans (b5.mono x4.out.size))
    rw [decide_eq_true rfl]
    go_wp2
    go_ret
    exact ⟨rfl, x5.out⟩

set_option maxRecDepth 100000 in
set_option maxHeartbeats 6400000 in
theorem back_any (s : ByteArray) (w : World) (_ : s.size ≤ maxLen) (hE : Env w) : Calls Tryd.prog 6 #[.string s] w fun e w' => e = .returned (.bool true) ∧ Below w.heap.size w w' := by
  go_enter Tryd.func6, Tryd.ntmps6
  go_wp2_with fail
  (with_reducible refine (awake_any _ hE).mono ?_); rintro e w0 ⟨rfl, b0⟩
  by_cases hl : 1000 < s.size
  · go_wp2
    go_ret
    exact ⟨rfl, b0⟩
  · go_wp2_with fail
    (with_reducible refine (mParse_any s _ (by omega) (hE.on b0)).mono ?_); rintro e w1 ⟨v, rfl, ho, b1⟩
    have x0 := b0.trans (b1.mono b0.size)
    have hsz := mp_size s
    have hcase : (mpM s = Md.none' ∧ mpE s = 130) ∨ (mpE s = 0 ∧ mpM (mtA (mpM s)) = mpM s ∧ mpE (mtA (mpM s)) = 0) := by
      cases h : Md.parse s.data.toList with
      | none => exact .inl (mp_none h)
      | some m =>
        obtain ⟨e1, e2⟩ := mp_some h
        refine .inr ⟨e2, ?_⟩
        rw [e1]
        exact mp_some (by rw [mtA_list]; exact Md.parse_back h)
    rcases hcase with ⟨e1, e2⟩ | ⟨e2, e3, e4⟩
    · rw [e1] at ho ⊢
      rw [e2]
      unfold Md.none' at ho ⊢
      dsimp only at ho ⊢
      obtain ⟨ao, cap, rfl, hp⟩ := pairs_of_owns ho
      have x1 := Lib.hid (x0.alloc x0.size (.cells #[.string ByteArray.empty, .string ByteArray.empty, .slice ao 0 cap] 25))
      clear e1 e2 ho b0 b1 hsz
      go_wp2_with fail
      (with_reducible refine (refSame_any (n := 0) (n2 := 0) _ _ _ _ [] [] _ (pairsIn_nil _ _) rfl (by decide) (pairsIn_nil _ _) rfl).mono ?_); rintro e w5 ⟨rfl, b5⟩
      have x5 := Lib.hid (x1.out.trans (b5.mono x1.out.size))
      have hd : decide ((⟨ByteArray.empty, ByteArray.empty, []⟩ : Md.Med) = ⟨⟨#[]⟩, ⟨#[]⟩, []⟩) = true := by decide +kernel
      rw [hd]
      go_wp2
      go_ret
      exact ⟨rfl, x5.out⟩
    · rw [e2]
      have hts := mt_size (mpM s)
      obtain ⟨T, hT⟩ : ∃ T, mtA (mpM s) = T := ⟨_, rfl⟩
      rw [hT] at e3 e4 hts
      generalize mpM s = m at *
      obtain ⟨ty, sub, ps⟩ := m
      dsimp only at *
      obtain ⟨ao, cap, rfl, hp⟩ := pairs_of_owns ho
      obtain ⟨hw1, hw2, hw3⟩ := wt_pairs (ps := ps) (c := s.size) (by omega) (by omega)
      obtain ⟨n, hn⟩ : ∃ n, ps.length = n := ⟨_, rfl⟩
      rw [hn] at hw1 ⊢
      replace hn := Lib.hid hn
      replace hw2 := Lib.hid hw2
      replace hw3 := Lib.hid hw3
      have hTz : T.size ≤ 100000 := by omega
      have htz : ty.size ≤ 100000 := by omega
      have hsz2 : sub.size ≤ 100000 := by omega
      have x1 := Lib.hid (x0.alloc x0.size (.cells #[.string ty, .string sub, .slice ao n cap] 25))
      have k1 := Lib.hid (Box3.new w1 (.string ty) (.string sub) (.slice ao n cap))
      have hp1 := Lib.hid (hp.below ((Below.refl _ w1).alloc (Nat.le_refl _) (.cells #[.string ty, .string sub, .slice ao n cap] 25)))
      replace e3 := Lib.hid e3
      replace e4 := Lib.hid e4
      replace hT := Lib.hid hT
      clear e2 ho b0 b1 hsz hp hts x0
      go_wp2_with fail
      (with_reducible refine (mPrint_any ty sub ps _ hp1.out hn.out hw1 htz hsz2 hw3.out (hE.on x1.out)).mono ?_); rintro e w2 ⟨rfl, b2⟩
      rw [hT.out]
      have x2 := Lib.hid (x1.out.trans (b2.mono x1.out.size))
      have k2 := Lib.hid (k1.out.on b2)
      have hp2 := Lib.hid (hp1.out.below b2)
      clear x1 k1 hp1 b2
      go_wp2_with fail
      (with_reducible refine (mParse_any T _ hTz (hE.on x2.out)).mono ?_); rintro e w3 ⟨v, rfl, ho, b3⟩
      rw [e3.out] at ho ⊢
      rw [e4.out]
      dsimp only at ho ⊢
      obtain ⟨ao2, cap2, rfl, hq⟩ := pairs_of_owns ho
      rw [hn.out]
      have x3 := Lib.hid (x2.out.trans (b3.mono x2.out.size))
      have k3 := Lib.hid (k2.out.on b3)
      have hp3 := Lib.hid (hp2.out.below b3)
      clear x2 k2 hp2 b3 ho
      have x4 := Lib.hid (x3.out.alloc x3.out.size (.cells #[.string ty, .string sub, .slice ao2 n cap2] 25))
      have b4 := Lib.hid ((Below.refl _ w3).alloc (Nat.le_refl _) (.cells #[.string ty, .string sub, .slice ao2 n cap2] 25))
      have k4 := Lib.hid (k3.out.on b4.out)
      have hp4 := Lib.hid (hp3.out.below b4.out)
      have hq4 := Lib.hid (hq.below b4.out)
      have j4 := Lib.hid (Box3.new w3 (.string ty) (.string sub) (.slice ao2 n cap2))
      have c0 := k4.out.c0
      have c1 := k4.out.c1
      have c2 := k4.out.c2
      clear x3 k3 hp3 hq
      go_wp2_with fail
      (with_reducible refine (refSame_any ty sub ty sub ps ps _ hp4.out hn.out (by omega) hq4.out hn.out).mono ?_); rintro e w5 ⟨rfl, b5⟩
      rw [decide_eq_true rfl]
      have x5 := Lib.hid (x4.out.trans (b5.mono x4.out.size))
      have hq5 := Lib.hid (hq4.out.below b5)
      have j5 := j4.out.on b5
      have d0 := j5.c0
      have d1 := j5.c1
      have d2 := j5.c2
      clear c0 c1 c2 x4 k4 hp4 hq4 j4 b5 b4 j5
      go_wp2_with fail
      (with_reducible refine (mPrint_any ty sub ps _ hq5.out hn.out hw1 htz hsz2 hw3.out (hE.on x5.out)).mono ?_); rintro e w6 ⟨rfl, b6⟩
      rw [hT.out]
      have x6 := Lib.hid (x5.out.trans (b6.mono x5.out.size))
      go_wp2
      go_ret
      exact ⟨rfl, x6.out⟩
end Go.Proofs.YtbaodnmgggdcjaaDoor
