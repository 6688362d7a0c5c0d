/-
  What the document's own List comes to.
-/
import Derived.Test.YtojbhokneemeaaaDoorRefTag
namespace Go.Proofs.YtojbhokneemeaaaDoor
open Go.RowKit

/-- List's answers. -/
def liT (s : ByteArray) : List Tag := ((Et.list s.data.toList).map (·.1)).getD []
def liS (s : ByteArray) : Bool := ((Et.list s.data.toList).map (·.2)).getD false
def liE (s : ByteArray) : Int := if (Et.list s.data.toList).isSome = true then 0 else 170
theorem li_none {s : ByteArray} (h : Et.list s.data.toList = none) : liT s = [] ∧ liS s = false ∧ liE s = 170 := by unfold liT liS liE; rw [h]; exact ⟨rfl, rfl, rfl⟩
theorem li_some {s : ByteArray} {l : List Tag} {b : Bool} (h : Et.list s.data.toList = some (l, b)) : liT s = l ∧ liS s = b ∧ liE s = 0 := by unfold liT liS liE; rw [h]; exact ⟨rfl, rfl, rfl⟩
theorem li_size (s : ByteArray) : (liT s).length ≤ s.size := by
  cases h : Et.list s.data.toList with
  | none => rw [(li_none h).1]; exact Nat.zero_le _
  | some x =>
    obtain ⟨l, b⟩ := x
    rw [(li_some h).1, ← list_len]
    exact Et.list_length h

namespace Et
theorem list_star {l : List UInt8} (h : star l = true) : list l = some ([], true) := by unfold list; rw [if_pos h]
theorem list_no {l : List UInt8} (h : star l = false) (h2 : tagsG [] l = none) : list l = none := by unfold list; rw [h, if_neg (by simp), h2]
theorem list_nil {l : List UInt8} (h : star l = false) (h2 : tagsG [] l = some []) : list l = none := by unfold list; rw [h, if_neg (by simp), h2]; rfl
theorem list_yes {l : List UInt8} {ts : List Tag} (h : star l = false) (h2 : tagsG [] l = some ts) (h3 : ts ≠ []) : list l = some (ts, false) := by unfold list; rw [h, if_neg (by simp), h2]; simp only; rw [if_neg h3]
theorem sep_skip (l : List UInt8) : seps (Md.skip l) = seps l := by
  unfold seps Md.skip
  induction l with
  | nil => rfl
  | cons b m ih =>
    by_cases hb : Md.blankB b = true
    · rw [List.dropWhile_cons_of_pos hb, ih, List.dropWhile_cons_of_pos (by unfold sepB; rw [hb]; simp)]
    · rw [List.dropWhile_cons_of_neg hb]
theorem sep_comma (l : List UInt8) : seps (44 :: l) = seps l := by
  unfold seps
  rw [List.dropWhile_cons_of_pos (by decide)]
theorem sep_stop {b : UInt8} {l : List UInt8} (h : b.toNat ≠ 44) (h2 : Md.skip (b :: l) = b :: l) : seps (b :: l) = b :: l := by
  unfold seps
  rw [List.dropWhile_cons_of_neg]
  unfold sepB
  rw [decide_eq_false h, Bool.false_or]
  intro hb
  rw [Md.skip_one _ _ hb] at h2
  have := congrArg List.length h2
  have h3 := Md.skip_length l
  rw [List.length_cons] at this
  omega
end Et
theorem skip_twice (s : ByteArray) : Md.skip (skA s).data.toList = (skA s).data.toList := by
  rw [skA_list]
  unfold Md.skip
  generalize s.data.toList = l
  induction l with
  | nil => rfl
  | cons b m ih =>
    by_cases hb : Md.blankB b = true
    · rw [List.dropWhile_cons_of_pos hb, ih]
    · rw [List.dropWhile_cons_of_neg hb, List.dropWhile_cons_of_neg hb]

set_option maxRecDepth 100000 in
set_option maxHeartbeats 12800000 in
theorem refList_any (s : ByteArray) (w : World) (hs : s.size ≤ 1000000) :
    Calls Tryd.prog 10 #[.string s] w fun e w' => ∃ v, e = .returned (.tuple #[v, .bool (liS s), .int .i64 (liE s)]) ∧ OwnsTags w.heap.size v (liT s) w' ∧ Below w.heap.size w w' := by
  obtain ⟨i0, hi, hz0, hz1, hz2⟩ := info_parts infoTag
  have hnone := Lib.hid (@li_none s)
  have hsome := Lib.hid (fun l b => @li_some s l b)
  have hst : Hid (Et.star s.data.toList = (decide ((skA s).data.toList.head? = some 42) && decide (Md.skip ((skA s).data.toList.drop 1) = []))) := Lib.hid (by rw [skA_list]; rfl)
  have hsk := Lib.hid (Et.tg_sep [] s.data.toList (skA s).data.toList (by rw [skA_list, Et.sep_skip]))
  have hsz := skA_size s
  have htw := Lib.hid (skip_twice s)
  generalize liT s = T at *
  generalize liS s = B at *
  generalize liE s = E at *
  go_enter Tryd.func10, Tryd.ntmps10
  go_wp2_with fail
  (with_reducible refine (refSkip_any s _ (by unfold maxLen; omega)).mono ?_); rintro e w1 ⟨rfl, rfl⟩
  generalize skA s = u at *
  obtain ⟨st, hse⟩ : ∃ x, x = Et.star s.data.toList := ⟨_, rfl⟩
  rw [← hse] at hst
  have hstar := Lib.hid (fun (h : st = true) => hsome.out _ _ (Et.list_star (by rw [← hse]; exact h)))
  have hno := Lib.hid (fun (h : st = false) (h2 : Et.tagsG [] s.data.toList = none) => hnone.out (Et.list_no (by rw [← hse]; exact h) h2))
  have hnil := Lib.hid (fun (h : st = false) (h2 : Et.tagsG [] s.data.toList = some []) => hnone.out (Et.list_nil (by rw [← hse]; exact h) h2))
  have hyes := Lib.hid (fun (h : st = false) ts (h2 : Et.tagsG [] s.data.toList = some ts) (h3 : ts ≠ []) => hsome.out _ _ (Et.list_yes (by rw [← hse]; exact h) h2 h3))
  replace hse := Lib.hid hse
  clear hnone hsome
  go_upto_region 2 with fail
  go_cut [23] (fun c wx => c = .bool st ∧ w = wx)
  case first =>
    by_cases h0 : u.size = 0
    · obtain rfl : u = ByteArray.empty := ByteArray.size_eq_zero_iff.1 h0
      obtain rfl : st = false := by rw [hst.out]; rfl
      go_wp2_with fail
      go_meet
      exact ⟨rfl, rfl⟩
    have h1 : 0 < u.size := by omega
    have hne := ne_empty h1
    have hne3 : ¬ u.toList = [] := by rw [ByteArray.toList_eq]; exact lst_ne h1
    have hne2 : (u.toList != []) = true := bne_iff_ne.2 hne3
    have hh := head_byte h1
    by_cases h42 : (u[0]).toNat = 42
    · have e42 : (((u[0]).toNat : Int) == 42) = true := by rw [h42]; rfl
      have hs2 : Hid (st = decide (Md.skip (u.extract 1 u.size).data.toList = [])) := Lib.hid (by
        rw [hst.out, hh, byte_is (c := 42) h42, drop_list]
        simp)
      replace h42 := Lib.hid h42
      replace hh := Lib.hid hh
      go_wp2_with fail
      (with_reducible refine (refSkip_any (u.extract 1 u.size) _ (by unfold maxLen; rw [ByteArray.size_extract]; omega)).mono ?_); rintro e w1 ⟨rfl, rfl⟩
      rw [← skA_list] at hs2
      generalize skA (u.extract 1 u.size) = v at *
      by_cases hv0 : v.size = 0
      · obtain rfl : st = true := by rw [hs2.out, nil_of_size hv0]; rfl
        obtain rfl : v = ByteArray.empty := ByteArray.size_eq_zero_iff.1 hv0
        have he3 : (ByteArray.empty.toList == []) = true := by rw [ByteArray.toList_eq]; rfl
        go_wp2_with fail
        go_meet
        exact ⟨rfl, rfl⟩
      · obtain rfl : st = false := by rw [hs2.out]; exact decide_eq_false (lst_ne (by omega))
        have hv3 : ¬ v.toList = [] := by rw [ByteArray.toList_eq]; exact lst_ne (by omega)
        have hv2 : (v.toList == []) = false := beq_false_of_ne hv3
        go_wp2_with fail
        go_meet
        exact ⟨rfl, rfl⟩
    · have e42 : (((u[0]).toNat : Int) == 42) = false := beq_false_of_ne (by omega)
      obtain rfl : st = false := by
        rw [hst.out, hh, decide_eq_false]
        · rfl
        · intro e; exact h42 (by rw [Option.some.inj e]; rfl)
      go_wp2_with fail
      go_meet
      exact ⟨rfl, rfl⟩
  case rest =>
  obtain ⟨rfl, rfl⟩ := hcut
  clear hst
  cases st
  case true =>
    obtain ⟨rfl, rfl, rfl⟩ := hstar.out rfl
    clear hno hnil hyes
    go_wp2_with fail
    go_ret3
    exact ⟨_, rfl, ownsTags_nil _ _, Below.refl _ _⟩
  case false =>
    replace hno := Lib.hid (hno.out rfl)
    replace hnil := Lib.hid (hnil.out rfl)
    replace hyes := Lib.hid (hyes.out rfl)
    clear hstar hse
    go_wp2_with fail
    go_loopw [0, 5, 6, 7, 8] (fun v0 v5 _ _ _ wr => ∃ (t : ByteArray) (acc : List Tag), v0 = .string t ∧ Hid (OwnsTags w.heap.size v5 acc wr) ∧ Hid (Et.tagsG [] s.data.toList = Et.tagsG acc t.data.toList) ∧ Hid (Md.skip t.data.toList = t.data.toList) ∧ acc.length + t.size ≤ s.size ∧ Hid (Below w.heap.size w wr)) (fun v0 _ _ _ _ _ => strLen v0)
    case atStart => exact ⟨u, [], rfl, Lib.hid (ownsTags_nil _ _), hsk, htw, by simpa using hsz, Lib.hid (Below.refl _ _)⟩
    case round =>
      obtain ⟨t, acc, rfl, ho, hP, hsk2, hlen, bw⟩ := hrel
      clear hsk htw hsz
      go_wp2_with fail
      go_loop [0] (fun v => ∃ x : ByteArray, v = .string x ∧ x.size ≤ t.size ∧ Hid (Et.seps t.data.toList = Et.seps x.data.toList) ∧ Hid (Md.skip x.data.toList = x.data.toList)) (fun v => strLen v)
      case atStart => exact ⟨t, rfl, Nat.le_refl _, Lib.hid rfl, hsk2⟩
      case round =>
        obtain ⟨x, rfl, hx, hse, hsx⟩ := hrel
        by_cases h0 : x.size = 0
        · -- the end
          obtain rfl : x = ByteArray.empty := ByteArray.size_eq_zero_iff.1 h0
          have hend := hP.out.trans (Et.tg_end (by rw [hse.out]; rfl))
          by_cases ha : acc = []
          · subst ha
            obtain ⟨rfl, rfl, rfl⟩ := hnil.out hend
            obtain ⟨ao, cap, rfl, -⟩ := tags_of_owns ho.out
            clear hend hnil hno hyes
            go_wp2_with fail
            go_ret3
            exact ⟨_, rfl, ownsTags_nil _ _, bw.out⟩
          · obtain ⟨rfl, rfl, rfl⟩ := hyes.out _ hend ha
            obtain ⟨ao, cap, rfl, -⟩ := tags_of_owns ho.out
            have hl0 : ¬ T.length = 0 := fun e => ha (List.eq_nil_of_length_eq_zero e)
            have hl2 : (((T.length : Nat) : Int) == 0) = false := beq_false_of_ne (by omega)
            clear hend hnil hno hyes ha
            go_wp2_with fail
            go_ret3
            exact ⟨_, rfl, ho.out, bw.out⟩
        have h1 : 0 < x.size := by omega
        have hne := ne_empty h1
        have hne3 : ¬ x.toList = [] := by rw [ByteArray.toList_eq]; exact lst_ne h1
        have hne2 : (x.toList != []) = true := bne_iff_ne.2 hne3
        have hdc := drop_cons x 0 h1
        rw [List.drop_zero] at hdc
        by_cases h44 : (x[0]).toNat = 44
        · have e44 : (((x[0]).toNat : Int) == 44) = true := by rw [h44]; rfl
          have hz := skA_size (x.extract 1 x.size)
          have hr1 : Hid (Et.seps t.data.toList = Et.seps (skA (x.extract 1 x.size)).data.toList) := Lib.hid (by
            rw [hse.out, skA_list, Et.sep_skip, drop_list, hdc, byte_is (c := 44) h44, Et.sep_comma]; rfl)
          have hr2 := Lib.hid (skip_twice (x.extract 1 x.size))
          rw [ByteArray.size_extract] at hz
          replace h44 := Lib.hid h44
          replace hdc := Lib.hid hdc
          go_wp2_with fail
          (with_reducible refine (refSkip_any (x.extract 1 x.size) _ (by unfold maxLen; rw [ByteArray.size_extract]; omega)).mono ?_); rintro e w1 ⟨rfl, rfl⟩
          generalize skA (x.extract 1 x.size) = y at *
          go_wp2_with fail
          go_round
          case rel => exact ⟨y, rfl, by omega, hr1, hr2⟩
          case measure => simp [strLen]; omega
        · have e44 : (((x[0]).toNat : Int) == 44) = false := beq_false_of_ne (by omega)
          have hsp : Hid (Et.seps t.data.toList = x.data.toList) := Lib.hid (by
            rw [hse.out, hdc]
            exact Et.sep_stop h44 (by rw [← hdc]; exact hsx.out))
          have hnn := Lib.hid (not_nil h1)
          have hne4 : (x.toList == []) = false := beq_false_of_ne hne3
          replace h44 := Lib.hid h44
          clear hdc hse hsx
          have ctk := Lib.hid (fun W => refTake_any x W (by omega))
          have hnt := Lib.hid (@tg_no x)
          have hyt := Lib.hid (fun t r => @tg_yes x t r)
          have hrz := tgR_size x
          generalize tgT x = X at *
          generalize tgR x = R at *
          generalize tgC x = C at *
          go_wp2_with fail
          (with_reducible refine (ctk.out _).mono ?_); rintro e w1 ⟨rfl, b1⟩
          clear ctk
          have ho1 := Lib.hid (ownsTags_below ho.out b1)
          have bw1 := bw.out.trans (b1.mono bw.out.size)
          have kA := Cells.new w1 23 #[.bool X.weak, .string X.value]
          have bA := Lib.hid (bw1.alloc bw1.size (.cells #[.bool X.weak, .string X.value] 23))
          have hoA := Lib.hid (ownsTags_alloc ho1.out (.cells #[.bool X.weak, .string X.value] 23))
          have d0 := kA.cell (i := 0) (v := .bool X.weak) rfl
          have d1 := kA.cell (i := 1) (v := .string X.value) rfl
          clear ho ho1 bw b1 bw1 kA
          go_upto_region 9 with fail
          generalize w1.alloc (.cells #[.bool X.weak, .string X.value] 23) = W at *
          go_wp2_with fail
          (with_reducible refine (refSkip_any R _ (by unfold maxLen; omega)).mono ?_); rintro e w2 ⟨rfl, rfl⟩
          cases C
          case false =>
            have hbad : Et.take x.data.toList = none := by
              cases h : Et.take x.data.toList with
              | none => rfl
              | some q => obtain ⟨q, r⟩ := q; have := (hyt.out _ _ h).2.2; cases this
            obtain ⟨rfl, rfl, rfl⟩ := hno.out (hP.out.trans (Et.tg_none (by rw [hsp.out]; exact hnn.out) (by rw [hsp.out]; exact hbad)))
            clear hno hnil hyes hnt hyt hbad
            go_wp2_with fail
            go_ret3
            exact ⟨_, rfl, ownsTags_nil _ _, bA.out⟩
          case true =>
            cases h : Et.take x.data.toList with
            | none => have := (hnt.out h).2.2; cases this
            | some q =>
              obtain ⟨q, r⟩ := q
              obtain ⟨rfl, hR, -⟩ := hyt.out _ _ h
              have hRl : R.data.toList = r := by rw [hR, mk_list]
              have hlt := Et.take_length h
              rw [list_len, ← hRl, list_len] at hlt
              rw [← hRl] at h
              clear hR hRl
              have hz := skA_size R
              have hkr := skA_list R
              have hsp3 := Lib.hid (Et.tg_sep (acc ++ [X]) (skA R).data.toList R.data.toList (by rw [skA_list, Et.sep_skip]))
              have htw2 := Lib.hid (skip_twice R)
              have hst1 := Lib.hid (fun h2 => hP.out.trans (Et.tg_step (by rw [hsp.out]; exact hnn.out) (by rw [hsp.out]; exact h) h2))
              have hst2 := Lib.hid (fun h2 h3 => hP.out.trans (Et.tg_apart (by rw [hsp.out]; exact hnn.out) (by rw [hsp.out]; exact h) h2 h3))
              rw [← hkr] at hst1 hst2
              replace h := Lib.hid h
              replace hkr := Lib.hid hkr
              generalize skA R = v at *
              clear hnt hyt
              by_cases hv0 : v.size = 0
              · have hst := Lib.hid ((hst1.out (.inl (nil_of_size hv0))).trans hsp3.out.symm)
                have hv3 : v.toList = [] := by rw [ByteArray.toList_eq]; exact nil_of_size hv0
                have hv2 : (v.toList != []) = false := by rw [hv3]; rfl
                have hv4 : (v.toList == []) = true := by rw [hv3]; rfl
                clear hst1 hst2 hno hnil hyes
                replace hv0 := Lib.hid hv0
                replace hlen := Lib.hid hlen
                go_wp2_with (at_builtin; refine wpList_append_own _ rfl _ _ 25 rfl w.heap.size 23 i0 _ 2 24 Tryd.underlying25 hi hz0 hz1 hz2 rfl (by decide) _ _ _ rfl (ownsTags_alloc hoA.out _) ⟨W.heap.size, 0, none⟩ 1 1 [.bool X.weak, .string X.value] rfl rfl (cells_two _ _ _ _) (fun u hu => by simp at hu; rcases hu with rfl | rfl <;> rfl) (by have := hlen.out; unfold maxLen; omega) (by have := hlen.out; omega) (by have := bA.out.size; simp; omega) ?_)
                intro v5 w5 hown5 hg5 _
                have hga := (World.grownBy_alloc W _ _).trans hg5
                have b5 := Lib.hid (bA.out.trans ((Below.refl w.heap.size W).grown hga bA.out.size (fun j e => (World.ownsRow.lt hoA.out j e).1)))
                have q5 : Hid (OwnsTags w.heap.size v5 (acc ++ [X]) w5) := Lib.hid (by unfold OwnsTags; simpa [tagCells] using hown5)
                clear hown5 hg5 hga hoA bA
                go_wp2_with fail
                go_roundw
                case rel => exact ⟨v, acc ++ [X], rfl, q5, hst, htw2, by rw [List.length_append, List.length_singleton]; have := hlen.out; omega, b5⟩
                case measure => simp [strLen]; omega
              have hv1 : 0 < v.size := by omega
              have hv3 : ¬ v.toList = [] := by rw [ByteArray.toList_eq]; exact lst_ne hv1
              have hv2 : (v.toList != []) = true := bne_iff_ne.2 hv3
              have hv5 := ne_empty hv1
              have hvh := head_byte hv1
              by_cases hc : (v[0]).toNat = 44
              · have ec : (((v[0]).toNat : Int) != 44) = false := by rw [hc]; rfl
                have hst := Lib.hid ((hst1.out (.inr (by rw [hvh, byte_is (c := 44) hc]))).trans hsp3.out.symm)
                clear hst1 hst2 hno hnil hyes hvh
                replace hc := Lib.hid hc
                replace hlen := Lib.hid hlen
                go_wp2_with (at_builtin; refine wpList_append_own _ rfl _ _ 25 rfl w.heap.size 23 i0 _ 2 24 Tryd.underlying25 hi hz0 hz1 hz2 rfl (by decide) _ _ _ rfl (ownsTags_alloc hoA.out _) ⟨W.heap.size, 0, none⟩ 1 1 [.bool X.weak, .string X.value] rfl rfl (cells_two _ _ _ _) (fun u hu => by simp at hu; rcases hu with rfl | rfl <;> rfl) (by have := hlen.out; unfold maxLen; omega) (by have := hlen.out; omega) (by have := bA.out.size; simp; omega) ?_)
                intro v5 w5 hown5 hg5 _
                have hga := (World.grownBy_alloc W _ _).trans hg5
                have b5 := Lib.hid (bA.out.trans ((Below.refl w.heap.size W).grown hga bA.out.size (fun j e => (World.ownsRow.lt hoA.out j e).1)))
                have q5 : Hid (OwnsTags w.heap.size v5 (acc ++ [X]) w5) := Lib.hid (by unfold OwnsTags; simpa [tagCells] using hown5)
                clear hown5 hg5 hga hoA bA
                go_wp2_with fail
                go_roundw
                case rel => exact ⟨v, acc ++ [X], rfl, q5, hst, htw2, by rw [List.length_append, List.length_singleton]; have := hlen.out; omega, b5⟩
                case measure => simp [strLen]; omega
              · have ec : (((v[0]).toNat : Int) != 44) = true := by rw [bne_iff_ne]; omega
                obtain ⟨rfl, rfl, rfl⟩ := hno.out (hst2.out (lst_ne hv1) (by rw [hvh]; intro e; exact hc (by rw [Option.some.inj e]; rfl)))
                clear hst1 hst2 hno hnil hyes hvh
                go_wp2_with fail
                go_ret3
                exact ⟨_, rfl, ownsTags_nil _ _, bA.out⟩
end Go.Proofs.YtojbhokneemeaaaDoor
