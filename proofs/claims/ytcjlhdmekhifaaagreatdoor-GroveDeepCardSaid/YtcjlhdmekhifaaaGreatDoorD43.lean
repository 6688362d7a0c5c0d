/-
  What the document's own words of tokens come to: text, pi, quoted.
  What the document's own words of tokens come to: pi, quoted.
-/
import Derived.Test.YtcjlhdmekhifaaaGreatDoorD42
import Derived.Deep.RegionWith
import Derived.Deep.RegionHeld3
namespace Go.Proofs.YtcjlhdmekhifaaaGreatDoor
open Go.RowKit

namespace T
theorem text_cut {l x : List UInt8} (hx : l.takeWhile (· ≠ 60) = x) (h : (cutAt [93, 93, 62] x).isSome = true) : text l = .error 70 := by unfold text; rw [hx, if_pos h]
theorem text_badR {l x : List UInt8} (hx : l.takeWhile (· ≠ 60) = x) (h : cutAt [93, 93, 62] x = none) (he : E.expand false x = none) : text l = .error 60 := by
  unfold text; rw [hx, if_neg (by rw [h]; decide), he]
theorem text_okR {l x y d : List UInt8} (hx : l.takeWhile (· ≠ 60) = x) (hy : l.dropWhile (· ≠ 60) = y) (h : cutAt [93, 93, 62] x = none) (he : E.expand false x = some d) : text l = .ok (⟨2, [], [], decide (38 ∈ x), d⟩, y) := by
  unfold text; rw [hx, if_neg (by rw [h]; decide), he, hy]
theorem find_mem (c : UInt8) (x : List UInt8) : decide ((0 : Int) ≤ findI [c] x) = decide (c ∈ x) := by
  rcases cut_one (c := c) x with ⟨h1, _, _, h4⟩ | ⟨r, h1, _, h3⟩
  · rw [decide_eq_false h4]; exact decide_eq_false (findI_neg h1)
  · rw [decide_eq_true h3]; exact decide_eq_true (findI_pos h1)
end T

set_option maxRecDepth 100000 in
set_option maxHeartbeats 1600000 in
theorem refText_any (s : ByteArray) (w : World) (hs : s.size ≤ 1000000) :
    Calls Tryz.prog 55 #[.string s] w fun x w' => x = .returned (partVal (T.text s.data.toList) (.slice none 0 0)) ∧ Below w.heap.size w w' := by
  go_enter Tryz.func55, Tryz.ntmps55
  have b0 := (Below.refl w.heap.size w).alloc (Nat.le_refl _) (.cells (partCells 0 ⟨#[]⟩ (.slice none 0 0) false ⟨#[]⟩ ⟨#[]⟩ 0) 53)
  have k0 := Cells.new w 53 (partCells 0 ⟨#[]⟩ (.slice none 0 0) false ⟨#[]⟩ ⟨#[]⟩ 0)
  go_wp2_with fail
  (with_reducible refine (refFind_any s ⟨#[60]⟩ _ hs (by decide) (by decide)).mono ?_); rintro e w1 ⟨rfl, rfl⟩
  have key : ∃ j : Nat, j ≤ s.size ∧ (s.extract 0 j).data.toList = s.data.toList.takeWhile (· ≠ 60) ∧ (s.extract j s.size).data.toList = s.data.toList.dropWhile (· ≠ 60) ∧
      (T.findI [60] s.data.toList = (j : Int) ∨ T.findI [60] s.data.toList = -1 ∧ j = s.size) := by
    rcases T.cut_one (c := 60) s.data.toList with ⟨h1, h2, h3, _⟩ | ⟨r, h1, h2, _⟩
    · refine ⟨s.size, Nat.le_refl _, ?_, ?_, .inr ⟨T.findI_none h1, rfl⟩⟩
      · rw [h2, take_list, List.take_of_length_le (by rw [list_len]; exact Nat.le_refl _)]
      · rw [h3, drop_list, List.drop_of_length_le (by rw [list_len]; exact Nat.le_refl _)]
    · obtain ⟨e1, e2, e3⟩ := cut_bytes h1
      simp only [List.length_cons, List.length_nil, Nat.reduceAdd] at e3
      refine ⟨_, by omega, e1, ?_, .inl (T.findI_some h1)⟩
      have e4 := T.cutAt_eq h1
      have e5 := congrArg (List.drop (s.data.toList.takeWhile (· ≠ 60)).length) e4
      rw [List.append_assoc, List.drop_left] at e5
      rw [h2, drop_list]
      exact e5
  obtain ⟨j, hj, hx, hy, hf⟩ := key
  have hu : (s.extract 0 j).size ≤ 1000000 := by simp; omega
  replace hx := Lib.hid hx
  replace hy := Lib.hid hy
  have hj0 : (0 : Int) ≤ (j : Int) := by omega
  have hj1 : (j : Int) ≤ (s.size : Int) := by omega
  rcases hf with hf | ⟨hf, rfl⟩
  · rw [hf]
    clear hf
    go_wp2_with fail
    (with_reducible refine (refFind_any (s.extract 0 j) ⟨#[93, 93, 62]⟩ _ hu (by decide) (by decide)).mono ?_); rintro e w1 ⟨rfl, rfl⟩
    rw [hx.out]
    simp only []
    cases hc : T.cutAt [93, 93, 62] (s.data.toList.takeWhile (· ≠ 60)) with
    | some x =>
      have hg := Lib.hid (T.text_cut rfl (by rw [hc]; rfl))
      have hp := T.findI_pos hc
      generalize T.findI [93, 93, 62] (s.data.toList.takeWhile (· ≠ 60)) = z at *
      clear hc
      go_wp2_with fail
      (with_reducible refine (refFailed_any 70 _).mono ?_); rintro e wF ⟨rfl, bF⟩
      have kF := k0.on bF
      have cF := b0.trans (bF.mono b0.size)
      obtain ⟨q0, q1, q2, q3, q4, q5, q6⟩ := part_open kF
      obtain ⟨f0, f1, f2, f3, f4, f5, f6⟩ := part_free kF
      replace kF := Lib.hid kF
      unfold partAgg partCells
      go_wp2_with fail
      exact part_end (rb := w.heap.size) rfl rfl (part_set kF.out) ⟨by rw [partVal_err _ hg.out]; rfl, part_below cF (Nat.le_refl _) _ _ _ _ _ _ _⟩
    | none =>
      rw [T.findI_none hc]
      go_wp2_with fail
      (with_reducible refine (refExpandT_any (s.extract 0 j) _ hu).mono ?_); rintro e w2 ⟨rfl, b2⟩
      have k2 := k0.on b2
      have c2 := b0.trans (b2.mono b0.size)
      cases he : E.expand false (s.data.toList.takeWhile (· ≠ 60)) with
      | none =>
        have hg := Lib.hid (T.text_badR rfl hc he)
        obtain ⟨e1, e2⟩ := E.exp_none (attr := false) (s := (s.extract 0 j)) (by rw [hx.out]; exact he)
        rw [e1, e2]
        clear e1 e2 hc he
        go_wp2_with fail
        (with_reducible refine (refFailed_any 60 _).mono ?_); rintro e wF ⟨rfl, bF⟩
        have kF := k2.on bF
        have cF := c2.trans (bF.mono c2.size)
        obtain ⟨q0, q1, q2, q3, q4, q5, q6⟩ := part_open kF
        obtain ⟨f0, f1, f2, f3, f4, f5, f6⟩ := part_free kF
        replace kF := Lib.hid kF
        unfold partAgg partCells
        go_wp2_with fail
        exact part_end (rb := w.heap.size) rfl rfl (part_set kF.out) ⟨by rw [partVal_err _ hg.out]; rfl, part_below cF (Nat.le_refl _) _ _ _ _ _ _ _⟩
      | some d =>
        have hg := Lib.hid (T.text_okR rfl rfl hc he)
        obtain ⟨e1, e2⟩ := E.exp_some (attr := false) (s := (s.extract 0 j)) (by rw [hx.out]; exact he)
        rw [e1, e2]
        have hm := T.find_mem 38 (s.data.toList.takeWhile (· ≠ 60))
        generalize hd : (⟨d.toArray⟩ : ByteArray) = db at *
        have hd2 := Lib.hid (show db.data.toList = d by rw [← hd])
        clear e1 e2 hc he hd
        replace hm := Lib.hid hm
        obtain ⟨q0, q1, q2, q3, q4, q5, q6⟩ := part_open k2
        obtain ⟨f0, f1, f2, f3, f4, f5, f6⟩ := part_free k2
        replace k2 := Lib.hid k2
        have h38 : ∀ w, Calls Tryz.prog 95 #[.string (s.extract 0 j), .string ⟨#[38]⟩] w fun e w' => e = .returned (.int .i64 (T.findI [38] (s.data.toList.takeWhile (· ≠ 60)))) ∧ w = w' := fun w => by
          have h := refFind_any (s.extract 0 j) ⟨#[38]⟩ w hu (by decide) (by decide)
          rw [hx.out] at h
          exact h
        generalize T.findI [38] (s.data.toList.takeWhile (· ≠ 60)) = z at *
        go_wp2_with fail
        go_region_with (first | (go_at_call 95; refine (h38 _).mono ?_; rintro e w' ⟨rfl, rfl⟩))
        all_goals go_wp2_with fail
        exact part_end (rb := w.heap.size) rfl rfl (part_set k2.out).drew ⟨congrArg Ending.returned (partVal_ok _ hg.out rfl rfl hm.out hd2.out hy.out), (part_below c2 (Nat.le_refl _) _ _ _ _ _ _ _).drew⟩
  · rw [hf]
    clear hf
    have hxx : s.extract 0 s.size = s := extract_full s
    rw [hxx] at hx hu
    have hyy : s.extract s.size s.size = ByteArray.empty := ex_none s s.size (Nat.le_refl _)
    rw [hyy] at hy
    clear hxx hyy
    go_wp2_with fail
    (with_reducible refine (refFind_any s ⟨#[93, 93, 62]⟩ _ hu (by decide) (by decide)).mono ?_); rintro e w1 ⟨rfl, rfl⟩
    rw [hx.out]
    simp only []
    cases hc : T.cutAt [93, 93, 62] (s.data.toList.takeWhile (· ≠ 60)) with
    | some x =>
      have hg := Lib.hid (T.text_cut rfl (by rw [hc]; rfl))
      have hp := T.findI_pos hc
      generalize T.findI [93, 93, 62] (s.data.toList.takeWhile (· ≠ 60)) = z at *
      clear hc
      go_wp2_with fail
      (with_reducible refine (refFailed_any 70 _).mono ?_); rintro e wF ⟨rfl, bF⟩
      have kF := k0.on bF
      have cF := b0.trans (bF.mono b0.size)
      obtain ⟨q0, q1, q2, q3, q4, q5, q6⟩ := part_open kF
      obtain ⟨f0, f1, f2, f3, f4, f5, f6⟩ := part_free kF
      replace kF := Lib.hid kF
      unfold partAgg partCells
      go_wp2_with fail
      exact part_end (rb := w.heap.size) rfl rfl (part_set kF.out) ⟨by rw [partVal_err _ hg.out]; rfl, part_below cF (Nat.le_refl _) _ _ _ _ _ _ _⟩
    | none =>
      rw [T.findI_none hc]
      go_wp2_with fail
      (with_reducible refine (refExpandT_any s _ hu).mono ?_); rintro e w2 ⟨rfl, b2⟩
      have k2 := k0.on b2
      have c2 := b0.trans (b2.mono b0.size)
      cases he : E.expand false (s.data.toList.takeWhile (· ≠ 60)) with
      | none =>
        have hg := Lib.hid (T.text_badR rfl hc he)
        obtain ⟨e1, e2⟩ := E.exp_none (attr := false) (s := s) (by rw [hx.out]; exact he)
        rw [e1, e2]
        clear e1 e2 hc he
        go_wp2_with fail
        (with_reducible refine (refFailed_any 60 _).mono ?_); rintro e wF ⟨rfl, bF⟩
        have kF := k2.on bF
        have cF := c2.trans (bF.mono c2.size)
        obtain ⟨q0, q1, q2, q3, q4, q5, q6⟩ := part_open kF
        obtain ⟨f0, f1, f2, f3, f4, f5, f6⟩ := part_free kF
        replace kF := Lib.hid kF
        unfold partAgg partCells
        go_wp2_with fail
        exact part_end (rb := w.heap.size) rfl rfl (part_set kF.out) ⟨by rw [partVal_err _ hg.out]; rfl, part_below cF (Nat.le_refl _) _ _ _ _ _ _ _⟩
      | some d =>
        have hg := Lib.hid (T.text_okR rfl rfl hc he)
        obtain ⟨e1, e2⟩ := E.exp_some (attr := false) (s := s) (by rw [hx.out]; exact he)
        rw [e1, e2]
        have hm := T.find_mem 38 (s.data.toList.takeWhile (· ≠ 60))
        generalize hd : (⟨d.toArray⟩ : ByteArray) = db at *
        have hd2 := Lib.hid (show db.data.toList = d by rw [← hd])
        clear e1 e2 hc he hd
        replace hm := Lib.hid hm
        obtain ⟨q0, q1, q2, q3, q4, q5, q6⟩ := part_open k2
        obtain ⟨f0, f1, f2, f3, f4, f5, f6⟩ := part_free k2
        replace k2 := Lib.hid k2
        have h38 : ∀ w, Calls Tryz.prog 95 #[.string s, .string ⟨#[38]⟩] w fun e w' => e = .returned (.int .i64 (T.findI [38] (s.data.toList.takeWhile (· ≠ 60)))) ∧ w = w' := fun w => by
          have h := refFind_any s ⟨#[38]⟩ w hu (by decide) (by decide)
          rw [hx.out] at h
          exact h
        generalize T.findI [38] (s.data.toList.takeWhile (· ≠ 60)) = z at *
        go_wp2_with fail
        go_region_with (first | (go_at_call 95; refine (h38 _).mono ?_; rintro e w' ⟨rfl, rfl⟩))
        all_goals go_wp2_with fail
        exact part_end (rb := w.heap.size) rfl rfl (part_set k2.out).drew ⟨congrArg Ending.returned (partVal_ok _ hg.out rfl rfl hm.out hd2.out hy.out), (part_below c2 (Nat.le_refl _) _ _ _ _ _ _ _).drew⟩
end Go.Proofs.YtcjlhdmekhifaaaGreatDoor
namespace Go.Proofs.YtcjlhdmekhifaaaGreatDoor
open Go.RowKit

namespace T
theorem pi_noneR {l : List UInt8} (h : nameAt l = none) : pi l = .error 70 := by unfold pi; rw [h]
theorem pi_xmlR {l n r : List UInt8} (h : nameAt l = some (n, r)) (hx : n.map lower = [120, 109, 108]) : pi l = .error 70 := by unfold pi; rw [h]; simp only; rw [if_pos hx]
theorem pi_end {l n r : List UInt8} (h : nameAt l = some (n, r)) (hx : ¬ n.map lower = [120, 109, 108]) (hc : cutAt [63, 62] r = none) : pi l = .error 70 := by unfold pi; rw [h]; simp only; rw [if_neg hx, hc]
theorem pi_bad {l n r x y : List UInt8} (h : nameAt l = some (n, r)) (hx : ¬ n.map lower = [120, 109, 108]) (hc : cutAt [63, 62] r = some (x, y)) (hs : spaced x = false) : pi l = .error 70 := by
  unfold pi; rw [h]; simp only; rw [if_neg hx, hc]; simp only; rw [if_neg (by rw [hs]; decide)]
theorem pi_okR {l n r x y : List UInt8} (h : nameAt l = some (n, r)) (hx : ¬ n.map lower = [120, 109, 108]) (hc : cutAt [63, 62] r = some (x, y)) (hs : spaced x = true) : pi l = .ok (⟨4, n, [], false, skip x⟩, y) := by
  unfold pi; rw [h]; simp only; rw [if_neg hx, hc]; simp only; rw [if_pos hs]
theorem spaced_at {x : List UInt8} {c : UInt8} {t : List UInt8} (h : x = c :: t) : spaced x = G.space (c.toNat : Int) := by subst h; rfl
end T

set_option maxRecDepth 100000 in
set_option maxHeartbeats 1600000 in
theorem refPi_any (s : ByteArray) (w : World) (hs : s.size ≤ 1000000) :
    Calls Tryz.prog 52 #[.string s] w fun x w' => x = .returned (partVal (T.pi s.data.toList) (.slice none 0 0)) ∧ Below w.heap.size w w' := by
  go_enter Tryz.func52, Tryz.ntmps52
  have b0 := (Below.refl w.heap.size w).alloc (Nat.le_refl _) (.cells (partCells 0 ⟨#[]⟩ (.slice none 0 0) false ⟨#[]⟩ ⟨#[]⟩ 0) 53)
  have k0 := Cells.new w 53 (partCells 0 ⟨#[]⟩ (.slice none 0 0) false ⟨#[]⟩ ⟨#[]⟩ 0)
  go_wp2_with fail
  (with_reducible refine (refName_any s _ (by unfold maxLen; omega)).mono ?_); rintro e w1 ⟨rfl, b1⟩
  have k1 := k0.on b1
  have c1 := b0.trans (b1.mono b0.size)
  clear k0 b0 b1
  cases hn : T.nameAt s.data.toList with
  | none =>
    have hg := Lib.hid (T.pi_noneR hn)
    obtain ⟨e1, e2, e3⟩ := name_noneR hn
    rw [e1, e2, e3]
    clear e1 e2 e3 hn
    go_wp2_with fail
    (with_reducible refine (refFailed_any 70 _).mono ?_); rintro e wF ⟨rfl, bF⟩
    have kF := k1.on bF
    have cF := c1.trans (bF.mono c1.size)
    obtain ⟨q0, q1, q2, q3, q4, q5, q6⟩ := part_open kF
    obtain ⟨f0, f1, f2, f3, f4, f5, f6⟩ := part_free kF
    replace kF := Lib.hid kF
    unfold partAgg partCells
    go_wp2_with fail
    exact part_end (rb := w.heap.size) rfl rfl (part_set kF.out) ⟨by rw [partVal_err _ hg.out]; rfl, part_below cF (Nat.le_refl _) _ _ _ _ _ _ _⟩
  | some q =>
    obtain ⟨n, r⟩ := q
    obtain ⟨a, b, e1, e2, e3, ea, eb, hlt, hle⟩ := name_some hn
    rw [e1, e2, e3]
    have hlo := Rt.loB_list a
    rw [ea] at hlo
    clear e1 e2 e3
    replace ea := Lib.hid ea
    go_wp2_with fail
    (with_reducible refine (refLower_any a _ (by omega)).mono ?_); rintro e w2 ⟨rfl, b2⟩
    have k2 := k1.on b2
    have c2 := c1.trans (b2.mono c1.size)
    clear k1 c1 b2
    generalize Rt.loB a = lo at *
    by_cases hx : n.map T.lower = [120, 109, 108]
    · have hg := Lib.hid (T.pi_xmlR hn hx)
      have l1 : (lo.toList == [120, 109, 108]) = true := Rt.str_is (hlo.trans hx)
      clear hlo hn hx
      go_wp2_with fail
      (with_reducible refine (refFailed_any 70 _).mono ?_); rintro e wF ⟨rfl, bF⟩
      have kF := k2.on bF
      have cF := c2.trans (bF.mono c2.size)
      obtain ⟨q0, q1, q2, q3, q4, q5, q6⟩ := part_open kF
      obtain ⟨f0, f1, f2, f3, f4, f5, f6⟩ := part_free kF
      replace kF := Lib.hid kF
      unfold partAgg partCells
      go_wp2_with fail
      exact part_end (rb := w.heap.size) rfl rfl (part_set kF.out) ⟨by rw [partVal_err _ hg.out]; rfl, part_below cF (Nat.le_refl _) _ _ _ _ _ _ _⟩
    have l1 : (lo.toList == [120, 109, 108]) = false := Rt.str_ne (fun e => hx (hlo.symm.trans e))
    clear hlo
    go_wp2_with fail
    (with_reducible refine (refFind_any b ⟨#[63, 62]⟩ _ (by omega) (by decide) (by decide)).mono ?_); rintro e w3 ⟨rfl, rfl⟩
    rw [eb]
    simp only []
    cases hc : T.cutAt [63, 62] r with
    | none =>
      have hg := Lib.hid (T.pi_end hn hx hc)
      rw [T.findI_none hc]
      clear hn hx hc
      go_wp2_with fail
      (with_reducible refine (refFailed_any 70 _).mono ?_); rintro e wF ⟨rfl, bF⟩
      have kF := k2.on bF
      have cF := c2.trans (bF.mono c2.size)
      obtain ⟨q0, q1, q2, q3, q4, q5, q6⟩ := part_open kF
      obtain ⟨f0, f1, f2, f3, f4, f5, f6⟩ := part_free kF
      replace kF := Lib.hid kF
      unfold partAgg partCells
      go_wp2_with fail
      exact part_end (rb := w.heap.size) rfl rfl (part_set kF.out) ⟨by rw [partVal_err _ hg.out]; rfl, part_below cF (Nat.le_refl _) _ _ _ _ _ _ _⟩
    | some q =>
      obtain ⟨x, y⟩ := q
      obtain ⟨ex, ey, hj⟩ := cut_bytes (s := b) (by rw [eb]; exact hc)
      rw [T.findI_some hc]
      have hhead : 0 < x.length → ∃ h : 0 < b.size, T.spaced x = G.space ((b[0]).toNat : Int) := fun h0 => by
        cases hxx : x with
        | nil => rw [hxx] at h0; simp at h0
        | cons d t =>
          have e4 := T.cutAt_eq hc
          rw [hxx, ← eb] at e4
          have hb0 : 0 < b.size := by have := congrArg List.length e4; rw [list_len] at this; simp at this; omega
          refine ⟨hb0, ?_⟩
          have e5 := drop_cons b 0 hb0
          rw [List.drop_zero, e4] at e5
          simp only [List.cons_append, List.cons.injEq] at e5
          rw [T.spaced_at rfl, e5.1]
      have hnil : x.length = 0 → T.spaced x = true := fun h => by rw [List.length_eq_zero_iff.1 h]; rfl
      simp only [List.length_cons, List.length_nil, Nat.reduceAdd] at hj ey
      generalize hjx : x.length = j at *
      replace ey := Lib.hid ey
      have hj0 : (0 : Int) ≤ (j : Int) := by omega
      have hj1 : (j : Int) ≤ (b.size : Int) := by omega
      have hj2 : (j : Int) + 2 ≤ (b.size : Int) := by omega
      have hj5 : IntKind.i64.wrap ((j : Int) + 2) = (j : Int) + 2 := IntWalk.i64_in _ (by omega)
      by_cases h0 : j = 0
      · have hs1 := hnil h0
        have hg := Lib.hid (T.pi_okR hn hx hc hs1)
        have hsk := fun w => refSkip5_any (b.extract 0 j) w (by unfold maxLen; simp; omega)
        have hdl := Lib.hid (show (Rt.skB (b.extract 0 j)).data.toList = T.skip x by rw [Rt.skB_list, ex])
        generalize Rt.skB (b.extract 0 j) = db at *
        clear hn hx hc hs1 ex eb hhead hnil hjx
        have hj3 : ¬ (0 : Int) < (j : Int) := by omega
        clear h0
        obtain ⟨q0, q1, q2, q3, q4, q5, q6⟩ := part_open k2
        obtain ⟨f0, f1, f2, f3, f4, f5, f6⟩ := part_free k2
        replace k2 := Lib.hid k2
        go_wp2_with fail
        go_region_with (first | (go_at_call 94; refine (hsk _).mono ?_; rintro e w' ⟨rfl, rfl⟩))
        all_goals go_wp2_with fail
        all_goals exact part_end (rb := w.heap.size) rfl rfl (part_set k2.out).drew ⟨congrArg Ending.returned (partVal_ok _ hg.out rfl ea.out rfl hdl.out ey.out), (part_below c2 (Nat.le_refl _) _ _ _ _ _ _ _).drew⟩
      · have hj3 : (0 : Int) < (j : Int) := by omega
        obtain ⟨hb0, hsp⟩ := hhead (by omega)
        have hb8 := (b[0]).toNat_lt
        cases hs1 : T.spaced x
        · have hg := Lib.hid (T.pi_bad hn hx hc hs1)
          rw [hs1] at hsp
          replace hsp := Lib.hid hsp
          clear hn hx hc hs1 ex eb hhead hnil hjx
          go_wp2_with fail
          (with_reducible refine (refSpace_any ((b[0]).toNat : Int) _).mono ?_); rintro e w4 ⟨rfl, rfl⟩
          rw [← hsp.out]
          go_wp2_with fail
          (with_reducible refine (refFailed_any 70 _).mono ?_); rintro e wF ⟨rfl, bF⟩
          have kF := k2.on bF
          have cF := c2.trans (bF.mono c2.size)
          obtain ⟨q0, q1, q2, q3, q4, q5, q6⟩ := part_open kF
          obtain ⟨f0, f1, f2, f3, f4, f5, f6⟩ := part_free kF
          replace kF := Lib.hid kF
          unfold partAgg partCells
          go_wp2_with fail
          exact part_end (rb := w.heap.size) rfl rfl (part_set kF.out) ⟨by rw [partVal_err _ hg.out]; rfl, part_below cF (Nat.le_refl _) _ _ _ _ _ _ _⟩
        · rw [hs1] at hsp
          replace hsp := Lib.hid hsp
          have hg := Lib.hid (T.pi_okR hn hx hc hs1)
          have hsk := fun w => refSkip5_any (b.extract 0 j) w (by unfold maxLen; simp; omega)
          have hdl := Lib.hid (show (Rt.skB (b.extract 0 j)).data.toList = T.skip x by rw [Rt.skB_list, ex])
          generalize Rt.skB (b.extract 0 j) = db at *
          clear hn hx hc hs1 ex eb hhead hnil hjx
          go_wp2_with fail
          (with_reducible refine (refSpace_any ((b[0]).toNat : Int) _).mono ?_); rintro e w4 ⟨rfl, rfl⟩
          rw [← hsp.out]
          obtain ⟨q0, q1, q2, q3, q4, q5, q6⟩ := part_open k2
          obtain ⟨f0, f1, f2, f3, f4, f5, f6⟩ := part_free k2
          replace k2 := Lib.hid k2
          go_wp2_with fail
          go_region_with (first | (go_at_call 94; refine (hsk _).mono ?_; rintro e w' ⟨rfl, rfl⟩))
          all_goals go_wp2_with fail
          all_goals exact part_end (rb := w.heap.size) rfl rfl (part_set k2.out).drew ⟨congrArg Ending.returned (partVal_ok _ hg.out rfl ea.out rfl hdl.out ey.out), (part_below c2 (Nat.le_refl _) _ _ _ _ _ _ _).drew⟩

namespace Rt
/-- quoted's answers. -/
def quA (s : ByteArray) : ByteArray := match T.quoted s.data.toList with | some x => ⟨x.1.toArray⟩ | none => ⟨#[]⟩
def quB (s : ByteArray) : ByteArray := match T.quoted s.data.toList with | some x => ⟨x.2.toArray⟩ | none => ⟨#[]⟩
def quC (s : ByteArray) : Bool := (T.quoted s.data.toList).isSome
theorem qu_none {s : ByteArray} (h : T.quoted s.data.toList = none) : quA s = ⟨#[]⟩ ∧ quB s = ⟨#[]⟩ ∧ quC s = false := by unfold quA quB quC; rw [h]; exact ⟨rfl, rfl, rfl⟩
theorem qu_some {s : ByteArray} {x y : List UInt8} (h : T.quoted s.data.toList = some (x, y)) : quA s = ⟨x.toArray⟩ ∧ quB s = ⟨y.toArray⟩ ∧ quC s = true := by unfold quA quB quC; rw [h]; exact ⟨rfl, rfl, rfl⟩
end Rt
theorem ret_ssb {a a' b b' : ByteArray} {c c' : Bool} (h1 : a = a') (h2 : b = b') (h3 : c = c') : Ending.returned (.tuple #[.string a, .string b, .bool c]) = .returned (.tuple #[.string a', .string b', .bool c']) := by rw [h1, h2, h3]
theorem T.quoted_no {c : UInt8} {t : List UInt8} (h : ¬ (c = 34 ∨ c = 39)) : T.quoted (c :: t) = none := by unfold T.quoted; simp only; rw [if_neg h]
theorem T.quoted_yes {c : UInt8} {t : List UInt8} (h : c = 34 ∨ c = 39) : T.quoted (c :: t) = T.cutAt [c] t := by unfold T.quoted; simp only; rw [if_pos h]

set_option maxRecDepth 100000 in
set_option maxHeartbeats 1600000 in
theorem refQuoted_any (s : ByteArray) (w : World) (hs : s.size ≤ 1000000) :
    Calls Tryz.prog 126 #[.string s] w fun x w' => x = .returned (.tuple #[.string (Rt.quA s), .string (Rt.quB s), .bool (Rt.quC s)]) ∧ Below w.heap.size w w' := by
  go_enter Tryz.func126, Tryz.ntmps126
  by_cases h0 : s.size = 0
  · obtain rfl : s = ByteArray.empty := ByteArray.size_eq_zero_iff.1 h0
    obtain ⟨r1, r2, r3⟩ := Rt.qu_none (s := ByteArray.empty) rfl
    replace r1 := Lib.hid r1
    replace r2 := Lib.hid r2
    replace r3 := Lib.hid r3
    have he : ByteArray.empty.toList.isEmpty = true := by rw [ByteArray.toList_eq]; rfl
    go_wp2
    go_ret3
    exact ⟨ret_ssb r1.out.symm r2.out.symm r3.out.symm, ⟨rfl, rfl, rfl, Nat.le_refl _, fun _ _ => rfl⟩⟩
  have hpos : 0 < s.size := by omega
  have hne := ne_empty hpos
  have hc := drop_cons s 0 hpos
  rw [List.drop_zero] at hc
  by_cases hq : (s[0]).toNat = 34 ∨ (s[0]).toNat = 39
  · have hqc : s[0] = 34 ∨ s[0] = 39 := hq.imp (fun h => byte_is (c := 34) h) (fun h => byte_is (c := 39) h)
    have hqq := T.quoted_yes (t := s.data.toList.drop 1) hqc
    rw [← hc] at hqq
    have hs1 : (s.extract 1 s.size).data.toList = s.data.toList.drop 1 := drop_list s 1
    have h1l : (s.extract 0 1).data.toList = [s[0]] := by rw [take_list, hc]; rfl
    have hfind : ∀ w, Calls Tryz.prog 95 #[.string (s.extract 1 s.size), .string (s.extract 0 1)] w fun e w' => e = .returned (.int .i64 (T.findI [s[0]] (s.data.toList.drop 1))) ∧ w = w' := fun w => by
      have h := refFind_any (s.extract 1 s.size) (s.extract 0 1) w (by simp; omega) (by simp; omega) (by simp; omega)
      rw [hs1, h1l] at h
      exact h
    have hcases : (Hid (T.quoted s.data.toList = none) ∧ T.findI [s[0]] (s.data.toList.drop 1) = -1) ∨ ∃ (j : Nat) (x y : List UInt8), Hid (T.quoted s.data.toList = some (x, y)) ∧ T.findI [s[0]] (s.data.toList.drop 1) = (j : Int) ∧ j + 2 ≤ s.size ∧ Hid ((s.extract 1 (j + 1)).data.toList = x) ∧ Hid ((s.extract (j + 2) s.size).data.toList = y) := by
      cases hx : T.cutAt [s[0]] (s.data.toList.drop 1) with
      | none => exact .inl ⟨Lib.hid (hqq.trans hx), T.findI_none hx⟩
      | some p =>
        obtain ⟨x, y⟩ := p
        obtain ⟨e1, e2, e3⟩ := cut_bytes (s := s.extract 1 s.size) (by rw [hs1]; exact hx)
        simp only [List.length_cons, List.length_nil, Nat.reduceAdd] at e2 e3
        have hz : (s.extract 1 s.size).size = s.size - 1 := by simp
        refine .inr ⟨x.length, x, y, Lib.hid (hqq.trans hx), T.findI_some hx, by omega, Lib.hid ?_, Lib.hid ?_⟩
        · have h : (s.extract 1 (x.length + 1)).data.toList = ((s.extract 1 s.size).extract 0 x.length).data.toList := by rw [take_list, hs1, extract_list, List.take_drop, Nat.add_comm]
          exact h.trans e1
        · have h : (s.extract (x.length + 2) s.size).data.toList = ((s.extract 1 s.size).extract (x.length + 1) (s.extract 1 s.size).size).data.toList := by
            rw [drop_list, drop_list, hs1, List.drop_drop]
            congr 1; omega
          exact h.trans e2
    have hg : ((s[0]).toNat : Int) = 34 ∨ (((s[0]).toNat : Int) != 34) = true ∧ ((s[0]).toNat : Int) = 39 := by
      rcases hq with h | h
      · left; omega
      · right; rw [h]; exact ⟨rfl, rfl⟩
    have hb1 : (1 : Int) ≤ (s.size : Int) := by omega
    clear hq hqc hqq hs1 h1l hc
    rcases hcases with ⟨hn, hf⟩ | ⟨j, x, y, hn, hf, hj, ex, ey⟩
    · rw [hf] at hfind
      obtain ⟨r1, r2, r3⟩ := Rt.qu_none hn.out
      replace r1 := Lib.hid r1
      replace r2 := Lib.hid r2
      replace r3 := Lib.hid r3
      clear hf
      rcases hg with g1 | ⟨g1, g2⟩
      all_goals
        go_wp2_with fail
        go_region_with (first | (go_at_call 95; refine (hfind _).mono ?_; rintro e w' ⟨rfl, rfl⟩))
        go_wp2_with fail
        go_ret3
        exact ⟨ret_ssb r1.out.symm r2.out.symm r3.out.symm, ⟨rfl, rfl, rfl, Nat.le_refl _, fun _ _ => rfl⟩⟩
    · rw [hf] at hfind
      obtain ⟨r1, r2, r3⟩ := Rt.qu_some hn.out
      have e1 := Lib.hid (show Rt.quA s = s.extract 1 (j + 1) by rw [r1]; exact bytes_eq ex.out.symm)
      have e2 := Lib.hid (show Rt.quB s = s.extract (j + 2) s.size by rw [r2]; exact bytes_eq ey.out.symm)
      replace r3 := Lib.hid r3
      have hj0 : (0 : Int) ≤ (j : Int) := by omega
      have hj1 : (j : Int) + 1 ≤ (s.size : Int) := by omega
      have hj2 : (j : Int) + 2 ≤ (s.size : Int) := by omega
      clear hf r1 r2
      rcases hg with g1 | ⟨g1, g2⟩
      all_goals
        go_wp2_with fail
        go_region_with (first | (go_at_call 95; refine (hfind _).mono ?_; rintro e w' ⟨rfl, rfl⟩))
        go_wp2_with fail
        go_quiet (fail)
        go_wp2_with fail
        go_ret3
        exact ⟨ret_ssb e1.out.symm e2.out.symm r3.out.symm, ⟨rfl, rfl, rfl, Nat.le_refl _, fun _ _ => rfl⟩⟩
  · have hg1 : (((s[0]).toNat : Int) != 34) = true := by rw [bne_iff_ne]; omega
    have hg2 : (((s[0]).toNat : Int) != 39) = true := by rw [bne_iff_ne]; omega
    obtain ⟨r1, r2, r3⟩ := Rt.qu_none (s := s) (by rw [hc]; exact T.quoted_no (fun h => hq (h.imp (fun e => by rw [e]; rfl) (fun e => by rw [e]; rfl))))
    replace r1 := Lib.hid r1
    replace r2 := Lib.hid r2
    replace r3 := Lib.hid r3
    clear hc hq
    go_wp2
    go_ret3
    exact ⟨ret_ssb r1.out.symm r2.out.symm r3.out.symm, ⟨rfl, rfl, rfl, Nat.le_refl _, fun _ _ => rfl⟩⟩
end Go.Proofs.YtcjlhdmekhifaaaGreatDoor
