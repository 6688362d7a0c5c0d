/-
  What the document's own words of tokens come to: text, pi, quoted.
-/
import Derived.Test.YtegaidfmkfnbnaaGreatDoorQ04
import Derived.Deep.RegionWith
namespace Go.Proofs.YtegaidfmkfnbnaaGreatDoor
open Go.RowKit

namespace T
theorem text_cut {l x : List UInt8} (hx : l.takeWhile (· ≠ 60) = x) (h : (cutAt [93, 93, 62] x).isSome = true) : text l = .error 70 := by unfold text; rw [hx, if_pos h]
theorem text_bad {l x : List UInt8} (hx : l.takeWhile (· ≠ 60) = x) (h : cutAt [93, 93, 62] x = none) (he : E.expand false x = none) : text l = .error 60 := by
  unfold text; rw [hx, if_neg (by rw [h]; decide), he]
theorem text_ok {l x y d : List UInt8} (hx : l.takeWhile (· ≠ 60) = x) (hy : l.dropWhile (· ≠ 60) = y) (h : cutAt [93, 93, 62] x = none) (he : E.expand false x = some d) : text l = .ok (⟨2, [], [], decide (38 ∈ x), d⟩, y) := by
  unfold text; rw [hx, if_neg (by rw [h]; decide), he, hy]
theorem find_mem (c : UInt8) (x : List UInt8) : decide ((0 : Int) ≤ findI [c] x) = decide (c ∈ x) := by
  rcases cut_one (c := c) x with ⟨h1, _, _, h4⟩ | ⟨r, h1, _, h3⟩
  · rw [decide_eq_false h4]; exact decide_eq_false (findI_neg h1)
  · rw [decide_eq_true h3]; exact decide_eq_true (findI_pos h1)
end T

set_option maxRecDepth 100000 in
set_option maxHeartbeats 1600000 in
theorem refText_any (s : ByteArray) (w : World) (hs : s.size ≤ 1000000) :
    Calls Tryz.prog 76 #[.string s] w fun x w' => x = .returned (partVal (T.text s.data.toList) (.slice none 0 0)) ∧ Below w.heap.size w w' := by
  go_enter Tryz.func76, Tryz.ntmps76
  have b0 := (Below.refl w.heap.size w).alloc (Nat.le_refl _) (.cells (partCells 0 ⟨#[]⟩ (.slice none 0 0) false ⟨#[]⟩ ⟨#[]⟩ 0) 70)
  have k0 := Cells.new w 70 (partCells 0 ⟨#[]⟩ (.slice none 0 0) false ⟨#[]⟩ ⟨#[]⟩ 0)
  go_wp2_with fail
  (with_reducible refine (refFind_any s ⟨#[60]⟩ _ hs (by decide) (by decide)).mono ?_); rintro e w1 ⟨rfl, rfl⟩
  have key : ∃ j : Nat, j ≤ s.size ∧ (s.extract 0 j).data.toList = s.data.toList.takeWhile (· ≠ 60) ∧ (s.extract j s.size).data.toList = s.data.toList.dropWhile (· ≠ 60) ∧
      (T.findI [60] s.data.toList = (j : Int) ∨ T.findI [60] s.data.toList = -1 ∧ j = s.size) := by
    rcases T.cut_one (c := 60) s.data.toList with ⟨h1, h2, h3, _⟩ | ⟨r, h1, h2, _⟩
    · refine ⟨s.size, Nat.le_refl _, ?_, ?_, .inr ⟨T.findI_none h1, rfl⟩⟩
      · rw [h2, take_list, List.take_of_length_le (by rw [list_len]; exact Nat.le_refl _)]
      · rw [h3, drop_list, List.drop_of_length_le (by rw [list_len]; exact Nat.le_refl _)]
    · obtain ⟨e1, e2, e3⟩ := cut_bytes h1
      simp only [List.length_cons, List.length_nil, Nat.reduceAdd] at e3
      refine ⟨_, by omega, e1, ?_, .inl (T.findI_some h1)⟩
      have e4 := T.cutAt_eq h1
      have e5 := congrArg (List.drop (s.data.toList.takeWhile (· ≠ 60)).length) e4
      rw [List.append_assoc, List.drop_left] at e5
      rw [h2, drop_list]
      exact e5
  obtain ⟨j, hj, hx, hy, hf⟩ := key
  have hu : (s.extract 0 j).size ≤ 1000000 := by simp; omega
  replace hx := Lib.hid hx
  replace hy := Lib.hid hy
  have hj0 : (0 : Int) ≤ (j : Int) := by omega
  have hj1 : (j : Int) ≤ (s.size : Int) := by omega
  rcases hf with hf | ⟨hf, rfl⟩
  · rw [hf]
    clear hf
    go_wp2_with fail
    (with_reducible refine (refFind_any (s.extract 0 j) ⟨#[93, 93, 62]⟩ _ hu (by decide) (by decide)).mono ?_); rintro e w1 ⟨rfl, rfl⟩
    rw [hx.out]
    simp only []
    cases hc : T.cutAt [93, 93, 62] (s.data.toList.takeWhile (· ≠ 60)) with
    | some x =>
      have hg := Lib.hid (T.text_cut rfl (by rw [hc]; rfl))
      have hp := T.findI_pos hc
      generalize T.findI [93, 93, 62] (s.data.toList.takeWhile (· ≠ 60)) = z at *
      clear hc
      go_wp2_with fail
      (with_reducible refine (refFailed_any 70 _).mono ?_); rintro e wF ⟨rfl, bF⟩
      have kF := k0.on bF
      have cF := b0.trans (bF.mono b0.size)
      obtain ⟨q0, q1, q2, q3, q4, q5, q6⟩ := part_open kF
      obtain ⟨f0, f1, f2, f3, f4, f5, f6⟩ := part_free kF
      replace kF := Lib.hid kF
      unfold partAgg partCells
      go_wp2_with fail
      exact part_end (rb := w.heap.size) rfl rfl (part_set kF.out) ⟨by rw [partVal_err _ hg.out]; rfl, part_below cF (Nat.le_refl _) _ _ _ _ _ _ _⟩
    | none =>
      rw [T.findI_none hc]
      go_wp2_with fail
      (with_reducible refine (refExpandT_any (s.extract 0 j) _ hu).mono ?_); rintro e w2 ⟨rfl, b2⟩
      have k2 := k0.on b2
      have c2 := b0.trans (b2.mono b0.size)
      cases he : E.expand false (s.data.toList.takeWhile (· ≠ 60)) with
      | none =>
        have hg := Lib.hid (T.text_bad rfl hc he)
        obtain ⟨e1, e2⟩ := E.exp_none (attr := false) (s := (s.extract 0 j)) (by rw [hx.out]; exact he)
        rw [e1, e2]
        clear e1 e2 hc he
        go_wp2_with fail
        (with_reducible refine (refFailed_any 60 _).mono ?_); rintro e wF ⟨rfl, bF⟩
        have kF := k2.on bF
        have cF := c2.trans (bF.mono c2.size)
        obtain ⟨q0, q1, q2, q3, q4, q5, q6⟩ := part_open kF
        obtain ⟨f0, f1, f2, f3, f4, f5, f6⟩ := part_free kF
        replace kF := Lib.hid kF
        unfold partAgg partCells
        go_wp2_with fail
        exact part_end (rb := w.heap.size) rfl rfl (part_set kF.out) ⟨by rw [partVal_err _ hg.out]; rfl, part_below cF (Nat.le_refl _) _ _ _ _ _ _ _⟩
      | some d =>
        have hg := Lib.hid (T.text_ok rfl rfl hc he)
        obtain ⟨e1, e2⟩ := E.exp_some (attr := false) (s := (s.extract 0 j)) (by rw [hx.out]; exact he)
        rw [e1, e2]
        have hm := T.find_mem 38 (s.data.toList.takeWhile (· ≠ 60))
        generalize hd : (⟨d.toArray⟩ : ByteArray) = db at *
        have hd2 := Lib.hid (show db.data.toList = d by rw [← hd])
        clear e1 e2 hc he hd
        replace hm := Lib.hid hm
        obtain ⟨q0, q1, q2, q3, q4, q5, q6⟩ := part_open k2
        obtain ⟨f0, f1, f2, f3, f4, f5, f6⟩ := part_free k2
        replace k2 := Lib.hid k2
        have h38 : ∀ w, Calls Tryz.prog 98 #[.string (s.extract 0 j), .string ⟨#[38]⟩] w fun e w' => e = .returned (.int .i64 (T.findI [38] (s.data.toList.takeWhile (· ≠ 60)))) ∧ w = w' := fun w => by
          have h := refFind_any (s.extract 0 j) ⟨#[38]⟩ w hu (by decide) (by decide)
          rw [hx.out] at h
          exact h
        generalize T.findI [38] (s.data.toList.takeWhile (· ≠ 60)) = z at *
        go_wp2_with fail
        go_region_with (first | (go_at_call 98; refine (h38 _).mono ?_; rintro e w' ⟨rfl, rfl⟩))
        all_goals go_wp2_with fail
        exact part_end (rb := w.heap.size) rfl rfl (part_set k2.out).drew ⟨congrArg Ending.returned (partVal_ok _ hg.out rfl rfl hm.out hd2.out hy.out), (part_below c2 (Nat.le_refl _) _ _ _ _ _ _ _).drew⟩
  · rw [hf]
    clear hf
    have hxx : s.extract 0 s.size = s := extract_full s
    rw [hxx] at hx hu
    have hyy : s.extract s.size s.size = ByteArray.empty := ex_none s s.size (Nat.le_refl _)
    rw [hyy] at hy
    clear hxx hyy
    go_wp2_with fail
    (with_reducible refine (refFind_any s ⟨#[93, 93, 62]⟩ _ hu (by decide) (by decide)).mono ?_); rintro e w1 ⟨rfl, rfl⟩
    rw [hx.out]
    simp only []
    cases hc : T.cutAt [93, 93, 62] (s.data.toList.takeWhile (· ≠ 60)) with
    | some x =>
      have hg := Lib.hid (T.text_cut rfl (by rw [hc]; rfl))
      have hp := T.findI_pos hc
      generalize T.findI [93, 93, 62] (s.data.toList.takeWhile (· ≠ 60)) = z at *
      clear hc
      go_wp2_with fail
      (with_reducible refine (refFailed_any 70 _).mono ?_); rintro e wF ⟨rfl, bF⟩
      have kF := k0.on bF
      have cF := b0.trans (bF.mono b0.size)
      obtain ⟨q0, q1, q2, q3, q4, q5, q6⟩ := part_open kF
      obtain ⟨f0, f1, f2, f3, f4, f5, f6⟩ := part_free kF
      replace kF := Lib.hid kF
      unfold partAgg partCells
      go_wp2_with fail
      exact part_end (rb := w.heap.size) rfl rfl (part_set kF.out) ⟨by rw [partVal_err _ hg.out]; rfl, part_below cF (Nat.le_refl _) _ _ _ _ _ _ _⟩
    | none =>
      rw [T.findI_none hc]
      go_wp2_with fail
      (with_reducible refine (refExpandT_any s _ hu).mono ?_); rintro e w2 ⟨rfl, b2⟩
      have k2 := k0.on b2
      have c2 := b0.trans (b2.mono b0.size)
      cases he : E.expand false (s.data.toList.takeWhile (· ≠ 60)) with
      | none =>
        have hg := Lib.hid (T.text_bad rfl hc he)
        obtain ⟨e1, e2⟩ := E.exp_none (attr := false) (s := s) (by rw [hx.out]; exact he)
        rw [e1, e2]
        clear e1 e2 hc he
        go_wp2_with fail
        (with_reducible refine (refFailed_any 60 _).mono ?_); rintro e wF ⟨rfl, bF⟩
        have kF := k2.on bF
        have cF := c2.trans (bF.mono c2.size)
        obtain ⟨q0, q1, q2, q3, q4, q5, q6⟩ := part_open kF
        obtain ⟨f0, f1, f2, f3, f4, f5, f6⟩ := part_free kF
        replace kF := Lib.hid kF
        unfold partAgg partCells
        go_wp2_with fail
        exact part_end (rb := w.heap.size) rfl rfl (part_set kF.out) ⟨by rw [partVal_err _ hg.out]; rfl, part_below cF (Nat.le_refl _) _ _ _ _ _ _ _⟩
      | some d =>
        have hg := Lib.hid (T.text_ok rfl rfl hc he)
        obtain ⟨e1, e2⟩ := E.exp_some (attr := false) (s := s) (by rw [hx.out]; exact he)
        rw [e1, e2]
        have hm := T.find_mem 38 (s.data.toList.takeWhile (· ≠ 60))
        generalize hd : (⟨d.toArray⟩ : ByteArray) = db at *
        have hd2 := Lib.hid (show db.data.toList = d by rw [← hd])
        clear e1 e2 hc he hd
        replace hm := Lib.hid hm
        obtain ⟨q0, q1, q2, q3, q4, q5, q6⟩ := part_open k2
        obtain ⟨f0, f1, f2, f3, f4, f5, f6⟩ := part_free k2
        replace k2 := Lib.hid k2
        have h38 : ∀ w, Calls Tryz.prog 98 #[.string s, .string ⟨#[38]⟩] w fun e w' => e = .returned (.int .i64 (T.findI [38] (s.data.toList.takeWhile (· ≠ 60)))) ∧ w = w' := fun w => by
          have h := refFind_any s ⟨#[38]⟩ w hu (by decide) (by decide)
          rw [hx.out] at h
          exact h
        generalize T.findI [38] (s.data.toList.takeWhile (· ≠ 60)) = z at *
        go_wp2_with fail
        go_region_with (first | (go_at_call 98; refine (h38 _).mono ?_; rintro e w' ⟨rfl, rfl⟩))
        all_goals go_wp2_with fail
        exact part_end (rb := w.heap.size) rfl rfl (part_set k2.out).drew ⟨congrArg Ending.returned (partVal_ok _ hg.out rfl rfl hm.out hd2.out hy.out), (part_below c2 (Nat.le_refl _) _ _ _ _ _ _ _).drew⟩
end Go.Proofs.YtegaidfmkfnbnaaGreatDoor
