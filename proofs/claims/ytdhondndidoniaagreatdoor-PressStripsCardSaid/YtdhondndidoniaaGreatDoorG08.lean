/-
  The program's own words of a node: isElement, isPlain, attribute.
-/
import Derived.Test.YtdhondndidoniaaGreatDoorG06
namespace Go.Proofs.YtdhondndidoniaaGreatDoor
open Go.RowKit
set_option linter.unusedVariables false
set_option linter.unusedSimpArgs false

set_option maxRecDepth 100000 in
set_option maxHeartbeats 3200000 in
theorem pIs_at (k : Int) (sp nm d s m : ByteArray) (va vk : Value) (as' : List Gv.Att) (kids : List Gv.Node) (w : World) :
    Calls Tryz.prog 41 #[.agg #[.int .i64 k, .string sp, .string nm, va, vk, .string d], .string s, .string m] w fun e w' => e = .returned (.bool (Am.isEl (.mk k sp nm as' kids d) s.data.toList m.data.toList)) ∧ Below w.heap.size w w' := by
  have hq : Hid (Am.isEl (.mk k sp nm as' kids d) s.data.toList m.data.toList = (decide (k = 0) && decide (sp.data.toList = s.data.toList) && decide (nm.data.toList = m.data.toList))) := Lib.hid rfl
  generalize Am.isEl (.mk k sp nm as' kids d) s.data.toList m.data.toList = Q at *
  have b1 := (Below.refl w.heap.size w).alloc (Nat.le_refl _) (.cells #[.int .i64 k, .string sp, .string nm, va, vk, .string d] 27)
  by_cases h0 : k = 0
  · subst h0
    by_cases h1 : sp.data.toList = s.data.toList
    · have e1 := am_yes h1
      by_cases h2 : nm.data.toList = m.data.toList
      · have e2 := am_yes h2
        have hr : Hid (Q = true) := Lib.hid (by rw [hq.out]; simp [h1, h2])
        clear hq h1 h2
        go_enter Tryz.func41, Tryz.ntmps41
        go_wp2_with fail
        go_ret
        exact ⟨ret_bool hr.out.symm, b1⟩
      · have e2 := am_no h2
        have hr : Hid (Q = false) := Lib.hid (by rw [hq.out]; simp [h1, h2])
        clear hq h1 h2
        go_enter Tryz.func41, Tryz.ntmps41
        go_wp2_with fail
        go_ret
        exact ⟨ret_bool hr.out.symm, b1⟩
    · have e1 := am_no h1
      have hr : Hid (Q = false) := Lib.hid (by rw [hq.out]; simp [h1])
      clear hq h1
      go_enter Tryz.func41, Tryz.ntmps41
      go_wp2_with fail
      go_ret
      exact ⟨ret_bool hr.out.symm, b1⟩
  · have e0 : (k == 0) = false := beq_false_of_ne h0
    have hr : Hid (Q = false) := Lib.hid (by rw [hq.out]; simp [h0])
    clear hq h0
    go_enter Tryz.func41, Tryz.ntmps41
    go_wp2_with fail
    go_ret
    exact ⟨ret_bool hr.out.symm, b1⟩


theorem pIs_any (n : Gv.Node) {A : Array Value} (s m : ByteArray) (w : World) (h : Nd w A n) :
    Calls Tryz.prog 41 #[.agg A, .string s, .string m] w fun e w' => e = .returned (.bool (Am.isEl n s.data.toList m.data.toList)) ∧ Below w.heap.size w w' := by
  obtain ⟨S, k, sp, nm, d, as', kids, ao, bo, ca, cb, rfl, rfl, ha, hk, h1, h2⟩ := h.form
  exact pIs_at k sp nm d s m _ _ as' kids w

set_option maxRecDepth 100000 in
set_option maxHeartbeats 3200000 in
theorem pPlain_any (n : Gv.Node) {A : Array Value} (w : World) (h : Nd w A n) :
    Calls Tryz.prog 119 #[.agg A] w fun e w' => e = .returned (.bool (Am.plain n)) ∧ Below w.heap.size w w' := by
  obtain ⟨S, k, sp, nm, d, as', kids, ao, bo, ca, cb, rfl, rfl, ha, hK, h1, hl⟩ := h.form
  unfold maxLen at hl
  have hq : Hid (Am.plain (.mk k sp nm as' kids d) = kids.all fun k => decide (Am.kindOf k ≠ 0)) := Lib.hid rfl
  generalize Am.plain (.mk k sp nm as' kids d) = Q at *
  have b1 := (Below.refl w.heap.size w).alloc (Nat.le_refl _) (.cells #[.int .i64 k, .string sp, .string nm, .slice ao as'.length ca, .slice bo kids.length cb, .string d] 27)
  have hK1 := hK.on b1
  go_enter Tryz.func119, Tryz.ntmps119
  go_wp2_with fail
  obtain ⟨-, -, -, -, c4, -⟩ := node_open (Cells.new w 27 (nodeArr k sp nm (.slice ao as'.length ca) (.slice bo kids.length cb) d))
  unfold nodeArr at c4
  generalize w.alloc (.cells #[.int .i64 k, .string sp, .string nm, .slice ao as'.length ca, .slice bo kids.length cb, .string d] 27) = wA at *
  replace b1 := Lib.hid b1
  replace hK1 := Lib.hid hK1
  clear hK h ha
  go_loopw [8] (fun i wr => ∃ j : Nat, j ≤ kids.length ∧ i = .int .i64 (j : Int) ∧ Hid ((kids.take j).all (fun k => decide (Am.kindOf k ≠ 0)) = true) ∧ Hid (Below wA.heap.size wA wr)) (fun i _ => kids.length - (intOf i).toNat)
  case atStart => exact ⟨0, Nat.zero_le _, rfl, Lib.hid (by simp), Lib.hid (Below.refl _ _)⟩
  case round =>
    obtain ⟨j, hj, rfl, hD, bw⟩ := hrel
    by_cases hlt : j < kids.length
    · obtain ⟨b, off, k', sp', nm', d', as2, kids2, po, qo, pc, qc, rfl, ek, d0, d1, d2, d3, d4, d5, -⟩ := (hK1.out.on bw.out).kid hlt
      have hji : (j : Int) < (kids.length : Int) := by omega
      have R := Cells.new wr 27 #[.int .i64 k', .string sp', .string nm', .slice po as2.length pc, .slice qo kids2.length qc, .string d']
      have q0 := R.cell (i := 0) rfl
      have bP := Lib.hid (bw.out.alloc (by have := bw.out.size; omega) (.cells #[.int .i64 k', .string sp', .string nm', .slice po as2.length pc, .slice qo kids2.length qc, .string d'] 27))
      clear R
      by_cases h0 : k' = 0
      · subst h0
        have hr : Hid (Q = false) := Lib.hid (by rw [hq.out]; exact am_all_bad _ _ j hlt (by rw [ek]; rfl))
        have bF := Lib.hid (b1.out.trans (bP.out.mono b1.out.size))
        clear hD ek hq bw bP
        go_wp2_with fail
        go_ret
        exact ⟨ret_bool hr.out.symm, bF.out⟩
      · have e0 : (k' == 0) = false := beq_false_of_ne h0
        have hD' := Lib.hid (am_all_more _ _ j hlt hD.out (by rw [ek]; exact decide_eq_true h0))
        clear hD ek h0 bw
        go_wp2_with fail
        go_roundw
        case rel => exact ⟨j + 1, by omega, by go_num, hD', bP⟩
        case measure => simp [intOf]; omega
    · have hr : Hid (Q = true) := Lib.hid (by rw [hq.out]; have := hD.out; rwa [List.take_of_length_le (by omega)] at this)
      have hki : ¬ (j : Int) < (kids.length : Int) := by omega
      have bF := Lib.hid (b1.out.trans (bw.out.mono b1.out.size))
      clear hD hq bw
      go_wp2_with fail
      go_ret
      exact ⟨ret_bool hr.out.symm, bF.out⟩

set_option maxRecDepth 100000 in
set_option maxHeartbeats 3200000 in
theorem pAttr_any (n : Gv.Node) {A : Array Value} (name : ByteArray) (w : World) (h : Nd w A n) :
    Calls Tryz.prog 113 #[.agg A, .string name] w fun e w' => e = .returned (.tuple #[.string (atA (Am.attr n name.data.toList)), .bool (atB (Am.attr n name.data.toList))]) ∧ Below w.heap.size w w' := by
  obtain ⟨S, k, sp, nm, d, as', kids, ao, bo, ca, cb, rfl, rfl, hA, hK, hl, h2⟩ := h.form
  unfold maxLen at hl
  have hq : Hid (Am.attr (.mk k sp nm as' kids d) name.data.toList = Am.attrIn as' name.data.toList) := Lib.hid rfl
  generalize Am.attr (.mk k sp nm as' kids d) name.data.toList = Q at *
  have b1 := (Below.refl w.heap.size w).alloc (Nat.le_refl _) (.cells #[.int .i64 k, .string sp, .string nm, .slice ao as'.length ca, .slice bo kids.length cb, .string d] 27)
  have hA1 := hA.stay (stay_below b1)
  go_enter Tryz.func113, Tryz.ntmps113
  go_wp2_with fail
  obtain ⟨-, -, -, c3, -, -⟩ := node_open (Cells.new w 27 (nodeArr k sp nm (.slice ao as'.length ca) (.slice bo kids.length cb) d))
  unfold nodeArr at c3
  generalize w.alloc (.cells #[.int .i64 k, .string sp, .string nm, .slice ao as'.length ca, .slice bo kids.length cb, .string d] 27) = wA at *
  replace b1 := Lib.hid b1
  replace hA1 := Lib.hid hA1
  clear hA h hK
  go_loopw [11] (fun i wr => ∃ j : Nat, j ≤ as'.length ∧ i = .int .i64 (j : Int) ∧ Hid (Q = Am.attrIn (as'.drop j) name.data.toList) ∧ Hid (Below wA.heap.size wA wr)) (fun i _ => as'.length - (intOf i).toNat)
  case atStart => exact ⟨0, Nat.zero_le _, rfl, Lib.hid (by rw [List.drop_zero]; exact hq.out), Lib.hid (Below.refl _ _)⟩
  case round =>
    obtain ⟨j, hj, rfl, hD, bw⟩ := hrel
    by_cases hlt : j < as'.length
    · have hst := hD.out
      rw [List.drop_eq_getElem_cons hlt, Am.attrIn_cons] at hst
      obtain ⟨asp, anm, ava, ea⟩ : ∃ asp anm ava, as'[j] = ⟨asp, anm, ava⟩ := ⟨_, _, _, rfl⟩
      obtain ⟨b, off, rfl, d0, d1, d2⟩ := (hA1.out.stay (stay_below bw.out)).cells hlt ea
      rw [ea] at hst
      dsimp only at hst
      have hji : (j : Int) < (as'.length : Int) := by omega
      have R := Cells.new wr 49 #[.string asp, .string anm, .string ava]
      have q0 := R.cell (i := 0) rfl
      have q1 := R.cell (i := 1) rfl
      have q2 := R.cell (i := 2) rfl
      have bP := Lib.hid (bw.out.alloc (by have := bw.out.size; omega) (.cells #[.string asp, .string anm, .string ava] 49))
      clear hD ea hq R bw
      by_cases h1 : asp.data.toList = []
      · have e1 : (asp.toList == []) = true := by rw [ByteArray.toList_eq]; simpa using h1
        by_cases h2 : anm.data.toList = name.data.toList
        · have e2 := am_yes h2
          rw [if_pos ⟨h1, h2⟩] at hst
          replace hst := Lib.hid hst
          have bF := Lib.hid (b1.out.trans (bP.out.mono b1.out.size))
          clear h1 h2 bP
          go_wp2_with fail
          go_ret2
          exact ⟨am_ret (by rw [hst.out]; exact bytes_eq (by unfold atA; simp)) (by rw [hst.out]; rfl), bF.out⟩
        · have e2 := am_no h2
          rw [if_neg (fun h => h2 h.2)] at hst
          replace hst := Lib.hid hst
          clear h1 h2
          go_wp2_with fail
          go_roundw
          case rel => exact ⟨j + 1, by omega, by go_num, hst, bP⟩
          case measure => simp [intOf]; omega
      · have e1 : (asp.toList == []) = false := by rw [ByteArray.toList_eq]; exact beq_false_of_ne h1
        rw [if_neg (fun h => h1 h.1)] at hst
        replace hst := Lib.hid hst
        clear h1
        go_wp2_with fail
        go_roundw
        case rel => exact ⟨j + 1, by omega, by go_num, hst, bP⟩
        case measure => simp [intOf]; omega
    · have hr : Hid (Q = none) := Lib.hid (by rw [hD.out, List.drop_of_length_le (by omega)]; rfl)
      have hki : ¬ (j : Int) < (as'.length : Int) := by omega
      have bF := Lib.hid (b1.out.trans (bw.out.mono b1.out.size))
      clear hD hq bw
      go_wp2_with fail
      go_ret2
      exact ⟨am_ret (by rw [hr.out]; rfl) (by rw [hr.out]; rfl), bF.out⟩
end Go.Proofs.YtdhondndidoniaaGreatDoor
