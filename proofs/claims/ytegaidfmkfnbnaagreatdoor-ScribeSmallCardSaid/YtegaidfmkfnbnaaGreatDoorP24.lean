/-
  The document's own word of nodes that are no elements: every kind.
-/
import Derived.Test.YtegaidfmkfnbnaaGreatDoorP23
import Derived.Test.YtegaidfmkfnbnaaGreatDoorP16
namespace Go.Proofs.YtegaidfmkfnbnaaGreatDoor
open Go.RowKit

set_option maxRecDepth 100000 in
set_option maxHeartbeats 12800000 in
/-- A COMMENT. -/
theorem leaf2_any (nm d : ByteArray) (ao bo : Option Addr) (ca cb : Nat) (r : Bool) (hr : r = (decide (nm = ByteArray.empty) && !Sc.hasIn [45, 45] d.data.toList && decide (d.data.toList.getLast? ≠ some 45) && !Sc.hasIn [13] d.data.toList))
    (c0 : ∀ (W : World), Calls Tryz.prog 40 #[.string d] W fun e w' => e = .returned (.int .i64 0) ∧ Below W.heap.size W w') (w : World) (z3 : d.size ≤ 1000000) :
    Calls Tryz.prog 35 #[.agg (nodeArr 2 ByteArray.empty nm (.slice ao 0 ca) (.slice bo 0 cb) d)] w fun e w' => e = .returned (.bool r) ∧ Below w.heap.size w w' := by
  have b0 := (Below.refl w.heap.size w).alloc (Nat.le_refl _) (.cells (nodeArr 2 ByteArray.empty nm (.slice ao 0 ca) (.slice bo 0 cb) d) 25)
  have kA := Cells.new w 25 (nodeArr 2 ByteArray.empty nm (.slice ao 0 ca) (.slice bo 0 cb) d)
  obtain ⟨x0, x1, x2, x3, x4, x5⟩ := node_open kA
  have hc := Lib.hid (fun W hb => node_open (kA.on (w' := W) hb))
  replace kA := Lib.hid kA
  have h0 : ByteArray.empty.toList = [] := by rw [ByteArray.toList_eq]; rfl
  have cH := fun W => refHas_any d ⟨#[45, 45]⟩ (Sc.hasIn [45, 45] d.data.toList) rfl W z3 (by decide) (by decide)
  have cC := fun W => refHas_any d ⟨#[13]⟩ (Sc.hasIn [13] d.data.toList) rfl W z3 (by decide) (by decide)
  have hS := nil_is (s := nm)
  have hD := nil_is (s := d)
  generalize Sc.hasIn [45, 45] d.data.toList = p1 at *
  generalize Sc.hasIn [13] d.data.toList = p2 at *
  generalize decide (nm = ByteArray.empty) = q1 at *
  have hL : 0 < d.size → decide (d.data.toList.getLast? ≠ some 45) = decide ((d.data.toList.getLast?) ≠ some 45) := fun _ => rfl
  have cH := Lib.hid cH
  have cC := Lib.hid cC
  replace hr := Lib.hid hr
  replace hD := Lib.hid hD
  clear hL
  unfold nodeArr at *
  go_enter Tryz.func35, Tryz.ntmps35
  go_wp2_with fail
  (with_reducible refine (c0 _).mono ?_); rintro e w1 ⟨rfl, b1⟩
  clear c0 x0 x1 x2 x3 x4 x5
  obtain ⟨x0, x1, x2, x3, x4, x5⟩ := hc.out _ b1
  have hB := Lib.hid (b0.trans (b1.mono b0.size))
  clear b0 b1 hc
  rcases hS with ⟨rfl, s1, s2⟩ | ⟨rfl, s1, s2⟩
  case inr =>
    replace hr := Lib.hid (show r = false by rw [hr.out]; simp)
    clear cH cC hD
    go_wp2_with fail
    go_ret
    exact ⟨ret_of hr.out, hB.out⟩
  cases p1 with
  | true =>
    replace hr := Lib.hid (show r = false by rw [hr.out]; simp)
    clear cC hD
    go_wp2_with fail
    (with_reducible refine (cH.out _).mono ?_); rintro e w2 ⟨rfl, rfl⟩
    go_wp2_with fail
    go_ret
    exact ⟨ret_of hr.out, hB.out⟩
  | false =>
    by_cases hd0 : d = ByteArray.empty
    · subst hd0
      replace hr := Lib.hid (show r = !p2 by rw [hr.out]; simp)
      clear hD
      go_wp2_with fail
      (with_reducible refine (cH.out _).mono ?_); rintro e w2 ⟨rfl, rfl⟩
      go_wp2_with fail
      (with_reducible refine (cC.out _).mono ?_); rintro e w3 ⟨rfl, rfl⟩
      cases p2 with
      | true =>
        go_wp2_with fail
        go_ret
        exact ⟨ret_of hr.out, hB.out⟩
      | false =>
        go_wp2_with fail
        go_ret
        exact ⟨ret_of hr.out, hB.out⟩
    · have hsz : 0 < d.size := by
        rcases Nat.eq_zero_or_pos d.size with h | h
        · exact absurd (bytes_eq (List.eq_nil_of_length_eq_zero (by rw [list_len]; exact h))) hd0
        · exact h
      obtain ⟨d1, d2⟩ : (d.toList == ([] : List UInt8)) = false ∧ ¬ d.toList = [] := by
        rcases hD.out with ⟨e, _⟩ | ⟨_, h⟩
        · exact absurd (by simpa using e) hd0
        · exact h
      have hb : r = (decide ((d[d.size - 1]'(by omega)).toNat ≠ 45) && !p2) := by rw [hr.out, last_byte hsz]; simp
      clear hr hD hd0
      by_cases h45 : (d[d.size - 1]'(by omega)).toNat = 45
      · replace hb := Lib.hid (show r = false by rw [hb]; simp [h45])
        go_wp2_with fail
        (with_reducible refine (cH.out _).mono ?_); rintro e w2 ⟨rfl, rfl⟩
        go_wp2_with fail
        go_ret
        exact ⟨ret_of hb.out, hB.out⟩
      · replace hb := Lib.hid (show r = !p2 by rw [hb]; simp [h45])
        go_wp2_with fail
        (with_reducible refine (cH.out _).mono ?_); rintro e w2 ⟨rfl, rfl⟩
        go_wp2_with fail
        (with_reducible refine (cC.out _).mono ?_); rintro e w3 ⟨rfl, rfl⟩
        cases p2 with
        | true =>
          go_wp2_with fail
          go_ret
          exact ⟨ret_of hb.out, hB.out⟩
        | false =>
          go_wp2_with fail
          go_ret
          exact ⟨ret_of (by rw [hb.out]; exact (show true = _ from (by rw [bne_iff_ne.2 (fun e => h45 (by exact_mod_cast e))]))), hB.out⟩

set_option maxRecDepth 100000 in
set_option maxHeartbeats 12800000 in
theorem refLeafOk_any (k : Int) (sp nm d : ByteArray) (ao bo : Option Addr) (m1 m2 ca cb : Nat) (r : Bool) (hr : r = (decide (sp = ByteArray.empty) && decide (m1 + m2 = 0) && G.check d.data.toList && Sc.leafData k nm d)) (w : World) (z2 : nm.size ≤ 1000000) (z3 : d.size ≤ 1000000) (hm1 : m1 ≤ 140737488355328) (hm2 : m2 ≤ 140737488355328) :
    Calls Tryz.prog 35 #[.agg (nodeArr k sp nm (.slice ao m1 ca) (.slice bo m2 cb) d)] w fun e w' => e = .returned (.bool r) ∧ Below w.heap.size w w' := by
  have b0 := (Below.refl w.heap.size w).alloc (Nat.le_refl _) (.cells (nodeArr k sp nm (.slice ao m1 ca) (.slice bo m2 cb) d) 25)
  have kA := Cells.new w 25 (nodeArr k sp nm (.slice ao m1 ca) (.slice bo m2 cb) d)
  obtain ⟨x0, x1, x2, x3, x4, x5⟩ := node_open kA
  have hc := Lib.hid (fun W hb => node_open (kA.on (w' := W) hb))
  replace kA := Lib.hid kA
  by_cases hs : sp = ByteArray.empty
  case neg =>
    rcases nil_is (s := sp) with ⟨e, z, y⟩ | ⟨e, z, y⟩
    · exact absurd (by simpa using e) hs
    replace hr := Lib.hid (show r = false by rw [hr, e]; simp)
    clear e hs
    unfold nodeArr at *
    go_enter Tryz.func35, Tryz.ntmps35
    go_wp2_with fail
    go_ret
    exact ⟨ret_of hr.out, b0⟩
  have h0 : ByteArray.empty.toList = [] := by rw [ByteArray.toList_eq]; rfl
  by_cases hm : m1 + m2 = 0
  case neg =>
    replace hr := Lib.hid (show r = false by rw [hr, show decide (m1 + m2 = 0) = false from decide_eq_false hm]; simp)
    have g : (0 : Int) < (m1 : Int) + (m2 : Int) := by omega
    subst hs
    clear hm
    unfold nodeArr at *
    go_enter Tryz.func35, Tryz.ntmps35
    go_wp2_with fail
    go_ret
    exact ⟨ret_of hr.out, b0⟩
  obtain ⟨rfl, rfl⟩ : m1 = 0 ∧ m2 = 0 := by omega
  have c0 := fun W => refCheck_any d W (by unfold maxLen; omega)
  rw [checkN_of] at c0
  by_cases hd : G.check d.data.toList = true
  case neg =>
    replace hr := Lib.hid (show r = false by rw [hr, show G.check d.data.toList = false by simpa using hd]; simp)
    rw [if_neg hd] at c0
    subst hs
    clear hd hm
    unfold nodeArr at *
    go_enter Tryz.func35, Tryz.ntmps35
    go_wp2_with fail
    (with_reducible refine (c0 _).mono ?_); rintro e w1 ⟨rfl, b1⟩
    go_wp2_with fail
    go_ret
    exact ⟨ret_of hr.out, b0.trans (b1.mono b0.size)⟩
  replace hr : r = Sc.leafData k nm d := by rw [hr, hs, hd]; simp
  unfold Sc.leafData at hr
  by_cases k3 : k = 3
  · subst k3
    rw [if_neg (by decide), if_neg (by decide), if_pos rfl] at hr
    clear x0 x1 x2 x3 x4 x5 hc kA
    have hsk : decide (T.skip d.data.toList = d.data.toList) = decide (Rt.skB d = d) := by
      congr 1
      simp only [eq_iff_iff]
      have e : (Rt.skB d).data.toList = T.skip d.data.toList := by simp [Rt.skB]
      exact ⟨fun h => bytes_eq (by rw [e, h]), fun h => by rw [← e, h]⟩
    rw [hsk] at hr
    unfold P.plainB at hr
    have hlo := lower_is nm
    cases h1 : G.plain nm.data.toList with
    | false => exact leaf3_1 sp nm d ao bo ca cb r hs hd w z2 z3 (by rw [hr, h1]; simp) h1
    | true =>
      rcases hlo with ⟨e2, h2⟩ | ⟨e2, h2⟩
      · cases h3 : Sc.hasIn [63, 62] d.data.toList with
        | true => exact leaf3_3 sp nm d ao bo ca cb r hs hd w z2 z3 (by rw [hr, h3]; simp) h1 h2 h3.symm
        | false =>
          by_cases h4 : Rt.skB d = d
          · cases h5 : Sc.hasIn [13] d.data.toList with
            | true => exact leaf3_5 sp nm d ao bo ca cb r hs hd w z2 z3 (by rw [hr, h5]; simp) h1 h2 h3.symm h4 h5.symm
            | false => exact leaf3_0 sp nm d ao bo ca cb r hs hd w z2 z3 (by rw [hr, h1, e2, h3, h5]; simp [h4]) h1 h2 h3.symm h4 h5.symm
          · exact leaf3_4 sp nm d ao bo ca cb r hs hd w z2 z3 (by rw [hr]; simp [h4]) h1 h2 h3.symm h4
      · exact leaf3_2 sp nm d ao bo ca cb r hs hd w z2 z3 (by rw [hr, e2]; simp) h1 h2
  rw [if_pos hd] at c0
  have c0' := c0
  rw [if_neg k3] at hr
  have g3 : (k == 3) = false := by simpa using k3
  subst hs
  clear hd hm
  have hS := nil_is (s := nm)
  by_cases k1 : k = 1
  · subst k1
    rw [if_pos rfl] at hr
    have hD := two_is d ByteArray.empty
    rw [h0] at hD
    generalize decide (nm = ByteArray.empty) = q1 at *
    generalize decide (d ≠ ByteArray.empty) = q2 at *
    replace hr := Lib.hid hr
    unfold nodeArr at *
    go_enter Tryz.func35, Tryz.ntmps35
    rcases hS with ⟨rfl, s1, s2⟩ | ⟨rfl, s1, s2⟩
    · rcases hD with ⟨rfl, d1, d2, d3⟩ | ⟨rfl, d1, d2, d3⟩
      · go_wp2_with fail
        (with_reducible refine (c0 _).mono ?_); rintro e w1 ⟨rfl, b1⟩
        clear x0 x1 x2 x3 x4 x5
        obtain ⟨x0, x1, x2, x3, x4, x5⟩ := hc.out _ b1
        go_wp2_with fail
        go_ret
        exact ⟨ret_of (by rw [hr.out]; simp), b0.trans (b1.mono b0.size)⟩
      · go_wp2_with fail
        (with_reducible refine (c0 _).mono ?_); rintro e w1 ⟨rfl, b1⟩
        clear x0 x1 x2 x3 x4 x5
        obtain ⟨x0, x1, x2, x3, x4, x5⟩ := hc.out _ b1
        go_wp2_with fail
        go_ret
        exact ⟨ret_of (by rw [hr.out]; simp), b0.trans (b1.mono b0.size)⟩
    · clear hD
      go_wp2_with fail
      (with_reducible refine (c0 _).mono ?_); rintro e w1 ⟨rfl, b1⟩
      clear x0 x1 x2 x3 x4 x5
      obtain ⟨x0, x1, x2, x3, x4, x5⟩ := hc.out _ b1
      go_wp2_with fail
      go_ret
      exact ⟨ret_of (by rw [hr.out]; simp), b0.trans (b1.mono b0.size)⟩
  rw [if_neg k1] at hr
  have g1 : (k == 1) = false := by simpa using k1
  by_cases k2 : k = 2
  · subst k2
    rw [if_pos rfl] at hr
    exact leaf2_any nm d ao bo ca cb r hr c0' w z3
  · have g2 : (k == 2) = false := by simpa using k2
    rw [if_neg k2] at hr
    replace hr := Lib.hid hr
    clear hS
    unfold nodeArr at *
    go_enter Tryz.func35, Tryz.ntmps35
    go_wp2_with fail
    (with_reducible refine (c0 _).mono ?_); rintro e w1 ⟨rfl, b1⟩
    clear x0 x1 x2 x3 x4 x5
    obtain ⟨x0, x1, x2, x3, x4, x5⟩ := hc.out _ b1
    go_wp2_with fail
    go_ret
    exact ⟨ret_of hr.out, b0.trans (b1.mono b0.size)⟩
end Go.Proofs.YtegaidfmkfnbnaaGreatDoor
