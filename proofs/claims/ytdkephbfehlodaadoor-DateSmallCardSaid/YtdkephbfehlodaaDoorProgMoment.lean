/-
  What the program's own words of a moment's text come to: contracts of day and second; the moment's form in plain Lean.
-/
import Derived.Test.YtdkephbfehlodaaDoorProgFrac
namespace Go.Proofs.YtdkephbfehlodaaDoor
open Go.RowKit

theorem dv_four {l : List UInt8} (h : l.all D.dg = true) (hl : l.length ≤ 4) : D.dv l ≤ 9999 := by
  have := dv_lt h
  have := D.pow_le hl
  omega
namespace D
def dayOk (y mo d : Nat) : Bool := decide (1 ≤ mo ∧ mo ≤ 12 ∧ 1 ≤ d ∧ (d : Int) ≤ mlen y mo)
def secOk (h mi se : Nat) : Bool := decide (h ≤ 23 ∧ mi ≤ 59 ∧ se ≤ 59)
def dayN (y mo d : Nat) : Int := if dayOk y mo d = true then days y mo d else 0
def secN (h mi se : Nat) : Int := if secOk h mi se = true then ((h * 3600 + mi * 60 + se : Nat) : Int) else 0
theorem day_no {y mo d : Nat} (h : ¬ (1 ≤ mo ∧ mo ≤ 12 ∧ 1 ≤ d ∧ (d : Int) ≤ mlen y mo)) : dayN y mo d = 0 ∧ dayOk y mo d = false := by
  have : dayOk y mo d = false := decide_eq_false h
  exact ⟨by unfold dayN; rw [this]; rfl, this⟩
theorem day_yes {y mo d : Nat} (h : 1 ≤ mo ∧ mo ≤ 12 ∧ 1 ≤ d ∧ (d : Int) ≤ mlen y mo) : dayN y mo d = days y mo d ∧ dayOk y mo d = true := by
  have : dayOk y mo d = true := decide_eq_true h
  exact ⟨by unfold dayN; rw [this]; rfl, this⟩
theorem sec_no {h mi se : Nat} (x : ¬ (h ≤ 23 ∧ mi ≤ 59 ∧ se ≤ 59)) : secN h mi se = 0 ∧ secOk h mi se = false := by
  have : secOk h mi se = false := decide_eq_false x
  exact ⟨by unfold secN; rw [this]; rfl, this⟩
theorem sec_yes {h mi se : Nat} (x : h ≤ 23 ∧ mi ≤ 59 ∧ se ≤ 59) : secN h mi se = ((h * 3600 + mi * 60 + se : Nat) : Int) ∧ secOk h mi se = true := by
  have : secOk h mi se = true := decide_eq_true x
  exact ⟨by unfold secN; rw [this]; rfl, this⟩
end D

set_option maxRecDepth 100000 in
set_option maxHeartbeats 1600000 in
theorem gDay_any (s : ByteArray) (y mo d : Nat) (w : World) (hs : s.size = 19) (d1 : ((s.data.toList.drop 0).take 4).all D.dg = true) (d2 : ((s.data.toList.drop 5).take 2).all D.dg = true) (d3 : ((s.data.toList.drop 8).take 2).all D.dg = true)
    (hy : D.dv ((s.data.toList.drop 0).take 4) = y) (hm : D.dv ((s.data.toList.drop 5).take 2) = mo) (hd : D.dv ((s.data.toList.drop 8).take 2) = d) :
    Calls Tryd.prog 21 #[.string s] w fun e w' => e = .returned (.tuple #[.int .i64 (D.dayN y mo d), .bool (D.dayOk y mo d)]) ∧ Below w.heap.size w w' := by
  have hsm : s.size ≤ maxLen := by rw [hs]; unfold maxLen; omega
  have b1 := dv_four d1 (by simp; omega)
  have b2 := dv_two d2 (by simp; omega)
  have b3 := dv_two d3 (by simp; omega)
  have c1 := fun (w : World) => gNumber_any (x := 0) (y := 4) s 0 4 w hsm (by omega) (by omega) d1 rfl rfl
  have c2 := fun (w : World) => gNumber_any (x := 5) (y := 7) s 5 2 w hsm (by omega) (by omega) d2 rfl rfl
  have c3 := fun (w : World) => gNumber_any (x := 8) (y := 10) s 8 2 w hsm (by omega) (by omega) d3 rfl rfl
  rw [hy] at b1 c1
  rw [hm] at b2 c2
  rw [hd] at b3 c3
  clear hy hm hd d1 d2 d3
  go_enter Tryd.func21, Tryd.ntmps21
  go_wp2_with fail
  (with_reducible refine (c1 _).mono ?_); rintro e w1 ⟨rfl, e1⟩
  go_wp2_with fail
  (with_reducible refine (c2 _).mono ?_); rintro e w2 ⟨rfl, e2⟩
  have e2 := e1.trans (e2.mono e1.size)
  go_wp2_with fail
  (with_reducible refine (c3 _).mono ?_); rintro e w3 ⟨rfl, e3⟩
  have e3 := e2.trans (e3.mono e2.size)
  clear c1 c2 c3 e1 hs hsm
  by_cases hmo : 1 ≤ mo ∧ mo ≤ 12
  · have m1 : (1 : Int) ≤ (mo : Int) := by omega
    have m2 : (mo : Int) ≤ 12 := by omega
    by_cases hda : 1 ≤ d ∧ (d : Int) ≤ D.mlen y mo
    · obtain ⟨r1, r2⟩ := D.day_yes (y := y) ⟨hmo.1, hmo.2, hda.1, hda.2⟩
      have hml := D.mlen_le y mo
      have hdb := D.days_bd (y := y) (m := mo) (d := d) (by omega) (by omega) m1 m2 (by omega) hda.2
      have a1 : (1 : Int) ≤ (d : Int) := by omega
      have a2 := hda.2
      have cD := fun w => gDayOf_any (y : Int) (mo : Int) (d : Int) w (by omega) (by omega) m1 m2 a1 (by omega)
      have cL := fun w => gLastDay_any (y : Int) (mo : Int) w (by omega)
      have cW := fun w => gWithin_yes (d : Int) 1 (D.mlen y mo) w a1 a2
      replace r1 := Lib.hid r1
      replace r2 := Lib.hid r2
      clear hmo hda hdb hml a2
      go_wp2_with fail
      (with_reducible refine (gWithin_yes _ _ _ _ m1 m2).mono ?_); rintro e w1 ⟨rfl, rfl⟩
      go_wp2_with fail
      (with_reducible refine (cL _).mono ?_); rintro e w1 ⟨rfl, rfl⟩
      go_wp2_with fail
      (with_reducible refine (cW _).mono ?_); rintro e w1 ⟨rfl, rfl⟩
      go_wp2_with fail
      (with_reducible refine (cD _).mono ?_); rintro e w1 ⟨rfl, rfl⟩
      clear cD cL cW
      go_wp2
      go_ret2
      exact ⟨ret_zone r1.out.symm r2.out.symm, e3⟩
    · obtain ⟨r1, r2⟩ := D.day_no (y := y) (mo := mo) (d := d) (fun h => hda h.2.2)
      have cL := fun w => gLastDay_any (y : Int) (mo : Int) w (by omega)
      have cW := fun w => gWithin_no (d : Int) 1 (D.mlen y mo) w (by omega)
      replace r1 := Lib.hid r1
      replace r2 := Lib.hid r2
      clear hmo hda
      go_wp2_with fail
      (with_reducible refine (gWithin_yes _ _ _ _ m1 m2).mono ?_); rintro e w1 ⟨rfl, rfl⟩
      go_wp2_with fail
      (with_reducible refine (cL _).mono ?_); rintro e w1 ⟨rfl, rfl⟩
      go_wp2_with fail
      (with_reducible refine (cW _).mono ?_); rintro e w1 ⟨rfl, rfl⟩
      clear cL cW
      go_wp2
      go_ret2
      exact ⟨ret_zone r1.out.symm r2.out.symm, e3⟩
  · obtain ⟨r1, r2⟩ := D.day_no (y := y) (mo := mo) (d := d) (fun h => hmo ⟨h.1, h.2.1⟩)
    have cW := fun w => gWithin_no (mo : Int) 1 12 w (by omega)
    replace r1 := Lib.hid r1
    replace r2 := Lib.hid r2
    clear hmo
    go_wp2_with fail
    (with_reducible refine (cW _).mono ?_); rintro e w1 ⟨rfl, rfl⟩
    clear cW
    go_wp2
    go_ret2
    exact ⟨ret_zone r1.out.symm r2.out.symm, e3⟩

set_option maxRecDepth 100000 in
set_option maxHeartbeats 1600000 in
theorem gSecond_any (s : ByteArray) (h mi se : Nat) (w : World) (hs : s.size = 19) (d1 : ((s.data.toList.drop 11).take 2).all D.dg = true) (d2 : ((s.data.toList.drop 14).take 2).all D.dg = true) (d3 : ((s.data.toList.drop 17).take 2).all D.dg = true)
    (hy : D.dv ((s.data.toList.drop 11).take 2) = h) (hm : D.dv ((s.data.toList.drop 14).take 2) = mi) (hd : D.dv ((s.data.toList.drop 17).take 2) = se) :
    Calls Tryd.prog 22 #[.string s] w fun e w' => e = .returned (.tuple #[.int .i64 (D.secN h mi se), .bool (D.secOk h mi se)]) ∧ Below w.heap.size w w' := by
  have hsm : s.size ≤ maxLen := by rw [hs]; unfold maxLen; omega
  have b1 := dv_two d1 (by simp; omega)
  have b2 := dv_two d2 (by simp; omega)
  have b3 := dv_two d3 (by simp; omega)
  have c3 := fun (w : World) => gNumber_any (x := 17) (y := 19) s 17 2 w hsm (by omega) (by omega) d3 rfl rfl
  have cm := fun (w : World) => gMinutes_any (x := 11) s 11 h mi w hsm (by omega) (by omega) d1 d2 hy hm rfl
  rw [hy] at b1
  rw [hm] at b2
  rw [hd] at b3 c3
  clear hy hm hd d1 d2 d3
  go_enter Tryd.func22, Tryd.ntmps22
  go_wp2_with fail
  (with_reducible refine (c3 _).mono ?_); rintro e w1 ⟨rfl, e1⟩
  go_wp2_with fail
  by_cases hmi : h ≤ 23 ∧ mi ≤ 59
  · have i1 : (if h ≤ 23 ∧ mi ≤ 59 then ((h * 3600 + mi * 60 : Nat) : Int) else 0) = ((h * 3600 + mi * 60 : Nat) : Int) := if_pos hmi
    rw [i1, decide_eq_true hmi] at cm
    obtain ⟨k, hk⟩ : ∃ k, h * 3600 + mi * 60 = k := ⟨_, rfl⟩
    have hkb : k ≤ 1000000 := by omega
    rw [hk] at cm
    (with_reducible refine (cm _).mono ?_); rintro e w2 ⟨rfl, e2⟩
    have e2 := e1.trans (e2.mono e1.size)
    clear i1 cm c3
    by_cases hse : se ≤ 59
    · obtain ⟨r1, r2⟩ := D.sec_yes ⟨hmi.1, hmi.2, hse⟩
      rw [hk] at r1
      replace r1 := Lib.hid r1
      replace r2 := Lib.hid r2
      clear hmi hk
      go_wp2
      go_ret2
      exact ⟨ret_zone (by rw [r1.out]; omega) r2.out.symm, e2⟩
    · obtain ⟨r1, r2⟩ := D.sec_no (h := h) (mi := mi) (se := se) (fun e => hse e.2.2)
      replace r1 := Lib.hid r1
      replace r2 := Lib.hid r2
      clear hmi hk
      go_wp2
      go_ret2
      exact ⟨ret_zone r1.out.symm r2.out.symm, e2⟩
  · have i1 : (if h ≤ 23 ∧ mi ≤ 59 then ((h * 3600 + mi * 60 : Nat) : Int) else 0) = 0 := if_neg hmi
    rw [i1, decide_eq_false hmi] at cm
    (with_reducible refine (cm _).mono ?_); rintro e w2 ⟨rfl, e2⟩
    have e2 := e1.trans (e2.mono e1.size)
    obtain ⟨r1, r2⟩ := D.sec_no (h := h) (mi := mi) (se := se) (fun e => hmi ⟨e.1, e.2.1⟩)
    replace r1 := Lib.hid r1
    replace r2 := Lib.hid r2
    clear i1 cm c3 hmi
    go_wp2
    go_ret2
    exact ⟨ret_zone r1.out.symm r2.out.symm, e2⟩
end Go.Proofs.YtdkephbfehlodaaDoor
