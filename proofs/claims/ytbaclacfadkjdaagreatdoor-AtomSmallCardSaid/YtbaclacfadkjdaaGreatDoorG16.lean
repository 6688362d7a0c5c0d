/-
  What the program's own words of a moment's text come to: contracts of day and second; the moment's form in plain Lean.
  What the program's Parse of dates comes to.
-/
import Derived.Test.YtbaclacfadkjdaaGreatDoorG15
import Derived.Test.YtbaclacfadkjdaaGreatDoorG11
import Derived.Test.YtbaclacfadkjdaaGreatDoorG03
namespace Go.Proofs.YtbaclacfadkjdaaGreatDoor
open Go.RowKit
theorem dv_four {l : List UInt8} (h : l.all D.dg = true) (hl : l.length ≤ 4) : D.dv l ≤ 9999 := by
  have := dv_lt h
  have := D.pow_le hl
  omega
namespace D
def dayOk (y mo d : Nat) : Bool := decide (1 ≤ mo ∧ mo ≤ 12 ∧ 1 ≤ d ∧ (d : Int) ≤ mlen y mo)
def secOk (h mi se : Nat) : Bool := decide (h ≤ 23 ∧ mi ≤ 59 ∧ se ≤ 59)
def dayN (y mo d : Nat) : Int := if dayOk y mo d = true then days y mo d else 0
def secN (h mi se : Nat) : Int := if secOk h mi se = true then ((h * 3600 + mi * 60 + se : Nat) : Int) else 0
theorem day_no {y mo d : Nat} (h : ¬ (1 ≤ mo ∧ mo ≤ 12 ∧ 1 ≤ d ∧ (d : Int) ≤ mlen y mo)) : dayN y mo d = 0 ∧ dayOk y mo d = false := by
  have : dayOk y mo d = false := decide_eq_false h
  exact ⟨by unfold dayN; rw [this]; rfl, this⟩
theorem day_yes {y mo d : Nat} (h : 1 ≤ mo ∧ mo ≤ 12 ∧ 1 ≤ d ∧ (d : Int) ≤ mlen y mo) : dayN y mo d = days y mo d ∧ dayOk y mo d = true := by
  have : dayOk y mo d = true := decide_eq_true h
  exact ⟨by unfold dayN; rw [this]; rfl, this⟩
theorem sec_no {h mi se : Nat} (x : ¬ (h ≤ 23 ∧ mi ≤ 59 ∧ se ≤ 59)) : secN h mi se = 0 ∧ secOk h mi se = false := by
  have : secOk h mi se = false := decide_eq_false x
  exact ⟨by unfold secN; rw [this]; rfl, this⟩
theorem sec_yes {h mi se : Nat} (x : h ≤ 23 ∧ mi ≤ 59 ∧ se ≤ 59) : secN h mi se = ((h * 3600 + mi * 60 + se : Nat) : Int) ∧ secOk h mi se = true := by
  have : secOk h mi se = true := decide_eq_true x
  exact ⟨by unfold secN; rw [this]; rfl, this⟩
end D
set_option maxRecDepth 100000 in
set_option maxHeartbeats 1600000 in
theorem gDay_any (s : ByteArray) (y mo d : Nat) (w : World) (hs : s.size = 19) (d1 : ((s.data.toList.drop 0).take 4).all D.dg = true) (d2 : ((s.data.toList.drop 5).take 2).all D.dg = true) (d3 : ((s.data.toList.drop 8).take 2).all D.dg = true)
    (hy : D.dv ((s.data.toList.drop 0).take 4) = y) (hm : D.dv ((s.data.toList.drop 5).take 2) = mo) (hd : D.dv ((s.data.toList.drop 8).take 2) = d) :
    Calls Tryz.prog 79 #[.string s] w fun e w' => e = .returned (.tuple #[.int .i64 (D.dayN y mo d), .bool (D.dayOk y mo d)]) ∧ Below w.heap.size w w' := by
  have hsm : s.size ≤ maxLen := by rw [hs]; unfold maxLen; omega
  have b1 := dv_four d1 (by simp; omega)
  have b2 := dv_two d2 (by simp; omega)
  have b3 := dv_two d3 (by simp; omega)
  have c1 := fun (w : World) => gNumber_any (x := 0) (y := 4) s 0 4 w hsm (by omega) (by omega) d1 rfl rfl
  have c2 := fun (w : World) => gNumber_any (x := 5) (y := 7) s 5 2 w hsm (by omega) (by omega) d2 rfl rfl
  have c3 := fun (w : World) => gNumber_any (x := 8) (y := 10) s 8 2 w hsm (by omega) (by omega) d3 rfl rfl
  rw [hy] at b1 c1
  rw [hm] at b2 c2
  rw [hd] at b3 c3
  clear hy hm hd d1 d2 d3
  go_enter Tryz.func79, Tryz.ntmps79
  go_wp2_with fail
  (with_reducible refine (c1 _).mono ?_); rintro e w1 ⟨rfl, e1⟩
  go_wp2_with fail
  (with_reducible refine (c2 _).mono ?_); rintro e w2 ⟨rfl, e2⟩
  have e2 := e1.trans (e2.mono e1.size)
  go_wp2_with fail
  (with_reducible refine (c3 _).mono ?_); rintro e w3 ⟨rfl, e3⟩
  have e3 := e2.trans (e3.mono e2.size)
  clear c1 c2 c3 e1 hs hsm
  by_cases hmo : 1 ≤ mo ∧ mo ≤ 12
  · have m1 : (1 : Int) ≤ (mo : Int) := by omega
    have m2 : (mo : Int) ≤ 12 := by omega
    by_cases hda : 1 ≤ d ∧ (d : Int) ≤ D.mlen y mo
    · obtain ⟨r1, r2⟩ := D.day_yes (y := y) ⟨hmo.1, hmo.2, hda.1, hda.2⟩
      have hml := D.mlen_le y mo
      have hdb := D.days_bd (y := y) (m := mo) (d := d) (by omega) (by omega) m1 m2 (by omega) hda.2
      have a1 : (1 : Int) ≤ (d : Int) := by omega
      have a2 := hda.2
      have cD := fun w => gDayOf_any (y : Int) (mo : Int) (d : Int) w (by omega) (by omega) m1 m2 a1 (by omega)
      have cL := fun w => gLastDay_any (y : Int) (mo : Int) w (by omega)
      have cW := fun w => gWithin_yes (d : Int) 1 (D.mlen y mo) w a1 a2
      replace r1 := Lib.hid r1
      replace r2 := Lib.hid r2
      clear hmo hda hdb hml a2
      go_wp2_with fail
      (with_reducible refine (gWithin_yes _ _ _ _ m1 m2).mono ?_); rintro e w1 ⟨rfl, rfl⟩
      go_wp2_with fail
      (with_reducible refine (cL _).mono ?_); rintro e w1 ⟨rfl, rfl⟩
      go_wp2_with fail
      (with_reducible refine (cW _).mono ?_); rintro e w1 ⟨rfl, rfl⟩
      go_wp2_with fail
      (with_reducible refine (cD _).mono ?_); rintro e w1 ⟨rfl, rfl⟩
      clear cD cL cW
      go_wp2
      go_ret2
      exact ⟨ret_zone r1.out.symm r2.out.symm, e3⟩
    · obtain ⟨r1, r2⟩ := D.day_no (y := y) (mo := mo) (d := d) (fun h => hda h.2.2)
      have cL := fun w => gLastDay_any (y : Int) (mo : Int) w (by omega)
      have cW := fun w => gWithin_no (d : Int) 1 (D.mlen y mo) w (by omega)
      replace r1 := Lib.hid r1
      replace r2 := Lib.hid r2
      clear hmo hda
      go_wp2_with fail
      (with_reducible refine (gWithin_yes _ _ _ _ m1 m2).mono ?_); rintro e w1 ⟨rfl, rfl⟩
      go_wp2_with fail
      (with_reducible refine (cL _).mono ?_); rintro e w1 ⟨rfl, rfl⟩
      go_wp2_with fail
      (with_reducible refine (cW _).mono ?_); rintro e w1 ⟨rfl, rfl⟩
      clear cL cW
      go_wp2
      go_ret2
      exact ⟨ret_zone r1.out.symm r2.out.symm, e3⟩
  · obtain ⟨r1, r2⟩ := D.day_no (y := y) (mo := mo) (d := d) (fun h => hmo ⟨h.1, h.2.1⟩)
    have cW := fun w => gWithin_no (mo : Int) 1 12 w (by omega)
    replace r1 := Lib.hid r1
    replace r2 := Lib.hid r2
    clear hmo
    go_wp2_with fail
    (with_reducible refine (cW _).mono ?_); rintro e w1 ⟨rfl, rfl⟩
    clear cW
    go_wp2
    go_ret2
    exact ⟨ret_zone r1.out.symm r2.out.symm, e3⟩
set_option maxRecDepth 100000 in
set_option maxHeartbeats 1600000 in
theorem gSecond_any (s : ByteArray) (h mi se : Nat) (w : World) (hs : s.size = 19) (d1 : ((s.data.toList.drop 11).take 2).all D.dg = true) (d2 : ((s.data.toList.drop 14).take 2).all D.dg = true) (d3 : ((s.data.toList.drop 17).take 2).all D.dg = true)
    (hy : D.dv ((s.data.toList.drop 11).take 2) = h) (hm : D.dv ((s.data.toList.drop 14).take 2) = mi) (hd : D.dv ((s.data.toList.drop 17).take 2) = se) :
    Calls Tryz.prog 80 #[.string s] w fun e w' => e = .returned (.tuple #[.int .i64 (D.secN h mi se), .bool (D.secOk h mi se)]) ∧ Below w.heap.size w w' := by
  have hsm : s.size ≤ maxLen := by rw [hs]; unfold maxLen; omega
  have b1 := dv_two d1 (by simp; omega)
  have b2 := dv_two d2 (by simp; omega)
  have b3 := dv_two d3 (by simp; omega)
  have c3 := fun (w : World) => gNumber_any (x := 17) (y := 19) s 17 2 w hsm (by omega) (by omega) d3 rfl rfl
  have cm := fun (w : World) => gMinutes_any (x := 11) s 11 h mi w hsm (by omega) (by omega) d1 d2 hy hm rfl
  rw [hy] at b1
  rw [hm] at b2
  rw [hd] at b3 c3
  clear hy hm hd d1 d2 d3
  go_enter Tryz.func80, Tryz.ntmps80
  go_wp2_with fail
  (with_reducible refine (c3 _).mono ?_); rintro e w1 ⟨rfl, e1⟩
  go_wp2_with fail
  by_cases hmi : h ≤ 23 ∧ mi ≤ 59
  · have i1 : (if h ≤ 23 ∧ mi ≤ 59 then ((h * 3600 + mi * 60 : Nat) : Int) else 0) = ((h * 3600 + mi * 60 : Nat) : Int) := if_pos hmi
    rw [i1, decide_eq_true hmi] at cm
    obtain ⟨k, hk⟩ : ∃ k, h * 3600 + mi * 60 = k := ⟨_, rfl⟩
    have hkb : k ≤ 1000000 := by omega
    rw [hk] at cm
    (with_reducible refine (cm _).mono ?_); rintro e w2 ⟨rfl, e2⟩
    have e2 := e1.trans (e2.mono e1.size)
    clear i1 cm c3
    by_cases hse : se ≤ 59
    · obtain ⟨r1, r2⟩ := D.sec_yes ⟨hmi.1, hmi.2, hse⟩
      rw [hk] at r1
      replace r1 := Lib.hid r1
      replace r2 := Lib.hid r2
      clear hmi hk
      go_wp2
      go_ret2
      exact ⟨ret_zone (by rw [r1.out]; omega) r2.out.symm, e2⟩
    · obtain ⟨r1, r2⟩ := D.sec_no (h := h) (mi := mi) (se := se) (fun e => hse e.2.2)
      replace r1 := Lib.hid r1
      replace r2 := Lib.hid r2
      clear hmi hk
      go_wp2
      go_ret2
      exact ⟨ret_zone r1.out.symm r2.out.symm, e2⟩
  · have i1 : (if h ≤ 23 ∧ mi ≤ 59 then ((h * 3600 + mi * 60 : Nat) : Int) else 0) = 0 := if_neg hmi
    rw [i1, decide_eq_false hmi] at cm
    (with_reducible refine (cm _).mono ?_); rintro e w2 ⟨rfl, e2⟩
    have e2 := e1.trans (e2.mono e1.size)
    obtain ⟨r1, r2⟩ := D.sec_no (h := h) (mi := mi) (se := se) (fun e => hmi ⟨e.1, e.2.1⟩)
    replace r1 := Lib.hid r1
    replace r2 := Lib.hid r2
    clear i1 cm c3 hmi
    go_wp2
    go_ret2
    exact ⟨ret_zone r1.out.symm r2.out.symm, e2⟩
end Go.Proofs.YtbaclacfadkjdaaGreatDoor
namespace Go.Proofs.YtbaclacfadkjdaaGreatDoor
open Go.RowKit
abbrev momentForm : ByteArray := ⟨#[48, 48, 48, 48, 45, 48, 48, 45, 48, 48, 84, 48, 48, 58, 48, 48, 58, 48, 48]⟩
abbrev momentL : List UInt8 := [48, 48, 48, 48, 45, 48, 48, 45, 48, 48, 84, 48, 48, 58, 48, 48, 58, 48, 48]
theorem fits_dig {f l : List UInt8} (h : D.Fits f l) (a n : Nat) (hn : a + n ≤ f.length) (hf : ∀ j (hj : j < f.length), a ≤ j → j < a + n → f[j] = 48) : ((l.drop a).take n).all D.dg = true := by
  rw [List.all_eq_true]
  intro x hx
  obtain ⟨k, hk⟩ := List.mem_iff_getElem?.1 hx
  have hkn : k < n := by
    have := (List.getElem?_eq_some_iff.1 hk).1
    rw [List.length_take] at this
    omega
  rw [List.getElem?_take, if_pos hkn, List.getElem?_drop] at hk
  obtain ⟨hlt, hx⟩ := List.getElem?_eq_some_iff.1 hk
  have := h.2 (a + k) (by omega)
  rw [hf (a + k) (by omega) (by omega) (by omega), hx] at this
  exact this
theorem fits_sign {f l : List UInt8} (h : D.Fits f l) (a : Nat) (c : UInt8) (hc : c ≠ 48) (hf : f[a]? = some c) : D.sign l a c = true := by
  obtain ⟨hlt, hx⟩ := List.getElem?_eq_some_iff.1 hf
  have := h.2 a hlt
  rw [hx] at this
  unfold D.okc at this
  rw [if_neg hc] at this
  have hl := h.1
  unfold D.sign
  rw [List.getElem?_eq_getElem (by omega), ← of_decide_eq_true this]
  simp
structure Moment (l : List UInt8) : Prop where
  len : 19 ≤ l.length
  sig : D.signs l = true
  dY : ((l.drop 0).take 4).all D.dg = true
  dM : ((l.drop 5).take 2).all D.dg = true
  dD : ((l.drop 8).take 2).all D.dg = true
  dh : ((l.drop 11).take 2).all D.dg = true
  dm : ((l.drop 14).take 2).all D.dg = true
  ds : ((l.drop 17).take 2).all D.dg = true
theorem Moment.of {l : List UInt8} (h : D.Fits momentL l) : Moment l := by
  refine ⟨h.1, ?_, ?_, ?_, ?_, ?_, ?_, ?_⟩
  · unfold D.signs
    rw [fits_sign h 4 45 (by decide) rfl, fits_sign h 7 45 (by decide) rfl, fits_sign h 10 84 (by decide) rfl, fits_sign h 13 58 (by decide) rfl, fits_sign h 16 58 (by decide) rfl]
    rfl
  all_goals
    refine fits_dig h _ _ (by decide) (fun j hj h1 h2 => ?_)
    have : j < 19 := hj
    revert hj h1 h2
    revert j
    decide
theorem okc_at {l : List UInt8} {a n k : Nat} (hd : ((l.drop a).take n).all D.dg = true) (hk : k < n) (h : a + k < l.length) : D.okc 48 l[a + k] = true := by
  have := NumAll.at hd hk h
  show D.dg _ = true
  simp [D.dg]; exact this
theorem sign_okc {l : List UInt8} {a : Nat} {c : UInt8} (hc : c ≠ 48) (h : D.sign l a c = true) (hl : a < l.length) : D.okc c l[a] = true := by
  unfold D.okc
  rw [if_neg hc]
  unfold D.sign at h
  have := of_decide_eq_true h
  rw [List.getElem?_eq_getElem hl] at this
  exact decide_eq_true (Option.some.inj this).symm
theorem Moment.fits {l : List UInt8} (h : Moment l) : D.Fits momentL l := by
  have hl := h.len
  have hs := h.sig
  simp only [D.signs, Bool.and_eq_true] at hs
  refine ⟨hl, fun j hj => ?_⟩
  have hj' : j < 19 := hj
  have : j = 0 ∨ j = 1 ∨ j = 2 ∨ j = 3 ∨ j = 4 ∨ j = 5 ∨ j = 6 ∨ j = 7 ∨ j = 8 ∨ j = 9 ∨ j = 10 ∨ j = 11 ∨ j = 12 ∨ j = 13 ∨ j = 14 ∨ j = 15 ∨ j = 16 ∨ j = 17 ∨ j = 18 := by omega
  rcases this with rfl | rfl | rfl | rfl | rfl | rfl | rfl | rfl | rfl | rfl | rfl | rfl | rfl | rfl | rfl | rfl | rfl | rfl | rfl
  · exact okc_at (a := 0) (k := 0) h.dY (by omega) (by omega)
  · exact okc_at (a := 0) (k := 1) h.dY (by omega) (by omega)
  · exact okc_at (a := 0) (k := 2) h.dY (by omega) (by omega)
  · exact okc_at (a := 0) (k := 3) h.dY (by omega) (by omega)
  · exact sign_okc (by decide) hs.1.1.1.1 (by omega)
  · exact okc_at (a := 5) (k := 0) h.dM (by omega) (by omega)
  · exact okc_at (a := 5) (k := 1) h.dM (by omega) (by omega)
  · exact sign_okc (by decide) hs.1.1.1.2 (by omega)
  · exact okc_at (a := 8) (k := 0) h.dD (by omega) (by omega)
  · exact okc_at (a := 8) (k := 1) h.dD (by omega) (by omega)
  · exact sign_okc (by decide) hs.1.1.2 (by omega)
  · exact okc_at (a := 11) (k := 0) h.dh (by omega) (by omega)
  · exact okc_at (a := 11) (k := 1) h.dh (by omega) (by omega)
  · exact sign_okc (by decide) hs.1.2 (by omega)
  · exact okc_at (a := 14) (k := 0) h.dm (by omega) (by omega)
  · exact okc_at (a := 14) (k := 1) h.dm (by omega) (by omega)
  · exact sign_okc (by decide) hs.2 (by omega)
  · exact okc_at (a := 17) (k := 0) h.ds (by omega) (by omega)
  · exact okc_at (a := 17) (k := 1) h.ds (by omega) (by omega)
namespace D
theorem inb_iff {y mo d h mi se : Int} : inBounds y mo d h mi se = true ↔ (0 ≤ y ∧ 1 ≤ mo ∧ mo ≤ 12 ∧ 1 ≤ d ∧ d ≤ mlen y mo ∧ 0 ≤ h ∧ h ≤ 23 ∧ 0 ≤ mi ∧ mi ≤ 59 ∧ 0 ≤ se ∧ se ≤ 59) := by
  simp only [inBounds, Bool.and_eq_true, decide_eq_true_eq]
  omega
theorem parse_unfit {l : List UInt8} (h : ¬ Fits momentL l) : parse l = none := by
  by_cases hs : signs l = true
  · refine pa_bound ?_
    rw [← Bool.not_eq_true, inb_iff]
    rintro ⟨h1, h2, -, h4, -, h6, -, h8, -, h10, -⟩
    have a1 := num_ge h1
    have a2 := num_ge (l := l) (a := 5) (n := 2) (by omega)
    have a3 := num_ge (l := l) (a := 8) (n := 2) (by omega)
    have a4 := num_ge h6
    have a5 := num_ge h8
    have a6 := num_ge h10
    exact h (Moment.fits ⟨a6.1, hs, a1.2, a2.2, a3.2, a4.2, a5.2, a6.2⟩)
  · exact pa_sign (by simpa using hs)
def behind (l : List UInt8) : List UInt8 := if fracE l 19 < 0 then [] else l.drop (fracE l 19).toNat
theorem parse_fit {l : List UInt8} {y mo d h mi se : Nat} (hM : Moment l) (hy : dv ((l.drop 0).take 4) = y) (hmo : dv ((l.drop 5).take 2) = mo) (hd : dv ((l.drop 8).take 2) = d) (hh : dv ((l.drop 11).take 2) = h) (hmi : dv ((l.drop 14).take 2) = mi) (hse : dv ((l.drop 17).take 2) = se) :
    (¬ 0 ≤ fracE l 19 → parse l = none) ∧ (zoneB (behind l) = false → parse l = none) ∧ (dayOk y mo d = false → parse l = none) ∧ (secOk h mi se = false → parse l = none) ∧
    (0 ≤ fracE l 19 → zoneB (behind l) = true → dayOk y mo d = true → secOk h mi se = true → parse l = some (dayN y mo d * 86400 + secN h mi se - zoneN (behind l), fracN l 19)) := by
  have hl := hM.len
  have n1 := num_is (l := l) (a := 0) (n := 4) (by omega) hM.dY
  have n2 := num_is (l := l) (a := 5) (n := 2) (by omega) hM.dM
  have n3 := num_is (l := l) (a := 8) (n := 2) (by omega) hM.dD
  have n4 := num_is (l := l) (a := 11) (n := 2) (by omega) hM.dh
  have n5 := num_is (l := l) (a := 14) (n := 2) (by omega) hM.dm
  have n6 := num_is (l := l) (a := 17) (n := 2) (by omega) hM.ds
  rw [hy] at n1
  rw [hmo] at n2
  rw [hd] at n3
  rw [hh] at n4
  rw [hmi] at n5
  rw [hse] at n6
  have hin : inBounds (num l 0 4) (num l 5 2) (num l 8 2) (num l 11 2) (num l 14 2) (num l 17 2) = (dayOk y mo d && secOk h mi se) := by
    rw [n1, n2, n3, n4, n5, n6, Bool.eq_iff_iff, inb_iff, Bool.and_eq_true, dayOk, secOk, decide_eq_true_eq, decide_eq_true_eq]
    constructor
    · rintro ⟨_, a, b, c, e, _, f, _, g, _, i⟩
      exact ⟨⟨by omega, by omega, by omega, e⟩, by omega, by omega, by omega⟩
    · rintro ⟨⟨a, b, c, e⟩, f, g, i⟩
      exact ⟨by omega, by omega, by omega, by omega, e, by omega, by omega, by omega, by omega, by omega, by omega⟩
  refine ⟨fun hf => pa_frac (by omega), fun hz => ?_, fun h0 => pa_bound (by rw [hin, h0]; rfl), fun h0 => pa_bound (by rw [hin, h0, Bool.and_false]), fun hf hz h1 h2 => ?_⟩
  · by_cases hf : fracE l 19 < 0
    · exact pa_frac hf
    · unfold behind at hz
      rw [if_neg hf] at hz
      refine pa_zone ?_
      unfold zoneB at hz
      cases hzz : zone (l.drop (fracE l 19).toNat) with
      | none => rfl
      | some z => rw [hzz] at hz; cases hz
  · have hf' : ¬ fracE l 19 < 0 := by omega
    unfold behind at hz ⊢
    rw [if_neg hf'] at hz ⊢
    cases hzz : zone (l.drop (fracE l 19).toNat) with
    | none => unfold zoneB at hz; rw [hzz] at hz; cases hz
    | some z =>
      rw [pa_is hM.sig (by rw [hin, h1, h2]; rfl) hf' hzz, n1, n2, n3, n4, n5, n6]
      unfold dayN secN zoneN
      rw [if_pos h1, if_pos h2, hzz]
      congr 2
      simp
      omega
end D
theorem drop_while {p : UInt8 → Bool} (m : List UInt8) : m.dropWhile p = m.drop (m.takeWhile p).length := by
  conv => rhs; arg 2; rw [← List.takeWhile_append_dropWhile (p := p) (l := m)]
  rw [List.drop_left]
theorem gFraction_all (s v : ByteArray) (l : List UInt8) (w : World) (hs : s.size ≤ maxLen) (_ : 19 ≤ l.length) (hsl : s.data.toList = l.drop 19) (hv : v.data.toList = D.behind l) :
    Calls Tryz.prog 77 #[.string s] w fun e w' => e = .returned (.tuple #[.int .i64 (D.fracN l 19), .string v, .bool (decide (0 ≤ D.fracE l 19))]) ∧ Below w.heap.size w w' := by
  have hhead : s.data.toList.head? = l[19]? := by rw [hsl, List.head?_drop]
  cases hsg : D.sign l 19 46 with
  | false =>
    obtain ⟨r1, r2⟩ := D.frac_none hsg
    have hvs : v = s := bytes_eq (by
      rw [hv, hsl]; unfold D.behind; rw [r2, if_neg (by omega)]; rfl)
    have hne : s.data.toList.head? ≠ some 46 := by
      rw [hhead]
      unfold D.sign at hsg
      exact of_decide_eq_false hsg
    rw [r1, r2, hvs, show decide ((0 : Int) ≤ ((19 : Nat) : Int)) = true from rfl]
    exact (gFraction_none s w hne).mono fun e w' ⟨a, b⟩ => ⟨a, b ▸ Below.refl _ _⟩
  | true =>
    have h46 : l[19]? = some 46 := by unfold D.sign at hsg; exact of_decide_eq_true hsg
    obtain ⟨hlt, hx⟩ := List.getElem?_eq_some_iff.1 h46
    have hs46 : s.data.toList = 46 :: l.drop 20 := by rw [hsl, List.drop_eq_getElem_cons hlt, hx]
    have hfd : D.fdig l 19 = (l.drop 20).takeWhile D.dg := rfl
    by_cases h0 : (D.fdig l 19).length = 0
    · obtain ⟨r1, r2⟩ := D.frac_bad hsg h0
      have hvs : v = ⟨#[]⟩ := bytes_eq (by rw [hv]; unfold D.behind; rw [r2, if_pos (by omega)])
      rw [r1, r2, hvs, show decide ((0 : Int) ≤ -1) = false from rfl]
      exact gFraction_bad s (l.drop 20) w hs hs46 (by rw [← hfd]; exact h0)
    · obtain ⟨k, hk⟩ : ∃ k, (D.fdig l 19).length = k := ⟨_, rfl⟩
      have hE : D.fracE l 19 = ((20 + k : Nat) : Int) := by unfold D.fracE; rw [if_pos hsg, if_neg h0, hk]
      have hN : D.fracN l 19 = ((D.dv ((D.fdig l 19).take 9) * 10 ^ (9 - k) : Nat) : Int) := by unfold D.fracN; rw [if_pos hsg, if_neg h0, hk]
      have hvd : v.data.toList = (l.drop 20).dropWhile D.dg := by
        rw [hv]; unfold D.behind; rw [hE, if_neg (by omega), Int.toNat_natCast, drop_while, ← hfd, hk, List.drop_drop]
      rw [hN, hE, show decide ((0 : Int) ≤ ((20 + k : Nat) : Int)) = true from decide_eq_true (by omega), hfd]
      rw [hk] at h0
      exact gFraction_some s v (l.drop 20) k w hs hs46 (by rw [← hfd]; exact hk) (by omega) hvd
theorem gate_end {R : Ending → World → Prop} {tmps : Array Value} {w : World} {rb : Nat} {x y c : Int} (h2 : tmps[2]? = some (.pointer (some ⟨rb, 0, none⟩))) (h3 : tmps[3]? = some (.int .i64 c))
    (c0 : w.cell? ⟨rb, 0, none⟩ = some (.int .i64 x)) (c1 : w.cell? ⟨rb, 1, none⟩ = some (.int .i64 y))
    (hR : R (.returned (.tuple #[.agg #[.int .i64 x, .int .i64 y], .int .i64 c])) w) : bodyPost Tryz.prog Tryz.f58 R .ret { tmps := tmps, defers := [] } w := by
  refine ⟨rfl, _, ?_, hR⟩
  have l3 : 3 < tmps.size := (Array.getElem?_eq_some_iff.1 h3).1
  have g2 : tmps[2] = .pointer (some ⟨rb, 0, none⟩) := (Array.getElem?_eq_some_iff.1 h2).2
  have g3 : tmps[3] = .int .i64 c := (Array.getElem?_eq_some_iff.1 h3).2
  have l2 : 2 < tmps.size := by omega
  simp [results, Tryz.results58, go_sem, l2, l3, g2, g3, c0, c1]
theorem below_two {w w' : World} (h : Below w.heap.size w w') (u v : Value) : Below w.heap.size w ((w'.setCell ⟨w.heap.size, 0, none⟩ u).setCell ⟨w.heap.size, 1, none⟩ v) :=
  (h.setCell (Nat.le_refl _) _).setCell (Nat.le_refl _) _
set_option maxRecDepth 100000 in
set_option maxHeartbeats 6400000 in
theorem dParse_any (s : ByteArray) (w : World) (hs : s.size ≤ 100000) (_ : Env w) :
    Calls Tryz.prog 58 #[.string s] w fun e w' => e = .returned (.tuple #[.agg #[.int .i64 (D.paS s.data.toList), .int .i64 (D.paN s.data.toList)], .int .i64 (D.paE s.data.toList)]) ∧ Below w.heap.size w w' := by
  have hsm : s.size ≤ maxLen := Nat.le_trans hs (by decide)
  have b0 : Below w.heap.size w (w.alloc (.cells #[.int .i64 0, .int .i64 0] 87)) := (Below.refl _ _).alloc (Nat.le_refl _) _
  have hnew : (w.alloc (.cells #[.int .i64 0, .int .i64 0] 87)).heap[w.heap.size]? = some (.cells #[.int .i64 0, .int .i64 0] 87 (0, 0)) := heap_alloc_new w _
  have hsz : (w.alloc (.cells #[.int .i64 0, .int .i64 0] 87)).heap.size = w.heap.size + 1 := by simp
  by_cases hF : D.Fits momentForm.data.toList s.data.toList
  · have hM := Moment.of hF
    have hl := hM.len
    have h19 : 19 ≤ s.size := by rw [list_len] at hl; exact hl
    obtain ⟨P, hP⟩ : ∃ P : ByteArray, P.data.toList = s.data.toList.take 19 := ⟨s.extract 0 19, take_list s 19⟩
    obtain ⟨R, hR⟩ : ∃ R : ByteArray, R.data.toList = s.data.toList.drop 19 := ⟨s.extract 19 s.size, drop_list s 19⟩
    obtain ⟨v, hv⟩ : ∃ v : ByteArray, v.data.toList = D.behind s.data.toList := ⟨⟨(D.behind s.data.toList).toArray⟩, rfl⟩
    have hPs : P.size = 19 := by rw [← list_len, hP, List.length_take]; omega
    have hRs : R.size ≤ 100000 := by rw [← list_len, hR, List.length_drop, list_len]; omega
    have hvs : v.size ≤ 100000 := by
      rw [← list_len, hv]; unfold D.behind
      split
      · simp
      · rw [List.length_drop, list_len]; omega
    have tk : ∀ a n, a + n ≤ 19 → (P.data.toList.drop a).take n = (s.data.toList.drop a).take n := fun a n h => by
      rw [hP, List.drop_take, List.take_take, Nat.min_eq_left (by omega)]
    obtain ⟨y, hy⟩ : ∃ y, D.dv ((s.data.toList.drop 0).take 4) = y := ⟨_, rfl⟩
    obtain ⟨mo, hmo⟩ : ∃ y, D.dv ((s.data.toList.drop 5).take 2) = y := ⟨_, rfl⟩
    obtain ⟨d, hd⟩ : ∃ y, D.dv ((s.data.toList.drop 8).take 2) = y := ⟨_, rfl⟩
    obtain ⟨h, hh⟩ : ∃ y, D.dv ((s.data.toList.drop 11).take 2) = y := ⟨_, rfl⟩
    obtain ⟨mi, hmi⟩ : ∃ y, D.dv ((s.data.toList.drop 14).take 2) = y := ⟨_, rfl⟩
    obtain ⟨se, hse⟩ : ∃ y, D.dv ((s.data.toList.drop 17).take 2) = y := ⟨_, rfl⟩
    have pf := D.parse_fit hM hy hmo hd hh hmi hse
    have y9 : y ≤ 9999 := by rw [← hy]; exact dv_four hM.dY (by simp; omega)
    have c1 := fun w => gCut_yes s momentForm P R w hsm (by decide) hF hP hR
    have c2 := fun w => gFraction_all R v s.data.toList w (Nat.le_trans hRs (by decide)) hl hR hv
    have c3 := fun w => gSeconds_any v w (Nat.le_trans hvs (by decide))
    have c4 := fun w => gDay_any P y mo d w hPs (by rw [tk 0 4 (by omega)]; exact hM.dY) (by rw [tk 5 2 (by omega)]; exact hM.dM) (by rw [tk 8 2 (by omega)]; exact hM.dD) (by rw [tk 0 4 (by omega)]; exact hy) (by rw [tk 5 2 (by omega)]; exact hmo) (by rw [tk 8 2 (by omega)]; exact hd)
    have c5 := fun w => gSecond_any P h mi se w hPs (by rw [tk 11 2 (by omega)]; exact hM.dh) (by rw [tk 14 2 (by omega)]; exact hM.dm) (by rw [tk 17 2 (by omega)]; exact hM.ds) (by rw [tk 11 2 (by omega)]; exact hh) (by rw [tk 14 2 (by omega)]; exact hmi) (by rw [tk 17 2 (by omega)]; exact hse)
    rw [hv] at c3
    have hzb : -86400 < D.zoneN (D.behind s.data.toList) ∧ D.zoneN (D.behind s.data.toList) < 86400 := by
      unfold D.zoneN
      cases hz : D.zone (D.behind s.data.toList) with
      | none => simp
      | some z => exact D.zone_bd hz
    have hdb : -2000000 ≤ D.dayN y mo d ∧ D.dayN y mo d ≤ 20000000 := by
      unfold D.dayN
      split
      · rename_i hk
        obtain ⟨k1, k2, k3, k4⟩ := of_decide_eq_true hk
        exact D.days_bd (by omega) (by omega) (by omega) (by omega) (by omega) k4
      · omega
    have hsb : 0 ≤ D.secN h mi se ∧ D.secN h mi se ≤ 100000 := by
      unfold D.secN
      split
      · rename_i hk
        obtain ⟨k1, k2, k3⟩ := of_decide_eq_true hk
        omega
      · omega
    have hdec : ∀ x : Bool, decide (0 ≤ D.fracE s.data.toList 19) = x → (x = true ↔ 0 ≤ D.fracE s.data.toList 19) := fun x e => by rw [← e]; exact decide_eq_true_iff
    generalize hq1 : decide (0 ≤ D.fracE s.data.toList 19) = q1 at c2
    have hq1 := hdec q1 hq1
    rw [← hq1] at pf
    generalize D.zoneB (D.behind s.data.toList) = q2 at c3 pf
    generalize D.dayOk y mo d = q3 at c4 pf
    generalize D.secOk h mi se = q4 at c5 pf
    generalize D.dayN y mo d = N1 at c4 pf hdb
    generalize D.secN h mi se = N2 at c5 pf hsb
    generalize D.zoneN (D.behind s.data.toList) = N3 at c3 pf hzb
    generalize D.fracN s.data.toList 19 = N4 at c2 pf
    obtain ⟨z1, z2⟩ := hzb
    obtain ⟨z3, z4⟩ := hdb
    obtain ⟨z5, z6⟩ := hsb
    clear tk hdec hq1 hy hmo hd hh hmi hse hM hF hl hv hP hR hPs hRs hvs y9 h19
    replace pf := Lib.hid pf
    replace hnew := Lib.hid hnew
    replace hsz := Lib.hid hsz
    go_enter Tryz.func58, Tryz.ntmps58
    go_wp2_with fail
    (with_reducible refine (c1 _).mono ?_); rintro e w1 ⟨rfl, b1⟩
    go_wp2_with fail
    (with_reducible refine (c2 _).mono ?_); rintro e w2 ⟨rfl, b2⟩
    have b2 := b1.trans (b2.mono b1.size)
    go_wp2_with fail
    (with_reducible refine (c3 _).mono ?_); rintro e w3 ⟨rfl, b3⟩
    have b3 := b2.trans (b3.mono b2.size)
    have hh : Cells w3 w.heap.size 87 #[.int .i64 0, .int .i64 0] := (b3.block w.heap.size (by rw [hsz.out]; omega)).trans hnew.out
    have bb := b0.trans (b3.mono b0.size)
    have k0 : w3.cell? ⟨w.heap.size, 0, none⟩ = some (.int .i64 0) := hh.cell rfl
    have k1 : w3.cell? ⟨w.heap.size, 1, none⟩ = some (.int .i64 0) := hh.cell rfl
    have f0 : w3.frozen? ⟨w.heap.size, 0, none⟩ = false := hh.free _
    have f1 : w3.frozen? ⟨w.heap.size, 1, none⟩ = false := hh.free _
    clear c1 c2 c3 b1
    cases q1 with
    | false =>
      obtain ⟨r1, r2, r3⟩ := D.pa_none (pf.out.1 (by simp))
      clear c4 c5 b2 b3
      replace hh := Lib.hid hh
      replace r1 := Lib.hid r1
      replace r2 := Lib.hid r2
      replace r3 := Lib.hid r3
      go_wp2_with fail
      refine gate_end (rb := w.heap.size) (x := 0) (y := 0) (c := 110) rfl rfl ?_ ?_ ?_
      · exact ((hh.out.set 0 _).set 1 _).cell rfl
      · exact ((hh.out.set 0 _).set 1 _).cell rfl
      · exact ⟨by rw [r1.out, r2.out, r3.out], below_two bb _ _⟩
    | true =>
    cases q2 with
    | false =>
      obtain ⟨r1, r2, r3⟩ := D.pa_none (pf.out.2.1 rfl)
      clear c4 c5 b2 b3
      replace hh := Lib.hid hh
      replace r1 := Lib.hid r1
      replace r2 := Lib.hid r2
      replace r3 := Lib.hid r3
      go_wp2_with fail
      refine gate_end (rb := w.heap.size) (x := 0) (y := 0) (c := 110) rfl rfl ?_ ?_ ?_
      · exact ((hh.out.set 0 _).set 1 _).cell rfl
      · exact ((hh.out.set 0 _).set 1 _).cell rfl
      · exact ⟨by rw [r1.out, r2.out, r3.out], below_two bb _ _⟩
    | true =>
    clear k0 k1 f0 f1 hh bb
    go_wp2_with fail
    (with_reducible refine (c4 _).mono ?_); rintro e w4 ⟨rfl, b4⟩
    have b4 := b3.trans (b4.mono b3.size)
    go_wp2_with fail
    (with_reducible refine (c5 _).mono ?_); rintro e w5 ⟨rfl, b5⟩
    have b5 := b4.trans (b5.mono b4.size)
    have hh : Cells w5 w.heap.size 87 #[.int .i64 0, .int .i64 0] := (b5.block w.heap.size (by rw [hsz.out]; omega)).trans hnew.out
    have bb := b0.trans (b5.mono b0.size)
    have k0 : w5.cell? ⟨w.heap.size, 0, none⟩ = some (.int .i64 0) := hh.cell rfl
    have k1 : w5.cell? ⟨w.heap.size, 1, none⟩ = some (.int .i64 0) := hh.cell rfl
    have f0 : w5.frozen? ⟨w.heap.size, 0, none⟩ = false := hh.free _
    have f1 : w5.frozen? ⟨w.heap.size, 1, none⟩ = false := hh.free _
    replace hh := Lib.hid hh
    clear c4 c5 b2 b3 b4 b5
    cases q3 with
    | false =>
      obtain ⟨r1, r2, r3⟩ := D.pa_none (pf.out.2.2.1 rfl)
      replace r1 := Lib.hid r1
      replace r2 := Lib.hid r2
      replace r3 := Lib.hid r3
      go_wp2_with fail
      refine gate_end (rb := w.heap.size) (x := 0) (y := 0) (c := 110) rfl rfl ?_ ?_ ?_
      · exact ((hh.out.set 0 _).set 1 _).cell rfl
      · exact ((hh.out.set 0 _).set 1 _).cell rfl
      · exact ⟨by rw [r1.out, r2.out, r3.out], below_two bb _ _⟩
    | true =>
    cases q4 with
    | false =>
      obtain ⟨r1, r2, r3⟩ := D.pa_none (pf.out.2.2.2.1 rfl)
      replace r1 := Lib.hid r1
      replace r2 := Lib.hid r2
      replace r3 := Lib.hid r3
      go_wp2_with fail
      refine gate_end (rb := w.heap.size) (x := 0) (y := 0) (c := 110) rfl rfl ?_ ?_ ?_
      · exact ((hh.out.set 0 _).set 1 _).cell rfl
      · exact ((hh.out.set 0 _).set 1 _).cell rfl
      · exact ⟨by rw [r1.out, r2.out, r3.out], below_two bb _ _⟩
    | true =>
    obtain ⟨r1, r2, r3⟩ := D.pa_some (pf.out.2.2.2.2 (by first | rfl | trivial) (by first | rfl | trivial) (by first | rfl | trivial) (by first | rfl | trivial))
    replace r1 := Lib.hid r1
    replace r2 := Lib.hid r2
    replace r3 := Lib.hid r3
    go_wp2_with fail
    refine gate_end (rb := w.heap.size) (x := N1 * 86400 + N2 - N3) (y := N4) (c := 0) rfl rfl ?_ ?_ ?_
    · exact ((hh.out.set 0 _).set 1 _).cell rfl
    · exact ((hh.out.set 0 _).set 1 _).cell rfl
    · exact ⟨by rw [r1.out, r2.out, r3.out], below_two bb _ _⟩
  · obtain ⟨r1, r2, r3⟩ := D.pa_none (D.parse_unfit hF)
    have c1 := fun w => gCut_no s momentForm w hsm (by decide) hF
    have c2 := fun w => gFraction_none ⟨#[]⟩ w (by simp)
    have c3 := fun w => gSeconds_any ⟨#[]⟩ w (by decide)
    rw [show (D.zoneN (⟨#[]⟩ : ByteArray).data.toList) = 0 from rfl, show (D.zoneB (⟨#[]⟩ : ByteArray).data.toList) = false from rfl] at c3
    replace r1 := Lib.hid r1
    replace r2 := Lib.hid r2
    replace r3 := Lib.hid r3
    replace hnew := Lib.hid hnew
    replace hsz := Lib.hid hsz
    clear hF
    go_enter Tryz.func58, Tryz.ntmps58
    go_wp2_with fail
    (with_reducible refine (c1 _).mono ?_); rintro e w1 ⟨rfl, b1⟩
    go_wp2_with fail
    (with_reducible refine (c2 _).mono ?_); rintro e w1 ⟨rfl, rfl⟩
    go_wp2_with fail
    (with_reducible refine (c3 _).mono ?_); rintro e w2 ⟨rfl, b2⟩
    have b3 := b1.trans (b2.mono b1.size)
    have hh : Cells w2 w.heap.size 87 #[.int .i64 0, .int .i64 0] := (b3.block w.heap.size (by rw [hsz.out]; omega)).trans hnew.out
    have bb := b0.trans (b3.mono b0.size)
    have k0 : w2.cell? ⟨w.heap.size, 0, none⟩ = some (.int .i64 0) := hh.cell rfl
    have k1 : w2.cell? ⟨w.heap.size, 1, none⟩ = some (.int .i64 0) := hh.cell rfl
    have f0 : w2.frozen? ⟨w.heap.size, 0, none⟩ = false := hh.free _
    have f1 : w2.frozen? ⟨w.heap.size, 1, none⟩ = false := hh.free _
    clear c1 c2 c3 b1 b2 b3
    replace hh := Lib.hid hh
    go_wp2_with fail
    refine gate_end (rb := w.heap.size) (x := 0) (y := 0) (c := 110) rfl rfl ?_ ?_ ?_
    · exact ((hh.out.set 0 _).set 1 _).cell rfl
    · exact ((hh.out.set 0 _).set 1 _).cell rfl
    · exact ⟨by rw [r1.out, r2.out, r3.out], below_two bb _ _⟩
end Go.Proofs.YtbaclacfadkjdaaGreatDoor
