/-
  What the document's own Parse of dates comes to: its contract.
-/
import Derived.Test.YtdkephbfehlodaaDoorRefParse1
namespace Go.Proofs.YtdkephbfehlodaaDoor
open Go.RowKit

theorem infoDate : (Tryd.prog.info? 24).map (fun i => (i.zero, i.size, i.bytes)) = some (some (.agg #[.int .i64 0, .int .i64 0]), 2, 16) := by kernel_rfl

theorem date_end {R : Ending → World → Prop} {tmps : Array Value} {w : World} {rb : Nat} {x y c : Int} (h2 : tmps[2]? = some (.pointer (some ⟨rb, 0, none⟩))) (h3 : tmps[3]? = some (.int .i64 c))
    (c0 : w.cell? ⟨rb, 0, none⟩ = some (.int .i64 x)) (c1 : w.cell? ⟨rb, 1, none⟩ = some (.int .i64 y))
    (hR : R (.returned (.tuple #[.agg #[.int .i64 x, .int .i64 y], .int .i64 c])) w) : bodyPost Tryd.prog Tryd.f12 R .ret { tmps := tmps, defers := [] } w := by
  refine ⟨rfl, _, ?_, hR⟩
  have l3 : 3 < tmps.size := (Array.getElem?_eq_some_iff.1 h3).1
  have g2 : tmps[2] = .pointer (some ⟨rb, 0, none⟩) := (Array.getElem?_eq_some_iff.1 h2).2
  have g3 : tmps[3] = .int .i64 c := (Array.getElem?_eq_some_iff.1 h3).2
  have l2 : 2 < tmps.size := by omega
  simp [results, Tryd.results12, go_sem, l2, l3, g2, g3, c0, c1]

theorem refSign_m (s : ByteArray) (a : Nat) (c : UInt8) {x n : Int} (w : World) (hs : s.size ≤ maxLen) (hx : (a : Int) = x) (h : (c.toNat : Int) = n) :
    Calls Tryd.prog 24 #[.string s, .int .i64 x, .int .u8 n] w fun e w' => e = .returned (.bool (D.sign s.data.toList a c)) ∧ w = w' := hx ▸ refSign_n s a c w hs h

theorem refFraction_n (s : ByteArray) (a : Nat) {x : Int} (w : World) (hs : s.size ≤ maxLen) (ha : a ≤ 1000) (hx : (a : Int) = x) :
    Calls Tryd.prog 26 #[.string s, .int .i64 x] w fun e w' => e = .returned (.tuple #[.int .i64 (D.fracN s.data.toList a), .int .i64 (D.fracE s.data.toList a)]) ∧ w = w' := hx ▸ refFraction_any s a w hs ha

set_option maxRecDepth 100000 in
set_option maxHeartbeats 6400000 in
theorem refParse_any (s : ByteArray) (w : World) (hs : s.size ≤ 1000) :
    Calls Tryd.prog 12 #[.string s] w fun e w' => e = .returned (.tuple #[.agg #[.int .i64 (D.paS s.data.toList), .int .i64 (D.paN s.data.toList)], .int .i64 (D.paE s.data.toList)]) ∧ Below w.heap.size w w' := by
  have hsm : s.size ≤ maxLen := Nat.le_trans hs (by decide)
  go_enter Tryd.func12, Tryd.ntmps12
  go_wp2_with fail
  have b1 : Below w.heap.size w (w.alloc (.cells #[.int .i64 0, .int .i64 0] 24)) := (Below.refl _ _).alloc (Nat.le_refl _) _
  (with_reducible refine (refNumber_n (x := 0) (y := 4) s 0 4 _ hsm (by omega) (by omega) rfl rfl).mono ?_); rintro e w1 ⟨rfl, rfl⟩
  go_wp2_with fail
  (with_reducible refine (refNumber_n (x := 5) (y := 2) s 5 2 _ hsm (by omega) (by omega) rfl rfl).mono ?_); rintro e w1 ⟨rfl, rfl⟩
  go_wp2_with fail
  (with_reducible refine (refNumber_n (x := 8) (y := 2) s 8 2 _ hsm (by omega) (by omega) rfl rfl).mono ?_); rintro e w1 ⟨rfl, rfl⟩
  go_wp2_with fail
  (with_reducible refine (refNumber_n (x := 11) (y := 2) s 11 2 _ hsm (by omega) (by omega) rfl rfl).mono ?_); rintro e w1 ⟨rfl, rfl⟩
  go_wp2_with fail
  (with_reducible refine (refNumber_n (x := 14) (y := 2) s 14 2 _ hsm (by omega) (by omega) rfl rfl).mono ?_); rintro e w1 ⟨rfl, rfl⟩
  go_wp2_with fail
  (with_reducible refine (refNumber_n (x := 17) (y := 2) s 17 2 _ hsm (by omega) (by omega) rfl rfl).mono ?_); rintro e w1 ⟨rfl, rfl⟩
  go_wp2_with fail
  have hobj : (w.alloc (.cells #[.int .i64 0, .int .i64 0] 24)).heap[w.heap.size]? = some (.cells #[.int .i64 0, .int .i64 0] 24 (0, 0)) := heap_alloc_new w _
  have hc : Hid ((w.alloc (.cells #[.int .i64 0, .int .i64 0] 24)).cell? ⟨w.heap.size, 0, none⟩ = some (.int .i64 0) ∧ (w.alloc (.cells #[.int .i64 0, .int .i64 0] 24)).cell? ⟨w.heap.size, 1, none⟩ = some (.int .i64 0)) := Lib.hid ⟨by unfold World.cell?; rw [hobj]; rfl, by unfold World.cell?; rw [hobj]; rfl⟩
  clear hobj
  have hsig : D.signs s.data.toList = (D.sign s.data.toList 4 45 && D.sign s.data.toList 7 45 && D.sign s.data.toList 10 84 && D.sign s.data.toList 13 58 && D.sign s.data.toList 16 58) := rfl
  have hsig := Lib.hid hsig
  (with_reducible refine (refSign_m (x := 4) (n := 45) s 4 45 _ hsm rfl rfl).mono ?_); rintro e w1 ⟨rfl, rfl⟩
  cases s1 : D.sign s.data.toList 4 45
  · obtain ⟨r1, r2, r3⟩ := D.pa_none (D.pa_sign (hsig.out.trans (by rw [s1]; simp)))
    replace r1 := Lib.hid r1
    replace r2 := Lib.hid r2
    replace r3 := Lib.hid r3
    clear s1
    go_wp2_with fail
    exact date_end (rb := w.heap.size) rfl rfl hc.out.1 hc.out.2 ⟨by rw [r1.out, r2.out, r3.out], b1⟩
  replace s1 := Lib.hid s1
  go_wp2_with fail
  (with_reducible refine (refSign_m (x := 7) (n := 45) s 7 45 _ hsm rfl rfl).mono ?_); rintro e w1 ⟨rfl, rfl⟩
  cases s2 : D.sign s.data.toList 7 45
  · obtain ⟨r1, r2, r3⟩ := D.pa_none (D.pa_sign (hsig.out.trans (by rw [s1.out, s2]; simp)))
    replace r1 := Lib.hid r1
    replace r2 := Lib.hid r2
    replace r3 := Lib.hid r3
    clear s2
    go_wp2_with fail
    exact date_end (rb := w.heap.size) rfl rfl hc.out.1 hc.out.2 ⟨by rw [r1.out, r2.out, r3.out], b1⟩
  replace s2 := Lib.hid s2
  go_wp2_with fail
  (with_reducible refine (refSign_m (x := 10) (n := 84) s 10 84 _ hsm rfl rfl).mono ?_); rintro e w1 ⟨rfl, rfl⟩
  cases s3 : D.sign s.data.toList 10 84
  · obtain ⟨r1, r2, r3⟩ := D.pa_none (D.pa_sign (hsig.out.trans (by rw [s1.out, s2.out, s3]; simp)))
    replace r1 := Lib.hid r1
    replace r2 := Lib.hid r2
    replace r3 := Lib.hid r3
    clear s3
    go_wp2_with fail
    exact date_end (rb := w.heap.size) rfl rfl hc.out.1 hc.out.2 ⟨by rw [r1.out, r2.out, r3.out], b1⟩
  replace s3 := Lib.hid s3
  go_wp2_with fail
  (with_reducible refine (refSign_m (x := 13) (n := 58) s 13 58 _ hsm rfl rfl).mono ?_); rintro e w1 ⟨rfl, rfl⟩
  cases s4 : D.sign s.data.toList 13 58
  · obtain ⟨r1, r2, r3⟩ := D.pa_none (D.pa_sign (hsig.out.trans (by rw [s1.out, s2.out, s3.out, s4]; simp)))
    replace r1 := Lib.hid r1
    replace r2 := Lib.hid r2
    replace r3 := Lib.hid r3
    clear s4
    go_wp2_with fail
    exact date_end (rb := w.heap.size) rfl rfl hc.out.1 hc.out.2 ⟨by rw [r1.out, r2.out, r3.out], b1⟩
  replace s4 := Lib.hid s4
  go_wp2_with fail
  (with_reducible refine (refSign_m (x := 16) (n := 58) s 16 58 _ hsm rfl rfl).mono ?_); rintro e w1 ⟨rfl, rfl⟩
  cases s5 : D.sign s.data.toList 16 58
  · obtain ⟨r1, r2, r3⟩ := D.pa_none (D.pa_sign (hsig.out.trans (by rw [s1.out, s2.out, s3.out, s4.out, s5]; simp)))
    replace r1 := Lib.hid r1
    replace r2 := Lib.hid r2
    replace r3 := Lib.hid r3
    clear s5
    go_wp2_with fail
    exact date_end (rb := w.heap.size) rfl rfl hc.out.1 hc.out.2 ⟨by rw [r1.out, r2.out, r3.out], b1⟩
  replace s5 := Lib.hid s5
  have hsg : Hid (D.signs s.data.toList = true) := Lib.hid (hsig.out.trans (by rw [s1.out, s2.out, s3.out, s4.out, s5.out]; rfl))
  clear hsig s1 s2 s3 s4 s5
  have bd1 := D.num_bd s.data.toList 0 (n := 4) (by omega)
  have bd2 := D.num_bd s.data.toList 5 (n := 2) (by omega)
  have bd3 := D.num_bd s.data.toList 8 (n := 2) (by omega)
  have bd4 := D.num_bd s.data.toList 11 (n := 2) (by omega)
  have bd5 := D.num_bd s.data.toList 14 (n := 2) (by omega)
  have bd6 := D.num_bd s.data.toList 17 (n := 2) (by omega)
  have pb := Lib.hid (D.pa_bound (l := s.data.toList))
  have pf := Lib.hid (D.pa_frac (l := s.data.toList))
  have pz := Lib.hid (D.pa_zone (l := s.data.toList))
  have pi := Lib.hid (fun z => D.pa_is (l := s.data.toList) (z := z) hsg.out)
  have h19 := Lib.hid (fun e => (D.num_len (l := s.data.toList) (a := 17) (n := 2) e : 17 + 2 ≤ _))
  clear hsg
  generalize D.num s.data.toList 0 4 = y at *
  generalize D.num s.data.toList 5 2 = mo at *
  generalize D.num s.data.toList 8 2 = d at *
  generalize D.num s.data.toList 11 2 = h at *
  generalize D.num s.data.toList 14 2 = mi at *
  generalize D.num s.data.toList 17 2 = se at *
  have hfirst : y < 0 ∨ (0 ≤ y ∧ mo < 1) ∨ (0 ≤ y ∧ 1 ≤ mo ∧ 12 < mo) ∨ (0 ≤ y ∧ 1 ≤ mo ∧ mo ≤ 12 ∧ d < 1) ∨ (0 ≤ y ∧ 1 ≤ mo ∧ mo ≤ 12 ∧ 1 ≤ d) := by omega
  rcases hfirst with q | ⟨q1, q⟩ | ⟨q1, q2, q⟩ | ⟨q1, q2, q3, q⟩ | ⟨q1, q2, q3, q4⟩
  · obtain ⟨r1, r2, r3⟩ := D.pa_none (pb.out (by simp [D.inBounds]; omega))
    replace r1 := Lib.hid r1
    replace r2 := Lib.hid r2
    replace r3 := Lib.hid r3
    go_wp2_with fail
    exact date_end (rb := w.heap.size) rfl rfl hc.out.1 hc.out.2 ⟨by rw [r1.out, r2.out, r3.out], b1⟩
  · obtain ⟨r1, r2, r3⟩ := D.pa_none (pb.out (by simp [D.inBounds]; omega))
    replace r1 := Lib.hid r1
    replace r2 := Lib.hid r2
    replace r3 := Lib.hid r3
    go_wp2_with fail
    exact date_end (rb := w.heap.size) rfl rfl hc.out.1 hc.out.2 ⟨by rw [r1.out, r2.out, r3.out], b1⟩
  · obtain ⟨r1, r2, r3⟩ := D.pa_none (pb.out (by simp [D.inBounds]; omega))
    replace r1 := Lib.hid r1
    replace r2 := Lib.hid r2
    replace r3 := Lib.hid r3
    go_wp2_with fail
    exact date_end (rb := w.heap.size) rfl rfl hc.out.1 hc.out.2 ⟨by rw [r1.out, r2.out, r3.out], b1⟩
  · obtain ⟨r1, r2, r3⟩ := D.pa_none (pb.out (by simp [D.inBounds]; omega))
    replace r1 := Lib.hid r1
    replace r2 := Lib.hid r2
    replace r3 := Lib.hid r3
    go_wp2_with fail
    exact date_end (rb := w.heap.size) rfl rfl hc.out.1 hc.out.2 ⟨by rw [r1.out, r2.out, r3.out], b1⟩
  go_wp2_with fail
  (with_reducible refine (refDays_any y mo _ q1 q2 q3).mono ?_); rintro e w1 ⟨rfl, rfl⟩
  have hml := D.mlen_le y mo
  have pb2 : Hid (¬ d ≤ D.mlen y mo ∨ h < 0 ∨ 23 < h ∨ mi < 0 ∨ 59 < mi ∨ se < 0 ∨ 59 < se → D.parse s.data.toList = none) := Lib.hid (fun e => pb.out (by
    cases hb : D.inBounds y mo d h mi se
    · rfl
    · have := D.bounds_of hb
      omega))
  have hdb : Hid (d ≤ D.mlen y mo → -2000000 ≤ D.days y mo d ∧ D.days y mo d ≤ 20000000) := Lib.hid (fun e => D.days_bd q1 (by omega) q2 q3 q4 e)
  have hib : Hid (d ≤ D.mlen y mo ∧ 0 ≤ h ∧ h ≤ 23 ∧ 0 ≤ mi ∧ mi ≤ 59 ∧ 0 ≤ se ∧ se ≤ 59 → D.inBounds y mo d h mi se = true) := Lib.hid (fun e => by
    obtain ⟨e1, e2, e3, e4, e5, e6, e7⟩ := e
    simp [D.inBounds, *])
  clear pb
  generalize D.mlen y mo = ml at *
  have hsecond : ml < d ∨ (d ≤ ml ∧ h < 0) ∨ (d ≤ ml ∧ 0 ≤ h ∧ 23 < h) ∨ (d ≤ ml ∧ 0 ≤ h ∧ h ≤ 23 ∧ mi < 0) ∨ (d ≤ ml ∧ 0 ≤ h ∧ h ≤ 23 ∧ 0 ≤ mi ∧ 59 < mi) ∨ (d ≤ ml ∧ 0 ≤ h ∧ h ≤ 23 ∧ 0 ≤ mi ∧ mi ≤ 59 ∧ se < 0) ∨ (d ≤ ml ∧ 0 ≤ h ∧ h ≤ 23 ∧ 0 ≤ mi ∧ mi ≤ 59 ∧ 0 ≤ se ∧ 59 < se) ∨ (d ≤ ml ∧ 0 ≤ h ∧ h ≤ 23 ∧ 0 ≤ mi ∧ mi ≤ 59 ∧ 0 ≤ se ∧ se ≤ 59) := by omega
  rcases hsecond with t | ⟨t1, t⟩ | ⟨t1, t2, t⟩ | ⟨t1, t2, t3, t⟩ | ⟨t1, t2, t3, t4, t⟩ | ⟨t1, t2, t3, t4, t5, t⟩ | ⟨t1, t2, t3, t4, t5, t6, t⟩ | ⟨t1, t2, t3, t4, t5, t6, t7⟩
  · obtain ⟨r1, r2, r3⟩ := D.pa_none (pb2.out (by omega))
    replace r1 := Lib.hid r1
    replace r2 := Lib.hid r2
    replace r3 := Lib.hid r3
    go_wp2_with fail
    exact date_end (rb := w.heap.size) rfl rfl hc.out.1 hc.out.2 ⟨by rw [r1.out, r2.out, r3.out], b1⟩
  · obtain ⟨r1, r2, r3⟩ := D.pa_none (pb2.out (by omega))
    replace r1 := Lib.hid r1
    replace r2 := Lib.hid r2
    replace r3 := Lib.hid r3
    go_wp2_with fail
    exact date_end (rb := w.heap.size) rfl rfl hc.out.1 hc.out.2 ⟨by rw [r1.out, r2.out, r3.out], b1⟩
  · obtain ⟨r1, r2, r3⟩ := D.pa_none (pb2.out (by omega))
    replace r1 := Lib.hid r1
    replace r2 := Lib.hid r2
    replace r3 := Lib.hid r3
    go_wp2_with fail
    exact date_end (rb := w.heap.size) rfl rfl hc.out.1 hc.out.2 ⟨by rw [r1.out, r2.out, r3.out], b1⟩
  · obtain ⟨r1, r2, r3⟩ := D.pa_none (pb2.out (by omega))
    replace r1 := Lib.hid r1
    replace r2 := Lib.hid r2
    replace r3 := Lib.hid r3
    go_wp2_with fail
    exact date_end (rb := w.heap.size) rfl rfl hc.out.1 hc.out.2 ⟨by rw [r1.out, r2.out, r3.out], b1⟩
  · obtain ⟨r1, r2, r3⟩ := D.pa_none (pb2.out (by omega))
    replace r1 := Lib.hid r1
    replace r2 := Lib.hid r2
    replace r3 := Lib.hid r3
    go_wp2_with fail
    exact date_end (rb := w.heap.size) rfl rfl hc.out.1 hc.out.2 ⟨by rw [r1.out, r2.out, r3.out], b1⟩
  · obtain ⟨r1, r2, r3⟩ := D.pa_none (pb2.out (by omega))
    replace r1 := Lib.hid r1
    replace r2 := Lib.hid r2
    replace r3 := Lib.hid r3
    go_wp2_with fail
    exact date_end (rb := w.heap.size) rfl rfl hc.out.1 hc.out.2 ⟨by rw [r1.out, r2.out, r3.out], b1⟩
  · obtain ⟨r1, r2, r3⟩ := D.pa_none (pb2.out (by omega))
    replace r1 := Lib.hid r1
    replace r2 := Lib.hid r2
    replace r3 := Lib.hid r3
    go_wp2_with fail
    exact date_end (rb := w.heap.size) rfl rfl hc.out.1 hc.out.2 ⟨by rw [r1.out, r2.out, r3.out], b1⟩
  have hin := Lib.hid (hib.out ⟨t1, t2, t3, t4, t5, t6, t7⟩)
  obtain ⟨db1, db2⟩ := hdb.out t1
  clear hib pb2 hdb
  go_wp2_with fail
  (with_reducible refine (refFraction_n (x := 19) s 19 _ hsm (by omega) rfl).mono ?_); rintro e w1 ⟨rfl, rfl⟩
  by_cases hneg : D.fracE s.data.toList 19 < 0
  · obtain ⟨r1, r2, r3⟩ := D.pa_none (pf.out hneg)
    replace r1 := Lib.hid r1
    replace r2 := Lib.hid r2
    replace r3 := Lib.hid r3
    go_wp2_with fail
    exact date_end (rb := w.heap.size) rfl rfl hc.out.1 hc.out.2 ⟨by rw [r1.out, r2.out, r3.out], b1⟩
  obtain ⟨k, hk, hkl⟩ := D.fracE_nat (h19.out t6) hneg
  have pz' := pz.out
  have pi' := fun z => pi.out z hin.out (by omega)
  rw [hk] at pz' pi'
  rw [Int.toNat_natCast] at pz' pi'
  rw [hk]
  have hkl : k ≤ s.size := by rw [Array.length_toList] at hkl; exact hkl
  replace pz' := Lib.hid pz'
  replace pi' := Lib.hid pi'
  clear hneg hk pz pi pf h19 hin
  go_wp2_with fail
  (with_reducible refine (refZone_any (s.extract k s.size) _ (by rw [ByteArray.size_extract]; omega)).mono ?_); rintro e w1 ⟨rfl, rfl⟩
  rw [drop_list s k]
  cases hz : D.zone (s.data.toList.drop k) with
  | none =>
    obtain ⟨z1, z2⟩ := D.zone_none hz
    rw [z1, z2]
    obtain ⟨r1, r2, r3⟩ := D.pa_none (pz'.out hz)
    replace r1 := Lib.hid r1
    replace r2 := Lib.hid r2
    replace r3 := Lib.hid r3
    clear z1 z2 hz
    go_wp2_with fail
    exact date_end (rb := w.heap.size) rfl rfl hc.out.1 hc.out.2 ⟨by rw [r1.out, r2.out, r3.out], b1⟩
  | some z =>
    obtain ⟨z1, z2⟩ := D.zone_some hz
    rw [z1, z2]
    obtain ⟨zb1, zb2⟩ := D.zone_bd hz
    obtain ⟨r1, r2, r3⟩ := D.pa_some (pi'.out z hz)
    replace r1 := Lib.hid r1
    replace r2 := Lib.hid r2
    replace r3 := Lib.hid r3
    clear z1 z2 hz
    go_wp2_with fail
    (with_reducible refine (refSince_any y mo d _ q1 (by omega) q2 q3 q4 (by omega)).mono ?_); rintro e w1 ⟨rfl, rfl⟩
    generalize D.days y mo d = D0 at *
    go_wp2_with fail
    exact date_end (rb := w.heap.size) rfl rfl (by unfold World.cell?; rw [heap_alloc_new]; rfl) (by unfold World.cell?; rw [heap_alloc_new]; rfl) ⟨by rw [r1.out, r2.out, r3.out], (Below.refl _ _).alloc (Nat.le_refl _) _⟩
end Go.Proofs.YtdkephbfehlodaaDoor
