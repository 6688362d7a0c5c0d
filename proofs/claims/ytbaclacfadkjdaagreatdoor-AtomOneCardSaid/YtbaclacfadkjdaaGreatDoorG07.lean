/-
  What the document's own Parse of dates comes to: its contract.
  How a point of time is told, in plain Lean: digits of a fixed number, the day of a point of time, the text; what is told is read.
  References in plain Lean: the parts of a text, what is told of them, paths without dots, what is resolved.
  What the document's own words of references come to: letters and digits, among, first, begins, up.
-/
import Derived.Test.YtbaclacfadkjdaaGreatDoorG06
import Derived.Lib.ItoaNum
import Derived.Test.YtbaclacfadkjdaaGreatDoorG01
import Derived.WalkSmall
namespace Go.Proofs.YtbaclacfadkjdaaGreatDoor
open Go.RowKit
theorem date_end {R : Ending → World → Prop} {tmps : Array Value} {w : World} {rb : Nat} {x y c : Int} (h2 : tmps[2]? = some (.pointer (some ⟨rb, 0, none⟩))) (h3 : tmps[3]? = some (.int .i64 c))
    (c0 : w.cell? ⟨rb, 0, none⟩ = some (.int .i64 x)) (c1 : w.cell? ⟨rb, 1, none⟩ = some (.int .i64 y))
    (hR : R (.returned (.tuple #[.agg #[.int .i64 x, .int .i64 y], .int .i64 c])) w) : bodyPost Tryz.prog Tryz.f61 R .ret { tmps := tmps, defers := [] } w := by
  refine ⟨rfl, _, ?_, hR⟩
  have l3 : 3 < tmps.size := (Array.getElem?_eq_some_iff.1 h3).1
  have g2 : tmps[2] = .pointer (some ⟨rb, 0, none⟩) := (Array.getElem?_eq_some_iff.1 h2).2
  have g3 : tmps[3] = .int .i64 c := (Array.getElem?_eq_some_iff.1 h3).2
  have l2 : 2 < tmps.size := by omega
  simp [results, Tryz.results61, go_sem, l2, l3, g2, g3, c0, c1]
theorem refSign_m (s : ByteArray) (a : Nat) (c : UInt8) {x n : Int} (w : World) (hs : s.size ≤ maxLen) (hx : (a : Int) = x) (h : (c.toNat : Int) = n) :
    Calls Tryz.prog 82 #[.string s, .int .i64 x, .int .u8 n] w fun e w' => e = .returned (.bool (D.sign s.data.toList a c)) ∧ w = w' := hx ▸ refSign_n s a c w hs h
theorem refFraction_n (s : ByteArray) (a : Nat) {x : Int} (w : World) (hs : s.size ≤ maxLen) (ha : a ≤ 1000000) (hx : (a : Int) = x) :
    Calls Tryz.prog 84 #[.string s, .int .i64 x] w fun e w' => e = .returned (.tuple #[.int .i64 (D.fracN s.data.toList a), .int .i64 (D.fracE s.data.toList a)]) ∧ w = w' := hx ▸ refFraction_any s a w hs ha
set_option maxRecDepth 100000 in
set_option maxHeartbeats 6400000 in
theorem refParse_any (s : ByteArray) (w : World) (hs : s.size ≤ 1000000) :
    Calls Tryz.prog 61 #[.string s] w fun e w' => e = .returned (.tuple #[.agg #[.int .i64 (D.paS s.data.toList), .int .i64 (D.paN s.data.toList)], .int .i64 (D.paE s.data.toList)]) ∧ Below w.heap.size w w' := by
  have hsm : s.size ≤ maxLen := Nat.le_trans hs (by decide)
  go_enter Tryz.func61, Tryz.ntmps61
  go_wp2_with fail
  have b1 : Below w.heap.size w (w.alloc (.cells #[.int .i64 0, .int .i64 0] 87)) := (Below.refl _ _).alloc (Nat.le_refl _) _
  (with_reducible refine (refNumber_n (x := 0) (y := 4) s 0 4 _ hsm (by omega) (by omega) rfl rfl).mono ?_); rintro e w1 ⟨rfl, rfl⟩
  go_wp2_with fail
  (with_reducible refine (refNumber_n (x := 5) (y := 2) s 5 2 _ hsm (by omega) (by omega) rfl rfl).mono ?_); rintro e w1 ⟨rfl, rfl⟩
  go_wp2_with fail
  (with_reducible refine (refNumber_n (x := 8) (y := 2) s 8 2 _ hsm (by omega) (by omega) rfl rfl).mono ?_); rintro e w1 ⟨rfl, rfl⟩
  go_wp2_with fail
  (with_reducible refine (refNumber_n (x := 11) (y := 2) s 11 2 _ hsm (by omega) (by omega) rfl rfl).mono ?_); rintro e w1 ⟨rfl, rfl⟩
  go_wp2_with fail
  (with_reducible refine (refNumber_n (x := 14) (y := 2) s 14 2 _ hsm (by omega) (by omega) rfl rfl).mono ?_); rintro e w1 ⟨rfl, rfl⟩
  go_wp2_with fail
  (with_reducible refine (refNumber_n (x := 17) (y := 2) s 17 2 _ hsm (by omega) (by omega) rfl rfl).mono ?_); rintro e w1 ⟨rfl, rfl⟩
  go_wp2_with fail
  have hobj : (w.alloc (.cells #[.int .i64 0, .int .i64 0] 87)).heap[w.heap.size]? = some (.cells #[.int .i64 0, .int .i64 0] 87 (0, 0)) := heap_alloc_new w _
  have hc : Hid ((w.alloc (.cells #[.int .i64 0, .int .i64 0] 87)).cell? ⟨w.heap.size, 0, none⟩ = some (.int .i64 0) ∧ (w.alloc (.cells #[.int .i64 0, .int .i64 0] 87)).cell? ⟨w.heap.size, 1, none⟩ = some (.int .i64 0)) := Lib.hid ⟨by unfold World.cell?; rw [hobj]; rfl, by unfold World.cell?; rw [hobj]; rfl⟩
  clear hobj
  have hsig : D.signs s.data.toList = (D.sign s.data.toList 4 45 && D.sign s.data.toList 7 45 && D.sign s.data.toList 10 84 && D.sign s.data.toList 13 58 && D.sign s.data.toList 16 58) := rfl
  have hsig := Lib.hid hsig
  (with_reducible refine (refSign_m (x := 4) (n := 45) s 4 45 _ hsm rfl rfl).mono ?_); rintro e w1 ⟨rfl, rfl⟩
  cases s1 : D.sign s.data.toList 4 45
  · obtain ⟨r1, r2, r3⟩ := D.pa_none (D.pa_sign (hsig.out.trans (by rw [s1]; simp)))
    replace r1 := Lib.hid r1
    replace r2 := Lib.hid r2
    replace r3 := Lib.hid r3
    clear s1
    go_wp2_with fail
    exact date_end (rb := w.heap.size) rfl rfl hc.out.1 hc.out.2 ⟨by rw [r1.out, r2.out, r3.out], b1⟩
  replace s1 := Lib.hid s1
  go_wp2_with fail
  (with_reducible refine (refSign_m (x := 7) (n := 45) s 7 45 _ hsm rfl rfl).mono ?_); rintro e w1 ⟨rfl, rfl⟩
  cases s2 : D.sign s.data.toList 7 45
  · obtain ⟨r1, r2, r3⟩ := D.pa_none (D.pa_sign (hsig.out.trans (by rw [s1.out, s2]; simp)))
    replace r1 := Lib.hid r1
    replace r2 := Lib.hid r2
    replace r3 := Lib.hid r3
    clear s2
    go_wp2_with fail
    exact date_end (rb := w.heap.size) rfl rfl hc.out.1 hc.out.2 ⟨by rw [r1.out, r2.out, r3.out], b1⟩
  replace s2 := Lib.hid s2
  go_wp2_with fail
  (with_reducible refine (refSign_m (x := 10) (n := 84) s 10 84 _ hsm rfl rfl).mono ?_); rintro e w1 ⟨rfl, rfl⟩
  cases s3 : D.sign s.data.toList 10 84
  · obtain ⟨r1, r2, r3⟩ := D.pa_none (D.pa_sign (hsig.out.trans (by rw [s1.out, s2.out, s3]; simp)))
    replace r1 := Lib.hid r1
    replace r2 := Lib.hid r2
    replace r3 := Lib.hid r3
    clear s3
    go_wp2_with fail
    exact date_end (rb := w.heap.size) rfl rfl hc.out.1 hc.out.2 ⟨by rw [r1.out, r2.out, r3.out], b1⟩
  replace s3 := Lib.hid s3
  go_wp2_with fail
  (with_reducible refine (refSign_m (x := 13) (n := 58) s 13 58 _ hsm rfl rfl).mono ?_); rintro e w1 ⟨rfl, rfl⟩
  cases s4 : D.sign s.data.toList 13 58
  · obtain ⟨r1, r2, r3⟩ := D.pa_none (D.pa_sign (hsig.out.trans (by rw [s1.out, s2.out, s3.out, s4]; simp)))
    replace r1 := Lib.hid r1
    replace r2 := Lib.hid r2
    replace r3 := Lib.hid r3
    clear s4
    go_wp2_with fail
    exact date_end (rb := w.heap.size) rfl rfl hc.out.1 hc.out.2 ⟨by rw [r1.out, r2.out, r3.out], b1⟩
  replace s4 := Lib.hid s4
  go_wp2_with fail
  (with_reducible refine (refSign_m (x := 16) (n := 58) s 16 58 _ hsm rfl rfl).mono ?_); rintro e w1 ⟨rfl, rfl⟩
  cases s5 : D.sign s.data.toList 16 58
  · obtain ⟨r1, r2, r3⟩ := D.pa_none (D.pa_sign (hsig.out.trans (by rw [s1.out, s2.out, s3.out, s4.out, s5]; simp)))
    replace r1 := Lib.hid r1
    replace r2 := Lib.hid r2
    replace r3 := Lib.hid r3
    clear s5
    go_wp2_with fail
    exact date_end (rb := w.heap.size) rfl rfl hc.out.1 hc.out.2 ⟨by rw [r1.out, r2.out, r3.out], b1⟩
  replace s5 := Lib.hid s5
  have hsg : Hid (D.signs s.data.toList = true) := Lib.hid (hsig.out.trans (by rw [s1.out, s2.out, s3.out, s4.out, s5.out]; rfl))
  clear hsig s1 s2 s3 s4 s5
  have bd1 := D.num_bd s.data.toList 0 (n := 4) (by omega)
  have bd2 := D.num_bd s.data.toList 5 (n := 2) (by omega)
  have bd3 := D.num_bd s.data.toList 8 (n := 2) (by omega)
  have bd4 := D.num_bd s.data.toList 11 (n := 2) (by omega)
  have bd5 := D.num_bd s.data.toList 14 (n := 2) (by omega)
  have bd6 := D.num_bd s.data.toList 17 (n := 2) (by omega)
  have pb := Lib.hid (D.pa_bound (l := s.data.toList))
  have pf := Lib.hid (D.pa_frac (l := s.data.toList))
  have pz := Lib.hid (D.pa_zone (l := s.data.toList))
  have pi := Lib.hid (fun z => D.pa_is (l := s.data.toList) (z := z) hsg.out)
  have h19 := Lib.hid (fun e => (D.num_len (l := s.data.toList) (a := 17) (n := 2) e : 17 + 2 ≤ _))
  clear hsg
  generalize D.num s.data.toList 0 4 = y at *
  generalize D.num s.data.toList 5 2 = mo at *
  generalize D.num s.data.toList 8 2 = d at *
  generalize D.num s.data.toList 11 2 = h at *
  generalize D.num s.data.toList 14 2 = mi at *
  generalize D.num s.data.toList 17 2 = se at *
  have hfirst : y < 0 ∨ (0 ≤ y ∧ mo < 1) ∨ (0 ≤ y ∧ 1 ≤ mo ∧ 12 < mo) ∨ (0 ≤ y ∧ 1 ≤ mo ∧ mo ≤ 12 ∧ d < 1) ∨ (0 ≤ y ∧ 1 ≤ mo ∧ mo ≤ 12 ∧ 1 ≤ d) := by omega
  rcases hfirst with q | ⟨q1, q⟩ | ⟨q1, q2, q⟩ | ⟨q1, q2, q3, q⟩ | ⟨q1, q2, q3, q4⟩
  · obtain ⟨r1, r2, r3⟩ := D.pa_none (pb.out (by simp [D.inBounds]; omega))
    replace r1 := Lib.hid r1
    replace r2 := Lib.hid r2
    replace r3 := Lib.hid r3
    go_wp2_with fail
    exact date_end (rb := w.heap.size) rfl rfl hc.out.1 hc.out.2 ⟨by rw [r1.out, r2.out, r3.out], b1⟩
  · obtain ⟨r1, r2, r3⟩ := D.pa_none (pb.out (by simp [D.inBounds]; omega))
    replace r1 := Lib.hid r1
    replace r2 := Lib.hid r2
    replace r3 := Lib.hid r3
    go_wp2_with fail
    exact date_end (rb := w.heap.size) rfl rfl hc.out.1 hc.out.2 ⟨by rw [r1.out, r2.out, r3.out], b1⟩
  · obtain ⟨r1, r2, r3⟩ := D.pa_none (pb.out (by simp [D.inBounds]; omega))
    replace r1 := Lib.hid r1
    replace r2 := Lib.hid r2
    replace r3 := Lib.hid r3
    go_wp2_with fail
    exact date_end (rb := w.heap.size) rfl rfl hc.out.1 hc.out.2 ⟨by rw [r1.out, r2.out, r3.out], b1⟩
  · obtain ⟨r1, r2, r3⟩ := D.pa_none (pb.out (by simp [D.inBounds]; omega))
    replace r1 := Lib.hid r1
    replace r2 := Lib.hid r2
    replace r3 := Lib.hid r3
    go_wp2_with fail
    exact date_end (rb := w.heap.size) rfl rfl hc.out.1 hc.out.2 ⟨by rw [r1.out, r2.out, r3.out], b1⟩
  go_wp2_with fail
  (with_reducible refine (refDays_any y mo _ q1 q2 q3).mono ?_); rintro e w1 ⟨rfl, rfl⟩
  have hml := D.mlen_le y mo
  have pb2 : Hid (¬ d ≤ D.mlen y mo ∨ h < 0 ∨ 23 < h ∨ mi < 0 ∨ 59 < mi ∨ se < 0 ∨ 59 < se → D.parse s.data.toList = none) := Lib.hid (fun e => pb.out (by
    cases hb : D.inBounds y mo d h mi se
    · rfl
    · have := D.bounds_of hb
      omega))
  have hdb : Hid (d ≤ D.mlen y mo → -2000000 ≤ D.days y mo d ∧ D.days y mo d ≤ 20000000) := Lib.hid (fun e => D.days_bd q1 (by omega) q2 q3 q4 e)
  have hib : Hid (d ≤ D.mlen y mo ∧ 0 ≤ h ∧ h ≤ 23 ∧ 0 ≤ mi ∧ mi ≤ 59 ∧ 0 ≤ se ∧ se ≤ 59 → D.inBounds y mo d h mi se = true) := Lib.hid (fun e => by
    obtain ⟨e1, e2, e3, e4, e5, e6, e7⟩ := e
    simp [D.inBounds, *])
  clear pb
  generalize D.mlen y mo = ml at *
  have hsecond : ml < d ∨ (d ≤ ml ∧ h < 0) ∨ (d ≤ ml ∧ 0 ≤ h ∧ 23 < h) ∨ (d ≤ ml ∧ 0 ≤ h ∧ h ≤ 23 ∧ mi < 0) ∨ (d ≤ ml ∧ 0 ≤ h ∧ h ≤ 23 ∧ 0 ≤ mi ∧ 59 < mi) ∨ (d ≤ ml ∧ 0 ≤ h ∧ h ≤ 23 ∧ 0 ≤ mi ∧ mi ≤ 59 ∧ se < 0) ∨ (d ≤ ml ∧ 0 ≤ h ∧ h ≤ 23 ∧ 0 ≤ mi ∧ mi ≤ 59 ∧ 0 ≤ se ∧ 59 < se) ∨ (d ≤ ml ∧ 0 ≤ h ∧ h ≤ 23 ∧ 0 ≤ mi ∧ mi ≤ 59 ∧ 0 ≤ se ∧ se ≤ 59) := by omega
  rcases hsecond with t | ⟨t1, t⟩ | ⟨t1, t2, t⟩ | ⟨t1, t2, t3, t⟩ | ⟨t1, t2, t3, t4, t⟩ | ⟨t1, t2, t3, t4, t5, t⟩ | ⟨t1, t2, t3, t4, t5, t6, t⟩ | ⟨t1, t2, t3, t4, t5, t6, t7⟩
  · obtain ⟨r1, r2, r3⟩ := D.pa_none (pb2.out (by omega))
    replace r1 := Lib.hid r1
    replace r2 := Lib.hid r2
    replace r3 := Lib.hid r3
    go_wp2_with fail
    exact date_end (rb := w.heap.size) rfl rfl hc.out.1 hc.out.2 ⟨by rw [r1.out, r2.out, r3.out], b1⟩
  · obtain ⟨r1, r2, r3⟩ := D.pa_none (pb2.out (by omega))
    replace r1 := Lib.hid r1
    replace r2 := Lib.hid r2
    replace r3 := Lib.hid r3
    go_wp2_with fail
    exact date_end (rb := w.heap.size) rfl rfl hc.out.1 hc.out.2 ⟨by rw [r1.out, r2.out, r3.out], b1⟩
  · obtain ⟨r1, r2, r3⟩ := D.pa_none (pb2.out (by omega))
    replace r1 := Lib.hid r1
    replace r2 := Lib.hid r2
    replace r3 := Lib.hid r3
    go_wp2_with fail
    exact date_end (rb := w.heap.size) rfl rfl hc.out.1 hc.out.2 ⟨by rw [r1.out, r2.out, r3.out], b1⟩
  · obtain ⟨r1, r2, r3⟩ := D.pa_none (pb2.out (by omega))
    replace r1 := Lib.hid r1
    replace r2 := Lib.hid r2
    replace r3 := Lib.hid r3
    go_wp2_with fail
    exact date_end (rb := w.heap.size) rfl rfl hc.out.1 hc.out.2 ⟨by rw [r1.out, r2.out, r3.out], b1⟩
  · obtain ⟨r1, r2, r3⟩ := D.pa_none (pb2.out (by omega))
    replace r1 := Lib.hid r1
    replace r2 := Lib.hid r2
    replace r3 := Lib.hid r3
    go_wp2_with fail
    exact date_end (rb := w.heap.size) rfl rfl hc.out.1 hc.out.2 ⟨by rw [r1.out, r2.out, r3.out], b1⟩
  · obtain ⟨r1, r2, r3⟩ := D.pa_none (pb2.out (by omega))
    replace r1 := Lib.hid r1
    replace r2 := Lib.hid r2
    replace r3 := Lib.hid r3
    go_wp2_with fail
    exact date_end (rb := w.heap.size) rfl rfl hc.out.1 hc.out.2 ⟨by rw [r1.out, r2.out, r3.out], b1⟩
  · obtain ⟨r1, r2, r3⟩ := D.pa_none (pb2.out (by omega))
    replace r1 := Lib.hid r1
    replace r2 := Lib.hid r2
    replace r3 := Lib.hid r3
    go_wp2_with fail
    exact date_end (rb := w.heap.size) rfl rfl hc.out.1 hc.out.2 ⟨by rw [r1.out, r2.out, r3.out], b1⟩
  have hin := Lib.hid (hib.out ⟨t1, t2, t3, t4, t5, t6, t7⟩)
  obtain ⟨db1, db2⟩ := hdb.out t1
  clear hib pb2 hdb
  go_wp2_with fail
  (with_reducible refine (refFraction_n (x := 19) s 19 _ hsm (by omega) rfl).mono ?_); rintro e w1 ⟨rfl, rfl⟩
  by_cases hneg : D.fracE s.data.toList 19 < 0
  · obtain ⟨r1, r2, r3⟩ := D.pa_none (pf.out hneg)
    replace r1 := Lib.hid r1
    replace r2 := Lib.hid r2
    replace r3 := Lib.hid r3
    go_wp2_with fail
    exact date_end (rb := w.heap.size) rfl rfl hc.out.1 hc.out.2 ⟨by rw [r1.out, r2.out, r3.out], b1⟩
  obtain ⟨k, hk, hkl⟩ := D.fracE_nat (h19.out t6) hneg
  have pz' := pz.out
  have pi' := fun z => pi.out z hin.out (by omega)
  rw [hk] at pz' pi'
  rw [Int.toNat_natCast] at pz' pi'
  rw [hk]
  have hkl : k ≤ s.size := by rw [Array.length_toList] at hkl; exact hkl
  replace pz' := Lib.hid pz'
  replace pi' := Lib.hid pi'
  clear hneg hk pz pi pf h19 hin
  go_wp2_with fail
  (with_reducible refine (refZone_any (s.extract k s.size) _ (by rw [ByteArray.size_extract]; omega)).mono ?_); rintro e w1 ⟨rfl, rfl⟩
  rw [drop_list s k]
  cases hz : D.zone (s.data.toList.drop k) with
  | none =>
    obtain ⟨z1, z2⟩ := D.zone_none hz
    rw [z1, z2]
    obtain ⟨r1, r2, r3⟩ := D.pa_none (pz'.out hz)
    replace r1 := Lib.hid r1
    replace r2 := Lib.hid r2
    replace r3 := Lib.hid r3
    clear z1 z2 hz
    go_wp2_with fail
    exact date_end (rb := w.heap.size) rfl rfl hc.out.1 hc.out.2 ⟨by rw [r1.out, r2.out, r3.out], b1⟩
  | some z =>
    obtain ⟨z1, z2⟩ := D.zone_some hz
    rw [z1, z2]
    obtain ⟨zb1, zb2⟩ := D.zone_bd hz
    obtain ⟨r1, r2, r3⟩ := D.pa_some (pi'.out z hz)
    replace r1 := Lib.hid r1
    replace r2 := Lib.hid r2
    replace r3 := Lib.hid r3
    clear z1 z2 hz
    go_wp2_with fail
    (with_reducible refine (refSince_any y mo d _ q1 (by omega) q2 q3 q4 (by omega)).mono ?_); rintro e w1 ⟨rfl, rfl⟩
    generalize D.days y mo d = D0 at *
    go_wp2_with fail
    exact date_end (rb := w.heap.size) rfl rfl (by unfold World.cell?; rw [heap_alloc_new]; rfl) (by unfold World.cell?; rw [heap_alloc_new]; rfl) ⟨by rw [r1.out, r2.out, r3.out], (Below.refl _ _).alloc (Nat.le_refl _) _⟩
end Go.Proofs.YtbaclacfadkjdaaGreatDoor
namespace Go.Proofs.YtbaclacfadkjdaaGreatDoor
open Go.RowKit
namespace D
/-! ### digits -/
def dig : Nat → Nat → List UInt8
  | 0, _ => []
  | k + 1, n => dig k (n / 10) ++ [UInt8.ofNat (48 + n % 10)]
/-! ### the day of a point of time -/
def climb (f : Int → Int) (day : Int) : Nat → Int → Int
  | 0, y => y
  | n + 1, y => if f (y + 1) ≤ day then climb f day n (y + 1) else y
def yOf (day : Int) : Int := climb yd day 10000 0
def mOf (day : Int) : Int := climb (fun m => yd (yOf day) + md (yOf day) m) day 11 1
def dOf (day : Int) : Int := day - yd (yOf day) - md (yOf day) (mOf day) + 1
/-! ### the text -/
def strip (l : List UInt8) : List UInt8 := (l.reverse.dropWhile (fun b => decide (b = 48))).reverse
def hms (r : Nat) : List UInt8 := dig 2 (r / 3600) ++ 58 :: (dig 2 (r / 60 % 60) ++ 58 :: dig 2 (r % 60))
def ymd (y m d : Nat) : List UInt8 := dig 4 y ++ 45 :: (dig 2 m ++ 45 :: dig 2 d)
def head (sec : Int) : List UInt8 := ymd (yOf (sec / 86400)).toNat (mOf (sec / 86400)).toNat (dOf (sec / 86400)).toNat ++ 84 :: hms (sec % 86400).toNat
def frac (nano : Int) : List UInt8 := if 0 < nano then 46 :: strip (dig 9 nano.toNat) else []
def okB (sec nano : Int) : Bool := decide (-62167219200 ≤ sec) && decide (sec ≤ 253402300799) && decide (0 ≤ nano) && decide (nano ≤ 999999999)
def text (sec nano : Int) : List UInt8 := if okB sec nano = true then head sec ++ (frac nano ++ [90]) else []
/-! ### what is told is read -/
end D
end Go.Proofs.YtbaclacfadkjdaaGreatDoor
namespace Go.Proofs.YtbaclacfadkjdaaGreatDoor
namespace Lc
def cut (l m : List UInt8) : List UInt8 := l.takeWhile fun b => !m.contains b
def rest (l m : List UInt8) : List UInt8 := l.dropWhile fun b => !m.contains b
theorem cut_rest (l m : List UInt8) : cut l m ++ rest l m = l := List.takeWhile_append_dropWhile
theorem cut_len (l m : List UInt8) : (cut l m).length ≤ l.length := (List.takeWhile_sublist _).length_le
theorem rest_len (l m : List UInt8) : (rest l m).length ≤ l.length := (List.dropWhile_sublist _).length_le
theorem take_cut (l m : List UInt8) : l.take (cut l m).length = cut l m := by
  have h := cut_rest l m
  have : (cut l m ++ rest l m).take (cut l m).length = cut l m := by simp
  rwa [h] at this
theorem drop_cut (l m : List UInt8) : l.drop (cut l m).length = rest l m := by
  have h := cut_rest l m
  have : (cut l m ++ rest l m).drop (cut l m).length = rest l m := by simp
  rwa [h] at this
theorem rest_head {l m : List UInt8} {b : UInt8} {t : List UInt8} (h : rest l m = b :: t) : m.contains b = true := by
  induction l with
  | nil => simp [rest] at h
  | cons c l ih =>
    unfold rest at h
    rw [List.dropWhile_cons] at h
    split at h
    · exact ih h
    · rename_i hc
      injection h with h1 h2
      subst h1
      simpa using hc
theorem cut_not {l m : List UInt8} {b : UInt8} (h : b ∈ cut l m) : m.contains b = false := by
  induction l with
  | nil => simp [cut] at h
  | cons c l ih =>
    unfold cut at h
    rw [List.takeWhile_cons] at h
    split at h
    · rename_i hc
      rcases List.mem_cons.1 h with rfl | h
      · simpa using hc
      · exact ih h
    · cases h
theorem cut_full {t r m : List UInt8} (h : ∀ b ∈ t, m.contains b = false) (hr : r = [] ∨ ∃ b r', r = b :: r' ∧ m.contains b = true) : cut (t ++ r) m = t ∧ rest (t ++ r) m = r := by
  induction t with
  | nil =>
    rcases hr with rfl | ⟨b, r', rfl, hb⟩
    · exact ⟨rfl, rfl⟩
    · unfold cut rest
      rw [List.nil_append, List.takeWhile_cons, List.dropWhile_cons, hb]
      exact ⟨rfl, rfl⟩
  | cons c t ih =>
    have hc := h c (by simp)
    have := ih (fun b hb => h b (by simp [hb]))
    unfold cut rest at *
    rw [List.cons_append, List.takeWhile_cons, List.dropWhile_cons]
    simp only [hc, Bool.not_false, if_true]
    exact ⟨by rw [this.1], this.2⟩
structure U where
  scheme : List UInt8
  host : List UInt8
  path : List UInt8
  query : List UInt8
  frag : List UInt8
  hasS : Bool
  hasH : Bool
  hasQ : Bool
  hasF : Bool
def scB (s : List UInt8) : Bool := (rest s [58, 47, 63, 35]).head? == some 58
def scA (s : List UInt8) : List UInt8 := if scB s then cut s [58, 47, 63, 35] else []
def scR (s : List UInt8) : List UInt8 := if scB s then (rest s [58, 47, 63, 35]).drop 1 else s
def hoB (s : List UInt8) : Bool := s.take 2 == [47, 47]
def hoA (s : List UInt8) : List UInt8 := if hoB s then cut (s.drop 2) [47, 63, 35] else []
def hoR (s : List UInt8) : List UInt8 := if hoB s then rest (s.drop 2) [47, 63, 35] else s
def paA (s : List UInt8) : List UInt8 := cut s [63, 35]
def paR (s : List UInt8) : List UInt8 := rest s [63, 35]
def quB (s : List UInt8) : Bool := s.head? == some 63
def quA (s : List UInt8) : List UInt8 := if quB s then (cut s [35]).drop 1 else []
def quR (s : List UInt8) : List UInt8 := if quB s then rest s [35] else s
def frB (s : List UInt8) : Bool := !s.isEmpty
def frA (s : List UInt8) : List UInt8 := s.drop 1
def split (s : List UInt8) : U :=
  ⟨scA s, hoA (scR s), paA (hoR (scR s)), quA (paR (hoR (scR s))), frA (quR (paR (hoR (scR s)))), scB s, hoB (scR s), quB (paR (hoR (scR s))), frB (quR (paR (hoR (scR s))))⟩
/-! Dots. -/
def begins (t s : List UInt8) : Bool := s.take t.length == t
def up (l : List UInt8) : List UInt8 := ((l.reverse.dropWhile fun b => b != 47).drop 1).reverse
def step (s out : List UInt8) : List UInt8 × List UInt8 :=
  if begins [46, 46, 47] s then (s.drop 3, out)
  else if begins [46, 47] s then (s.drop 2, out)
  else if begins [47, 46, 47] s then (s.drop 2, out)
  else if s = [47, 46] then ([47], out)
  else if begins [47, 46, 46, 47] s then (s.drop 3, up out)
  else if s = [47, 46, 46] then ([47], up out)
  else if s = [46] ∨ s = [46, 46] then ([], out)
  else (rest (s.drop 1) [47], out ++ s.take (1 + (cut (s.drop 1) [47]).length))
def go : Nat → List UInt8 → List UInt8 → List UInt8
  | 0, _, out => out
  | n + 1, s, out => if s = [] then out else go n (step s out).1 (step s out).2
def dots (s : List UInt8) : List UInt8 := go s.length s []
def bad : List UInt8 → Bool
  | 47 :: 46 :: r => r.isEmpty || r.head? == some 47 || (r.head? == some 46 && ((r.drop 1).isEmpty || (r.drop 1).head? == some 47))
  | _ => false
/-! Resolve. -/
def lead (p : List UInt8) : List UInt8 := (p.reverse.dropWhile fun b => b != 47).reverse
def resolve (b r : U) : U :=
  if r.hasS then { r with path := dots r.path }
  else if r.hasH then { scheme := b.scheme, hasS := b.hasS, host := r.host, hasH := true, path := dots r.path, query := r.query, hasQ := r.hasQ, frag := r.frag, hasF := r.hasF }
  else if r.path = [] then { scheme := b.scheme, hasS := b.hasS, host := b.host, hasH := b.hasH, path := b.path, query := if r.hasQ then r.query else b.query, hasQ := if r.hasQ then true else b.hasQ, frag := r.frag, hasF := r.hasF }
  else { scheme := b.scheme, hasS := b.hasS, host := b.host, hasH := b.hasH, query := r.query, hasQ := r.hasQ, frag := r.frag, hasF := r.hasF, path :=
    if begins [47] r.path then dots r.path else if b.hasH ∧ b.path = [] then dots (47 :: r.path) else dots (lead b.path ++ r.path) }
end Lc
end Go.Proofs.YtbaclacfadkjdaaGreatDoor
namespace Go.Proofs.YtbaclacfadkjdaaGreatDoor
open Go.RowKit
namespace Lc
def alphaB (b : UInt8) : Bool := decide ((65 ≤ b.toNat ∧ b.toNat ≤ 90) ∨ (97 ≤ b.toNat ∧ b.toNat ≤ 122))
def digitB (b : UInt8) : Bool := decide (48 ≤ b.toNat ∧ b.toNat ≤ 57)
def hexB (b : UInt8) : Bool := decide ((48 ≤ b.toNat ∧ b.toNat ≤ 57) ∨ (65 ≤ b.toNat ∧ b.toNat ≤ 70) ∨ (97 ≤ b.toNat ∧ b.toNat ≤ 102))
def str (l : List UInt8) : ByteArray := ⟨l.toArray⟩
def has (l : List UInt8) (c : UInt8) : Bool := l.contains c
theorem str_list (l : List UInt8) : (str l).data.toList = l := by simp [str]
theorem str_of {s : ByteArray} {l : List UInt8} (h : s.data.toList = l) : s = str l := bytes_eq (by rw [str_list, h])
theorem str_size (l : List UInt8) : (str l).size = l.length := by rw [← list_len, str_list]
theorem has_more {l : List UInt8} {k : Nat} (h : k < l.length) (c : UInt8) : (l.take (k + 1)).contains c = ((l.take k).contains c || c == l[k]) := by
  rw [List.take_succ_eq_append_getElem h, Bool.eq_iff_iff]
  simp only [List.contains_iff_mem, List.mem_append, List.mem_singleton, Bool.or_eq_true, beq_iff_eq]
theorem has_all {l : List UInt8} {k : Nat} (h : ¬ k < l.length) (c : UInt8) : (l.take k).contains c = l.contains c := by rw [List.take_of_length_le (by omega)]
theorem cut_at {l m : List UInt8} {k : Nat} (hk : k ≤ l.length) (h : (l.take k).all (fun b => !m.contains b) = true) (h2 : ∀ h : k < l.length, m.contains l[k] = true) : (cut l m).length = k := by
  have h1 := cut_full (t := l.take k) (r := l.drop k) (m := m) (fun b hb => by
    have := List.all_eq_true.1 h b hb
    simpa using this) (by
    by_cases hl : k < l.length
    · exact .inr ⟨l[k], l.drop (k + 1), List.drop_eq_getElem_cons hl, h2 hl⟩
    · exact .inl (List.drop_of_length_le (by omega)))
  rw [List.take_append_drop] at h1
  rw [h1.1, List.length_take]
  omega
end Lc
set_option maxRecDepth 100000 in
set_option maxHeartbeats 3200000 in
theorem lAlpha_any (b : UInt8) (w : World) : Calls Tryz.prog 120 #[.int .u8 (b.toNat : Int)] w fun e w' => e = .returned (.bool (Lc.alphaB b)) ∧ w = w' := by
  obtain ⟨Q, hQ⟩ : ∃ Q, Q = Lc.alphaB b := ⟨_, rfl⟩
  rw [← hQ]
  unfold Lc.alphaB at hQ
  have hb := b.toNat_lt
  generalize b.toNat = n at *
  replace hQ := Lib.hid hQ
  go_enter Tryz.func120, Tryz.ntmps120
  go_wp2
  all_goals
      go_ret
      refine ⟨ret_bool ?_, rfl⟩
      rw [hQ.out]
      first
        | (rw [eq_comm, decide_eq_true_eq]; omega)
        | (rw [eq_comm, decide_eq_false_iff_not]; omega)
        | (rw [Bool.eq_iff_iff]; simp only [Bool.or_eq_true, decide_eq_true_eq]; omega)
set_option maxRecDepth 100000 in
set_option maxHeartbeats 3200000 in
theorem lDigit_any (b : UInt8) (w : World) : Calls Tryz.prog 121 #[.int .u8 (b.toNat : Int)] w fun e w' => e = .returned (.bool (Lc.digitB b)) ∧ w = w' := by
  obtain ⟨Q, hQ⟩ : ∃ Q, Q = Lc.digitB b := ⟨_, rfl⟩
  rw [← hQ]
  unfold Lc.digitB at hQ
  have hb := b.toNat_lt
  generalize b.toNat = n at *
  replace hQ := Lib.hid hQ
  go_enter Tryz.func121, Tryz.ntmps121
  go_wp2
  all_goals
      go_ret
      refine ⟨ret_bool ?_, rfl⟩
      rw [hQ.out]
      first
        | (rw [eq_comm, decide_eq_true_eq]; omega)
        | (rw [eq_comm, decide_eq_false_iff_not]; omega)
        | (rw [Bool.eq_iff_iff]; simp only [decide_eq_true_eq]; omega)
set_option maxRecDepth 100000 in
set_option maxHeartbeats 3200000 in
theorem lHex_any (b : UInt8) (w : World) : Calls Tryz.prog 123 #[.int .u8 (b.toNat : Int)] w fun e w' => e = .returned (.bool (Lc.hexB b)) ∧ w = w' := by
  obtain ⟨Q, hQ⟩ : ∃ Q, Q = Lc.hexB b := ⟨_, rfl⟩
  rw [← hQ]
  unfold Lc.hexB at hQ
  obtain ⟨D, hD⟩ : ∃ D, D = Lc.digitB b := ⟨_, rfl⟩
  have hd := lDigit_any b
  rw [← hD] at hd
  unfold Lc.digitB at hD
  have hb := b.toNat_lt
  generalize b.toNat = n at *
  replace hQ := Lib.hid hQ
  replace hD := Lib.hid hD
  replace hd := Lib.hid hd
  go_enter Tryz.func123, Tryz.ntmps123
  go_wp2_with fail
  (refine (hd.out _).mono ?_); rintro e w1 ⟨rfl, rfl⟩
  cases D
  · have hn : ¬ (48 ≤ n ∧ n ≤ 57) := of_decide_eq_false hD.out.symm
    clear hD
    go_wp2
    all_goals
      go_ret
      refine ⟨ret_bool ?_, rfl⟩
      rw [hQ.out]
      first
        | (rw [eq_comm, decide_eq_true_eq]; omega)
        | (rw [eq_comm, decide_eq_false_iff_not]; omega)
        | (rw [Bool.eq_iff_iff]; simp only [Bool.or_eq_true, decide_eq_true_eq]; omega)
  · have hn : 48 ≤ n ∧ n ≤ 57 := of_decide_eq_true hD.out.symm
    clear hD
    go_wp2
    all_goals
      go_ret
      refine ⟨ret_bool ?_, rfl⟩
      rw [hQ.out]
      first
        | (rw [eq_comm, decide_eq_true_eq]; omega)
        | (rw [eq_comm, decide_eq_false_iff_not]; omega)
        | (rw [Bool.eq_iff_iff]; simp only [Bool.or_eq_true, Bool.and_eq_true, decide_eq_true_eq]; omega)
set_option maxRecDepth 100000 in
set_option maxHeartbeats 3200000 in
theorem lAmong_any (c : UInt8) (m : ByteArray) (w : World) (hs : m.size ≤ maxLen) : Calls Tryz.prog 122 #[.int .u8 (c.toNat : Int), .string m] w fun e w' => e = .returned (.bool (Lc.has m.data.toList c)) ∧ w = w' := by
  have hsm : m.size ≤ 9223372036854775807 := hs
  have hlen := Lib.hid (list_len m)
  go_enter Tryz.func122, Tryz.ntmps122
  go_wp2_with fail
  go_loop [5] (fun i => ∃ k : Nat, k ≤ m.size ∧ i = .int .i64 k ∧ Hid ((m.data.toList.take k).contains c = false)) (fun i => m.size - (intOf i).toNat)
  case atStart => exact ⟨0, Nat.zero_le _, rfl, Lib.hid (by simp)⟩
  case round =>
    obtain ⟨k, hk, rfl, hall⟩ := hrel
    by_cases hlt : k < m.size
    · have hst := Lc.has_more (l := m.data.toList) (k := k) (by rw [hlen.out]; exact hlt) c
      rw [hall.out, Bool.false_or] at hst
      have hmk : m.data.toList[k]'(by rw [hlen.out]; exact hlt) = m[k] := rfl
      rw [hmk] at hst
      by_cases he : m[k] = c
      · have hb : ((m[k].toNat : Int) == (c.toNat : Int)) = true := by rw [he]; simp
        have hfin : Hid (Lc.has m.data.toList c = true) := Lib.hid (by
          rw [Lc.has, List.contains_iff_mem, ← he, ← hmk]; exact List.getElem_mem _)
        clear hst hmk he
        go_wp2_with fail
        go_ret
        exact ⟨ret_bool hfin.out.symm, rfl⟩
      · have hb : ((m[k].toNat : Int) == (c.toNat : Int)) = false := by
          rw [beq_eq_false_iff_ne]
          exact fun e => he (UInt8.toNat_inj.1 (by omega))
        have hnx : Hid ((m.data.toList.take (k + 1)).contains c = false) := Lib.hid (by rw [hst, beq_eq_false_iff_ne]; exact fun e => he e.symm)
        clear hst hmk he
        go_wp2_with fail
        go_round
        case rel => exact ⟨k + 1, by omega, by go_num, hnx⟩
        case measure => simp [intOf]; omega
    · have hfin : Hid (Lc.has m.data.toList c = false) := Lib.hid (by rw [Lc.has, ← Lc.has_all (k := k) (by rw [hlen.out]; exact hlt)]; exact hall.out)
      go_wp2_with fail
      go_ret
      exact ⟨ret_bool hfin.out.symm, rfl⟩
set_option maxRecDepth 100000 in
set_option maxHeartbeats 3200000 in
theorem lFirst_any (s m : ByteArray) (w : World) (hs : s.size ≤ maxLen) (hm : m.size ≤ maxLen) : Calls Tryz.prog 117 #[.string s, .string m] w fun e w' => e = .returned (.int .i64 ((Lc.cut s.data.toList m.data.toList).length : Nat)) ∧ w = w' := by
  have hsm : s.size ≤ 9223372036854775807 := hs
  have hlen := Lib.hid (list_len s)
  have hend : Hid (∀ k, k ≤ s.size → (s.data.toList.take k).all (fun b => !m.data.toList.contains b) = true → (∀ h : k < s.size, m.data.toList.contains s[k] = true) → (Lc.cut s.data.toList m.data.toList).length = k) := Lib.hid (fun k h1 h2 h3 =>
    Lc.cut_at (by rw [list_len]; exact h1) h2 (fun h => h3 (by rw [← list_len]; exact h)))
  go_enter Tryz.func117, Tryz.ntmps117
  go_wp2_with fail
  go_loop [5] (fun i => ∃ k : Nat, k ≤ s.size ∧ i = .int .i64 k ∧ Hid ((s.data.toList.take k).all (fun b => !m.data.toList.contains b) = true)) (fun i => s.size - (intOf i).toNat)
  case atStart => exact ⟨0, Nat.zero_le _, rfl, Lib.hid (by simp)⟩
  case round =>
    obtain ⟨k, hk, rfl, hall⟩ := hrel
    by_cases hlt : k < s.size
    · go_wp2_with fail
      (with_reducible refine (lAmong_any s[k] m _ hm).mono ?_); rintro e w1 ⟨rfl, rfl⟩
      cases hb : Lc.has m.data.toList s[k]
      · have hst := Lib.hid (all_take (fun b => !m.data.toList.contains b) s.data.toList k (by rw [hlen.out]; exact hlt))
        have hr := Lib.hid (hst.out.trans (show _ = true by rw [hall.out]; show (true && !(Lc.has m.data.toList s[k])) = true; rw [hb]; rfl))
        replace hb := Lib.hid hb
        clear hst
        go_wp2_with fail
        go_round
        case rel => exact ⟨k + 1, by omega, by go_num, hr⟩
        case measure => simp [intOf]; omega
      · have hr := Lib.hid (hend.out k hk hall.out (fun _ => hb))
        replace hb := Lib.hid hb
        go_wp2_with fail
        go_ret
        exact ⟨ret_int (by rw [hr.out]), rfl⟩
    · have hr := Lib.hid (hend.out k hk hall.out (fun h => absurd h hlt))
      have hks : Hid (k = s.size) := Lib.hid (by omega)
      go_wp2_with fail
      go_ret
      exact ⟨ret_int (by rw [hr.out, hks.out]), rfl⟩
end Go.Proofs.YtbaclacfadkjdaaGreatDoor
