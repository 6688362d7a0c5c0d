/-
  The statements' walks: GroveKids, where a condition fails.
-/
import Derived.Test.YtcoeijjmahneeaaGreatDoorG46
import Derived.Deep.RegionHeld3
namespace Go.Proofs.YtcoeijjmahneeaaGreatDoor
open Go.RowKit

set_option maxRecDepth 100000 in
set_option maxHeartbeats 12800000 in
theorem kids_long (s t : ByteArray) (w : World) (h : ¬ (s.size ≤ 1000 ∧ t.size ≤ 1000)) (hE : Env w) : Calls Tryz.prog 5 #[.string s, .string t] w fun e w' => e = .returned (.bool true) ∧ Below w.heap.size w w' := by
  go_enter Tryz.func5, Tryz.ntmps5
  go_wp2_with fail
  (with_reducible refine (awake_any _ hE).mono ?_); rintro e w1 ⟨rfl, t1⟩
  by_cases h2 : s.size ≤ 1000
  case neg =>
    have hi : (1000 : Int) < (s.size : Int) := by omega
    clear h
    go_wp2_with fail
    go_ret
    exact ⟨rfl, t1⟩
  have hi : ¬ (1000 : Int) < (s.size : Int) := by omega
  have hi2 : (1000 : Int) < (t.size : Int) := by omega
  clear h
  go_wp2_with fail
  go_ret
  exact ⟨rfl, t1⟩

set_option maxRecDepth 100000 in
set_option maxHeartbeats 12800000 in
theorem kids_x (s t : ByteArray) (w : World) (h2 : s.size ≤ 1000) (h3 : t.size ≤ 1000) (e1 : ¬ Gv.errOf s.data.toList = 0) (hE : Env w) : Calls Tryz.prog 5 #[.string s, .string t] w fun e w' => e = .returned (.bool true) ∧ Below w.heap.size w w' := by
  have hi : ¬ (1000 : Int) < (s.size : Int) := by omega
  have hi2 : ¬ (1000 : Int) < (t.size : Int) := by omega
  go_enter Tryz.func5, Tryz.ntmps5
  go_wp2_with fail
  (with_reducible refine (awake_any _ hE).mono ?_); rintro e w1 ⟨rfl, t1⟩
  have hE1 := hE.on t1
  go_wp2_with fail
  (with_reducible refine (gParse_form s _ (by omega) hE1).mono ?_)
  rintro x w2 ⟨k, sp, nm, d, ao, bo, n1, c1, n2, c2, rfl, hN, b2⟩
  have bN := (Below.refl w2.heap.size w2).alloc (Nat.le_refl _) (.cells #[.int .i64 k, .string sp, .string nm, .slice ao n1 c1, .slice bo n2 c2, .string d] 26)
  have kA := Cells.new w2 26 #[.int .i64 k, .string sp, .string nm, .slice ao n1 c1, .slice bo n2 c2, .string d]
  have hN1 := Lib.hid (hN.on bN)
  have hE2 := hE.on (t1.trans (((b2.trans (bN.mono b2.size))).mono t1.size))
  have b3 := Lib.hid (b2.trans (bN.mono b2.size))
  clear hN b2 bN
  go_wp2_with fail
  (with_reducible refine (gParse_form t _ (by omega) hE2).mono ?_)
  rintro x w4 ⟨k', sp', nm', d', ao', bo', n1', c1', n2', c2', rfl, hN', b4⟩
  have kA4 := kA.on b4
  have hN4 := hN1.out.on b4
  have hw4 : w2.heap.size < w4.heap.size := kA4.lt
  have bB := (Below.refl w4.heap.size w4).alloc (Nat.le_refl _) (.cells #[.int .i64 k', .string sp', .string nm', .slice ao' n1' c1', .slice bo' n2' c2', .string d'] 26)
  have kB := Lib.hid (Cells.new w4 26 #[.int .i64 k', .string sp', .string nm', .slice ao' n1' c1', .slice bo' n2' c2', .string d'])
  have kA5 := Lib.hid (kA4.on bB)
  have hN5 := Lib.hid (hN4.on bB)
  have hB5 := Lib.hid (hN'.on bB)
  have t5 := Lib.hid (t1.trans (((b3.out.trans (b4.mono b3.out.size)).trans (bB.mono (b3.out.trans (b4.mono b3.out.size)).size)).mono t1.size))
  have hE5 := Lib.hid (hE1.on ((b3.out.trans (b4.mono b3.out.size)).trans (bB.mono (b3.out.trans (b4.mono b3.out.size)).size)))
  have hne : Hid (w2.heap.size < w4.heap.size) := Lib.hid hw4
  clear hN1 hN4 hN' b3 b4 bB kA kA4 hE2 hE1 hE t1 hw4
  generalize Gv.errOf s.data.toList = ge at *
  clear kB kA5 hN5 hB5 hE5 hne
  go_wp2_with fail
  go_ret
  exact ⟨rfl, t5.out⟩

set_option maxRecDepth 100000 in
set_option maxHeartbeats 12800000 in
theorem kids_y (s t : ByteArray) (w : World) (h2 : s.size ≤ 1000) (h3 : t.size ≤ 1000) (e1 : Gv.errOf s.data.toList = 0) (e2 : ¬ Gv.errOf t.data.toList = 0) (hE : Env w) : Calls Tryz.prog 5 #[.string s, .string t] w fun e w' => e = .returned (.bool true) ∧ Below w.heap.size w w' := by
  have hi : ¬ (1000 : Int) < (s.size : Int) := by omega
  have hi2 : ¬ (1000 : Int) < (t.size : Int) := by omega
  go_enter Tryz.func5, Tryz.ntmps5
  go_wp2_with fail
  (with_reducible refine (awake_any _ hE).mono ?_); rintro e w1 ⟨rfl, t1⟩
  have hE1 := hE.on t1
  go_wp2_with fail
  (with_reducible refine (gParse_form s _ (by omega) hE1).mono ?_)
  rintro x w2 ⟨k, sp, nm, d, ao, bo, n1, c1, n2, c2, rfl, hN, b2⟩
  have bN := (Below.refl w2.heap.size w2).alloc (Nat.le_refl _) (.cells #[.int .i64 k, .string sp, .string nm, .slice ao n1 c1, .slice bo n2 c2, .string d] 26)
  have kA := Cells.new w2 26 #[.int .i64 k, .string sp, .string nm, .slice ao n1 c1, .slice bo n2 c2, .string d]
  have hN1 := Lib.hid (hN.on bN)
  have hE2 := hE.on (t1.trans (((b2.trans (bN.mono b2.size))).mono t1.size))
  have b3 := Lib.hid (b2.trans (bN.mono b2.size))
  clear hN b2 bN
  go_wp2_with fail
  (with_reducible refine (gParse_form t _ (by omega) hE2).mono ?_)
  rintro x w4 ⟨k', sp', nm', d', ao', bo', n1', c1', n2', c2', rfl, hN', b4⟩
  have kA4 := kA.on b4
  have hN4 := hN1.out.on b4
  have hw4 : w2.heap.size < w4.heap.size := kA4.lt
  have bB := (Below.refl w4.heap.size w4).alloc (Nat.le_refl _) (.cells #[.int .i64 k', .string sp', .string nm', .slice ao' n1' c1', .slice bo' n2' c2', .string d'] 26)
  have kB := Lib.hid (Cells.new w4 26 #[.int .i64 k', .string sp', .string nm', .slice ao' n1' c1', .slice bo' n2' c2', .string d'])
  have kA5 := Lib.hid (kA4.on bB)
  have hN5 := Lib.hid (hN4.on bB)
  have hB5 := Lib.hid (hN'.on bB)
  have t5 := Lib.hid (t1.trans (((b3.out.trans (b4.mono b3.out.size)).trans (bB.mono (b3.out.trans (b4.mono b3.out.size)).size)).mono t1.size))
  have hE5 := Lib.hid (hE1.on ((b3.out.trans (b4.mono b3.out.size)).trans (bB.mono (b3.out.trans (b4.mono b3.out.size)).size)))
  have hne : Hid (w2.heap.size < w4.heap.size) := Lib.hid hw4
  clear hN1 hN4 hN' b3 b4 bB kA kA4 hE2 hE1 hE t1 hw4
  clear e1
  generalize Gv.errOf t.data.toList = ge at *
  clear kB kA5 hN5 hB5 hE5 hne
  go_wp2_with fail
  go_ret
  exact ⟨rfl, t5.out⟩

set_option maxRecDepth 100000 in
set_option maxHeartbeats 12800000 in
theorem kids_0 (s t : ByteArray) (w : World) (h2 : s.size ≤ 1000) (h3 : t.size ≤ 1000) (e1 : Gv.errOf s.data.toList = 0) (e2 : Gv.errOf t.data.toList = 0) (hs2 : 2 ≤ s.size) (ht2 : 2 ≤ t.size)  (_q0 : ¬ ((s[0]'(by omega)).toNat : Int) = 60) (hE : Env w) : Calls Tryz.prog 5 #[.string s, .string t] w fun e w' => e = .returned (.bool true) ∧ Below w.heap.size w w' := by
  have hi : ¬ (1000 : Int) < (s.size : Int) := by omega
  have hi2 : ¬ (1000 : Int) < (t.size : Int) := by omega
  go_enter Tryz.func5, Tryz.ntmps5
  go_wp2_with fail
  (with_reducible refine (awake_any _ hE).mono ?_); rintro e w1 ⟨rfl, t1⟩
  have hE1 := hE.on t1
  go_wp2_with fail
  (with_reducible refine (gParse_form s _ (by omega) hE1).mono ?_)
  rintro x w2 ⟨k, sp, nm, d, ao, bo, n1, c1, n2, c2, rfl, hN, b2⟩
  have bN := (Below.refl w2.heap.size w2).alloc (Nat.le_refl _) (.cells #[.int .i64 k, .string sp, .string nm, .slice ao n1 c1, .slice bo n2 c2, .string d] 26)
  have kA := Cells.new w2 26 #[.int .i64 k, .string sp, .string nm, .slice ao n1 c1, .slice bo n2 c2, .string d]
  have hN1 := Lib.hid (hN.on bN)
  have hE2 := hE.on (t1.trans (((b2.trans (bN.mono b2.size))).mono t1.size))
  have b3 := Lib.hid (b2.trans (bN.mono b2.size))
  clear hN b2 bN
  go_wp2_with fail
  (with_reducible refine (gParse_form t _ (by omega) hE2).mono ?_)
  rintro x w4 ⟨k', sp', nm', d', ao', bo', n1', c1', n2', c2', rfl, hN', b4⟩
  have kA4 := kA.on b4
  have hN4 := hN1.out.on b4
  have hw4 : w2.heap.size < w4.heap.size := kA4.lt
  have bB := (Below.refl w4.heap.size w4).alloc (Nat.le_refl _) (.cells #[.int .i64 k', .string sp', .string nm', .slice ao' n1' c1', .slice bo' n2' c2', .string d'] 26)
  have kB := Lib.hid (Cells.new w4 26 #[.int .i64 k', .string sp', .string nm', .slice ao' n1' c1', .slice bo' n2' c2', .string d'])
  have kA5 := Lib.hid (kA4.on bB)
  have hN5 := Lib.hid (hN4.on bB)
  have hB5 := Lib.hid (hN'.on bB)
  have t5 := Lib.hid (t1.trans (((b3.out.trans (b4.mono b3.out.size)).trans (bB.mono (b3.out.trans (b4.mono b3.out.size)).size)).mono t1.size))
  have hE5 := Lib.hid (hE1.on ((b3.out.trans (b4.mono b3.out.size)).trans (bB.mono (b3.out.trans (b4.mono b3.out.size)).size)))
  have hne : Hid (w2.heap.size < w4.heap.size) := Lib.hid hw4
  clear hN1 hN4 hN' b3 b4 bB kA kA4 hE2 hE1 hE t1 hw4
  rw [e2]
  clear e1 e2
  have m0 : 0 < s.size := by omega
  have m1 : 1 < (s.size : Int) := by omega
  have m2 : 1 ≤ (s.size : Int) ∧ (s.size : Int) - 1 < (s.size : Int) := by omega
  have m3 : 2 ≤ (s.size : Int) ∧ (s.size : Int) - 2 < (s.size : Int) := by omega
  have k0 : 0 < t.size := by omega
  have k1 : 1 < (t.size : Int) := by omega
  have k2 : 1 ≤ (t.size : Int) ∧ (t.size : Int) - 1 < (t.size : Int) := by omega
  have k3 : 2 ≤ (t.size : Int) ∧ (t.size : Int) - 2 < (t.size : Int) := by omega
  clear kB kA5 hN5 hB5 hE5 hne
  go_wp2_with fail
  go_ret
  exact ⟨rfl, t5.out⟩

set_option maxRecDepth 100000 in
set_option maxHeartbeats 12800000 in
theorem kids_1 (s t : ByteArray) (w : World) (h2 : s.size ≤ 1000) (h3 : t.size ≤ 1000) (e1 : Gv.errOf s.data.toList = 0) (e2 : Gv.errOf t.data.toList = 0) (hs2 : 2 ≤ s.size) (ht2 : 2 ≤ t.size) (_q0 : ((s[0]'(by omega)).toNat : Int) = 60) (_q1 : ¬ ((t[0]'(by omega)).toNat : Int) = 60) (hE : Env w) : Calls Tryz.prog 5 #[.string s, .string t] w fun e w' => e = .returned (.bool true) ∧ Below w.heap.size w w' := by
  have hi : ¬ (1000 : Int) < (s.size : Int) := by omega
  have hi2 : ¬ (1000 : Int) < (t.size : Int) := by omega
  go_enter Tryz.func5, Tryz.ntmps5
  go_wp2_with fail
  (with_reducible refine (awake_any _ hE).mono ?_); rintro e w1 ⟨rfl, t1⟩
  have hE1 := hE.on t1
  go_wp2_with fail
  (with_reducible refine (gParse_form s _ (by omega) hE1).mono ?_)
  rintro x w2 ⟨k, sp, nm, d, ao, bo, n1, c1, n2, c2, rfl, hN, b2⟩
  have bN := (Below.refl w2.heap.size w2).alloc (Nat.le_refl _) (.cells #[.int .i64 k, .string sp, .string nm, .slice ao n1 c1, .slice bo n2 c2, .string d] 26)
  have kA := Cells.new w2 26 #[.int .i64 k, .string sp, .string nm, .slice ao n1 c1, .slice bo n2 c2, .string d]
  have hN1 := Lib.hid (hN.on bN)
  have hE2 := hE.on (t1.trans (((b2.trans (bN.mono b2.size))).mono t1.size))
  have b3 := Lib.hid (b2.trans (bN.mono b2.size))
  clear hN b2 bN
  go_wp2_with fail
  (with_reducible refine (gParse_form t _ (by omega) hE2).mono ?_)
  rintro x w4 ⟨k', sp', nm', d', ao', bo', n1', c1', n2', c2', rfl, hN', b4⟩
  have kA4 := kA.on b4
  have hN4 := hN1.out.on b4
  have hw4 : w2.heap.size < w4.heap.size := kA4.lt
  have bB := (Below.refl w4.heap.size w4).alloc (Nat.le_refl _) (.cells #[.int .i64 k', .string sp', .string nm', .slice ao' n1' c1', .slice bo' n2' c2', .string d'] 26)
  have kB := Lib.hid (Cells.new w4 26 #[.int .i64 k', .string sp', .string nm', .slice ao' n1' c1', .slice bo' n2' c2', .string d'])
  have kA5 := Lib.hid (kA4.on bB)
  have hN5 := Lib.hid (hN4.on bB)
  have hB5 := Lib.hid (hN'.on bB)
  have t5 := Lib.hid (t1.trans (((b3.out.trans (b4.mono b3.out.size)).trans (bB.mono (b3.out.trans (b4.mono b3.out.size)).size)).mono t1.size))
  have hE5 := Lib.hid (hE1.on ((b3.out.trans (b4.mono b3.out.size)).trans (bB.mono (b3.out.trans (b4.mono b3.out.size)).size)))
  have hne : Hid (w2.heap.size < w4.heap.size) := Lib.hid hw4
  clear hN1 hN4 hN' b3 b4 bB kA kA4 hE2 hE1 hE t1 hw4
  rw [e2]
  clear e1 e2
  have m0 : 0 < s.size := by omega
  have m1 : 1 < (s.size : Int) := by omega
  have m2 : 1 ≤ (s.size : Int) ∧ (s.size : Int) - 1 < (s.size : Int) := by omega
  have m3 : 2 ≤ (s.size : Int) ∧ (s.size : Int) - 2 < (s.size : Int) := by omega
  have k0 : 0 < t.size := by omega
  have k1 : 1 < (t.size : Int) := by omega
  have k2 : 1 ≤ (t.size : Int) ∧ (t.size : Int) - 1 < (t.size : Int) := by omega
  have k3 : 2 ≤ (t.size : Int) ∧ (t.size : Int) - 2 < (t.size : Int) := by omega
  clear kB kA5 hN5 hB5 hE5 hne
  go_wp2_with fail
  go_ret
  exact ⟨rfl, t5.out⟩

end Go.Proofs.YtcoeijjmahneeaaGreatDoor
