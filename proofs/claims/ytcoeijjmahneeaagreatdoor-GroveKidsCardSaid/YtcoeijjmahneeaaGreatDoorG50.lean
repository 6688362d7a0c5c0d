/-
  The statements' walks: GroveKids, where the conditions hold.
-/
import Derived.Test.YtcoeijjmahneeaaGreatDoorG46
import Derived.Test.YtcoeijjmahneeaaGreatDoorG47
import Derived.Test.YtcoeijjmahneeaaGreatDoorG48
import Derived.Test.YtcoeijjmahneeaaGreatDoorG49
import Derived.Deep.RegionHeld3
namespace Go.Proofs.YtcoeijjmahneeaaGreatDoor
open Go.RowKit

theorem Gv.ok_of {l : List UInt8} (h : Gv.errOf l = 0) : ∃ n, Gv.parse l = .ok n := by
  cases hp : Gv.parse l with
  | ok n => exact ⟨n, rfl⟩
  | error e =>
    have := Gv.parse_ne hp
    rw [(Gv.of_err hp).2] at h
    omega
theorem top_bytes (s t : ByteArray) : ((⟨#[60, 116, 111, 112, 62]⟩ : ByteArray) ++ s ++ t ++ (⟨#[60, 47, 116, 111, 112, 62]⟩ : ByteArray)).data.toList = Gv.top1 ++ (s.data.toList ++ (t.data.toList ++ Gv.top2)) := by
  unfold Gv.top1 Gv.top2
  simp only [ByteArray.data_append, Array.toList_append, List.append_assoc]
theorem top_size (s t : ByteArray) (h1 : s.size ≤ 1000) (h2 : t.size ≤ 1000) : ((⟨#[60, 116, 111, 112, 62]⟩ : ByteArray) ++ s ++ t ++ (⟨#[60, 47, 116, 111, 112, 62]⟩ : ByteArray)).size ≤ 1000000 := by
  simp only [ByteArray.size_append]
  show 5 + s.size + t.size + 6 ≤ _
  omega

set_option maxRecDepth 100000 in
set_option maxHeartbeats 12800000 in
theorem kids_fit (s t : ByteArray) (w : World) (h2 : s.size ≤ 1000) (h3 : t.size ≤ 1000) (e1 : Gv.errOf s.data.toList = 0) (e2 : Gv.errOf t.data.toList = 0) (hs2 : 2 ≤ s.size) (ht2 : 2 ≤ t.size) (_q0 : ((s[0]'(by omega)).toNat : Int) = 60) (_q1 : ((t[0]'(by omega)).toNat : Int) = 60) (_q2 : ¬ ((s[1]'(by omega)).toNat : Int) = 63) (_q3 : ¬ ((t[1]'(by omega)).toNat : Int) = 63) (_q4 : ¬ ((s[1]'(by omega)).toNat : Int) = 33) (_q5 : ¬ ((t[1]'(by omega)).toNat : Int) = 33) (_q6 : ((s[s.size - 1]'(by omega)).toNat : Int) = 62) (_q7 : ¬ ((s[s.size - 2]'(by omega)).toNat : Int) = 63) (_q8 : ¬ ((s[s.size - 2]'(by omega)).toNat : Int) = 45) (_q9 : ((t[t.size - 1]'(by omega)).toNat : Int) = 62) (_q10 : ¬ ((t[t.size - 2]'(by omega)).toNat : Int) = 63) (_q11 : ¬ ((t[t.size - 2]'(by omega)).toNat : Int) = 45) (na nb : Gv.Node) (ha : Gv.nodeOf s.data.toList = na) (hb : Gv.nodeOf t.data.toList = nb) (hk : Gv.parse (Gv.top1 ++ (s.data.toList ++ (t.data.toList ++ Gv.top2))) = .error 2 ∨ Gv.parse (Gv.top1 ++ (s.data.toList ++ (t.data.toList ++ Gv.top2))) = .ok (.mk 0 ⟨#[]⟩ ⟨#[116, 111, 112]⟩ [] [na, nb] ⟨#[]⟩)) (hE : Env w) : Calls Tryz.prog 5 #[.string s, .string t] w fun e w' => e = .returned (.bool true) ∧ Below w.heap.size w w' := by
  rw [← top_bytes] at hk
  replace hk := Lib.hid hk
  have hi : ¬ (1000 : Int) < (s.size : Int) := by omega
  have hi2 : ¬ (1000 : Int) < (t.size : Int) := by omega
  go_enter Tryz.func5, Tryz.ntmps5
  go_wp2_with fail
  (with_reducible refine (awake_any _ hE).mono ?_); rintro e w1 ⟨rfl, t1⟩
  have hE1 := hE.on t1
  go_wp2_with fail
  (with_reducible refine (gParse_form s _ (by omega) hE1).mono ?_)
  rintro x w2 ⟨k, sp, nm, d, ao, bo, n1, c1, n2, c2, rfl, hN, b2⟩
  have bN := (Below.refl w2.heap.size w2).alloc (Nat.le_refl _) (.cells #[.int .i64 k, .string sp, .string nm, .slice ao n1 c1, .slice bo n2 c2, .string d] 26)
  have kA := Cells.new w2 26 #[.int .i64 k, .string sp, .string nm, .slice ao n1 c1, .slice bo n2 c2, .string d]
  have hN1 := Lib.hid (hN.on bN)
  have hE2 := hE.on (t1.trans (((b2.trans (bN.mono b2.size))).mono t1.size))
  have b3 := Lib.hid (b2.trans (bN.mono b2.size))
  clear hN b2 bN
  go_wp2_with fail
  (with_reducible refine (gParse_form t _ (by omega) hE2).mono ?_)
  rintro x w4 ⟨k', sp', nm', d', ao', bo', n1', c1', n2', c2', rfl, hN', b4⟩
  have kA4 := kA.on b4
  have hN4 := hN1.out.on b4
  have hw4 : w2.heap.size < w4.heap.size := kA4.lt
  have bB := (Below.refl w4.heap.size w4).alloc (Nat.le_refl _) (.cells #[.int .i64 k', .string sp', .string nm', .slice ao' n1' c1', .slice bo' n2' c2', .string d'] 26)
  have kB := Lib.hid (Cells.new w4 26 #[.int .i64 k', .string sp', .string nm', .slice ao' n1' c1', .slice bo' n2' c2', .string d'])
  have kA5 := Lib.hid (kA4.on bB)
  have hN5 := Lib.hid (hN4.on bB)
  have hB5 := Lib.hid (hN'.on bB)
  have t5 := Lib.hid (t1.trans (((b3.out.trans (b4.mono b3.out.size)).trans (bB.mono (b3.out.trans (b4.mono b3.out.size)).size)).mono t1.size))
  have hE5 := Lib.hid (hE1.on ((b3.out.trans (b4.mono b3.out.size)).trans (bB.mono (b3.out.trans (b4.mono b3.out.size)).size)))
  have hne : Hid (w2.heap.size < w4.heap.size) := Lib.hid hw4
  clear hN1 hN4 hN' b3 b4 bB kA kA4 hE2 hE1 hE t1 hw4
  rw [e2]
  rw [ha] at hN5
  rw [hb] at hB5
  clear e1 e2 ha hb
  have m0 : 0 < s.size := by omega
  have m1 : 1 < (s.size : Int) := by omega
  have m2 : 1 ≤ (s.size : Int) ∧ (s.size : Int) - 1 < (s.size : Int) := by omega
  have m3 : 2 ≤ (s.size : Int) ∧ (s.size : Int) - 2 < (s.size : Int) := by omega
  have k0 : 0 < t.size := by omega
  have k1 : 1 < (t.size : Int) := by omega
  have k2 : 1 ≤ (t.size : Int) ∧ (t.size : Int) - 1 < (t.size : Int) := by omega
  have k3 : 2 ≤ (t.size : Int) ∧ (t.size : Int) - 2 < (t.size : Int) := by omega
  have hz := Lib.hid (top_size s t h2 h3)
  have v1 : ¬ 9223372036854775807 < 5 + s.size := by omega
  have v2 : ¬ 9223372036854775807 < 5 + s.size + t.size := by omega
  have v3 : ¬ 9223372036854775807 < 5 + s.size + t.size + 6 := by omega
  go_wp2_with fail
  · go_ret
    exact ⟨rfl, t5.out⟩
  clear v1 v2 v3
  (with_reducible refine (gParse_form _ _ hz.out hE5.out).mono ?_)
  rintro x w6 ⟨k'', sp'', nm'', d'', ao'', bo'', n1'', c1'', n2'', c2'', rfl, hN, b6⟩
  have hlow := hne.out
  have b6' : Below w4.heap.size (w4.alloc (.cells #[.int .i64 k', .string sp', .string nm', .slice ao' n1' c1', .slice bo' n2' c2', .string d'] 26)) w6 := b6.mono (by simp)
  have t6 := t5.out.trans (b6.mono t5.out.size)
  have bC := (Below.refl w6.heap.size w6).alloc (Nat.le_refl _) (.cells #[.int .i64 k'', .string sp'', .string nm'', .slice ao'' n1'' c1'', .slice bo'' n2'' c2'', .string d''] 26)
  have kC := Cells.new w6 26 #[.int .i64 k'', .string sp'', .string nm'', .slice ao'' n1'' c1'', .slice bo'' n2'' c2'', .string d'']
  have t7 := t6.trans (bC.mono t6.size)
  have kA7 := (kA5.out.on b6).on bC
  have kB7 := (kB.out.on b6).on bC
  have hA7 := (hN5.out.on b6).on bC
  have hB7 := (hB5.out.on b6).on bC
  have hC7 := hN.on bC
  have hl6 : w4.heap.size < w6.heap.size := (kB.out.on b6).lt
  rcases hk.out with hk | hk
  · obtain ⟨_, e2⟩ := Gv.of_err hk
    rw [e2]
    clear kA5 kB hN5 hB5 hE5 hne hN b6 b6' t6 bC kC kA7 kB7 hA7 hB7 hC7 t5
    go_wp2_with fail
    go_ret
    exact ⟨rfl, t7⟩
  · obtain ⟨e1, e2⟩ := Gv.of_ok hk
    rw [e2]
    rw [e1] at hN
    obtain ⟨k3, sp3, nm3, d3, as3, kids3, ao3, bo3, ca3, cb3, cs3, e3, e4, -, hrow, hrk, -, -⟩ := hN.open'
    simp only [Gv.Node.mk.injEq] at e3
    obtain ⟨rfl, rfl, rfl, rfl, rfl, rfl⟩ := e3
    simp only [List.cons.injEq, Value.int.injEq, Value.string.injEq, Value.slice.injEq, true_and, and_true, List.length_nil, List.length_cons, Nat.zero_add, Nat.reduceAdd] at e4 hrow
    obtain ⟨rfl, rfl, rfl, ⟨rfl, rfl, rfl⟩, ⟨rfl, rfl, rfl⟩, rfl⟩ := e4
    have hr0 := hrk 0 (by simp)
    have hr1 := hrk 1 (by simp)
    obtain ⟨g0, g1, g2, g3, g4, g5, g6, g7, g8, g9, _, -, ecs0, -⟩ := hr0.open'
    obtain ⟨f0, f1, f2, f3, f4, f5, f6, f7, f8, f9, _, -, ecs1, -⟩ := hr1.open'
    rw [ecs0] at hr0
    rw [ecs1] at hr1
    obtain ⟨bb, off, rfl, p0, p1, p2, p3, p4, p5⟩ := hrow.cells (j := 0) (by decide) ecs0
    obtain ⟨bb', off', e5, r0, r1, r2, r3, r4, r5⟩ := hrow.cells (j := 1) (by decide) ecs1
    cases e5
    simp only [Nat.zero_mul, Nat.one_mul, Nat.add_zero] at p0 p1 p2 p3 p4 p5 r0 r1 r2 r3 r4 r5
    have hbb : bb < w6.heap.size := World.block_lt_of_cell? w6 _ p0
    have up := fun (o : Nat) v (h : w6.cell? ⟨bb, o, none⟩ = some v) => (bC.cell (World.block_lt_of_cell? w6 _ h)).trans h
    replace p0 := up _ _ p0
    replace p1 := up _ _ p1
    replace p2 := up _ _ p2
    replace p3 := up _ _ p3
    replace p4 := up _ _ p4
    replace p5 := up _ _ p5
    replace r0 := up _ _ r0
    replace r1 := up _ _ r1
    replace r2 := up _ _ r2
    replace r3 := up _ _ r3
    replace r4 := up _ _ r4
    replace r5 := up _ _ r5
    clear up ecs0 ecs1 hrk hrow e1 e2 hk hC7 t6 b6 b6' kA5 kB hN5 hB5 hE5 hne t5 hN
    replace hr0 := hr0.on bC
    replace hr1 := hr1.on bC
    have z1 := kC.cell (i := 1) (v := .string ⟨#[]⟩) rfl
    have z2 := kC.cell (i := 2) (v := .string ⟨#[116, 111, 112]⟩) rfl
    have z3 := kC.cell (i := 3) (v := .slice ao'' 0 c1'') rfl
    have z4 := kC.cell (i := 4) (v := .slice (some ⟨bb, off, none⟩) 2 c2'') rfl
    have x0 := kA7.cell (i := 0) (v := .int .i64 k) rfl
    have x1 := kA7.cell (i := 1) (v := .string sp) rfl
    have x2 := kA7.cell (i := 2) (v := .string nm) rfl
    have x3 := kA7.cell (i := 3) (v := .slice ao n1 c1) rfl
    have x4 := kA7.cell (i := 4) (v := .slice bo n2 c2) rfl
    have x5 := kA7.cell (i := 5) (v := .string d) rfl
    have u0 := kB7.cell (i := 0) (v := .int .i64 k') rfl
    have u1 := kB7.cell (i := 1) (v := .string sp') rfl
    have u2 := kB7.cell (i := 2) (v := .string nm') rfl
    have u3 := kB7.cell (i := 3) (v := .slice ao' n1' c1') rfl
    have u4 := kB7.cell (i := 4) (v := .slice bo' n2' c2') rfl
    have u5 := kB7.cell (i := 5) (v := .string d') rfl
    clear kA7 kB7 kC bC
    replace hr0 := Lib.hid hr0
    replace hr1 := Lib.hid hr1
    replace hA7 := Lib.hid hA7
    replace hB7 := Lib.hid hB7
    go_upto_region 13 with fail
    generalize w6.alloc _ = W at *
    have hS : ∀ w', Below W.heap.size W w' → (w'.cell? ⟨w6.heap.size, 1, none⟩ = some (.string ⟨#[]⟩) ∧ w'.cell? ⟨w6.heap.size, 2, none⟩ = some (.string ⟨#[116, 111, 112]⟩) ∧ w'.cell? ⟨w6.heap.size, 3, none⟩ = some (.slice ao'' 0 c1'') ∧ w'.cell? ⟨w6.heap.size, 4, none⟩ = some (.slice (some ⟨bb, off, none⟩) 2 c2'') ∧ w'.cell? ⟨bb, off, none⟩ = some (.int .i64 (g0 : Nat)) ∧ w'.cell? ⟨bb, off + 1, none⟩ = some (.string g1) ∧ w'.cell? ⟨bb, off + 2, none⟩ = some (.string g2) ∧ w'.cell? ⟨bb, off + 3, none⟩ = some (.slice g6 g4.length g8) ∧ w'.cell? ⟨bb, off + 4, none⟩ = some (.slice g7 g5.length g9) ∧ w'.cell? ⟨bb, off + 5, none⟩ = some (.string g3) ∧ w'.cell? ⟨bb, off + 6, none⟩ = some (.int .i64 (f0 : Nat)) ∧ w'.cell? ⟨bb, off + 6 + 1, none⟩ = some (.string f1) ∧ w'.cell? ⟨bb, off + 6 + 2, none⟩ = some (.string f2) ∧ w'.cell? ⟨bb, off + 6 + 3, none⟩ = some (.slice f6 f4.length f8) ∧ w'.cell? ⟨bb, off + 6 + 4, none⟩ = some (.slice f7 f5.length f9) ∧ w'.cell? ⟨bb, off + 6 + 5, none⟩ = some (.string f3) ∧ w'.cell? ⟨w2.heap.size, 0, none⟩ = some (.int .i64 k) ∧ w'.cell? ⟨w2.heap.size, 1, none⟩ = some (.string sp) ∧ w'.cell? ⟨w2.heap.size, 2, none⟩ = some (.string nm) ∧ w'.cell? ⟨w2.heap.size, 3, none⟩ = some (.slice ao n1 c1) ∧ w'.cell? ⟨w2.heap.size, 4, none⟩ = some (.slice bo n2 c2) ∧ w'.cell? ⟨w2.heap.size, 5, none⟩ = some (.string d) ∧ w'.cell? ⟨w4.heap.size, 0, none⟩ = some (.int .i64 k') ∧ w'.cell? ⟨w4.heap.size, 1, none⟩ = some (.string sp') ∧ w'.cell? ⟨w4.heap.size, 2, none⟩ = some (.string nm') ∧ w'.cell? ⟨w4.heap.size, 3, none⟩ = some (.slice ao' n1' c1') ∧ w'.cell? ⟨w4.heap.size, 4, none⟩ = some (.slice bo' n2' c2') ∧ w'.cell? ⟨w4.heap.size, 5, none⟩ = some (.string d') ∧ Below W.heap.size W w') := fun w' b => by
      have up7 : ∀ (a : Addr) (v : Value), W.cell? a = some v → w'.cell? a = some v := fun a v h => (b.cell (World.block_lt_of_cell? W _ h)).trans h
      exact ⟨up7 _ _ z1, up7 _ _ z2, up7 _ _ z3, up7 _ _ z4, up7 _ _ p0, up7 _ _ p1, up7 _ _ p2, up7 _ _ p3, up7 _ _ p4, up7 _ _ p5, up7 _ _ r0, up7 _ _ r1, up7 _ _ r2, up7 _ _ r3, up7 _ _ r4, up7 _ _ r5, up7 _ _ x0, up7 _ _ x1, up7 _ _ x2, up7 _ _ x3, up7 _ _ x4, up7 _ _ x5, up7 _ _ u0, up7 _ _ u1, up7 _ _ u2, up7 _ _ u3, up7 _ _ u4, up7 _ _ u5, b⟩
    have hc1 : ∀ w', Below W.heap.size W w' → Calls Tryz.prog 11 #[.agg #[.int .i64 (g0 : Nat), .string g1, .string g2, .slice g6 g4.length g8, .slice g7 g5.length g9, .string g3], .agg #[.int .i64 k, .string sp, .string nm, .slice ao n1 c1, .slice bo n2 c2, .string d]] w' fun e w' => e = .returned (.bool true) ∧ (w'.cell? ⟨w6.heap.size, 1, none⟩ = some (.string ⟨#[]⟩) ∧ w'.cell? ⟨w6.heap.size, 2, none⟩ = some (.string ⟨#[116, 111, 112]⟩) ∧ w'.cell? ⟨w6.heap.size, 3, none⟩ = some (.slice ao'' 0 c1'') ∧ w'.cell? ⟨w6.heap.size, 4, none⟩ = some (.slice (some ⟨bb, off, none⟩) 2 c2'') ∧ w'.cell? ⟨bb, off, none⟩ = some (.int .i64 (g0 : Nat)) ∧ w'.cell? ⟨bb, off + 1, none⟩ = some (.string g1) ∧ w'.cell? ⟨bb, off + 2, none⟩ = some (.string g2) ∧ w'.cell? ⟨bb, off + 3, none⟩ = some (.slice g6 g4.length g8) ∧ w'.cell? ⟨bb, off + 4, none⟩ = some (.slice g7 g5.length g9) ∧ w'.cell? ⟨bb, off + 5, none⟩ = some (.string g3) ∧ w'.cell? ⟨bb, off + 6, none⟩ = some (.int .i64 (f0 : Nat)) ∧ w'.cell? ⟨bb, off + 6 + 1, none⟩ = some (.string f1) ∧ w'.cell? ⟨bb, off + 6 + 2, none⟩ = some (.string f2) ∧ w'.cell? ⟨bb, off + 6 + 3, none⟩ = some (.slice f6 f4.length f8) ∧ w'.cell? ⟨bb, off + 6 + 4, none⟩ = some (.slice f7 f5.length f9) ∧ w'.cell? ⟨bb, off + 6 + 5, none⟩ = some (.string f3) ∧ w'.cell? ⟨w2.heap.size, 0, none⟩ = some (.int .i64 k) ∧ w'.cell? ⟨w2.heap.size, 1, none⟩ = some (.string sp) ∧ w'.cell? ⟨w2.heap.size, 2, none⟩ = some (.string nm) ∧ w'.cell? ⟨w2.heap.size, 3, none⟩ = some (.slice ao n1 c1) ∧ w'.cell? ⟨w2.heap.size, 4, none⟩ = some (.slice bo n2 c2) ∧ w'.cell? ⟨w2.heap.size, 5, none⟩ = some (.string d) ∧ w'.cell? ⟨w4.heap.size, 0, none⟩ = some (.int .i64 k') ∧ w'.cell? ⟨w4.heap.size, 1, none⟩ = some (.string sp') ∧ w'.cell? ⟨w4.heap.size, 2, none⟩ = some (.string nm') ∧ w'.cell? ⟨w4.heap.size, 3, none⟩ = some (.slice ao' n1' c1') ∧ w'.cell? ⟨w4.heap.size, 4, none⟩ = some (.slice bo' n2' c2') ∧ w'.cell? ⟨w4.heap.size, 5, none⟩ = some (.string d') ∧ Below W.heap.size W w') := fun w' b =>
      (refSameNode_any (hr0.out.on b) _ (Below.refl _ _) (fun _ => True) _ _ (hA7.out.on b)).mono (by
        rintro e w'' ⟨⟨q, rfl, hq⟩, b2⟩
        obtain rfl : q = true := hq.2 rfl
        exact ⟨rfl, hS _ (b.trans (b2.mono b.size))⟩)
    have hc2 : ∀ w', Below W.heap.size W w' → Calls Tryz.prog 11 #[.agg #[.int .i64 (f0 : Nat), .string f1, .string f2, .slice f6 f4.length f8, .slice f7 f5.length f9, .string f3], .agg #[.int .i64 k', .string sp', .string nm', .slice ao' n1' c1', .slice bo' n2' c2', .string d']] w' fun e w' => e = .returned (.bool true) ∧ (w'.cell? ⟨w6.heap.size, 1, none⟩ = some (.string ⟨#[]⟩) ∧ w'.cell? ⟨w6.heap.size, 2, none⟩ = some (.string ⟨#[116, 111, 112]⟩) ∧ w'.cell? ⟨w6.heap.size, 3, none⟩ = some (.slice ao'' 0 c1'') ∧ w'.cell? ⟨w6.heap.size, 4, none⟩ = some (.slice (some ⟨bb, off, none⟩) 2 c2'') ∧ w'.cell? ⟨bb, off, none⟩ = some (.int .i64 (g0 : Nat)) ∧ w'.cell? ⟨bb, off + 1, none⟩ = some (.string g1) ∧ w'.cell? ⟨bb, off + 2, none⟩ = some (.string g2) ∧ w'.cell? ⟨bb, off + 3, none⟩ = some (.slice g6 g4.length g8) ∧ w'.cell? ⟨bb, off + 4, none⟩ = some (.slice g7 g5.length g9) ∧ w'.cell? ⟨bb, off + 5, none⟩ = some (.string g3) ∧ w'.cell? ⟨bb, off + 6, none⟩ = some (.int .i64 (f0 : Nat)) ∧ w'.cell? ⟨bb, off + 6 + 1, none⟩ = some (.string f1) ∧ w'.cell? ⟨bb, off + 6 + 2, none⟩ = some (.string f2) ∧ w'.cell? ⟨bb, off + 6 + 3, none⟩ = some (.slice f6 f4.length f8) ∧ w'.cell? ⟨bb, off + 6 + 4, none⟩ = some (.slice f7 f5.length f9) ∧ w'.cell? ⟨bb, off + 6 + 5, none⟩ = some (.string f3) ∧ w'.cell? ⟨w2.heap.size, 0, none⟩ = some (.int .i64 k) ∧ w'.cell? ⟨w2.heap.size, 1, none⟩ = some (.string sp) ∧ w'.cell? ⟨w2.heap.size, 2, none⟩ = some (.string nm) ∧ w'.cell? ⟨w2.heap.size, 3, none⟩ = some (.slice ao n1 c1) ∧ w'.cell? ⟨w2.heap.size, 4, none⟩ = some (.slice bo n2 c2) ∧ w'.cell? ⟨w2.heap.size, 5, none⟩ = some (.string d) ∧ w'.cell? ⟨w4.heap.size, 0, none⟩ = some (.int .i64 k') ∧ w'.cell? ⟨w4.heap.size, 1, none⟩ = some (.string sp') ∧ w'.cell? ⟨w4.heap.size, 2, none⟩ = some (.string nm') ∧ w'.cell? ⟨w4.heap.size, 3, none⟩ = some (.slice ao' n1' c1') ∧ w'.cell? ⟨w4.heap.size, 4, none⟩ = some (.slice bo' n2' c2') ∧ w'.cell? ⟨w4.heap.size, 5, none⟩ = some (.string d') ∧ Below W.heap.size W w') := fun w' b =>
      (refSameNode_any (hr1.out.on b) _ (Below.refl _ _) (fun _ => True) _ _ (hB7.out.on b)).mono (by
        rintro e w'' ⟨⟨q, rfl, hq⟩, b2⟩
        obtain rfl : q = true := hq.2 rfl
        exact ⟨rfl, hS _ (b.trans (b2.mono b.size))⟩)
    have s0 := hS W (Below.refl _ _)
    have s1 := hS W.drew (Below.refl _ _).drew
    clear hS z1 z2 z3 z4 p0 p1 p2 p3 p4 p5 r0 r1 r2 r3 r4 r5 x0 x1 x2 x3 x4 x5 u0 u1 u2 u3 u4 u5 hr0 hr1 hA7 hB7
    go_region_held3 (fun w' => w'.cell? ⟨w6.heap.size, 1, none⟩ = some (.string ⟨#[]⟩) ∧ w'.cell? ⟨w6.heap.size, 2, none⟩ = some (.string ⟨#[116, 111, 112]⟩) ∧ w'.cell? ⟨w6.heap.size, 3, none⟩ = some (.slice ao'' 0 c1'') ∧ w'.cell? ⟨w6.heap.size, 4, none⟩ = some (.slice (some ⟨bb, off, none⟩) 2 c2'') ∧ w'.cell? ⟨bb, off, none⟩ = some (.int .i64 (g0 : Nat)) ∧ w'.cell? ⟨bb, off + 1, none⟩ = some (.string g1) ∧ w'.cell? ⟨bb, off + 2, none⟩ = some (.string g2) ∧ w'.cell? ⟨bb, off + 3, none⟩ = some (.slice g6 g4.length g8) ∧ w'.cell? ⟨bb, off + 4, none⟩ = some (.slice g7 g5.length g9) ∧ w'.cell? ⟨bb, off + 5, none⟩ = some (.string g3) ∧ w'.cell? ⟨bb, off + 6, none⟩ = some (.int .i64 (f0 : Nat)) ∧ w'.cell? ⟨bb, off + 6 + 1, none⟩ = some (.string f1) ∧ w'.cell? ⟨bb, off + 6 + 2, none⟩ = some (.string f2) ∧ w'.cell? ⟨bb, off + 6 + 3, none⟩ = some (.slice f6 f4.length f8) ∧ w'.cell? ⟨bb, off + 6 + 4, none⟩ = some (.slice f7 f5.length f9) ∧ w'.cell? ⟨bb, off + 6 + 5, none⟩ = some (.string f3) ∧ w'.cell? ⟨w2.heap.size, 0, none⟩ = some (.int .i64 k) ∧ w'.cell? ⟨w2.heap.size, 1, none⟩ = some (.string sp) ∧ w'.cell? ⟨w2.heap.size, 2, none⟩ = some (.string nm) ∧ w'.cell? ⟨w2.heap.size, 3, none⟩ = some (.slice ao n1 c1) ∧ w'.cell? ⟨w2.heap.size, 4, none⟩ = some (.slice bo n2 c2) ∧ w'.cell? ⟨w2.heap.size, 5, none⟩ = some (.string d) ∧ w'.cell? ⟨w4.heap.size, 0, none⟩ = some (.int .i64 k') ∧ w'.cell? ⟨w4.heap.size, 1, none⟩ = some (.string sp') ∧ w'.cell? ⟨w4.heap.size, 2, none⟩ = some (.string nm') ∧ w'.cell? ⟨w4.heap.size, 3, none⟩ = some (.slice ao' n1' c1') ∧ w'.cell? ⟨w4.heap.size, 4, none⟩ = some (.slice bo' n2' c2') ∧ w'.cell? ⟨w4.heap.size, 5, none⟩ = some (.string d') ∧ Below W.heap.size W w')
      (first | exact s1 | exact s0 | assumption)
      (first
        | (go_at_call_of 11 (Value.string g2); refine (hc1 _ ?_).mono ?_; (first | exact (Below.refl _ _).drew | exact Below.refl _ _ | assumption); rintro e w' ⟨rfl, hcb⟩)
        | (go_at_call_of 11 (Value.string f2); refine (hc2 _ ?_).mono ?_; (first | exact (Below.refl _ _).drew | exact Below.refl _ _ | (exact hcb.2.2.2.2.2.2.2.2.2.2.2.2.2.2.2.2.2.2.2.2.2.2.2.2.2.2.2.2) | assumption); rintro e w' ⟨rfl, hcb⟩))
    have bb9 := hcb.2.2.2.2.2.2.2.2.2.2.2.2.2.2.2.2.2.2.2.2.2.2.2.2.2.2.2.2
    have t9 := t7.trans (bb9.mono t7.size)
    clear bb9 hcb
    go_wp2_with fail
    go_ret
    exact ⟨rfl, t9⟩

/-- GroveKids: every case. -/
theorem kids_any (s t : ByteArray) (w : World) (_hs : s.size ≤ maxLen) (_ht : t.size ≤ maxLen) (hE : Env w) : Calls Tryz.prog 5 #[.string s, .string t] w fun e w' => e = .returned (.bool true) ∧ Below w.heap.size w w' := by
  by_cases h : s.size ≤ 1000 ∧ t.size ≤ 1000
  case neg => exact kids_long s t w h hE
  obtain ⟨h2, h3⟩ := h
  by_cases e1 : Gv.errOf s.data.toList = 0
  case neg => exact kids_x s t w h2 h3 e1 hE
  by_cases e2 : Gv.errOf t.data.toList = 0
  case neg => exact kids_y s t w h2 h3 e1 e2 hE
  obtain ⟨na, hpa⟩ := Gv.ok_of e1
  obtain ⟨nb, hpb⟩ := Gv.ok_of e2
  have hs2 : 2 ≤ s.size := by have := Gv.parse_two hpa; rw [list_len] at this; exact this
  have ht2 : 2 ≤ t.size := by have := Gv.parse_two hpb; rw [list_len] at this; exact this
  by_cases q0 : ((s[0]'(by omega)).toNat : Int) = 60
  case neg => exact kids_0 s t w h2 h3 e1 e2 hs2 ht2 q0 hE
  by_cases q1 : ((t[0]'(by omega)).toNat : Int) = 60
  case neg => exact kids_1 s t w h2 h3 e1 e2 hs2 ht2 q0 q1 hE
  by_cases q2 : ((s[1]'(by omega)).toNat : Int) = 63
  case pos => exact kids_2 s t w h2 h3 e1 e2 hs2 ht2 q0 q1 q2 hE
  by_cases q3 : ((t[1]'(by omega)).toNat : Int) = 63
  case pos => exact kids_3 s t w h2 h3 e1 e2 hs2 ht2 q0 q1 q2 q3 hE
  by_cases q4 : ((s[1]'(by omega)).toNat : Int) = 33
  case pos => exact kids_4 s t w h2 h3 e1 e2 hs2 ht2 q0 q1 q2 q3 q4 hE
  by_cases q5 : ((t[1]'(by omega)).toNat : Int) = 33
  case pos => exact kids_5 s t w h2 h3 e1 e2 hs2 ht2 q0 q1 q2 q3 q4 q5 hE
  by_cases q6 : ((s[s.size - 1]'(by omega)).toNat : Int) = 62
  case neg => exact kids_6 s t w h2 h3 e1 e2 hs2 ht2 q0 q1 q2 q3 q4 q5 q6 hE
  by_cases q7 : ((s[s.size - 2]'(by omega)).toNat : Int) = 63
  case pos => exact kids_7 s t w h2 h3 e1 e2 hs2 ht2 q0 q1 q2 q3 q4 q5 q6 q7 hE
  by_cases q8 : ((s[s.size - 2]'(by omega)).toNat : Int) = 45
  case pos => exact kids_8 s t w h2 h3 e1 e2 hs2 ht2 q0 q1 q2 q3 q4 q5 q6 q7 q8 hE
  by_cases q9 : ((t[t.size - 1]'(by omega)).toNat : Int) = 62
  case neg => exact kids_9 s t w h2 h3 e1 e2 hs2 ht2 q0 q1 q2 q3 q4 q5 q6 q7 q8 q9 hE
  by_cases q10 : ((t[t.size - 2]'(by omega)).toNat : Int) = 63
  case pos => exact kids_10 s t w h2 h3 e1 e2 hs2 ht2 q0 q1 q2 q3 q4 q5 q6 q7 q8 q9 q10 hE
  by_cases q11 : ((t[t.size - 2]'(by omega)).toNat : Int) = 45
  case pos => exact kids_11 s t w h2 h3 e1 e2 hs2 ht2 q0 q1 q2 q3 q4 q5 q6 q7 q8 q9 q10 q11 hE
  have hbs : Gv.Bare s.data.toList := bare_mk hs2 (by omega) (by omega) (by omega) (by omega) (by omega) (by omega)
  have hbt : Gv.Bare t.data.toList := bare_mk ht2 (by omega) (by omega) (by omega) (by omega) (by omega) (by omega)
  exact kids_fit s t w h2 h3 e1 e2 hs2 ht2 q0 q1 q2 q3 q4 q5 q6 q7 q8 q9 q10 q11 na nb (Gv.of_ok hpa).1 (Gv.of_ok hpb).1 (Gv.kids hbs hbt hpa hpb (by rw [list_len, list_len]; omega)) hE
end Go.Proofs.YtcoeijjmahneeaaGreatDoor
