/-
  The statements' walks: awake, PrefixSplits, PrefixDeclares.
-/
import Derived.Test.YtbehkmihmffoeaaPreDone
namespace Go.Proofs.Ytbehkmihmffoeaa
open Go.RowKit

theorem pairsIn_new {b : Nat} {l : List Pair} {w : World} {T : TypeId} {fr : Nat × Nat} (h : w.heap[b]? = some (.cells (l.flatMap pairCells).toArray T fr)) : PairsIn w (some ⟨b, 0, none⟩) l := by
  intro j hj
  have k0 := cells_of_pairs l j 0 hj (by decide)
  have k1 := cells_of_pairs l j 1 hj (by decide)
  refine ⟨b, 0, rfl, ?_, ?_⟩
  · simp only [World.cell?, h]
    simpa [pairCells] using k0
  · simp only [World.cell?, h]
    simpa [pairCells, Nat.add_assoc] using k1

set_option maxRecDepth 100000 in
set_option maxHeartbeats 3200000 in
theorem awake_any (w : World) (hE : Env w) : Calls Try.prog 8 #[] w fun e w' => e = .returned (.bool true) ∧ Below w.heap.size w w' := by
  have a1 : P.spA { data := #[97, 58, 98] } = { data := #[97] } := by decide +kernel
  have a2 : P.spB { data := #[97, 58, 98] } = { data := #[98] } := by decide +kernel
  have a3 : P.spE { data := #[97, 58, 98] } = 0 := by decide +kernel
  have a4 : P.spE { data := #[97, 58, 98, 58, 99] } = 80 := by decide +kernel
  have a5 : P.reA [⟨{ data := #[97] }, { data := #[117] }⟩] { data := #[97, 58, 98] } true = { data := #[117] } := by decide +kernel
  have a6 : P.reB [⟨{ data := #[97] }, { data := #[117] }⟩] { data := #[97, 58, 98] } true = { data := #[98] } := by decide +kernel
  have a7 : P.reE [⟨{ data := #[97] }, { data := #[117] }⟩] { data := #[97, 58, 98] } true = 0 := by decide +kernel
  have a8 : (P.deA [⟨{ data := #[120, 109, 108, 110, 115, 58, 97] }, { data := #[117] }⟩, ⟨{ data := #[120] }, { data := #[] }⟩]).length = 1 := by decide +kernel
  have a9 : (P.deB [⟨{ data := #[120, 109, 108, 110, 115, 58, 97] }, { data := #[117] }⟩, ⟨{ data := #[120] }, { data := #[] }⟩]).length = 1 := by decide +kernel
  have a10 : P.deE [⟨{ data := #[120, 109, 108, 110, 115, 58, 97] }, { data := #[117] }⟩, ⟨{ data := #[120] }, { data := #[] }⟩] = 0 := by decide +kernel
  go_enter Try.func8, Try.ntmps8
  have t0 := Below.refl w.heap.size w
  go_wp2_with fail
  (with_reducible refine (pSplit_any _ _ (by decide) hE).mono ?_); rintro e w1 ⟨rfl, b1⟩
  rw [a1, a2, a3]
  have t1 := t0.trans (b1.mono t0.size)
  go_wp2_with fail
  (with_reducible refine (pSplit_any _ _ (by decide) (hE.on t1)).mono ?_); rintro e w2 ⟨rfl, b2⟩
  rw [a4]
  have t2 := t1.trans (b2.mono t1.size)
  go_wp2_with fail
  have t3 := t2.alloc t2.size (.cells #[.string { data := #[97] }, .string { data := #[117] }] 30)
  (with_reducible refine (pResolve_any (n := 1) (cap := 1) [⟨{ data := #[97] }, { data := #[117] }⟩] { data := #[97, 58, 98] } true _ ?_ rfl (by decide) (by decide) (hE.on t3)).mono ?_)
  · exact pairsIn_new (heap_alloc_new w2 _)
  rintro e w4 ⟨rfl, b4⟩
  rw [a5, a6, a7]
  have t4 := t3.trans (b4.mono t3.size)
  go_wp2_with fail
  have t5 := t4.alloc t4.size (.cells #[.string { data := #[120, 109, 108, 110, 115, 58, 97] }, .string { data := #[117] }, .string { data := #[120] }, .string { data := #[] }] 30)
  (with_reducible refine (pDeclare_any (n := 2) (cap := 2) [⟨{ data := #[120, 109, 108, 110, 115, 58, 97] }, { data := #[117] }⟩, ⟨{ data := #[120] }, { data := #[] }⟩] _ ?_ rfl (by decide) (by decide) (hE.on t5)).mono ?_)
  · exact pairsIn_new (heap_alloc_new w4 _)
  rintro e w6 ⟨x1, y1, x2, y2, rfl, _, _, b6⟩
  rw [a8, a9, a10]
  have t6 := t5.trans (b6.mono t5.size)
  go_wp2
  go_ret
  exact ⟨rfl, t6⟩

set_option maxRecDepth 100000 in
set_option maxHeartbeats 3200000 in
theorem splits_any {ao : Option Addr} {cap n : Nat} (l : List Pair) (s : ByteArray) (attr : Bool) (w : World) (hl : PairsIn w ao l) (hn : l.length = n) (hnm : n ≤ maxLen) (hs : s.size ≤ maxLen) (hE : Env w) : Calls Try.prog 3 #[.slice ao n cap, .string s, .bool attr] w fun e w' => e = .returned (.bool true) ∧ Below w.heap.size w w' := by
  have hsm : s.size ≤ 9223372036854775807 := hs
  have hnm2 : n ≤ 9223372036854775807 := hnm
  have t0 := Below.refl w.heap.size w
  go_enter Try.func3, Try.ntmps3
  by_cases hb : 100 < n
  · clear hl
    go_wp2_with fail
    (with_reducible refine (awake_any _ hE).mono ?_); rintro e w1 ⟨rfl, b1⟩
    go_wp2
    go_ret
    exact ⟨rfl, b1⟩
  by_cases hb2 : 300 < s.size
  · clear hl
    go_wp2_with fail
    (with_reducible refine (awake_any _ hE).mono ?_); rintro e w1 ⟨rfl, b1⟩
    go_wp2
    go_ret
    exact ⟨rfl, b1⟩
  have hsz : s.size ≤ 1000000 := by omega
  go_wp2_with fail
  (with_reducible refine (pSplit_any s _ hsz hE).mono ?_); rintro e w1 ⟨rfl, b1⟩
  have t1 := t0.trans (b1.mono t0.size)
  go_wp2_with fail
  (with_reducible refine (refSplit_any s _ hs).mono ?_); rintro e w2 ⟨rfl, b2⟩
  have t2 := t1.trans (b2.mono t1.size)
  generalize P.spA s = x1
  generalize P.spB s = x2
  generalize P.spE s = x3
  go_wp2_with fail
  (with_reducible refine (pResolve_any l s attr _ (hl.below t2) hn (by omega) hsz (hE.on t2)).mono ?_); rintro e w3 ⟨rfl, b3⟩
  have t3 := t2.trans (b3.mono t2.size)
  go_wp2_with fail
  (with_reducible refine (refResolve_any l s attr _ (hl.below t3) hn (by omega) hs).mono ?_); rintro e w4 ⟨rfl, b4⟩
  have t4 := t3.trans (b4.mono t3.size)
  generalize P.reA l s attr = y1
  generalize P.reB l s attr = y2
  generalize P.reE l s attr = y3
  clear hl
  go_wp2_with fail
  (with_reducible refine (awake_any _ (hE.on t4)).mono ?_); rintro e w5 ⟨rfl, b5⟩
  have t5 := t4.trans (b5.mono t4.size)
  go_wp2
  go_ret
  exact ⟨rfl, t5⟩

set_option maxRecDepth 100000 in
set_option maxHeartbeats 3200000 in
theorem declares_any {ao : Option Addr} {cap n : Nat} (l : List Pair) (w : World) (hl : PairsIn w ao l) (hn : l.length = n) (hnm : n ≤ maxLen) (hz : ∀ a ∈ l, a.name.size ≤ maxLen) (hE : Env w) : Calls Try.prog 4 #[.slice ao n cap] w fun e w' => e = .returned (.bool true) ∧ Below w.heap.size w w' := by
  have hnm2 : n ≤ 9223372036854775807 := hnm
  have t0 := Below.refl w.heap.size w
  have hnh := Lib.hid hn
  go_enter Try.func4, Try.ntmps4
  by_cases hb : 100 < n
  · clear hl hz hn
    go_wp2_with fail
    (with_reducible refine (awake_any _ hE).mono ?_); rintro e w1 ⟨rfl, b1⟩
    go_wp2
    go_ret
    exact ⟨rfl, b1⟩
  clear hn
  go_wp2_with fail
  go_loop [3] (fun i => ∃ k : Nat, k ≤ n ∧ i = .int .i64 (k : Int) ∧ Hid (∀ j (hj : j < l.length), j < k → l[j].name.size ≤ 300)) (fun i => n - (intOf i).toNat)
  case atStart => exact ⟨0, Nat.zero_le _, rfl, Lib.hid (fun j _ h => by omega)⟩
  case round =>
    obtain ⟨k, hk, rfl, hall⟩ := hrel
    by_cases hlt : k < n
    · obtain ⟨b, off, rfl, c0, c1⟩ := hl k (by rw [hnh.out]; exact hlt)
      have hza := hz (l[k]'(by rw [hnh.out]; exact hlt)) (List.getElem_mem _)
      have hza2 : (l[k]'(by rw [hnh.out]; exact hlt)).name.size ≤ 9223372036854775807 := hza
      have hst : (l[k]'(by rw [hnh.out]; exact hlt)).name.size ≤ 300 → Hid (∀ j (hj : j < l.length), j < k + 1 → l[j].name.size ≤ 300) := fun h => Lib.hid (fun j hj h2 => by
        by_cases hjk : j = k
        · subst hjk; exact h
        · exact hall.out j hj (by omega))
      generalize (l[k]'(by rw [hnh.out]; exact hlt)).name = x at *
      generalize (l[k]'(by rw [hnh.out]; exact hlt)).value = y at *
      clear hl hz
      by_cases hx : 300 < x.size
      · clear hst hall
        go_wp2_with fail
        (with_reducible refine (awake_any _ hE).mono ?_); rintro e w1 ⟨rfl, b1⟩
        go_wp2
        go_ret
        exact ⟨rfl, b1⟩
      · have hr := hst (by omega)
        clear hst hall
        go_wp2
        go_round
        case rel => exact ⟨k + 1, by omega, by go_num, hr⟩
        case measure => simp [intOf] <;> omega
    · have hsmall : ∀ a ∈ l, a.name.size ≤ 1000 := fun a ha => by
        obtain ⟨j, hj, rfl⟩ := List.mem_iff_getElem.1 ha
        have := hall.out j hj (by have := hnh.out; omega)
        omega
      clear hall
      go_wp2_with fail
      (with_reducible refine (pDeclare_any l _ (hl.below t0) hnh.out (by omega) hsmall hE).mono ?_); rintro e w1 ⟨a1, c1, a2, c2, rfl, p1, p2, b1⟩
      have t1 := t0.trans (b1.mono t0.size)
      go_wp2_with fail
      (with_reducible refine (refDeclare_any l _ (hl.below t1) hnh.out (by omega) hz).mono ?_); rintro e w2 ⟨v1, v2, rfl, o1, o2, b2⟩
      have t2 := t1.trans (b2.mono t1.size)
      obtain ⟨a3, c3, rfl, p3⟩ := pairs_of_owns o1
      obtain ⟨a4, c4, rfl, p4⟩ := pairs_of_owns o2
      have p1 := p1.below b2
      have p2 := p2.below b2
      clear o1 o2 hl hz hsmall
      have hbA : (P.deA l).length ≤ 1000000 ∧ (P.deB l).length ≤ 1000000 := by
        have hn3 := hnh.out
        unfold P.deA P.deB
        cases hd : P.declare l with
        | none => exact ⟨by simp, by simp⟩
        | some x =>
          have := (P.declGo_inv l [] [] x.1 x.2 hd (by simp)).2.1
          simp only [List.length_nil] at this
          exact ⟨by dsimp only; omega, by dsimp only; omega⟩
      generalize P.deA l = A at *
      generalize P.deB l = B at *
      generalize P.deE l = E at *
      go_wp2_with fail
      (with_reducible refine (awake_any _ (hE.on t2)).mono ?_); rintro e w3 ⟨rfl, b3⟩
      have t3 := t2.trans (b3.mono t2.size)
      go_wp2_with fail
      (with_reducible refine (samePairs_any A A _ (p1.below b3) (p3.below b3) hbA.1 rfl rfl).mono ?_); rintro e w4 ⟨rfl, b4⟩
      have t4 := t3.trans (b4.mono t3.size)
      rw [decide_eq_true (rfl : A = A)]
      go_wp2_with fail
      (with_reducible refine (samePairs_any B B _ ((p2.below b3).below b4) ((p4.below b3).below b4) hbA.2 rfl rfl).mono ?_); rintro e w5 ⟨rfl, b5⟩
      have t5 := t4.trans (b5.mono t4.size)
      rw [decide_eq_true (rfl : B = B)]
      clear p1 p2 p3 p4
      go_wp2
      go_ret
      exact ⟨rfl, t5⟩
end Go.Proofs.Ytbehkmihmffoeaa
