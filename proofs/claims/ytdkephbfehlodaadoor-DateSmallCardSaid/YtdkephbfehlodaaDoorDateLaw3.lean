/-
  The statements' walks: DateDays.
-/
import Derived.Test.YtdkephbfehlodaaDoorDateLaw2
namespace Go.Proofs.YtdkephbfehlodaaDoor
open Go.RowKit

set_option maxRecDepth 100000 in
set_option maxHeartbeats 3200000 in
theorem days_any (y s : Nat) (w : World) (hy : y ≤ 65535) (hs : s ≤ 4294967295) (hE : Env w) : Calls Tryd.prog 5 #[.int .u16 (y : Int), .int .u32 (s : Int)] w fun e w' => e = .returned (.bool true) ∧ Below w.heap.size w w' := by
  obtain ⟨Y, hY⟩ : ∃ Y : Nat, (y : Int) % 10000 = (Y : Int) := ⟨y % 10000, by omega⟩
  obtain ⟨R, hR⟩ : ∃ R : Nat, (s : Int) % 86400 = (R : Int) := ⟨s % 86400, by omega⟩
  have hYl : Y ≤ 9999 := by omega
  have hRl : R ≤ 86399 := by omega
  go_enter Tryd.func5, Tryd.ntmps5
  go_wp2_with fail
  obtain ⟨T, hT⟩ : ∃ T : Int, -62167219200 + (Y : Int) * 31556952 + (R : Int) = T := ⟨_, rfl⟩
  have hT1 : -62167219200 ≤ T := by omega
  have hT2 : T ≤ 260000000000 := by omega
  rw [hT]
  clear hT hY hR hYl hRl
  go_loopw [7] (fun i wr => ∃ k : Nat, k ≤ 370 ∧ i = .int .i64 (k : Int) ∧ Below w.heap.size w wr) (fun i _ => 370 - (intOf i).toNat)
  case atStart => exact ⟨0, by omega, rfl, Below.refl _ _⟩
  case round =>
    obtain ⟨k, hk, rfl, bw⟩ := hrel
    by_cases hlt : k < 370
    · obtain ⟨q, hq⟩ : ∃ q : Int, T + (k : Int) * 86400 = q := ⟨_, rfl⟩
      have x1 := bw.alloc bw.size (.cells #[.int .i64 q, .int .i64 0] 24)
      have p1 := pair_new wr (.int .i64 q) (.int .i64 0) 24
      go_wp2_with fail
      (with_reducible refine (dPrint_any q 0 _ (hE.on x1)).mono ?_); rintro e w2 ⟨rfl, b2⟩
      have hz1 := text_size q 0
      have hp := refPrint_any q 0
      have x2 := x1.trans (b2.mono x1.size)
      obtain ⟨c0, c1⟩ := p1.on b2
      clear p1 b2 x1
      by_cases ok : D.okB q 0 = true
      · obtain ⟨k1, k2, k3, k4⟩ := D.told_back ok
        rw [k1] at hp ⊢
        have hE2 := hE.on x2
        generalize ht : ({ data := (D.text q 0).toArray } : ByteArray) = t at hp hz1 ⊢
        have ht' : t.data.toList = D.text q 0 := by rw [← ht]
        rw [← ht'] at k2 k3 k4
        clear k1 ok ht ht'
        go_wp2_with fail
        (with_reducible refine (hp _).mono ?_); rintro e w3 ⟨rfl, b3⟩
        have x3 := x2.trans (b3.mono x2.size)
        have p3 := (PairIn.mk c0 c1).on b3
        clear c0 c1 b3 x2 hp
        go_wp2_with fail
        (with_reducible refine (dParse_any t _ hz1 (hE.on x3)).mono ?_); rintro e w4 ⟨rfl, b4⟩
        rw [k2, k3, k4]
        have x4 := x3.trans (b4.mono x3.size)
        have p4 := p3.on b4
        have hlt2 : wr.heap.size < w4.heap.size := World.block_lt_of_cell? w4 _ p4.c0
        clear k2 k3 k4 b4 p3 x3 hE2
        have x5 := x4.alloc x4.size (.cells #[.int .i64 q, .int .i64 0] 24)
        obtain ⟨d0, d1⟩ := pair_new w4 (.int .i64 q) (.int .i64 0) 24
        obtain ⟨c0, c1⟩ := p4.on ((Below.refl _ w4).alloc (Nat.le_refl _) (.cells #[.int .i64 q, .int .i64 0] 24))
        clear p4 x4
        go_wp2
        go_roundw
        case rel => exact ⟨k + 1, by omega, by go_num, x5⟩
        case measure => simp [intOf]; omega
      · obtain ⟨k1, k2⟩ := D.told_no (by simpa using ok)
        rw [k1] at hp ⊢
        generalize ht : ({ data := (D.text q 0).toArray } : ByteArray) = t at hp hz1 ⊢
        clear k1 ok ht k2
        go_wp2_with fail
        (with_reducible refine (hp _).mono ?_); rintro e w3 ⟨rfl, b3⟩
        have x3 := x2.trans (b3.mono x2.size)
        have p3 := (PairIn.mk c0 c1).on b3
        clear c0 c1 b3 x2 hp
        go_wp2_with fail
        (with_reducible refine (dParse_any t _ hz1 (hE.on x3)).mono ?_); rintro e w4 ⟨rfl, b4⟩
        have x4 := x3.trans (b4.mono x3.size)
        go_wp2
        go_roundw
        case rel => exact ⟨k + 1, by omega, by go_num, x4.alloc x4.size _⟩
        case measure => simp [intOf]; omega
    · go_wp2_with fail
      (with_reducible refine (awake_any _ (hE.on bw)).mono ?_); rintro e w2 ⟨rfl, b2⟩
      go_wp2
      go_ret
      exact ⟨rfl, bw.trans (b2.mono bw.size)⟩
end Go.Proofs.YtdkephbfehlodaaDoor
