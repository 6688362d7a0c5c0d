/-
  The statements' walks: LocatorDots.
-/
import Derived.Test.YtmfmgbjkbadndaaLocLaw
namespace Go.Proofs.Ytmfmgbjkbadndaa
open Go.RowKit

theorem dots_at {a : ByteArray} (hb : ∀ i, Lc.bad (a.data.toList.drop i) = false) {i : Nat} (h : i + 1 < a.size) (h0 : a[i] = 47) (h1 : a[i + 1] = 46) : ∃ h2 : i + 2 < a.size, a[i + 2] ≠ 47 ∧ (a[i + 2] = 46 → ∃ h3 : i + 3 < a.size, a[i + 3] ≠ 47) := by
  have e := hb i
  rw [lcons a i (by omega), h0, lcons a (i + 1) h, h1] at e
  by_cases h2 : i + 2 < a.size
  · refine ⟨h2, ?_, ?_⟩
    · intro e2
      rw [lcons a (i + 2) h2, e2] at e
      simp [Lc.bad] at e
    · intro e2
      rw [lcons a (i + 2) h2, e2] at e
      by_cases h3 : i + 3 < a.size
      · refine ⟨h3, fun e3 => ?_⟩
        rw [lcons a (i + 3) h3, e3] at e
        simp [Lc.bad] at e
      · rw [show a.data.toList.drop (i + 2 + 1) = [] from List.drop_of_length_le (by rw [list_len]; omega)] at e
        simp [Lc.bad] at e
  · rw [show a.data.toList.drop (i + 1 + 1) = [] from List.drop_of_length_le (by rw [list_len]; omega)] at e
    simp [Lc.bad] at e
theorem lbyte_is {b c : UInt8} (h : b = c) : ((b.toNat : Int) == (c.toNat : Int)) = true := by rw [h]; simp
theorem lbyte_no {b c : UInt8} (h : b ≠ c) : ((b.toNat : Int) == (c.toNat : Int)) = false := by
  rw [beq_eq_false_iff_ne]
  exact fun e => h (UInt8.toNat_inj.1 (by omega))

set_option maxRecDepth 100000 in
set_option maxHeartbeats 12800000 in
theorem dots_any (s : ByteArray) (w : World) (hs : s.size ≤ maxLen) (hE : Env w) : Calls Try.prog 7 #[.string s] w fun e w' => e = .returned (.bool true) ∧ Below w.heap.size w w' := by
  unfold maxLen at hs
  go_enter Try.func7, Try.ntmps7
  go_wp2_with fail
  (refine (awake_any _ hE).mono ?_); rintro e w1 ⟨rfl, b1⟩
  by_cases h : 2000 < s.size
  · have hi : (2000 : Int) < (s.size : Int) := by omega
    go_wp2_with fail
    go_ret
    exact ⟨rfl, b1⟩
  have hi : ¬ (2000 : Int) < (s.size : Int) := by omega
  have hib : decide ((2000 : Int) < (s.size : Int)) = false := by simpa using hi
  have c1 := pDots_any s w1 (by omega) (hE.on b1)
  obtain ⟨a, ha⟩ : ∃ a, a = Lc.str (Lc.dots s.data.toList) := ⟨_, rfl⟩
  have hl : a.data.toList = Lc.dots s.data.toList := by rw [ha, Lc.str_list]
  have hz : a.size ≤ s.size := by
    have := Lc.dots_len s.data.toList
    rw [← hl, list_len, list_len] at this
    exact this
  have hbad : Hid (∀ i, Lc.bad (a.data.toList.drop i) = false) := Lib.hid (fun i => by rw [hl]; exact Lc.dots_bad _ i)
  have c2 := fun W (h : Env W) => pDots_any a W (by omega) h
  have hdd : Lc.str (Lc.dots a.data.toList) = a := by rw [hl, Lc.dots_dots, ← ha]
  rw [hdd] at c2
  rw [← ha] at c1
  replace c1 := Lib.hid c1
  replace c2 := Lib.hid c2
  clear hdd hl ha
  go_wp2_with fail
  (refine c1.out.mono ?_); rintro e w2 ⟨rfl, b2⟩
  have g2 := Lib.hid (b1.trans (b2.mono b1.size))
  clear c1 b1 b2
  go_wp2_with fail
  go_loop [5] (fun i => ∃ k : Nat, k ≤ a.size ∧ i = .int .i64 k) (fun i => a.size - (intOf i).toNat)
  case atStart => exact ⟨0, Nat.zero_le _, rfl⟩
  case round =>
    obtain ⟨k, hk, rfl⟩ := hrel
    by_cases hlt : k + 1 < a.size
    case neg =>
      have hli : ¬ (k : Int) + 1 < (a.size : Int) := by omega
      have hze : (a.size : Int) ≤ (s.size : Int) + 1 := by omega
      have c3 := c2.out w2 (hE.on g2.out)
      replace c3 := Lib.hid c3
      clear c2
      go_wp2_with fail
      (refine c3.out.mono ?_); rintro e w3 ⟨rfl, b3⟩
      have g3 := g2.out.trans (b3.mono g2.out.size)
      go_wp2_with fail
      go_ret
      exact ⟨rfl, g3⟩
    have hli : (k : Int) + 1 < (a.size : Int) := by omega
    have hk0 : k < a.size := by omega
    by_cases e0 : a[k] = 47
    case neg =>
      have z0 := lbyte_no (c := 47) e0
      rw [show ((47 : UInt8).toNat : Int) = 47 from rfl] at z0
      clear e0
      go_wp2_with fail
      go_round
      case rel => exact ⟨k + 1, by omega, by go_num⟩
      case measure => simp [intOf]; omega
    have z0 := lbyte_is (c := 47) e0
    rw [show ((47 : UInt8).toNat : Int) = 47 from rfl] at z0
    by_cases e1 : a[k + 1] = 46
    case neg =>
      have z1 := lbyte_no (c := 46) e1
      rw [show ((46 : UInt8).toNat : Int) = 46 from rfl] at z1
      clear e0 e1
      go_wp2_with fail
      go_round
      case rel => exact ⟨k + 1, by omega, by go_num⟩
      case measure => simp [intOf]; omega
    have z1 := lbyte_is (c := 46) e1
    rw [show ((46 : UInt8).toNat : Int) = 46 from rfl] at z1
    obtain ⟨h2, n2, h3⟩ := dots_at hbad.out hlt e0 e1
    have z2 := lbyte_no (c := 47) n2
    rw [show ((47 : UInt8).toNat : Int) = 47 from rfl] at z2
    have y2 : ¬ (k : Int) + 2 = (a.size : Int) := by omega
    have y2b : ((k : Int) + 2 == (a.size : Int)) = false := by rw [beq_eq_false_iff_ne]; omega
    have y2i : (k : Int) + 2 < (a.size : Int) := by omega
    by_cases e2 : a[k + 2] = 46
    case neg =>
      have z3 := lbyte_no (c := 46) e2
      rw [show ((46 : UInt8).toNat : Int) = 46 from rfl] at z3
      clear e0 e1 e2 n2 h3
      go_wp2_with fail
      go_round
      case rel => exact ⟨k + 1, by omega, by go_num⟩
      case measure => simp [intOf]; omega
    obtain ⟨h4, n3⟩ := h3 e2
    have z3 := lbyte_is (c := 46) e2
    rw [show ((46 : UInt8).toNat : Int) = 46 from rfl] at z3
    have z4 := lbyte_no (c := 47) n3
    rw [show ((47 : UInt8).toNat : Int) = 47 from rfl] at z4
    have y3 : ¬ (k : Int) + 3 = (a.size : Int) := by omega
    have y3b : ((k : Int) + 3 == (a.size : Int)) = false := by rw [beq_eq_false_iff_ne]; omega
    have y3i : (k : Int) + 3 < (a.size : Int) := by omega
    clear e0 e1 e2 n2 n3 h3
    go_wp2_with fail
    go_round
    case rel => exact ⟨k + 1, by omega, by go_num⟩
    case measure => simp [intOf]; omega
end Go.Proofs.Ytmfmgbjkbadndaa
