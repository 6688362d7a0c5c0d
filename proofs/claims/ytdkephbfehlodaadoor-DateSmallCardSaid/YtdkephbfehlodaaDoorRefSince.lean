/-
  What the document's own words of the calendar come to: the days since 1970 (since), five loops.
-/
import Derived.Test.YtdkephbfehlodaaDoorRefDate
namespace Go.Proofs.YtdkephbfehlodaaDoor
open Go.RowKit

namespace D
theorem leap_mod {y z : Int} (h : y % 400 = z % 400) : leap y = leap z := by
  unfold leap
  have h1 : y % 4 = z % 4 := by omega
  have h2 : y % 100 = z % 100 := by omega
  rw [h, h1, h2]
theorem lp_mod {y z : Int} (h : y % 400 = z % 400) : lp y = lp z := by unfold lp; rw [leap_mod h]
theorem mlen_mod {y z : Int} (h : y % 400 = z % 400) (m : Int) : mlen y m = mlen z m := by unfold mlen; rw [lp_mod h]
theorem yd_bd {y : Int} (h0 : 0 ≤ y) (h1 : y ≤ 12000) : -1000000 ≤ yd y ∧ yd y ≤ 10000000 := by unfold yd; omega
theorem yd_min {k : Int} (h : k < 1970) : yd (min (k + 1) 1970) = yd (min k 1970) + 365 + lp k := by
  rw [Int.min_eq_left (by omega), Int.min_eq_left (by omega), yd_succ]
theorem yd_top {k : Int} (h : 1970 ≤ k) : yd (min k 1970) = 0 := by rw [Int.min_eq_right h, yd_1970]
theorem md_bd (y : Int) {m : Int} (h1 : 1 ≤ m) (h2 : m ≤ 12) : 0 ≤ md y m ∧ md y m ≤ 366 := by
  have a := md_nonneg y h1 h2
  have b := md_end y h1 h2
  have c := mlen_le y m
  have d := lp_01 y
  omega
theorem lp_t {y : Int} (h : leap y = true) : lp y = 1 := by unfold lp; rw [h]; rfl
theorem lp_f {y : Int} (h : leap y = false) : lp y = 0 := by unfold lp; rw [h]; rfl
end D

set_option maxRecDepth 100000 in
set_option maxHeartbeats 6400000 in
theorem refSince_any (y m d : Int) (w : World) (h0 : 0 ≤ y) (h1 : y ≤ 12000) (hm1 : 1 ≤ m) (hm2 : m ≤ 12) (hd1 : 1 ≤ d) (hd2 : d ≤ 31) :
    Calls Tryd.prog 28 #[.int .i64 y, .int .i64 m, .int .i64 d] w fun e w' => e = .returned (.int .i64 (D.days y m d)) ∧ w = w' := by
  go_enter Tryd.func28, Tryd.ntmps28
  go_wp2_with fail
  go_loop [0, 7] (fun yv nv => ∃ c n : Int, yv = .int .i64 c ∧ nv = .int .i64 n ∧ 0 ≤ c ∧ c ≤ y ∧ Hid (c % 400 = y % 400) ∧ Hid (n + D.yd c = D.yd y)) (fun yv _ => (intOf yv).toNat)
  case atStart => exact ⟨y, 0, rfl, rfl, h0, Int.le_refl _, Lib.hid rfl, Lib.hid (by omega)⟩
  case round =>
    obtain ⟨c, n, rfl, rfl, c0, c1, hc, hn⟩ := hrel
    have hnb : -11000000 ≤ n ∧ n ≤ 11000000 := by
      have a := D.yd_bd (y := c) c0 (by omega)
      have b := D.yd_bd (y := y) h0 (by omega)
      have e := hn.out
      omega
    obtain ⟨nb1, nb2⟩ := hnb
    by_cases hl : 2370 ≤ c
    · go_wp2
      go_round
      case rel => exact ⟨c - 400, n + 146097, by go_num, by go_num, by omega, by omega, Lib.hid (by have := hc.out; omega), Lib.hid (by
        have a := D.yd_400 (c - 400)
        rw [show c - 400 + 400 = c by omega] at a
        have := hn.out
        omega)⟩
      case measure => simp [intOf]; omega
    · clear nb1 nb2
      go_wp2_with fail
      go_loop [0, 7] (fun yv nv => ∃ c n : Int, yv = .int .i64 c ∧ nv = .int .i64 n ∧ 0 ≤ c ∧ c ≤ 2369 ∧ Hid (c % 400 = y % 400) ∧ Hid (n + D.yd c = D.yd y)) (fun yv _ => (2370 - intOf yv).toNat)
      case atStart => exact ⟨c, n, rfl, rfl, c0, by omega, hc, hn⟩
      case round =>
        clear c0 c1 hc hn hl
        obtain ⟨c, n, rfl, rfl, c0, c1, hc, hn⟩ := hrel
        have hnb : -11000000 ≤ n ∧ n ≤ 11000000 := by
          have a := D.yd_bd (y := c) c0 (by omega)
          have b := D.yd_bd (y := y) h0 (by omega)
          have e := hn.out
          omega
        obtain ⟨nb1, nb2⟩ := hnb
        by_cases hl : c + 400 ≤ 1970
        · go_wp2
          go_round
          case rel => exact ⟨c + 400, n - 146097, by go_num, by go_num, by omega, by omega, Lib.hid (by have := hc.out; omega), Lib.hid (by
            have a := D.yd_400 c
            have := hn.out
            omega)⟩
          case measure => simp [intOf]; omega
        · go_wp2_with fail
          go_loop [7, 8] (fun nv kv => ∃ e k : Int, nv = .int .i64 e ∧ kv = .int .i64 k ∧ 1970 ≤ k ∧ (k ≤ c ∨ k = 1970) ∧ Hid (e + D.yd c = D.yd y + D.yd k)) (fun _ kv => (2370 - intOf kv).toNat)
          case atStart => exact ⟨n, 1970, rfl, rfl, Int.le_refl _, .inr rfl, Lib.hid (by rw [D.yd_1970, hn.out]; omega)⟩
          case round =>
            clear hn nb1 nb2
            obtain ⟨n, k, rfl, rfl, k0, k1, hn⟩ := hrel
            have hnb : -21000000 ≤ n ∧ n ≤ 21000000 := by
              have a := D.yd_bd (y := c) c0 (by omega)
              have b := D.yd_bd (y := y) h0 (by omega)
              have b1 := D.yd_bd (y := k) (by omega) (by omega)
              have e := hn.out
              omega
            obtain ⟨nb1, nb2⟩ := hnb
            by_cases hk : k < c
            · go_wp2_with fail
              (with_reducible refine (refLeap_any k _ (by omega)).mono ?_); rintro e w1 ⟨rfl, rfl⟩
              have hs := Lib.hid (D.yd_succ k)
              cases hlp : D.leap k
              · have hp := Lib.hid (D.lp_f hlp)
                clear hlp
                go_wp2
                go_round
                case rel => exact ⟨n + 365, k + 1, by go_num, by go_num, by omega, .inl (by omega), Lib.hid (by rw [hs.out, hp.out]; have := hn.out; omega)⟩
                case measure => simp [intOf]; omega
              · have hp := Lib.hid (D.lp_t hlp)
                clear hlp
                go_wp2
                go_round
                case rel => exact ⟨n + 366, k + 1, by go_num, by go_num, by omega, .inl (by omega), Lib.hid (by rw [hs.out, hp.out]; have := hn.out; omega)⟩
                case measure => simp [intOf]; omega
            · go_wp2_with fail
              have hn4 : Hid (n = D.yd y - D.yd (min c 1970)) := Lib.hid (by
                have e := hn.out
                by_cases hc7 : 1970 ≤ c
                · rw [D.yd_top hc7]
                  obtain rfl : k = c := by omega
                  omega
                · rw [Int.min_eq_left (by omega)]
                  obtain rfl : k = 1970 := by omega
                  rw [D.yd_1970] at e
                  omega)
              clear hn nb1 nb2
              go_loop [7, 9] (fun nv kv => ∃ e k : Int, nv = .int .i64 e ∧ kv = .int .i64 k ∧ c ≤ k ∧ (k ≤ 1970 ∨ k = c) ∧ Hid (e = D.yd y - D.yd (min k 1970))) (fun _ kv => (1970 - intOf kv).toNat)
              case atStart => exact ⟨n, c, rfl, rfl, Int.le_refl _, .inr rfl, hn4⟩
              case round =>
                clear hn4 k0 k1 hk
                obtain ⟨n, k, rfl, rfl, k0, k1, hn⟩ := hrel
                have hnb : -21000000 ≤ n ∧ n ≤ 21000000 := by
                  have b := D.yd_bd (y := y) h0 (by omega)
                  have b1 := D.yd_bd (y := min k 1970) (by omega) (by omega)
                  have e := hn.out
                  omega
                obtain ⟨nb1, nb2⟩ := hnb
                by_cases hk : k < 1970
                · go_wp2_with fail
                  (with_reducible refine (refLeap_any k _ (by omega)).mono ?_); rintro e w1 ⟨rfl, rfl⟩
                  have hs := Lib.hid (D.yd_min hk)
                  cases hlp : D.leap k
                  · have hp := Lib.hid (D.lp_f hlp)
                    clear hlp
                    go_wp2
                    go_round
                    case rel => exact ⟨n - 365, k + 1, by go_num, by go_num, by omega, .inl (by omega), Lib.hid (by rw [hs.out, hp.out]; have := hn.out; omega)⟩
                    case measure => simp [intOf]; omega
                  · have hp := Lib.hid (D.lp_t hlp)
                    clear hlp
                    go_wp2
                    go_round
                    case rel => exact ⟨n - 366, k + 1, by go_num, by go_num, by omega, .inl (by omega), Lib.hid (by rw [hs.out, hp.out]; have := hn.out; omega)⟩
                    case measure => simp [intOf]; omega
                · go_wp2_with fail
                  have hn5 : Hid (n = D.yd y + D.md y 1) := Lib.hid (by
                    have e := hn.out
                    rw [D.yd_top (by omega)] at e
                    rw [D.md_1]
                    omega)
                  clear hn nb1 nb2
                  go_loop [7, 10] (fun nv kv => ∃ e k : Int, nv = .int .i64 e ∧ kv = .int .i64 k ∧ 1 ≤ k ∧ k ≤ m ∧ Hid (e = D.yd y + D.md y k)) (fun _ kv => (m - intOf kv).toNat)
                  case atStart => exact ⟨n, 1, rfl, rfl, Int.le_refl _, hm1, hn5⟩
                  case round =>
                    clear hn5 k0 k1 hk
                    obtain ⟨n, k, rfl, rfl, k0, k1, hn⟩ := hrel
                    have hnb : -21000000 ≤ n ∧ n ≤ 21000000 := by
                      have b := D.yd_bd (y := y) h0 (by omega)
                      have b1 := D.md_bd y (m := k) k0 (by omega)
                      have e := hn.out
                      omega
                    obtain ⟨nb1, nb2⟩ := hnb
                    by_cases hk : k < m
                    · go_wp2_with fail
                      (with_reducible refine (refDays_any c k _ c0 k0 (by omega)).mono ?_); rintro e w1 ⟨rfl, rfl⟩
                      have hs := Lib.hid (D.md_succ y k k0 (by omega))
                      have hb := D.mlen_le c k
                      have hq := Lib.hid (D.mlen_mod hc.out k)
                      generalize D.mlen c k = q at *
                      obtain ⟨q0, q1⟩ := hb
                      go_wp2
                      go_round
                      case rel => exact ⟨n + q, k + 1, by go_num, by go_num, by omega, by omega, Lib.hid (by rw [hs.out, hn.out, ← hq.out]; omega)⟩
                      case measure => simp [intOf]; omega
                    · obtain rfl : k = m := by omega
                      have hr := Lib.hid (show n + d - 1 = D.days y k d by unfold D.days; rw [hn.out])
                      clear hn hk
                      go_wp2
                      go_ret
                      exact ⟨ret_int hr.out, rfl⟩
end Go.Proofs.YtdkephbfehlodaaDoor
