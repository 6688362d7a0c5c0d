/-
  What the document's own words of prefixes come to: contracts of Split, bound.
-/
import Derived.Test.YtbehkmihmffoeaaPairs
import Derived.Test.YtbehkmihmffoeaaRefPlain
import Derived.Deep.DeepCutAuto
import Derived.Deep.RegionHeld3
import Derived.Deep.QuietTactic
import Derived.BigQuiet
import Derived.Laws.Cover1
namespace Go.Proofs.Ytbehkmihmffoeaa
open Go.RowKit

namespace P
/-- Split's answers. -/
def spA (s : ByteArray) : ByteArray := match split s with | some x => x.1 | none => ByteArray.empty
def spB (s : ByteArray) : ByteArray := match split s with | some x => x.2 | none => ByteArray.empty
def spE (s : ByteArray) : Int := match split s with | some _ => 0 | none => 80
theorem sp_none {s : ByteArray} (h : split s = none) : spA s = ByteArray.empty ∧ spB s = ByteArray.empty ∧ spE s = 80 := by unfold spA spB spE; rw [h]; exact ⟨rfl, rfl, rfl⟩
theorem sp_some {s p n : ByteArray} (h : split s = some (p, n)) : spA s = p ∧ spB s = n ∧ spE s = 0 := by unfold spA spB spE; rw [h]; exact ⟨rfl, rfl, rfl⟩

theorem colon_at (s : ByteArray) (k : Nat) (hk : k < s.size) (h : (s[k]).toNat = 58) (hall : (s.data.toList.take k).all (fun b => decide (b ≠ 58)) = true) : colon s.data.toList = k := by
  have e : s.data.toList = s.data.toList.take k ++ 58 :: s.data.toList.drop (k + 1) := by
    have := drop_cons s k hk
    rw [byte_is (b := s[k]) (c := 58) h] at this
    rw [← this, List.take_append_drop]
  rw [e, colon_mk _ _ (fun x hx => by simpa using List.all_eq_true.1 hall x hx), List.length_take, list_len]; omega
theorem colon_end (s : ByteArray) (hall : s.data.toList.all (fun b => decide (b ≠ 58)) = true) : colon s.data.toList = s.size := by
  rw [colon_no _ (fun x hx => by simpa using List.all_eq_true.1 hall x hx), list_len]
end P

theorem below_drewN {B : Nat} (w : World) (n : Nat) : Below B w (w.drewN n) := ⟨rfl, rfl, rfl, Nat.le_refl _, fun _ _ => rfl⟩

theorem ret_three {a b a' b' : ByteArray} {e e' : Int} (h1 : a = a') (h2 : b = b') (h3 : e = e') : Ending.returned (.tuple #[.string a, .string b, .int .i64 e]) = .returned (.tuple #[.string a', .string b', .int .i64 e']) := by rw [h1, h2, h3]

set_option maxRecDepth 100000 in
set_option maxHeartbeats 3200000 in
theorem refSplit_any (s : ByteArray) (w : World) (hs : s.size ≤ maxLen) :
    Calls Try.prog 10 #[.string s] w fun e w' => e = .returned (.tuple #[.string (P.spA s), .string (P.spB s), .int .i64 (P.spE s)]) ∧ Below w.heap.size w w' := by
  have hsm : s.size ≤ 9223372036854775807 := hs
  go_enter Try.func10, Try.ntmps10
  go_wp2_with fail
  go_loop [5] (fun i => ∃ k : Nat, k ≤ s.size ∧ i = .int .i64 k ∧ Hid ((s.data.toList.take k).all (fun b => decide (b ≠ 58)) = true)) (fun i => s.size - (intOf i).toNat)
  case atStart => exact ⟨0, Nat.zero_le _, rfl, Lib.hid (by simp)⟩
  case round =>
    obtain ⟨k, hk, rfl, hall⟩ := hrel
    by_cases hlt : k < s.size
    · by_cases hq : (s[k]).toNat = 58
      · have hqi : ((s[k]).toNat : Int) = 58 := by omega
        have hcol := P.colon_at s k hlt hq hall.out
        have hS : P.split s = if P.plainB (s.extract 0 k) && P.plainB (s.extract (k + 1) s.size) then some (s.extract 0 k, s.extract (k + 1) s.size) else none := by
          unfold P.split; rw [hcol, if_pos hlt]
        clear hcol hall hq
        have z1 : (s.extract 0 k).size ≤ maxLen := by simp; unfold maxLen at *; omega
        have z2 : (s.extract (k + 1) s.size).size ≤ maxLen := by simp; unfold maxLen at *; omega
        have hS := Lib.hid hS
        go_wp2_with fail
        (with_reducible refine (refPlain_any (s.extract 0 k) _ z1).mono ?_); rintro e w1 ⟨rfl, b1⟩
        cases hp1 : G.plain (s.extract 0 k).data.toList
        · obtain ⟨r1, r2, r3⟩ := P.sp_none (hS.out.trans (by unfold P.plainB; rw [hp1]; rfl))
          clear hp1
          replace r1 := Lib.hid r1
          replace r2 := Lib.hid r2
          replace r3 := Lib.hid r3
          go_wp2
          go_ret3
          exact ⟨ret_three r1.out.symm r2.out.symm r3.out.symm, b1⟩
        · go_wp2_with fail
          (with_reducible refine (refPlain_any (s.extract (k + 1) s.size) _ z2).mono ?_); rintro e w2 ⟨rfl, b2⟩
          have b3 := b1.trans (b2.mono b1.size)
          cases hp2 : G.plain (s.extract (k + 1) s.size).data.toList
          · obtain ⟨r1, r2, r3⟩ := P.sp_none (hS.out.trans (by unfold P.plainB; rw [hp1, hp2]; rfl))
            clear hp1 hp2
            replace r1 := Lib.hid r1
            replace r2 := Lib.hid r2
            replace r3 := Lib.hid r3
            go_wp2
            go_ret3
            exact ⟨ret_three r1.out.symm r2.out.symm r3.out.symm, b3⟩
          · obtain ⟨r1, r2, r3⟩ := P.sp_some (hS.out.trans (by unfold P.plainB; rw [hp1, hp2]; rfl))
            clear hp1 hp2
            replace r1 := Lib.hid r1
            replace r2 := Lib.hid r2
            replace r3 := Lib.hid r3
            have hk1 : (k : Int) + 1 ≤ (s.size : Int) := by omega
            go_wp2_with fail
            go_quiet (fail)
            go_wp2_with fail
            go_ret3
            exact ⟨ret_three r1.out.symm r2.out.symm r3.out.symm, b3.trans (below_drewN _ _)⟩
      · have hst := Lib.hid (all_take (fun b => decide (b ≠ 58)) s.data.toList k (by rw [list_len]; exact hlt))
        have hgk : s.data.toList[k]'(by rw [list_len]; exact hlt) = s[k] := rfl
        rw [hgk] at hst
        clear hgk
        have hr := Lib.hid (hst.out.trans (show _ = true by rw [hall.out]; simp; exact fun e => hq (by rw [e]; rfl)))
        have hqi : ¬ ((s[k]).toNat : Int) = 58 := by omega
        clear hst hall hq
        go_wp2
        go_round
        case rel => exact ⟨k + 1, by omega, by go_num, hr⟩
        case measure => simp [intOf]; omega
    · have hfull : s.data.toList.take k = s.data.toList := List.take_of_length_le (by rw [list_len]; omega)
      rw [hfull] at hall
      clear hfull
      have hS : P.split s = if P.plainB s then some (ByteArray.empty, s) else none := by
        unfold P.split; rw [P.colon_end s hall.out, if_neg (by omega)]
      have hS := Lib.hid hS
      clear hall
      go_wp2_with fail
      (with_reducible refine (refPlain_any s _ hs).mono ?_); rintro e w1 ⟨rfl, b1⟩
      cases hp1 : G.plain s.data.toList
      · obtain ⟨r1, r2, r3⟩ := P.sp_none (hS.out.trans (by unfold P.plainB; rw [hp1]; rfl))
        clear hp1
        replace r1 := Lib.hid r1
        replace r2 := Lib.hid r2
        replace r3 := Lib.hid r3
        go_wp2
        go_ret3
        exact ⟨ret_three r1.out.symm r2.out.symm r3.out.symm, b1⟩
      · obtain ⟨r1, r2, r3⟩ := P.sp_some (hS.out.trans (by unfold P.plainB; rw [hp1]; rfl))
        clear hp1
        replace r1 := Lib.hid r1
        replace r2 := Lib.hid r2
        replace r3 := Lib.hid r3
        go_wp2
        go_ret3
        exact ⟨ret_three r1.out.symm r2.out.symm r3.out.symm, b1⟩
end Go.Proofs.Ytbehkmihmffoeaa
