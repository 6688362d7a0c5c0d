/-
  The statements' walks: awake, GlyphChars, GlyphNear.
-/
import Derived.Test.YtpnjdmfigbkicaaDoorGlyphDone
namespace Go.Proofs.YtpnjdmfigbkicaaDoor
open Go.RowKit

set_option maxRecDepth 100000 in
set_option maxHeartbeats 1600000 in
theorem awake_any (w : World) (hE : Env w) : Calls Tryd.prog 9 #[] w fun e w' => e = .returned (.bool true) ∧ Below w.heap.size w w' := by
  have a1 : G.nmA { data := #[97, 58, 98, 45, 49, 32, 99] } = { data := #[97, 58, 98, 45, 49] } := by decide +kernel
  have a2 : G.nmB { data := #[97, 58, 98, 45, 49, 32, 99] } = { data := #[32, 99] } := by decide +kernel
  have a3 : G.nmE { data := #[97, 58, 98, 45, 49, 32, 99] } = 0 := by decide +kernel
  have a4 : G.nmE { data := #[45, 97] } = 51 := by decide +kernel
  have a5 : G.lines (#[97, 13, 10, 98, 13, 99] : Array UInt8).toList = [97, 10, 98, 10, 99] := by decide +kernel
  have a6 : G.plain (#[97] : Array UInt8).toList = true := by decide +kernel
  have a7 : G.checkN (#[0] : Array UInt8).toList = 50 := by decide +kernel
  go_enter Tryd.func9, Tryd.ntmps9
  go_wp2_with fail
  (with_reducible refine (gName_any _ _ (by decide) hE).mono ?_); rintro e w1 ⟨rfl, b1⟩
  rw [a1, a2, a3]
  go_wp2_with fail
  (with_reducible refine (gName_any _ _ (by decide) (hE.on b1)).mono ?_); rintro e w2 ⟨rfl, b2⟩
  have b12 := b1.trans (b2.mono b1.size)
  rw [a4]
  go_wp2_with fail
  (with_reducible refine (gLines_any _ _ (by decide) (hE.on b12)).mono ?_); rintro e w3 ⟨rfl, b3⟩
  have b13 := b12.trans (b3.mono b12.size)
  rw [a5]
  go_wp2_with fail
  (with_reducible refine (gPlain_any _ _ (by decide) (hE.on b13)).mono ?_); rintro e w4 ⟨rfl, b4⟩
  have b14 := b13.trans (b4.mono b13.size)
  rw [a6]
  go_wp2_with fail
  (with_reducible refine (gCheck_any _ _ (by decide) (hE.on b14)).mono ?_); rintro e w5 ⟨rfl, b5⟩
  have b15 := b14.trans (b5.mono b14.size)
  rw [a7]
  go_wp2
  go_ret
  exact ⟨rfl, b15⟩

set_option maxRecDepth 100000 in
set_option maxHeartbeats 1600000 in
theorem chars_any (c : Int) (w : World) (hE : Env w) : Calls Tryd.prog 3 #[.int .i64 c] w fun e w' => e = .returned (.bool true) ∧ Below w.heap.size w w' := by
  go_enter Tryd.func3, Tryd.ntmps3
  go_wp2_with fail
  (with_reducible refine (awake_any _ hE).mono ?_); rintro e w1 ⟨rfl, b1⟩
  go_wp2_with fail
  (with_reducible refine (gChar_any _ _ (hE.on b1)).mono ?_); rintro e w2 ⟨rfl, b2⟩
  have b12 := b1.trans (b2.mono b1.size)
  go_wp2_with fail
  (with_reducible refine (refChar_any _ _).mono ?_); rintro e w3 ⟨rfl, b3⟩
  have b13 := b12.trans (b3.mono b12.size)
  generalize G.char c = q1
  go_wp2_with fail
  (with_reducible refine (gStart_any _ _ (hE.on b13)).mono ?_); rintro e w4 ⟨rfl, b4⟩
  have b14 := b13.trans (b4.mono b13.size)
  go_wp2_with fail
  (with_reducible refine (refStart_any _ _).mono ?_); rintro e w5 ⟨rfl, b5⟩
  have b15 := b14.trans (b5.mono b14.size)
  generalize G.start c = q2
  go_wp2_with fail
  (with_reducible refine (gPart_any _ _ (hE.on b15)).mono ?_); rintro e w6 ⟨rfl, b6⟩
  have b16 := b15.trans (b6.mono b15.size)
  go_wp2_with fail
  (with_reducible refine (refPart_any _ _).mono ?_); rintro e w7 ⟨rfl, b7⟩
  have b17 := b16.trans (b7.mono b16.size)
  generalize G.part c = q3
  go_wp2
  go_ret
  exact ⟨rfl, b17⟩

set_option maxRecDepth 100000 in
set_option maxHeartbeats 3200000 in
theorem near_any (n : Nat) (w : World) (hn : n < 4294967296) (hE : Env w) : Calls Tryd.prog 4 #[.int .u32 (n : Int)] w fun e w' => e = .returned (.bool true) ∧ Below w.heap.size w w' := by
  go_enter Tryd.func4, Tryd.ntmps4
  go_wp2_with fail
  go_loopw [3, 4] (fun i c wr => ∃ k : Nat, k ≤ 200 ∧ i = .int .i64 k ∧ Below w.heap.size w wr) (fun i _ _ => 200 - (intOf i).toNat)
  case atStart => exact ⟨0, Nat.zero_le _, rfl, Below.refl _ _⟩
  case round =>
    obtain ⟨k, hk, rfl, b1⟩ := hrel
    by_cases hlt : k < 200
    · go_wp2_with fail
      (with_reducible refine (gChar_any _ _ (hE.on b1)).mono ?_); rintro e w2 ⟨rfl, b2⟩
      have b12 := b1.trans (b2.mono b1.size)
      go_wp2_with fail
      (with_reducible refine (refChar_any _ _).mono ?_); rintro e w3 ⟨rfl, b3⟩
      have b13 := b12.trans (b3.mono b12.size)
      generalize G.char _ = q1
      go_wp2_with fail
      (with_reducible refine (gStart_any _ _ (hE.on b13)).mono ?_); rintro e w4 ⟨rfl, b4⟩
      have b14 := b13.trans (b4.mono b13.size)
      go_wp2_with fail
      (with_reducible refine (refStart_any _ _).mono ?_); rintro e w5 ⟨rfl, b5⟩
      have b15 := b14.trans (b5.mono b14.size)
      generalize G.start _ = q2
      go_wp2_with fail
      (with_reducible refine (gPart_any _ _ (hE.on b15)).mono ?_); rintro e w6 ⟨rfl, b6⟩
      have b16 := b15.trans (b6.mono b15.size)
      go_wp2_with fail
      (with_reducible refine (refPart_any _ _).mono ?_); rintro e w7 ⟨rfl, b7⟩
      have b17 := b16.trans (b7.mono b16.size)
      generalize G.part _ = q3
      go_wp2
      go_roundw
      case rel => exact ⟨k + 1, by omega, by go_num, b17⟩
      case measure => simp [intOf]; omega
    · go_wp2_with fail
      (with_reducible refine (awake_any _ (hE.on b1)).mono ?_); rintro e w2 ⟨rfl, b2⟩
      go_wp2
      go_ret
      exact ⟨rfl, b1.trans (b2.mono b1.size)⟩
end Go.Proofs.YtpnjdmfigbkicaaDoor
