/-
  The statements' walks: GlyphTexts, GlyphSmall.
-/
import Derived.Test.YtpnjdmfigbkicaaDoorGlyphLaw
import Derived.Test.YtpnjdmfigbkicaaDoorPieces
namespace Go.Proofs.YtpnjdmfigbkicaaDoor
open Go.RowKit

set_option maxRecDepth 100000 in
set_option maxHeartbeats 3200000 in
theorem texts_any (s : ByteArray) (w : World) (hs : s.size ≤ maxLen) (hE : Env w) : Calls Tryd.prog 5 #[.string s] w fun e w' => e = .returned (.bool true) ∧ Below w.heap.size w w' := by
  have hsm : s.size ≤ 9223372036854775807 := hs
  go_enter Tryd.func5, Tryd.ntmps5
  by_cases hb : 3000 < s.size
  · go_wp2_with fail
    (with_reducible refine (awake_any _ hE).mono ?_); rintro e w1 ⟨rfl, b1⟩
    go_wp2
    go_ret
    exact ⟨rfl, b1⟩
  · have hsz : s.size ≤ 1000000 := by omega
    have t0 := Below.refl w.heap.size w
    go_wp2_with fail
    (with_reducible refine (gName_any s _ hsz hE).mono ?_); rintro e w1 ⟨rfl, b1⟩
    have t1 := t0.trans (b1.mono t0.size)
    go_wp2_with fail
    (with_reducible refine (refName_any s _ (Nat.le_trans hsz (by decide))).mono ?_); rintro e w2 ⟨rfl, b2⟩
    have t2 := t1.trans (b2.mono t1.size)
    generalize G.nmA s = n1
    generalize G.nmB s = n2
    generalize G.nmE s = n3
    go_wp2_with fail
    (with_reducible refine (awake_any _ (hE.on t2)).mono ?_); rintro e w3 ⟨rfl, b3⟩
    have t3 := t2.trans (b3.mono t2.size)
    go_wp2_with fail
    (with_reducible refine (gCheck_any s _ hsz (hE.on t3)).mono ?_); rintro e w4 ⟨rfl, b4⟩
    have t4 := t3.trans (b4.mono t3.size)
    go_wp2_with fail
    (with_reducible refine (refCheck_any s _ (Nat.le_trans hsz (by decide))).mono ?_); rintro e w5 ⟨rfl, b5⟩
    have t5 := t4.trans (b5.mono t4.size)
    generalize G.checkN _ = q5
    go_wp2_with fail
    (with_reducible refine (gLines_any s _ hsz (hE.on t5)).mono ?_); rintro e w6 ⟨rfl, b6⟩
    have t6 := t5.trans (b6.mono t5.size)
    go_wp2_with fail
    (with_reducible refine (refLines_any s _ (Nat.le_trans hsz (by decide))).mono ?_); rintro e w7 ⟨rfl, b7⟩
    have t7 := t6.trans (b7.mono t6.size)
    generalize (⟨(G.lines _).toArray⟩ : ByteArray) = q7
    go_wp2_with fail
    (with_reducible refine (gPlain_any s _ hsz (hE.on t7)).mono ?_); rintro e w8 ⟨rfl, b8⟩
    have t8 := t7.trans (b8.mono t7.size)
    go_wp2_with fail
    (with_reducible refine (refPlain_any s _ (Nat.le_trans hsz (by decide))).mono ?_); rintro e w9 ⟨rfl, b9⟩
    have t9 := t8.trans (b9.mono t8.size)
    generalize G.plain _ = q9
    go_wp2
    go_ret
    exact ⟨rfl, t9⟩

set_option maxRecDepth 100000 in
set_option maxHeartbeats 3200000 in
theorem small_any {ao : Option Addr} {cap n : Nat} (L : List UInt8) (w : World) (hL : BytesAt ao L w) (hn : L.length = n) (hl : n ≤ maxLen) (hE : Env w) : Calls Tryd.prog 8 #[.slice ao n cap] w fun e w' => e = .returned (.bool true) ∧ Below w.heap.size w w' := by
  go_enter Tryd.func8, Tryd.ntmps8
  go_wp2_with fail
  have b0 := (Below.refl w.heap.size w).alloc (Nat.le_refl _)
  (with_reducible refine (pieces_any (m := 16) L [⟨#[97]⟩, ⟨#[58]⟩, ⟨#[45]⟩, ⟨#[49]⟩, ⟨#[32]⟩, ⟨#[13, 10]⟩, ⟨#[13]⟩, ⟨#[10]⟩, ⟨#[195, 169]⟩, ⟨#[194, 183]⟩, ⟨#[204, 128]⟩, ⟨#[240, 159, 152, 128]⟩, ⟨#[239, 191, 190]⟩, ⟨#[95]⟩, ⟨#[128]⟩, ⟨#[9]⟩] _ (hL.below (b0 _)) hn ?_ rfl (by decide) (by decide) hl (by decide)).mono ?_)
  · exact strsAt_cells (heap_alloc_new w _)
  rintro e w1 ⟨⟨s, rfl, hs120⟩, b1⟩
  have t0 := (b0 _).trans (b1.mono (b0 _).size)
  have hsz : s.size ≤ 1000000 := by omega
  clear hL
  go_wp2_with fail
  (with_reducible refine (gName_any s _ hsz (hE.on t0)).mono ?_); rintro e w2 ⟨rfl, b2⟩
  have t2 := t0.trans (b2.mono t0.size)
  go_wp2_with fail
  (with_reducible refine (refName_any s _ (Nat.le_trans hsz (by decide))).mono ?_); rintro e w3 ⟨rfl, b3⟩
  have t3 := t2.trans (b3.mono t2.size)
  generalize G.nmA s = n1
  generalize G.nmB s = n2
  generalize G.nmE s = n3
  go_wp2_with fail
  (with_reducible refine (awake_any _ (hE.on t3)).mono ?_); rintro e w4 ⟨rfl, b4⟩
  have t4 := t3.trans (b4.mono t3.size)
  go_wp2_with fail
  (with_reducible refine (gCheck_any s _ hsz (hE.on t4)).mono ?_); rintro e w5 ⟨rfl, b5⟩
  have t5 := t4.trans (b5.mono t4.size)
  go_wp2_with fail
  (with_reducible refine (refCheck_any s _ (Nat.le_trans hsz (by decide))).mono ?_); rintro e w6 ⟨rfl, b6⟩
  have t6 := t5.trans (b6.mono t5.size)
  generalize G.checkN _ = q6
  go_wp2_with fail
  (with_reducible refine (gLines_any s _ hsz (hE.on t6)).mono ?_); rintro e w7 ⟨rfl, b7⟩
  have t7 := t6.trans (b7.mono t6.size)
  go_wp2_with fail
  (with_reducible refine (refLines_any s _ (Nat.le_trans hsz (by decide))).mono ?_); rintro e w8 ⟨rfl, b8⟩
  have t8 := t7.trans (b8.mono t7.size)
  generalize (⟨(G.lines _).toArray⟩ : ByteArray) = q8
  go_wp2_with fail
  (with_reducible refine (gPlain_any s _ hsz (hE.on t8)).mono ?_); rintro e w9 ⟨rfl, b9⟩
  have t9 := t8.trans (b9.mono t8.size)
  go_wp2_with fail
  (with_reducible refine (refPlain_any s _ (Nat.le_trans hsz (by decide))).mono ?_); rintro e w10 ⟨rfl, b10⟩
  have t10 := t9.trans (b10.mono t9.size)
  generalize G.plain _ = q10
  go_wp2
  go_ret
  exact ⟨rfl, t10⟩
end Go.Proofs.YtpnjdmfigbkicaaDoor
