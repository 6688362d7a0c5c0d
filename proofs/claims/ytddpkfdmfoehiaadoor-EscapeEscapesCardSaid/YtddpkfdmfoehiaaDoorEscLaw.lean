/-
  The statements' walks: awake, EscapeExpands, EscapeEscapes, EscapeSmall.
-/
import Derived.Test.YtddpkfdmfoehiaaDoorEscDone
import Derived.Test.YtddpkfdmfoehiaaDoorPieces
namespace Go.Proofs.YtddpkfdmfoehiaaDoor
open Go.RowKit

set_option maxRecDepth 100000 in
set_option maxHeartbeats 1600000 in
theorem awake_any (w : World) (hE : Env w) : Calls Tryd.prog 8 #[] w fun e w' => e = .returned (.bool true) ∧ Below w.heap.size w w' := by
  have a1 : E.expA false { data := #[97, 38, 108, 116, 59, 38, 35, 120, 52, 49, 59, 38, 97, 109, 112, 59, 108, 116, 59] } = { data := #[97, 60, 65, 38, 108, 116, 59] } := by decide +kernel
  have a2 : E.expE false { data := #[97, 38, 108, 116, 59, 38, 35, 120, 52, 49, 59, 38, 97, 109, 112, 59, 108, 116, 59] } = 0 := by decide +kernel
  have a3 : E.expE false { data := #[38, 35, 48, 59] } = 60 := by decide +kernel
  have a4 : E.expA true { data := #[97, 10, 38, 35, 49, 48, 59] } = { data := #[97, 32, 10] } := by decide +kernel
  have a5 : E.expE true { data := #[97, 10, 38, 35, 49, 48, 59] } = 0 := by decide +kernel
  have a6 : E.escape false (#[60] : Array UInt8).toList = [38, 108, 116, 59] := by decide +kernel
  go_enter Tryd.func8, Tryd.ntmps8
  go_wp2_with fail
  (with_reducible refine (eExpand_any _ _ (by decide) hE).mono ?_); rintro e w1 ⟨rfl, b1⟩
  rw [a1, a2]
  go_wp2_with fail
  (with_reducible refine (eExpand_any _ _ (by decide) (hE.on b1)).mono ?_); rintro e w2 ⟨rfl, b2⟩
  have b12 := b1.trans (b2.mono b1.size)
  rw [a3]
  go_wp2_with fail
  (with_reducible refine (eValue_any _ _ (by decide) (hE.on b12)).mono ?_); rintro e w3 ⟨rfl, b3⟩
  have b13 := b12.trans (b3.mono b12.size)
  rw [a4, a5]
  go_wp2_with fail
  (with_reducible refine (eEscape_any _ _ _ (by decide) (hE.on b13)).mono ?_); rintro e w4 ⟨rfl, b4⟩
  have b14 := b13.trans (b4.mono b13.size)
  rw [a6]
  go_wp2
  go_ret
  exact ⟨rfl, b14⟩

set_option maxRecDepth 100000 in
set_option maxHeartbeats 3200000 in
theorem expands_any (s : ByteArray) (w : World) (hs : s.size ≤ maxLen) (hE : Env w) : Calls Tryd.prog 3 #[.string s] w fun e w' => e = .returned (.bool true) ∧ Below w.heap.size w w' := by
  have hsm : s.size ≤ 9223372036854775807 := hs
  go_enter Tryd.func3, Tryd.ntmps3
  by_cases hb : 3000 < s.size
  · go_wp2_with fail
    (with_reducible refine (awake_any _ hE).mono ?_); rintro e w1 ⟨rfl, b1⟩
    go_wp2
    go_ret
    exact ⟨rfl, b1⟩
  · have hsz : s.size ≤ 1000000 := by omega
    have t0 := Below.refl w.heap.size w
    go_wp2_with fail
    (with_reducible refine (eExpand_any s _ hsz hE).mono ?_); rintro e w1 ⟨rfl, b1⟩
    have t1 := t0.trans (b1.mono t0.size)
    go_wp2_with fail
    (with_reducible refine (refExpandT_any s _ hsz).mono ?_); rintro e w2 ⟨rfl, b2⟩
    have t2 := t1.trans (b2.mono t1.size)
    generalize E.expA false s = a1
    generalize E.expE false s = e1
    go_wp2_with fail
    (with_reducible refine (eValue_any s _ hsz (hE.on t2)).mono ?_); rintro e w3 ⟨rfl, b3⟩
    have t3 := t2.trans (b3.mono t2.size)
    go_wp2_with fail
    (with_reducible refine (refValue_any s _ hsz).mono ?_); rintro e w4 ⟨rfl, b4⟩
    have t4 := t3.trans (b4.mono t3.size)
    generalize E.expA true s = a2
    generalize E.expE true s = e2
    go_wp2_with fail
    (with_reducible refine (awake_any _ (hE.on t4)).mono ?_); rintro e w5 ⟨rfl, b5⟩
    have t5 := t4.trans (b5.mono t4.size)
    go_wp2
    go_ret
    exact ⟨rfl, t5⟩

set_option maxRecDepth 100000 in
set_option maxHeartbeats 3200000 in
theorem escapes_any (s : ByteArray) (attr : Bool) (w : World) (hs : s.size ≤ maxLen) (hE : Env w) : Calls Tryd.prog 4 #[.string s, .bool attr] w fun e w' => e = .returned (.bool true) ∧ Below w.heap.size w w' := by
  have hsm : s.size ≤ 9223372036854775807 := hs
  go_enter Tryd.func4, Tryd.ntmps4
  go_wp2_with fail
  (with_reducible refine (awake_any _ hE).mono ?_); rintro e w1 ⟨rfl, t1⟩
  by_cases hb : 3000 < s.size
  · go_wp2
    go_ret
    exact ⟨rfl, t1⟩
  · have hsz : s.size ≤ 1000000 := by omega
    go_wp2_with fail
    (with_reducible refine (eEscape_any s attr _ hsz (hE.on t1)).mono ?_); rintro e w2 ⟨rfl, b2⟩
    have t2 := t1.trans (b2.mono t1.size)
    go_wp2_with fail
    (with_reducible refine (refEscape_any s attr _ hsz).mono ?_); rintro e w3 ⟨rfl, rfl⟩
    generalize (⟨(E.escape attr s.data.toList).toArray⟩ : ByteArray) = q
    go_wp2
    go_ret
    exact ⟨rfl, t2⟩

set_option maxRecDepth 100000 in
set_option maxHeartbeats 3200000 in
theorem esmall_any {ao : Option Addr} {cap n : Nat} (L : List UInt8) (w : World) (hL : BytesAt ao L w) (hn : L.length = n) (hl : n ≤ maxLen) (hE : Env w) : Calls Tryd.prog 7 #[.slice ao n cap] w fun e w' => e = .returned (.bool true) ∧ Below w.heap.size w w' := by
  go_enter Tryd.func7, Tryd.ntmps7
  go_wp2_with fail
  have b0 := (Below.refl w.heap.size w).alloc (Nat.le_refl _)
  (with_reducible refine (pieces_any (m := 16) L [⟨#[38, 108, 116, 59]⟩, ⟨#[38, 35, 54, 53, 59]⟩, ⟨#[38, 35, 120, 52, 49, 59]⟩, ⟨#[38, 35]⟩, ⟨#[120]⟩, ⟨#[38]⟩, ⟨#[59]⟩, ⟨#[97]⟩, ⟨#[10]⟩, ⟨#[38, 97, 109, 112, 59]⟩, ⟨#[48]⟩, ⟨#[38, 35, 48, 59]⟩, ⟨#[38, 35, 120, 68, 56, 48, 48, 59]⟩, ⟨#[38, 113, 117, 111, 116, 59]⟩, ⟨#[38, 35, 120, 49, 48, 70, 70, 70, 70, 59]⟩, ⟨#[38, 35, 49, 49, 49, 52, 49, 49, 50, 59]⟩] _ (hL.below (b0 _)) hn ?_ rfl (by decide) (by decide) hl (by decide)).mono ?_)
  · exact strsAt_cells (heap_alloc_new w _)
  rintro e w1 ⟨⟨s, rfl, hs120⟩, b1⟩
  have t0 := (b0 _).trans (b1.mono (b0 _).size)
  have hsz : s.size ≤ 1000000 := by omega
  clear hL
  go_wp2_with fail
  (with_reducible refine (eExpand_any s _ hsz (hE.on t0)).mono ?_); rintro e w2 ⟨rfl, b2⟩
  have t2 := t0.trans (b2.mono t0.size)
  go_wp2_with fail
  (with_reducible refine (refExpandT_any s _ hsz).mono ?_); rintro e w3 ⟨rfl, b3⟩
  have t3 := t2.trans (b3.mono t2.size)
  generalize E.expA false s = a1
  generalize E.expE false s = e1
  go_wp2_with fail
  (with_reducible refine (eValue_any s _ hsz (hE.on t3)).mono ?_); rintro e w4 ⟨rfl, b4⟩
  have t4 := t3.trans (b4.mono t3.size)
  go_wp2_with fail
  (with_reducible refine (refValue_any s _ hsz).mono ?_); rintro e w5 ⟨rfl, b5⟩
  have t5 := t4.trans (b5.mono t4.size)
  generalize E.expA true s = a2
  generalize E.expE true s = e2
  go_wp2_with fail
  (with_reducible refine (awake_any _ (hE.on t5)).mono ?_); rintro e w6 ⟨rfl, b6⟩
  have t6 := t5.trans (b6.mono t5.size)
  go_wp2
  go_ret
  exact ⟨rfl, t6⟩
end Go.Proofs.YtddpkfdmfoehiaaDoor
