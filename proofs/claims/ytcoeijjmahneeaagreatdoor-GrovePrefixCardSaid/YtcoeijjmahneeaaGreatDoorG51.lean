/-
  The statements' walks: GrovePrefix.
-/
import Derived.Test.YtcoeijjmahneeaaGreatDoorG49
import Derived.Test.YtcoeijjmahneeaaGreatDoorG12
import Derived.Test.YtcoeijjmahneeaaGreatDoorG50
namespace Go.Proofs.YtcoeijjmahneeaaGreatDoor
open Go.RowKit

theorem escape_len (s : ByteArray) (k : Nat) (h : s.size ≤ k) : (⟨(E.escape true s.data.toList).toArray⟩ : ByteArray).size ≤ 6 * k := by
  have := E.escape_six s.data.toList
  rw [list_len] at this
  show (E.escape true s.data.toList).toArray.size ≤ _
  rw [List.size_toArray]
  omega

theorem docP_bytes (U V : ByteArray) : ((⟨#[60, 112, 58, 97, 32, 120, 109, 108, 110, 115, 58, 112, 61, 34]⟩ : ByteArray) ++ U ++ (⟨#[34, 32, 112, 58, 98, 61, 34]⟩ : ByteArray) ++ V ++ (⟨#[34, 62, 60, 112, 58, 99, 47, 62, 60, 47, 112, 58, 97, 62]⟩ : ByteArray)).data.toList = Gv.docP U.data.toList V.data.toList := by
  unfold Gv.docP
  simp only [ByteArray.data_append, Array.toList_append, List.append_assoc]
theorem docQ_bytes (U V : ByteArray) : ((⟨#[60, 113, 58, 97, 32, 120, 109, 108, 110, 115, 58, 113, 61, 34]⟩ : ByteArray) ++ U ++ (⟨#[34, 32, 113, 58, 98, 61, 34]⟩ : ByteArray) ++ V ++ (⟨#[34, 62, 60, 99, 32, 120, 109, 108, 110, 115, 61, 34]⟩ : ByteArray) ++ U ++ (⟨#[34, 62, 60, 47, 99, 62, 60, 47, 113, 58, 97, 62]⟩ : ByteArray)).data.toList = Gv.docQ U.data.toList V.data.toList := by
  unfold Gv.docQ
  simp only [ByteArray.data_append, Array.toList_append, List.append_assoc]
theorem docP_size (U V : ByteArray) (h1 : U.size ≤ 1800) (h2 : V.size ≤ 1800) : ((⟨#[60, 112, 58, 97, 32, 120, 109, 108, 110, 115, 58, 112, 61, 34]⟩ : ByteArray) ++ U ++ (⟨#[34, 32, 112, 58, 98, 61, 34]⟩ : ByteArray) ++ V ++ (⟨#[34, 62, 60, 112, 58, 99, 47, 62, 60, 47, 112, 58, 97, 62]⟩ : ByteArray)).size ≤ 1000000 := by
  simp only [ByteArray.size_append]
  show 14 + U.size + 7 + V.size + 14 ≤ _
  omega
theorem docQ_size (U V : ByteArray) (h1 : U.size ≤ 1800) (h2 : V.size ≤ 1800) : ((⟨#[60, 113, 58, 97, 32, 120, 109, 108, 110, 115, 58, 113, 61, 34]⟩ : ByteArray) ++ U ++ (⟨#[34, 32, 113, 58, 98, 61, 34]⟩ : ByteArray) ++ V ++ (⟨#[34, 62, 60, 99, 32, 120, 109, 108, 110, 115, 61, 34]⟩ : ByteArray) ++ U ++ (⟨#[34, 62, 60, 47, 99, 62, 60, 47, 113, 58, 97, 62]⟩ : ByteArray)).size ≤ 1000000 := by
  simp only [ByteArray.size_append]
  show 14 + U.size + 7 + V.size + 12 + U.size + 12 ≤ _
  omega
theorem Gv.same_told {a b : List UInt8} (h : Gv.parse a = Gv.parse b) : Gv.errOf a = Gv.errOf b ∧ Gv.nodeOf a = Gv.nodeOf b := by
  unfold Gv.errOf Gv.nodeOf; rw [h]; exact ⟨rfl, rfl⟩

set_option maxRecDepth 100000 in
set_option maxHeartbeats 6400000 in
theorem prefix_any (sp va : ByteArray) (w : World) (_hs : sp.size ≤ maxLen) (_hv : va.size ≤ maxLen) (hE : Env w) : Calls Tryz.prog 6 #[.string sp, .string va] w fun e w' => e = .returned (.bool true) ∧ Below w.heap.size w w' := by
  go_enter Tryz.func6, Tryz.ntmps6
  go_wp2_with fail
  (with_reducible refine (awake_any _ hE).mono ?_); rintro e w1 ⟨rfl, t1⟩
  by_cases h2 : sp.size ≤ 300
  case neg =>
    have hi : (300 : Int) < (sp.size : Int) := by omega
    go_wp2_with fail
    go_ret
    exact ⟨rfl, t1⟩
  have hi : ¬ (300 : Int) < (sp.size : Int) := by omega
  by_cases h3 : va.size ≤ 300
  case neg =>
    have hi2 : (300 : Int) < (va.size : Int) := by omega
    go_wp2_with fail
    go_ret
    exact ⟨rfl, t1⟩
  have hi2 : ¬ (300 : Int) < (va.size : Int) := by omega
  have hU0 : (⟨(E.escape true sp.data.toList).toArray⟩ : ByteArray).data.toList = E.escape true sp.data.toList := by simp
  have hV0 : (⟨(E.escape true va.data.toList).toArray⟩ : ByteArray).data.toList = E.escape true va.data.toList := by simp
  have hlaw := Gv.parse_unlike sp.data.toList va.data.toList (by rw [list_len]; omega) (by rw [list_len]; omega)
  rw [← hU0, ← hV0, ← docP_bytes, ← docQ_bytes] at hlaw
  have hu := escape_len sp 300 h2
  have hw := escape_len va 300 h3
  have hz1 := docP_size _ _ hu hw
  have hz2 := docQ_size _ _ hu hw
  obtain ⟨g1, g2⟩ := Gv.same_told hlaw
  obtain ⟨ge, g3⟩ : ∃ x, x = Gv.errOf ((⟨#[60, 113, 58, 97, 32, 120, 109, 108, 110, 115, 58, 113, 61, 34]⟩ : ByteArray) ++ (⟨(E.escape true sp.data.toList).toArray⟩ : ByteArray) ++ (⟨#[34, 32, 113, 58, 98, 61, 34]⟩ : ByteArray) ++ (⟨(E.escape true va.data.toList).toArray⟩ : ByteArray) ++ (⟨#[34, 62, 60, 99, 32, 120, 109, 108, 110, 115, 61, 34]⟩ : ByteArray) ++ (⟨(E.escape true sp.data.toList).toArray⟩ : ByteArray) ++ (⟨#[34, 62, 60, 47, 99, 62, 60, 47, 113, 58, 97, 62]⟩ : ByteArray)).data.toList := ⟨_, rfl⟩
  rw [← g3] at g1
  replace g1 := Lib.hid g1
  replace g2 := Lib.hid g2
  replace g3 := Lib.hid g3.symm
  clear hlaw hU0 hV0
  go_wp2_with fail
  (with_reducible refine (refEscape_any sp true _ (by omega)).mono ?_); rintro e w2 ⟨rfl, rfl⟩
  go_wp2_with fail
  (with_reducible refine (refEscape_any va true _ (by omega)).mono ?_); rintro e w2 ⟨rfl, rfl⟩
  generalize (⟨(E.escape true sp.data.toList).toArray⟩ : ByteArray) = U at *
  generalize (⟨(E.escape true va.data.toList).toArray⟩ : ByteArray) = V at *
  have q1 : ¬ 9223372036854775807 < 14 + U.size := by omega
  have q2 : ¬ 9223372036854775807 < 14 + U.size + 7 := by omega
  have q3 : ¬ 9223372036854775807 < 14 + U.size + 7 + V.size := by omega
  have q4 : ¬ 9223372036854775807 < 14 + U.size + 7 + V.size + 14 := by omega
  have q5 : ¬ 9223372036854775807 < 14 + U.size + 7 + V.size + 12 := by omega
  have q6 : ¬ 9223372036854775807 < 14 + U.size + 7 + V.size + 12 + U.size := by omega
  have q7 : ¬ 9223372036854775807 < 14 + U.size + 7 + V.size + 12 + U.size + 12 := by omega
  replace hz1 := Lib.hid hz1
  replace hz2 := Lib.hid hz2
  go_wp2_with fail
  (with_reducible refine (gParse_form _ _ hz1.out (hE.on t1)).mono ?_)
  rintro x w2 ⟨k, sp1, nm, d, ao, bo, n1, c1, n2, c2, rfl, hN, b2⟩
  have t2 := t1.trans (b2.mono t1.size)
  have bN := (Below.refl w2.heap.size w2).alloc (Nat.le_refl _) (.cells #[.int .i64 k, .string sp1, .string nm, .slice ao n1 c1, .slice bo n2 c2, .string d] 26)
  have kA := Cells.new w2 26 #[.int .i64 k, .string sp1, .string nm, .slice ao n1 c1, .slice bo n2 c2, .string d]
  have t3 := t2.trans (bN.mono t2.size)
  have hN1 := Lib.hid (hN.on bN)
  have hE3 := hE.on t3
  rw [g1.out]
  clear hN b2 t1 t2 bN hE g1 hz1
  go_wp2_with fail
  (with_reducible refine (gParse_form _ _ hz2.out hE3).mono ?_)
  rintro x w4 ⟨k', sp', nm', d', ao', bo', n1', c1', n2', c2', rfl, hN', b4⟩
  rw [g3.out]
  have t4 := t3.trans (b4.mono t3.size)
  have kA4 := kA.on b4
  have hN4 := hN1.out.on b4
  have hw4 : w2.heap.size < w4.heap.size := kA4.lt
  have bB := (Below.refl w4.heap.size w4).alloc (Nat.le_refl _) (.cells #[.int .i64 k', .string sp', .string nm', .slice ao' n1' c1', .slice bo' n2' c2', .string d'] 26)
  have kB := Cells.new w4 26 #[.int .i64 k', .string sp', .string nm', .slice ao' n1' c1', .slice bo' n2' c2', .string d']
  have t5 := t4.trans (bB.mono t4.size)
  have kA5 := kA4.on bB
  have hN5 := hN4.on bB
  have hB5 := hN'.on bB
  have x0 := kA5.cell (i := 0) (v := .int .i64 k) rfl
  have x1 := kA5.cell (i := 1) (v := .string sp1) rfl
  have x2 := kA5.cell (i := 2) (v := .string nm) rfl
  have x3 := kA5.cell (i := 3) (v := .slice ao n1 c1) rfl
  have x4 := kA5.cell (i := 4) (v := .slice bo n2 c2) rfl
  have x5 := kA5.cell (i := 5) (v := .string d) rfl
  have z0 := kB.cell (i := 0) (v := .int .i64 k') rfl
  have z1 := kB.cell (i := 1) (v := .string sp') rfl
  have z2 := kB.cell (i := 2) (v := .string nm') rfl
  have z3 := kB.cell (i := 3) (v := .slice ao' n1' c1') rfl
  have z4 := kB.cell (i := 4) (v := .slice bo' n2' c2') rfl
  have z5 := kB.cell (i := 5) (v := .string d') rfl
  have hne : ¬ w2.heap.size = w4.heap.size := by omega
  rw [g2.out] at hN5
  have hsame := Lib.hid (refSameNode_any hN5 _ (Below.refl _ _) (fun _ => True) _ _ hB5)
  clear hN1 hN4 hN5 hB5 hN' b4 bB t4 t3 kA kA4 kB kA5 hE3 g2 g3 hz2
  go_wp2_with fail
  (refine hsame.out.mono ?_); rintro e w6 ⟨⟨q, rfl, hr⟩, b6⟩
  obtain rfl : q = true := hr.2 rfl
  have t6 := t5.trans (b6.mono t5.size)
  clear hsame b6 t5
  go_wp2_with fail
  go_ret
  exact ⟨rfl, t6⟩
end Go.Proofs.YtcoeijjmahneeaaGreatDoor
