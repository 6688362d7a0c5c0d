/-
  What the document's own words of references come to: Print, Split, Parse.
-/
import Derived.Test.YtmfmgbjkbadndaaLocMem
import Derived.Test.YtmfmgbjkbadndaaRefNames
import Derived.Deep.DeepCutAuto
namespace Go.Proofs.Ytmfmgbjkbadndaa
open Go.RowKit

theorem uri_alloc (w : World) (u : Lc.U) : Cells (w.alloc (.cells (uArr u) 24)) w.heap.size 24 (uArr u) := Cells.new _ _ _

set_option maxRecDepth 100000 in
set_option maxHeartbeats 12800000 in
theorem lPrint_any (u : Lc.U) (w : World) (hz : Lc.Small u) : Calls Try.prog 15 #[.agg (uArr u)] w fun e w' => e = .returned (.string (Lc.str (Lc.print u))) ∧ Below w.heap.size w w' := by
  obtain ⟨c0, c1, c2, c3, c4, f0, f1, f2, f3⟩ := u
  obtain ⟨u, hu⟩ : ∃ u, u = (⟨c0, c1, c2, c3, c4, f0, f1, f2, f3⟩ : Lc.U) := ⟨_, rfl⟩
  obtain ⟨Q, hQ⟩ : ∃ Q, Q = Lc.print u := ⟨_, rfl⟩
  rw [← hu, ← hQ, hu]
  replace hQ := Lib.hid hQ
  replace hu := Lib.hid hu
  obtain ⟨z0, z1, z2, z3, z4⟩ := hz
  dsimp only at z0 z1 z2 z3 z4
  obtain ⟨x0, x1, x2, x3, x4, x5, x6, x7, x8⟩ := uri_open (uri_alloc w ⟨c0, c1, c2, c3, c4, f0, f1, f2, f3⟩)
  have b0 := (Below.refl w.heap.size w).alloc (Nat.le_refl _) (.cells (uArr ⟨c0, c1, c2, c3, c4, f0, f1, f2, f3⟩) 24)
  unfold uArr at *
  dsimp only at *
  rw [← Lc.str_size] at z0 z1 z2 z3 z4
  have l0 := Lib.hid (Lc.str_list c0)
  have l1 := Lib.hid (Lc.str_list c1)
  have l2 := Lib.hid (Lc.str_list c2)
  have l3 := Lib.hid (Lc.str_list c3)
  have l4 := Lib.hid (Lc.str_list c4)
  generalize Lc.str c0 = a0 at *
  generalize Lc.str c1 = a1 at *
  generalize Lc.str c2 = a2 at *
  generalize Lc.str c3 = a3 at *
  generalize Lc.str c4 = a4 at *
  replace b0 := Lib.hid b0
  go_enter Try.func15, Try.ntmps15
  go_upto_region 1 with fail
  generalize hW0 : w.alloc (.cells #[.string a0, .string a1, .string a2, .string a3, .string a4, .bool f0, .bool f1, .bool f2, .bool f3] 24) = w0 at *
  clear hW0
  go_upto_if 5 with fail
  go_cut [3] (fun x wx => ∃ t : ByteArray, x = .string t ∧ t.size ≤ 100001 ∧ Hid (t.data.toList = Lc.pS u) ∧ w0 = wx)
  case first =>
    cases f0
    case false =>
      have q : Hid (((⟨#[]⟩ : ByteArray)).data.toList = Lc.pS u) := Lib.hid (by unfold Lc.pS; rw [hu.out]; simp)
      go_wp2_with fail
      go_meet
      exact ⟨_, rfl, by decide, q, rfl⟩
    case true =>
      have q : Hid ((a0 ++ (⟨#[58]⟩ : ByteArray)).data.toList = Lc.pS u) := Lib.hid (by unfold Lc.pS; rw [hu.out]; simp [l0.out])
      have qs : (a0 ++ (⟨#[58]⟩ : ByteArray)).size ≤ 100001 := by rw [ByteArray.size_append]; show a0.size + 1 ≤ _; omega
      have s1 : ¬ 9223372036854775807 < a0.size + 1 := by omega
      replace qs := Lib.hid qs
      go_wp2_with fail
      go_meet
      exact ⟨_, rfl, qs.out, q, rfl⟩
  case rest =>
  obtain ⟨t, rfl, ht, hl, rfl⟩ := hcut
  go_upto_if 10 with fail
  go_cut [3] (fun x wx => ∃ t : ByteArray, x = .string t ∧ t.size ≤ 200003 ∧ Hid (t.data.toList = Lc.pH u) ∧ w0 = wx)
  case first =>
    cases f1
    case false =>
      have q : Hid ((t).data.toList = Lc.pH u) := Lib.hid (by rw [Lc.pH, show u.hasH = false by rw [hu.out], if_neg (by simp)]; exact hl.out)
      have qs := Lib.hid (show (t).size ≤ 200003 by omega)
      go_wp2_with fail
      go_meet
      exact ⟨_, rfl, qs.out, q, rfl⟩
    case true =>
      have q : Hid ((t ++ (⟨#[47, 47]⟩ : ByteArray) ++ a1).data.toList = Lc.pH u) := Lib.hid (by rw [Lc.pH, show u.hasH = true by rw [hu.out], if_pos rfl, show u.host = c1 by rw [hu.out], ← hl.out]; simp [l1.out])
      have qs : (t ++ (⟨#[47, 47]⟩ : ByteArray) ++ a1).size ≤ 200003 := by rw [ByteArray.size_append, ByteArray.size_append]; show t.size + 2 + a1.size ≤ _; omega
      have s1 : ¬ 9223372036854775807 < t.size + 2 := by omega
      have s2 : ¬ 9223372036854775807 < t.size + 2 + a1.size := by omega
      replace qs := Lib.hid qs
      go_wp2_with fail
      go_meet
      exact ⟨_, rfl, qs.out, q, rfl⟩
  case rest =>
  obtain ⟨t, rfl, ht, hl, rfl⟩ := hcut
  have s3 : ¬ 9223372036854775807 < t.size + a2.size := by omega
  have q3 : Hid ((t ++ a2).data.toList = Lc.pP u) := Lib.hid (by unfold Lc.pP; rw [ByteArray.data_append, Array.toList_append, hl.out, l2.out, hu.out])
  have z5 : (t ++ a2).size ≤ 300003 := by rw [ByteArray.size_append]; omega
  go_upto_if 21 with fail
  go_cut [3] (fun x wx => ∃ t : ByteArray, x = .string t ∧ t.size ≤ 400004 ∧ Hid (t.data.toList = Lc.pQ u) ∧ w0 = wx)
  case first =>
    cases f2
    case false =>
      have q : Hid ((t ++ a2).data.toList = Lc.pQ u) := Lib.hid (by rw [Lc.pQ, show u.hasQ = false by rw [hu.out], if_neg (by simp)]; exact q3.out)
      have qs := Lib.hid (show (t ++ a2).size ≤ 400004 by omega)
      go_wp2_with fail
      go_meet
      exact ⟨_, rfl, qs.out, q, rfl⟩
    case true =>
      have q : Hid ((t ++ a2 ++ (⟨#[63]⟩ : ByteArray) ++ a3).data.toList = Lc.pQ u) := Lib.hid (by rw [Lc.pQ, show u.hasQ = true by rw [hu.out], if_pos rfl, show u.query = c3 by rw [hu.out], ← q3.out]; simp [l3.out])
      have qs : (t ++ a2 ++ (⟨#[63]⟩ : ByteArray) ++ a3).size ≤ 400004 := by rw [ByteArray.size_append, ByteArray.size_append, ByteArray.size_append]; show t.size + a2.size + 1 + a3.size ≤ _; omega
      have s1 : ¬ 9223372036854775807 < t.size + a2.size + 1 := by omega
      have s2 : ¬ 9223372036854775807 < t.size + a2.size + 1 + a3.size := by omega
      replace qs := Lib.hid qs
      go_wp2_with fail
      go_meet
      exact ⟨_, rfl, qs.out, q, rfl⟩
  case rest =>
  obtain ⟨t, rfl, ht, hl, rfl⟩ := hcut
  go_upto_if 28 with fail
  go_cut [3] (fun x wx => ∃ t : ByteArray, x = .string t ∧ t.size ≤ 500005 ∧ Hid (t.data.toList = Lc.print u) ∧ w0 = wx)
  case first =>
    cases f3
    case false =>
      have q : Hid ((t).data.toList = Lc.print u) := Lib.hid (by rw [Lc.print, show u.hasF = false by rw [hu.out], if_neg (by simp)]; exact hl.out)
      have qs := Lib.hid (show (t).size ≤ 500005 by omega)
      go_wp2_with fail
      go_meet
      exact ⟨_, rfl, qs.out, q, rfl⟩
    case true =>
      have q : Hid ((t ++ (⟨#[35]⟩ : ByteArray) ++ a4).data.toList = Lc.print u) := Lib.hid (by rw [Lc.print, show u.hasF = true by rw [hu.out], if_pos rfl, show u.frag = c4 by rw [hu.out], ← hl.out]; simp [l4.out])
      have qs : (t ++ (⟨#[35]⟩ : ByteArray) ++ a4).size ≤ 500005 := by rw [ByteArray.size_append, ByteArray.size_append]; show t.size + 1 + a4.size ≤ _; omega
      have s1 : ¬ 9223372036854775807 < t.size + 1 := by omega
      have s2 : ¬ 9223372036854775807 < t.size + 1 + a4.size := by omega
      replace qs := Lib.hid qs
      go_wp2_with fail
      go_meet
      exact ⟨_, rfl, qs.out, q, rfl⟩
  case rest =>
  obtain ⟨t, rfl, ht, hl, rfl⟩ := hcut
  have hfin := Lib.hid (Lc.str_of (hl.out.trans hQ.out.symm))
  go_wp2_with fail
  go_ret
  exact ⟨by rw [← hfin.out]; rfl, b0.out⟩
end Go.Proofs.Ytmfmgbjkbadndaa
