/-
  What the document's own word of the code point at a text's head comes to: contract of First.
-/
import Derived.Test.YtmfmgbjkbadndaaParts
import Derived.Test.YtmfmgbjkbadndaaFirst
namespace Go.Proofs.Ytmfmgbjkbadndaa
open Go.RowKit

set_option maxRecDepth 100000 in
set_option maxHeartbeats 3200000 in
theorem refFirst_any (s : ByteArray) (w : World) (hs : s.size ≤ maxLen) :
    Calls Try.prog 47 #[.string s] w fun e w' => e = .returned (.tuple #[.int .i64 ((G.first s.data.toList).1 : Int), .int .i64 ((G.first s.data.toList).2 : Int)]) ∧ w = w' := by
  unfold maxLen at hs
  have hlen : s.data.toList.length = s.size := by simp
  by_cases h1 : s.size = 0
  · obtain rfl : s = ByteArray.empty := ByteArray.size_eq_zero_iff.1 h1
    clear hlen
    go_enter Try.func47, Try.ntmps47
    go_wp2
    go_ret2
    exact ⟨rfl, rfl⟩
  have h0 : 0 < s.size := by omega
  have hne : s.toList.isEmpty = false := by
    rw [List.isEmpty_eq_false_iff]; intro h
    rw [ByteArray.toList_eq] at h
    exact lst_ne h0 h
  have hF := G.first_N s.data.toList (lst_ne h0)
  rw [hlen, getD_of s 0 h0] at hF
  generalize hq1 : (s.data.toList.getD 1 0).toNat = q1 at hF
  generalize hq2 : (s.data.toList.getD 2 0).toNat = q2 at hF
  generalize hq3 : (s.data.toList.getD 3 0).toNat = q3 at hF
  have g1 : (h : 1 < s.size) → (s[1]).toNat = q1 := fun h => by rw [← hq1, getD_of s 1 h]
  have g2 : (h : 2 < s.size) → (s[2]).toNat = q2 := fun h => by rw [← hq2, getD_of s 2 h]
  have g3 : (h : 3 < s.size) → (s[3]).toNat = q3 := fun h => by rw [← hq3, getD_of s 3 h]
  have l1 : q1 < 256 := by rw [← hq1]; exact UInt8.toNat_lt _
  have l2 : q2 < 256 := by rw [← hq2]; exact UInt8.toNat_lt _
  have l3 : q3 < 256 := by rw [← hq3]; exact UInt8.toNat_lt _
  have l0 := (s[0]).toNat_lt
  generalize hb0 : (s[0]).toNat = b0 at hF l0
  clear hq1 hq2 hq3 hlen
  replace hF := Lib.hid hF
  by_cases ha : b0 < 128
  · have hr := Lib.hid (hF.out.trans (G.firstN_ascii ha))
    clear g1 g2 g3
    go_enter Try.func47, Try.ntmps47
    go_wp2_with fail
    go_ret2
    exact ⟨ret_two hr.out rfl rfl, rfl⟩
  by_cases hbad : b0 < 192 ∨ 248 ≤ b0
  · have hr := Lib.hid (hF.out.trans (G.firstN_bad (by omega) hbad l0))
    clear g1 g2 g3
    go_enter Try.func47, Try.ntmps47
    go_wp2
    all_goals first
      | (exfalso; omega)
      | (go_ret2; exact ⟨ret_two hr.out rfl rfl, rfl⟩)
  by_cases h2 : b0 < 224
  · have hT := Lib.hid (hF.out.trans (G.firstN_two (by omega) h2 l1))
    by_cases hn : s.size < 2
    · have hr := Lib.hid (hT.out.trans (if_neg (by omega)))
      clear hT g1 g2 g3
      go_enter Try.func47, Try.ntmps47
      go_wp2
      all_goals first
        | (exfalso; omega)
        | (go_ret2; exact ⟨ret_two hr.out (by omega) rfl, rfl⟩)
    replace g1 := g1 (by omega)
    clear g2 g3
    by_cases hc1 : ¬ (128 ≤ q1 ∧ q1 ≤ 191)
    · have hr := Lib.hid (hT.out.trans (if_neg (by omega)))
      clear hT
      go_enter Try.func47, Try.ntmps47
      go_wp2_with fail
      refine wp_loop_rounds 1 ?_
      rw [rounds_succ]
      go_wp2
      all_goals first
        | (exfalso; omega)
        | (go_ret2; exact ⟨ret_two hr.out (by omega) rfl, rfl⟩)
    by_cases hv : 128 ≤ (b0 - 192) * 64 + (q1 - 128)
    · have hr := Lib.hid (hT.out.trans (if_pos (by omega)))
      clear hT
      go_enter Try.func47, Try.ntmps47
      go_wp2_with fail
      refine wp_loop_rounds 2 ?_
      rw [rounds_succ]
      go_wp2
      rw [rounds_succ]
      go_wp2
      all_goals first
        | (exfalso; omega)
        | (go_ret2; exact ⟨ret_two hr.out (by omega) rfl, rfl⟩)
    · have hr := Lib.hid (hT.out.trans (if_neg (by omega)))
      clear hT
      go_enter Try.func47, Try.ntmps47
      go_wp2_with fail
      refine wp_loop_rounds 2 ?_
      rw [rounds_succ]
      go_wp2
      rw [rounds_succ]
      go_wp2
      all_goals first
        | (exfalso; omega)
        | (go_ret2; exact ⟨ret_two hr.out (by omega) rfl, rfl⟩)
  by_cases h3 : b0 < 240
  · have hT := Lib.hid (hF.out.trans (G.firstN_three (by omega) h3 l1 l2))
    by_cases hn : s.size < 3
    · have hr := Lib.hid (hT.out.trans (if_neg (by omega)))
      clear hT g1 g2 g3
      go_enter Try.func47, Try.ntmps47
      go_wp2
      all_goals first
        | (exfalso; omega)
        | (go_ret2; exact ⟨ret_two hr.out (by omega) rfl, rfl⟩)
    replace g1 := g1 (by omega)
    replace g2 := g2 (by omega)
    clear g3
    by_cases hc1 : ¬ (128 ≤ q1 ∧ q1 ≤ 191)
    · have hr := Lib.hid (hT.out.trans (if_neg (by omega)))
      clear hT
      go_enter Try.func47, Try.ntmps47
      go_wp2_with fail
      refine wp_loop_rounds 1 ?_
      rw [rounds_succ]
      go_wp2
      all_goals first
        | (exfalso; omega)
        | (go_ret2; exact ⟨ret_two hr.out (by omega) rfl, rfl⟩)
    by_cases hc2 : ¬ (128 ≤ q2 ∧ q2 ≤ 191)
    · have hr := Lib.hid (hT.out.trans (if_neg (by omega)))
      clear hT
      go_enter Try.func47, Try.ntmps47
      go_wp2_with fail
      refine wp_loop_rounds 2 ?_
      rw [rounds_succ]
      go_wp2
      rw [rounds_succ]
      go_wp2
      all_goals first
        | (exfalso; omega)
        | (go_ret2; exact ⟨ret_two hr.out (by omega) rfl, rfl⟩)
    by_cases hv : 2048 ≤ ((b0 - 224) * 64 + (q1 - 128)) * 64 + (q2 - 128) ∧ (((b0 - 224) * 64 + (q1 - 128)) * 64 + (q2 - 128) < 55296 ∨ 57344 ≤ ((b0 - 224) * 64 + (q1 - 128)) * 64 + (q2 - 128))
    · have hr := Lib.hid (hT.out.trans (if_pos (by omega)))
      clear hT
      go_enter Try.func47, Try.ntmps47
      go_wp2_with fail
      refine wp_loop_rounds 3 ?_
      rw [rounds_succ]
      go_wp2
      rw [rounds_succ]
      go_wp2
      rw [rounds_succ]
      go_wp2
      all_goals first
        | (exfalso; omega)
        | (go_ret2; exact ⟨ret_two hr.out (by omega) rfl, rfl⟩)
    · have hr := Lib.hid (hT.out.trans (if_neg (by omega)))
      clear hT
      go_enter Try.func47, Try.ntmps47
      go_wp2_with fail
      refine wp_loop_rounds 3 ?_
      rw [rounds_succ]
      go_wp2
      rw [rounds_succ]
      go_wp2
      rw [rounds_succ]
      go_wp2
      all_goals first
        | (exfalso; omega)
        | (go_ret2; exact ⟨ret_two hr.out (by omega) rfl, rfl⟩)
  have hT := Lib.hid (hF.out.trans (G.firstN_four (by omega) (by omega) l1 l2 l3))
  by_cases hn : s.size < 4
  · have hr := Lib.hid (hT.out.trans (if_neg (by omega)))
    clear hT g1 g2 g3
    go_enter Try.func47, Try.ntmps47
    go_wp2
    all_goals first
      | (exfalso; omega)
      | (go_ret2; exact ⟨ret_two hr.out (by omega) rfl, rfl⟩)
  replace g1 := g1 (by omega)
  replace g2 := g2 (by omega)
  replace g3 := g3 (by omega)
  by_cases hc1 : ¬ (128 ≤ q1 ∧ q1 ≤ 191)
  · have hr := Lib.hid (hT.out.trans (if_neg (by omega)))
    clear hT
    go_enter Try.func47, Try.ntmps47
    go_wp2_with fail
    refine wp_loop_rounds 1 ?_
    rw [rounds_succ]
    go_wp2
    all_goals first
      | (exfalso; omega)
      | (go_ret2; exact ⟨ret_two hr.out (by omega) rfl, rfl⟩)
  by_cases hc2 : ¬ (128 ≤ q2 ∧ q2 ≤ 191)
  · have hr := Lib.hid (hT.out.trans (if_neg (by omega)))
    clear hT
    go_enter Try.func47, Try.ntmps47
    go_wp2_with fail
    refine wp_loop_rounds 2 ?_
    rw [rounds_succ]
    go_wp2
    rw [rounds_succ]
    go_wp2
    all_goals first
      | (exfalso; omega)
      | (go_ret2; exact ⟨ret_two hr.out (by omega) rfl, rfl⟩)
  by_cases hc3 : ¬ (128 ≤ q3 ∧ q3 ≤ 191)
  · have hr := Lib.hid (hT.out.trans (if_neg (by omega)))
    clear hT
    go_enter Try.func47, Try.ntmps47
    go_wp2_with fail
    refine wp_loop_rounds 3 ?_
    rw [rounds_succ]
    go_wp2
    rw [rounds_succ]
    go_wp2
    rw [rounds_succ]
    go_wp2
    all_goals first
      | (exfalso; omega)
      | (go_ret2; exact ⟨ret_two hr.out (by omega) rfl, rfl⟩)
  by_cases hv : 65536 ≤ (((b0 - 240) * 64 + (q1 - 128)) * 64 + (q2 - 128)) * 64 + (q3 - 128) ∧ (((b0 - 240) * 64 + (q1 - 128)) * 64 + (q2 - 128)) * 64 + (q3 - 128) ≤ 1114111
  · have hr := Lib.hid (hT.out.trans (if_pos (by omega)))
    clear hT
    go_enter Try.func47, Try.ntmps47
    go_wp2_with fail
    refine wp_loop_rounds 4 ?_
    rw [rounds_succ]
    go_wp2
    rw [rounds_succ]
    go_wp2
    rw [rounds_succ]
    go_wp2
    rw [rounds_succ]
    go_wp2
    all_goals first
      | (exfalso; omega)
      | (go_ret2; exact ⟨ret_two hr.out (by omega) rfl, rfl⟩)
  · have hr := Lib.hid (hT.out.trans (if_neg (by omega)))
    clear hT
    go_enter Try.func47, Try.ntmps47
    go_wp2_with fail
    refine wp_loop_rounds 4 ?_
    rw [rounds_succ]
    go_wp2
    rw [rounds_succ]
    go_wp2
    rw [rounds_succ]
    go_wp2
    rw [rounds_succ]
    go_wp2
    all_goals first
      | (exfalso; omega)
      | (go_ret2; exact ⟨ret_two hr.out (by omega) rfl, rfl⟩)
end Go.Proofs.Ytmfmgbjkbadndaa
