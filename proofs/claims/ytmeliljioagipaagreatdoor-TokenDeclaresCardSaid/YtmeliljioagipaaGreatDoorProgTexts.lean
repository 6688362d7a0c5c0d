/-
  What the program's words of texts come to: contracts of Check, Name, Plain, Lines.
-/
import Derived.Test.YtmeliljioagipaaGreatDoorProgHead
import Derived.WalkSmall
namespace Go.Proofs.YtmeliljioagipaaGreatDoor
open Go.RowKit

theorem check_yes {l : List UInt8} (h : ¬ G.span G.char l < l.length) : G.checkN l = 0 := by
  have := G.span_le G.char l
  unfold G.checkN G.check
  rw [if_pos (decide_eq_true (by omega))]
theorem check_no {l : List UInt8} (h : G.span G.char l < l.length) : G.checkN l = 50 := by
  unfold G.checkN G.check
  rw [if_neg (by rw [decide_eq_true_eq]; omega)]

set_option maxHeartbeats 800000 in
theorem gCheck_any (s : ByteArray) (w : World) (hs : s.size ≤ 1000000) (_ : Env w) : Calls Tryz.prog 9 #[.string s] w fun e w' => e = .returned (.int .i64 (G.checkN s.data.toList)) ∧ Below w.heap.size w w' := by
  have hy := Lib.hid (@check_yes s.data.toList)
  have hn := Lib.hid (@check_no s.data.toList)
  have hlen := Lib.hid (list_len s)
  go_enter Tryz.func9, Tryz.ntmps9
  go_wp2_with fail
  (with_reducible refine (head_chars s _ hs).mono ?_); rintro e w1 ⟨rfl, b1⟩
  rw [G.hd_span]
  generalize G.span G.char s.data.toList = k at *
  by_cases h : k < s.size
  · have hr := Lib.hid (hn.out (by rw [hlen.out]; exact h))
    go_wp2
    go_ret
    exact ⟨ret_int hr.out.symm, b1⟩
  · have hr := Lib.hid (hy.out (by rw [hlen.out]; exact h))
    go_wp2
    go_ret
    exact ⟨ret_int hr.out.symm, b1⟩

set_option maxHeartbeats 800000 in
theorem gName_any (s : ByteArray) (w : World) (hs : s.size ≤ 1000000) (_ : Env w) : Calls Tryz.prog 69 #[.string s] w fun e w' => e = .returned (.tuple #[.string (G.nmA s), .string (G.nmB s), .int .i64 (G.nmE s)]) ∧ Below w.heap.size w w' := by
  have hle := G.name_le s.data.toList
  rw [list_len] at hle
  have hno := Lib.hid (@G.nm_none s)
  have hso := Lib.hid (@G.nm_some s _ rfl)
  go_enter Tryz.func69, Tryz.ntmps69
  go_wp2_with fail
  (with_reducible refine (head_names s _ hs).mono ?_); rintro e w1 ⟨rfl, b1⟩
  rw [G.hd_name]
  generalize G.name s.data.toList = k at *
  by_cases h : k = 0
  · have hr := Lib.hid (hno.out h)
    subst h
    go_wp2
    go_ret3
    exact ⟨ret_name hr.out.1.symm hr.out.2.1.symm hr.out.2.2.symm, b1⟩
  · have hr := Lib.hid (hso.out h)
    go_wp2
    go_quiet (fail)
    go_wp2
    go_ret3
    exact ⟨ret_name hr.out.1.symm hr.out.2.1.symm hr.out.2.2.symm, below_drewN b1 _⟩

theorem lit_colon : (⟨#[58]⟩ : ByteArray).data.toList = [58] := rfl

theorem lit_crlf : (⟨#[13, 10]⟩ : ByteArray).data.toList = [13, 10] := rfl
theorem lit_cr : (⟨#[13]⟩ : ByteArray).data.toList = [13] := rfl
theorem lit_lf : (⟨#[10]⟩ : ByteArray).data.toList = [10] := rfl
theorem count_room (s old : ByteArray) (h1 : 1 ≤ old.size) (hs : s.size ≤ 1000000) : s.size + Lib.countB s old * (⟨#[10]⟩ : ByteArray).size ≤ 140737488355328 := by
  have := Lib.countB_mul_le old h1 s.size s (Nat.le_refl _)
  have h2 : Lib.countB s old ≤ Lib.countB s old * old.size := Nat.le_mul_of_pos_right _ h1
  have h3 : (⟨#[10]⟩ : ByteArray).size = 1 := rfl
  rw [h3]
  omega

set_option maxHeartbeats 800000 in
theorem gLines_any (s : ByteArray) (w : World) (hs : s.size ≤ 1000000) (hE : Env w) : Calls Tryz.prog 11 #[.string s] w fun e w' => e = .returned (.string ⟨(G.lines s.data.toList).toArray⟩) ∧ Below w.heap.size w w' := by
  obtain ⟨m, hm⟩ := hE.most
  have hl := G.pairs_length s.data.toList
  rw [list_len] at hl
  have hres := Lib.hid (G.lines_replaced s.data.toList)
  go_enter Tryz.func11, Tryz.ntmps11
  go_wp2_with fail
  (with_reducible refine (Tryz.strings_ReplaceAll s _ _ m _ (by omega) hm (by decide) (count_room _ _ (by decide) hs)).mono ?_); rintro e w1 ⟨rfl, b1⟩
  obtain ⟨m1, hm1⟩ := (hE.on b1).most
  rw [lit_crlf, lit_lf]
  generalize Lib.replaceAll s.data.toList [13, 10] [10] = l at *
  have hz : (⟨l.toArray⟩ : ByteArray).size = l.length := by simp [ByteArray.size]
  go_wp2_with fail
  (with_reducible refine (Tryz.strings_ReplaceAll ⟨l.toArray⟩ _ _ m1 _ (by rw [hz]; omega) hm1 (by decide) (count_room _ _ (by decide) (by rw [hz]; omega))).mono ?_); rintro e w2 ⟨rfl, b2⟩
  go_wp2
  go_ret
  exact ⟨ret_str (by rw [← hres.out]), b1.trans (b2.mono b1.size)⟩
end Go.Proofs.YtmeliljioagipaaGreatDoor
