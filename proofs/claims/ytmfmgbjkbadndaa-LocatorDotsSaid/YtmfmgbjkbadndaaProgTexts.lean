/-
  What the program's words of texts come to: contracts of Check, Name, Plain, Lines.
-/
import Derived.Test.YtmfmgbjkbadndaaProgHead
import Derived.WalkSmall
namespace Go.Proofs.Ytmfmgbjkbadndaa
open Go.RowKit

theorem check_yes {l : List UInt8} (h : ¬ G.span G.char l < l.length) : G.checkN l = 0 := by
  have := G.span_le G.char l
  unfold G.checkN G.check
  rw [if_pos (decide_eq_true (by omega))]
theorem check_no {l : List UInt8} (h : G.span G.char l < l.length) : G.checkN l = 50 := by
  unfold G.checkN G.check
  rw [if_neg (by rw [decide_eq_true_eq]; omega)]

set_option maxHeartbeats 800000 in
theorem gCheck_any (s : ByteArray) (w : World) (hs : s.size ≤ 1000000) (_ : Env w) : Calls Try.prog 23 #[.string s] w fun e w' => e = .returned (.int .i64 (G.checkN s.data.toList)) ∧ Below w.heap.size w w' := by
  have hy := Lib.hid (@check_yes s.data.toList)
  have hn := Lib.hid (@check_no s.data.toList)
  have hlen := Lib.hid (list_len s)
  go_enter Try.func23, Try.ntmps23
  go_wp2_with fail
  (with_reducible refine (head_chars s _ hs).mono ?_); rintro e w1 ⟨rfl, b1⟩
  rw [G.hd_span]
  generalize G.span G.char s.data.toList = k at *
  by_cases h : k < s.size
  · have hr := Lib.hid (hn.out (by rw [hlen.out]; exact h))
    go_wp2
    go_ret
    exact ⟨ret_int hr.out.symm, b1⟩
  · have hr := Lib.hid (hy.out (by rw [hlen.out]; exact h))
    go_wp2
    go_ret
    exact ⟨ret_int hr.out.symm, b1⟩

theorem lit_colon : (⟨#[58]⟩ : ByteArray).data.toList = [58] := rfl

theorem lit_crlf : (⟨#[13, 10]⟩ : ByteArray).data.toList = [13, 10] := rfl
theorem lit_cr : (⟨#[13]⟩ : ByteArray).data.toList = [13] := rfl
theorem lit_lf : (⟨#[10]⟩ : ByteArray).data.toList = [10] := rfl
theorem count_room (s old : ByteArray) (h1 : 1 ≤ old.size) (hs : s.size ≤ 1000000) : s.size + Lib.countB s old * (⟨#[10]⟩ : ByteArray).size ≤ 140737488355328 := by
  have := Lib.countB_mul_le old h1 s.size s (Nat.le_refl _)
  have h2 : Lib.countB s old ≤ Lib.countB s old * old.size := Nat.le_mul_of_pos_right _ h1
  have h3 : (⟨#[10]⟩ : ByteArray).size = 1 := rfl
  rw [h3]
  omega

end Go.Proofs.Ytmfmgbjkbadndaa
