/-
  The statements' own comparison of two lists of texts.
-/
import Derived.Test.YtpgdmoaegnehbaaGreatDoorOwnStrs
import Derived.BigQuiet
import Derived.Deep.Cut
import Derived.Deep.DeepCutAuto
import Derived.Deep.QuietTactic
namespace Go.Proofs.YtpgdmoaegnehbaaGreatDoor
open Go.RowKit

theorem text_eq {a b : List UInt8} : (⟨a.toArray⟩ : ByteArray) = ⟨b.toArray⟩ ↔ a = b := by
  constructor
  · intro h; injection h with h; simpa using congrArg Array.toList h
  · rintro rfl; rfl
theorem text_yes {a b : List UInt8} (h : a = b) : ((⟨a.toArray⟩ : ByteArray).toList == (⟨b.toArray⟩ : ByteArray).toList) = true := by subst h; simp
theorem text_no {a b : List UInt8} (h : ¬ a = b) : ((⟨a.toArray⟩ : ByteArray).toList == (⟨b.toArray⟩ : ByteArray).toList) = false := by
  rw [ByteArray.toList_eq, ByteArray.toList_eq]
  simpa using h
theorem take_more {A B : List (List UInt8)} {k : Nat} (h : A.take k = B.take k) (ha : k < A.length) (hb : k < B.length) (e : A[k] = B[k]) : A.take (k + 1) = B.take (k + 1) := by
  rw [List.take_succ_eq_append_getElem ha, List.take_succ_eq_append_getElem hb, h, e]

set_option maxRecDepth 100000 in
set_option maxHeartbeats 3200000 in
theorem sameTexts_any {ao bo : Option Addr} {ca cb : Nat} (A B : List (List UInt8)) (w : World) (hA : TextsIn w ao A) (hB : TextsIn w bo B) (hl : A.length ≤ maxLen) (_hl2 : B.length ≤ maxLen) :
    Calls Tryz.prog 12 #[.slice ao A.length ca, .slice bo B.length cb] w fun e w' => e = .returned (.bool (decide (A = B))) ∧ Below w.heap.size w w' := by
  unfold maxLen at hl _hl2
  go_enter Tryz.func12, Tryz.ntmps12
  by_cases hne : A.length = B.length
  case neg =>
    have hf := Lib.hid (show decide (A = B) = false from decide_eq_false (fun e => hne (by rw [e])))
    have hz : ((A.length : Int) != (B.length : Int)) = true := by rw [bne_iff_ne]; omega
    go_wp2_with fail
    go_ret
    exact ⟨by rw [hf.out]; rfl, Below.refl _ _⟩
  obtain ⟨n, hn⟩ : ∃ n, A.length = n := ⟨_, rfl⟩
  have hnb : B.length = n := by omega
  rw [hn, hnb]
  rw [hn] at hl
  clear hne _hl2
  replace hn := Lib.hid hn
  replace hnb := Lib.hid hnb
  go_wp2_with fail
  go_loopw [5] (fun i wr => ∃ k : Nat, k ≤ n ∧ i = .int .i64 (k : Int) ∧ Hid (A.take k = B.take k) ∧ Hid (Below w.heap.size w wr)) (fun i _ => n - (intOf i).toNat)
  case atStart => exact ⟨0, Nat.zero_le _, rfl, Lib.hid (by simp), Lib.hid (Below.refl _ _)⟩
  case round =>
    obtain ⟨k, hk, rfl, hD, bw⟩ := hrel
    by_cases hlt : k < n
    · have ha : k < A.length := by rw [hn.out]; exact hlt
      have hb : k < B.length := by rw [hnb.out]; exact hlt
      obtain ⟨b, off, rfl, d0⟩ := (hA.below bw.out) k ha
      obtain ⟨b2, off2, rfl, d1⟩ := (hB.below bw.out) k hb
      by_cases he : A[k] = B[k]
      · have hD' := Lib.hid (take_more hD.out ha hb he)
        have ht := text_yes he
        clear he hD
        generalize (⟨A[k].toArray⟩ : ByteArray) = x at *
        generalize (⟨B[k].toArray⟩ : ByteArray) = y at *
        go_upto_region 6 with fail
        go_quiet (fail)
        all_goals
          go_wp2_with fail
          go_round
          case rel => exact ⟨k + 1, by omega, by go_num, hD', Lib.hid (bw.out.trans ⟨rfl, rfl, rfl, Nat.le_refl _, fun _ _ => rfl⟩)⟩
          case measure => simp [intOf]; omega
      · have ht := text_no he
        have hf := Lib.hid (show decide (A = B) = false from decide_eq_false (fun e => he (by simp only [e])))
        clear he hD
        generalize (⟨A[k].toArray⟩ : ByteArray) = x at *
        generalize (⟨B[k].toArray⟩ : ByteArray) = y at *
        go_upto_region 6 with fail
        go_quiet (fail)
        all_goals
          go_wp2_with fail
          go_ret
          exact ⟨by rw [hf.out]; rfl, bw.out.trans ⟨rfl, rfl, rfl, Nat.le_refl _, fun _ _ => rfl⟩⟩
    · have hf := Lib.hid (show decide (A = B) = true from decide_eq_true (by have := hD.out; rwa [List.take_of_length_le (by rw [hn.out]; omega), List.take_of_length_le (by rw [hnb.out]; omega)] at this))
      go_wp2_with fail
      go_ret
      exact ⟨by rw [hf.out]; rfl, bw.out⟩
end Go.Proofs.YtpgdmoaegnehbaaGreatDoor
