/-
  What the document's own words of tokens come to: contracts of TokenByte, Token, Skip, Lower.
-/
import Derived.Test.YtpgdmoaegnehbaaGreatDoorMedia
import Derived.BigQuiet
import Derived.Deep.QuietTactic
import Derived.WalkSmall
namespace Go.Proofs.YtpgdmoaegnehbaaGreatDoor
open Go.RowKit

namespace Md
theorem tok_at {l : List UInt8} {k : Nat} (h : (l.take k).all tokB = true) (h2 : ∀ h : k < l.length, tokB l[k] = false) : tok l = l.take k ∧ tokR l = l.drop k := by
  unfold tok tokR
  induction l generalizing k with
  | nil => simp
  | cons b m ih =>
    cases k with
    | zero =>
      have := h2 (by simp)
      simp only [List.getElem_cons_zero] at this
      rw [List.takeWhile_cons_of_neg (by rw [this]; simp), List.dropWhile_cons_of_neg (by rw [this]; simp)]
      exact ⟨rfl, rfl⟩
    | succ k =>
      simp only [List.take_succ_cons, List.all_cons, Bool.and_eq_true] at h
      have := ih h.2 (fun hk => by
        have := h2 (by simp; omega)
        rw [List.getElem_cons_succ] at this; exact this)
      rw [List.takeWhile_cons_of_pos h.1, List.dropWhile_cons_of_pos h.1, List.take_succ_cons, this.1, this.2]
      exact ⟨rfl, rfl⟩
theorem skip_stop (b : UInt8) (t : List UInt8) (h : blankB b = false) : skip (b :: t) = b :: t := List.dropWhile_cons_of_neg (by rw [h]; simp)
theorem skip_one (b : UInt8) (t : List UInt8) (h : blankB b = true) : skip (b :: t) = skip t := List.dropWhile_cons_of_pos h
end Md

theorem ret_strs {a b c d : ByteArray} (h1 : a = c) (h2 : b = d) : Ending.returned (.tuple #[.string a, .string b]) = .returned (.tuple #[.string c, .string d]) := by rw [h1, h2]
/-- Token's answers, Skip's, Lower's. -/
def tkA (s : ByteArray) : ByteArray := ⟨(Md.tok s.data.toList).toArray⟩
def tkB (s : ByteArray) : ByteArray := ⟨(Md.tokR s.data.toList).toArray⟩
def skA (s : ByteArray) : ByteArray := ⟨(Md.skip s.data.toList).toArray⟩
def loA (s : ByteArray) : ByteArray := ⟨(Md.lower s.data.toList).toArray⟩
theorem mk_list (l : List UInt8) : (⟨l.toArray⟩ : ByteArray).data.toList = l := by simp
theorem tkA_list (s : ByteArray) : (tkA s).data.toList = Md.tok s.data.toList := mk_list _
theorem tkB_list (s : ByteArray) : (tkB s).data.toList = Md.tokR s.data.toList := mk_list _
theorem skA_list (s : ByteArray) : (skA s).data.toList = Md.skip s.data.toList := mk_list _
theorem loA_list (s : ByteArray) : (loA s).data.toList = Md.lower s.data.toList := mk_list _
theorem size_le {a b : ByteArray} (h : a.data.toList.length ≤ b.data.toList.length) : a.size ≤ b.size := by rw [list_len, list_len] at h; exact h
theorem tkA_size (s : ByteArray) : (tkA s).size ≤ s.size := size_le (by rw [tkA_list]; exact Md.tok_length _)
theorem tkB_size (s : ByteArray) : (tkB s).size ≤ s.size := size_le (by rw [tkB_list]; exact Md.tokR_length _)
theorem skA_size (s : ByteArray) : (skA s).size ≤ s.size := size_le (by rw [skA_list]; exact Md.skip_length _)
theorem loA_size (s : ByteArray) : (loA s).size = s.size := by
  rw [← list_len, loA_list, Md.lower, List.length_map, list_len]

set_option maxRecDepth 100000 in
set_option maxHeartbeats 3200000 in
theorem refTokB_any (b : UInt8) (w : World) : Calls Tryz.prog 61 #[.int .u8 (b.toNat : Int)] w fun e w' => e = .returned (.bool (Md.tokB b)) ∧ w = w' := by
  have hm : Md.tokB b = (decide ((48 ≤ b.toNat ∧ b.toNat ≤ 57) ∨ (65 ≤ b.toNat ∧ b.toNat ≤ 90) ∨ (97 ≤ b.toNat ∧ b.toNat ≤ 122) ∨ b.toNat = 33 ∨ (35 ≤ b.toNat ∧ b.toNat ≤ 39) ∨ (42 ≤ b.toNat ∧ b.toNat ≤ 43) ∨ (45 ≤ b.toNat ∧ b.toNat ≤ 46) ∨ (94 ≤ b.toNat ∧ b.toNat ≤ 96) ∨ b.toNat = 124 ∨ b.toNat = 126)) := by
    rw [Bool.eq_iff_iff, decide_eq_true_eq]
    simp only [Md.tokB, Md.inB, Bool.or_eq_true, Bool.and_eq_true, decide_eq_true_eq]
    omega
  rw [hm]
  have hb := b.toNat_lt
  generalize b.toNat = n at *
  clear hm
  go_enter Tryz.func61, Tryz.ntmps61
  by_cases hd : (48 ≤ n ∧ n ≤ 57) ∨ (65 ≤ n ∧ n ≤ 90) ∨ (97 ≤ n ∧ n ≤ 122)
  · rw [decide_eq_true (by omega)]
    rcases hd with ⟨h1, h2⟩ | ⟨h1, h2⟩ | ⟨h1, h2⟩
    all_goals
      go_wp2
      go_ret
      exact ⟨rfl, rfl⟩
  · obtain ⟨Q, hQ⟩ : ∃ Q : Bool, Q = decide ((48 ≤ n ∧ n ≤ 57) ∨ (65 ≤ n ∧ n ≤ 90) ∨ (97 ≤ n ∧ n ≤ 122) ∨ n = 33 ∨ (35 ≤ n ∧ n ≤ 39) ∨ (42 ≤ n ∧ n ≤ 43) ∨ (45 ≤ n ∧ n ≤ 46) ∨ (94 ≤ n ∧ n ≤ 96) ∨ n = 124 ∨ n = 126) := ⟨_, rfl⟩
    rw [← hQ]
    replace hQ := Lib.hid hQ
    have hn : (n < 48 ∨ (57 < n ∧ n < 65) ∨ (90 < n ∧ n < 97) ∨ 122 < n) := by omega
    clear hd
    rcases hn with h | ⟨h, h'⟩ | ⟨h, h'⟩ | h
    all_goals
      go_wp2
      all_goals
        go_ret
        refine ⟨ret_bool ?_, rfl⟩
        rw [hQ.out]
        first
          | (rw [eq_comm, decide_eq_true_eq]; omega)
          | (rw [eq_comm, decide_eq_false_iff_not]; omega)
          | (simp only [beq_eq_false_iff_ne, ne_eq, beq_iff_eq] at *; rw [eq_comm, decide_eq_false_iff_not]; omega)
          | (simp only [beq_eq_false_iff_ne, ne_eq, beq_iff_eq] at *; rw [eq_comm, decide_eq_true_eq]; omega)

set_option maxHeartbeats 800000 in
theorem refToken_any (s : ByteArray) (w : World) (hs : s.size ≤ maxLen) :
    Calls Tryz.prog 42 #[.string s] w fun e w' => e = .returned (.tuple #[.string (tkA s), .string (tkB s)]) ∧ Below w.heap.size w w' := by
  have hsm : s.size ≤ 9223372036854775807 := hs
  have hlen := Lib.hid (list_len s)
  have hend : Hid (∀ k, k ≤ s.size → (s.data.toList.take k).all Md.tokB = true → (∀ h : k < s.size, Md.tokB s[k] = false) → s.extract 0 k = tkA s ∧ s.extract k s.size = tkB s) := Lib.hid (fun k _ h1 h2 => by
    obtain ⟨e1, e2⟩ := Md.tok_at h1 (fun h => h2 (by rw [← list_len]; exact h))
    exact ⟨bytes_eq (by rw [take_list, tkA_list, e1]), bytes_eq (by rw [drop_list, tkB_list, e2])⟩)
  go_enter Tryz.func42, Tryz.ntmps42
  go_wp2_with fail
  go_loop [4] (fun i => ∃ k : Nat, k ≤ s.size ∧ i = .int .i64 k ∧ Hid ((s.data.toList.take k).all Md.tokB = true)) (fun i => s.size - (intOf i).toNat)
  case atStart => exact ⟨0, Nat.zero_le _, rfl, Lib.hid (by simp)⟩
  case round =>
    obtain ⟨k, hk, rfl, hall⟩ := hrel
    by_cases hlt : k < s.size
    · go_wp2_with fail
      (with_reducible refine (refTokB_any s[k] _).mono ?_); rintro e w1 ⟨rfl, rfl⟩
      cases hb : Md.tokB s[k]
      · obtain ⟨r1, r2⟩ := hend.out k hk hall.out (fun _ => hb)
        replace r1 := Lib.hid r1
        replace r2 := Lib.hid r2
        replace hb := Lib.hid hb
        go_wp2_with fail
        go_quiet (fail)
        go_wp2_with fail
        go_ret2
        exact ⟨ret_strs r1.out r2.out, below_drewN (Below.refl _ _) _⟩
      · have hst := Lib.hid (all_take Md.tokB s.data.toList k (by rw [hlen.out]; exact hlt))
        have hr := Lib.hid (hst.out.trans (show _ = true by rw [hall.out]; exact hb))
        replace hb := Lib.hid hb
        clear hst
        go_wp2_with fail
        go_round
        case rel => exact ⟨k + 1, by omega, by go_num, hr⟩
        case measure => simp [intOf]; omega
    · obtain ⟨r1, r2⟩ := hend.out k hk hall.out (fun h => absurd h hlt)
      replace r1 := Lib.hid r1
      replace r2 := Lib.hid r2
      go_wp2_with fail
      go_quiet (fail)
      go_wp2_with fail
      go_ret2
      exact ⟨ret_strs r1.out r2.out, below_drewN (Below.refl _ _) _⟩

end Go.Proofs.YtpgdmoaegnehbaaGreatDoor
