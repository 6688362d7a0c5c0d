/-
  What the document's own words of references come to: letters and digits, among, first, begins, up.
-/
import Derived.Test.YtmfmgbjkbadndaaLoc
import Derived.WalkSmall
namespace Go.Proofs.Ytmfmgbjkbadndaa
open Go.RowKit

namespace Lc
def alphaB (b : UInt8) : Bool := decide ((65 ≤ b.toNat ∧ b.toNat ≤ 90) ∨ (97 ≤ b.toNat ∧ b.toNat ≤ 122))
def digitB (b : UInt8) : Bool := decide (48 ≤ b.toNat ∧ b.toNat ≤ 57)
def hexB (b : UInt8) : Bool := decide ((48 ≤ b.toNat ∧ b.toNat ≤ 57) ∨ (65 ≤ b.toNat ∧ b.toNat ≤ 70) ∨ (97 ≤ b.toNat ∧ b.toNat ≤ 102))
def str (l : List UInt8) : ByteArray := ⟨l.toArray⟩
def has (l : List UInt8) (c : UInt8) : Bool := l.contains c
theorem str_list (l : List UInt8) : (str l).data.toList = l := by simp [str]
theorem str_of {s : ByteArray} {l : List UInt8} (h : s.data.toList = l) : s = str l := bytes_eq (by rw [str_list, h])
theorem str_size (l : List UInt8) : (str l).size = l.length := by rw [← list_len, str_list]
theorem has_more {l : List UInt8} {k : Nat} (h : k < l.length) (c : UInt8) : (l.take (k + 1)).contains c = ((l.take k).contains c || c == l[k]) := by
  rw [List.take_succ_eq_append_getElem h, Bool.eq_iff_iff]
  simp only [List.contains_iff_mem, List.mem_append, List.mem_singleton, Bool.or_eq_true, beq_iff_eq]
theorem has_all {l : List UInt8} {k : Nat} (h : ¬ k < l.length) (c : UInt8) : (l.take k).contains c = l.contains c := by rw [List.take_of_length_le (by omega)]
theorem cut_at {l m : List UInt8} {k : Nat} (hk : k ≤ l.length) (h : (l.take k).all (fun b => !m.contains b) = true) (h2 : ∀ h : k < l.length, m.contains l[k] = true) : (cut l m).length = k := by
  have h1 := cut_full (t := l.take k) (r := l.drop k) (m := m) (fun b hb => by
    have := List.all_eq_true.1 h b hb
    simpa using this) (by
    by_cases hl : k < l.length
    · exact .inr ⟨l[k], l.drop (k + 1), List.drop_eq_getElem_cons hl, h2 hl⟩
    · exact .inl (List.drop_of_length_le (by omega)))
  rw [List.take_append_drop] at h1
  rw [h1.1, List.length_take]
  omega
theorem up_at {l : List UInt8} {j : Nat} (hj : j < l.length) (h : (47 : UInt8) ∉ l.drop (j + 1)) (he : l[j] = 47) : up l = l.take j := by
  have := up_piece (l := l.take j) h
  rwa [← he, ← List.drop_eq_getElem_cons hj, List.take_append_drop] at this
theorem free_more {l : List UInt8} {j : Nat} (hj : j < l.length) (h : (47 : UInt8) ∉ l.drop (j + 1)) (he : l[j] ≠ 47) : (47 : UInt8) ∉ l.drop j := by
  rw [List.drop_eq_getElem_cons hj, List.mem_cons]
  rintro (e | e)
  · exact he e.symm
  · exact h e
end Lc

set_option maxRecDepth 100000 in
set_option maxHeartbeats 3200000 in
theorem lAlpha_any (b : UInt8) (w : World) : Calls Try.prog 49 #[.int .u8 (b.toNat : Int)] w fun e w' => e = .returned (.bool (Lc.alphaB b)) ∧ w = w' := by
  obtain ⟨Q, hQ⟩ : ∃ Q, Q = Lc.alphaB b := ⟨_, rfl⟩
  rw [← hQ]
  unfold Lc.alphaB at hQ
  have hb := b.toNat_lt
  generalize b.toNat = n at *
  replace hQ := Lib.hid hQ
  go_enter Try.func49, Try.ntmps49
  go_wp2
  all_goals
      go_ret
      refine ⟨ret_bool ?_, rfl⟩
      rw [hQ.out]
      first
        | (rw [eq_comm, decide_eq_true_eq]; omega)
        | (rw [eq_comm, decide_eq_false_iff_not]; omega)
        | (rw [Bool.eq_iff_iff]; simp only [Bool.or_eq_true, decide_eq_true_eq]; omega)

set_option maxRecDepth 100000 in
set_option maxHeartbeats 3200000 in
theorem lDigit_any (b : UInt8) (w : World) : Calls Try.prog 50 #[.int .u8 (b.toNat : Int)] w fun e w' => e = .returned (.bool (Lc.digitB b)) ∧ w = w' := by
  obtain ⟨Q, hQ⟩ : ∃ Q, Q = Lc.digitB b := ⟨_, rfl⟩
  rw [← hQ]
  unfold Lc.digitB at hQ
  have hb := b.toNat_lt
  generalize b.toNat = n at *
  replace hQ := Lib.hid hQ
  go_enter Try.func50, Try.ntmps50
  go_wp2
  all_goals
      go_ret
      refine ⟨ret_bool ?_, rfl⟩
      rw [hQ.out]
      first
        | (rw [eq_comm, decide_eq_true_eq]; omega)
        | (rw [eq_comm, decide_eq_false_iff_not]; omega)
        | (rw [Bool.eq_iff_iff]; simp only [decide_eq_true_eq]; omega)

set_option maxRecDepth 100000 in
set_option maxHeartbeats 3200000 in
theorem lHex_any (b : UInt8) (w : World) : Calls Try.prog 52 #[.int .u8 (b.toNat : Int)] w fun e w' => e = .returned (.bool (Lc.hexB b)) ∧ w = w' := by
  obtain ⟨Q, hQ⟩ : ∃ Q, Q = Lc.hexB b := ⟨_, rfl⟩
  rw [← hQ]
  unfold Lc.hexB at hQ
  obtain ⟨D, hD⟩ : ∃ D, D = Lc.digitB b := ⟨_, rfl⟩
  have hd := lDigit_any b
  rw [← hD] at hd
  unfold Lc.digitB at hD
  have hb := b.toNat_lt
  generalize b.toNat = n at *
  replace hQ := Lib.hid hQ
  replace hD := Lib.hid hD
  replace hd := Lib.hid hd
  go_enter Try.func52, Try.ntmps52
  go_wp2_with fail
  (refine (hd.out _).mono ?_); rintro e w1 ⟨rfl, rfl⟩
  cases D
  · have hn : ¬ (48 ≤ n ∧ n ≤ 57) := of_decide_eq_false hD.out.symm
    clear hD
    go_wp2
    all_goals
      go_ret
      refine ⟨ret_bool ?_, rfl⟩
      rw [hQ.out]
      first
        | (rw [eq_comm, decide_eq_true_eq]; omega)
        | (rw [eq_comm, decide_eq_false_iff_not]; omega)
        | (rw [Bool.eq_iff_iff]; simp only [Bool.or_eq_true, decide_eq_true_eq]; omega)
  · have hn : 48 ≤ n ∧ n ≤ 57 := of_decide_eq_true hD.out.symm
    clear hD
    go_wp2
    all_goals
      go_ret
      refine ⟨ret_bool ?_, rfl⟩
      rw [hQ.out]
      first
        | (rw [eq_comm, decide_eq_true_eq]; omega)
        | (rw [eq_comm, decide_eq_false_iff_not]; omega)
        | (rw [Bool.eq_iff_iff]; simp only [Bool.or_eq_true, Bool.and_eq_true, decide_eq_true_eq]; omega)

set_option maxRecDepth 100000 in
set_option maxHeartbeats 3200000 in
theorem lAmong_any (c : UInt8) (m : ByteArray) (w : World) (hs : m.size ≤ maxLen) : Calls Try.prog 51 #[.int .u8 (c.toNat : Int), .string m] w fun e w' => e = .returned (.bool (Lc.has m.data.toList c)) ∧ w = w' := by
  have hsm : m.size ≤ 9223372036854775807 := hs
  have hlen := Lib.hid (list_len m)
  go_enter Try.func51, Try.ntmps51
  go_wp2_with fail
  go_loop [5] (fun i => ∃ k : Nat, k ≤ m.size ∧ i = .int .i64 k ∧ Hid ((m.data.toList.take k).contains c = false)) (fun i => m.size - (intOf i).toNat)
  case atStart => exact ⟨0, Nat.zero_le _, rfl, Lib.hid (by simp)⟩
  case round =>
    obtain ⟨k, hk, rfl, hall⟩ := hrel
    by_cases hlt : k < m.size
    · have hst := Lc.has_more (l := m.data.toList) (k := k) (by rw [hlen.out]; exact hlt) c
      rw [hall.out, Bool.false_or] at hst
      have hmk : m.data.toList[k]'(by rw [hlen.out]; exact hlt) = m[k] := rfl
      rw [hmk] at hst
      by_cases he : m[k] = c
      · have hb : ((m[k].toNat : Int) == (c.toNat : Int)) = true := by rw [he]; simp
        have hfin : Hid (Lc.has m.data.toList c = true) := Lib.hid (by
          rw [Lc.has, List.contains_iff_mem, ← he, ← hmk]; exact List.getElem_mem _)
        clear hst hmk he
        go_wp2_with fail
        go_ret
        exact ⟨ret_bool hfin.out.symm, rfl⟩
      · have hb : ((m[k].toNat : Int) == (c.toNat : Int)) = false := by
          rw [beq_eq_false_iff_ne]
          exact fun e => he (UInt8.toNat_inj.1 (by omega))
        have hnx : Hid ((m.data.toList.take (k + 1)).contains c = false) := Lib.hid (by rw [hst, beq_eq_false_iff_ne]; exact fun e => he e.symm)
        clear hst hmk he
        go_wp2_with fail
        go_round
        case rel => exact ⟨k + 1, by omega, by go_num, hnx⟩
        case measure => simp [intOf]; omega
    · have hfin : Hid (Lc.has m.data.toList c = false) := Lib.hid (by rw [Lc.has, ← Lc.has_all (k := k) (by rw [hlen.out]; exact hlt)]; exact hall.out)
      go_wp2_with fail
      go_ret
      exact ⟨ret_bool hfin.out.symm, rfl⟩

set_option maxRecDepth 100000 in
set_option maxHeartbeats 3200000 in
theorem lFirst_any (s m : ByteArray) (w : World) (hs : s.size ≤ maxLen) (hm : m.size ≤ maxLen) : Calls Try.prog 37 #[.string s, .string m] w fun e w' => e = .returned (.int .i64 ((Lc.cut s.data.toList m.data.toList).length : Nat)) ∧ w = w' := by
  have hsm : s.size ≤ 9223372036854775807 := hs
  have hlen := Lib.hid (list_len s)
  have hend : Hid (∀ k, k ≤ s.size → (s.data.toList.take k).all (fun b => !m.data.toList.contains b) = true → (∀ h : k < s.size, m.data.toList.contains s[k] = true) → (Lc.cut s.data.toList m.data.toList).length = k) := Lib.hid (fun k h1 h2 h3 =>
    Lc.cut_at (by rw [list_len]; exact h1) h2 (fun h => h3 (by rw [← list_len]; exact h)))
  go_enter Try.func37, Try.ntmps37
  go_wp2_with fail
  go_loop [5] (fun i => ∃ k : Nat, k ≤ s.size ∧ i = .int .i64 k ∧ Hid ((s.data.toList.take k).all (fun b => !m.data.toList.contains b) = true)) (fun i => s.size - (intOf i).toNat)
  case atStart => exact ⟨0, Nat.zero_le _, rfl, Lib.hid (by simp)⟩
  case round =>
    obtain ⟨k, hk, rfl, hall⟩ := hrel
    by_cases hlt : k < s.size
    · go_wp2_with fail
      (with_reducible refine (lAmong_any s[k] m _ hm).mono ?_); rintro e w1 ⟨rfl, rfl⟩
      cases hb : Lc.has m.data.toList s[k]
      · have hst := Lib.hid (all_take (fun b => !m.data.toList.contains b) s.data.toList k (by rw [hlen.out]; exact hlt))
        have hr := Lib.hid (hst.out.trans (show _ = true by rw [hall.out]; show (true && !(Lc.has m.data.toList s[k])) = true; rw [hb]; rfl))
        replace hb := Lib.hid hb
        clear hst
        go_wp2_with fail
        go_round
        case rel => exact ⟨k + 1, by omega, by go_num, hr⟩
        case measure => simp [intOf]; omega
      · have hr := Lib.hid (hend.out k hk hall.out (fun _ => hb))
        replace hb := Lib.hid hb
        go_wp2_with fail
        go_ret
        exact ⟨ret_int (by rw [hr.out]), rfl⟩
    · have hr := Lib.hid (hend.out k hk hall.out (fun h => absurd h hlt))
      have hks : Hid (k = s.size) := Lib.hid (by omega)
      go_wp2_with fail
      go_ret
      exact ⟨ret_int (by rw [hr.out, hks.out]), rfl⟩

set_option maxRecDepth 100000 in
set_option maxHeartbeats 3200000 in
theorem lBegins_any (s m : ByteArray) (l : List UInt8) (w : World) (hs : s.size ≤ maxLen) (hl : m.data.toList = l) : Calls Try.prog 35 #[.string s, .string m] w fun e w' => e = .returned (.bool (Lc.begins l s.data.toList)) ∧ w = w' := by
  have hsm : s.size ≤ 9223372036854775807 := hs
  have hml : m.size = l.length := by rw [← hl, list_len]
  go_enter Try.func35, Try.ntmps35
  by_cases h : m.size ≤ s.size
  · obtain ⟨q, hq⟩ : ∃ q, q = Lc.begins l s.data.toList := ⟨_, rfl⟩
    have hb : ((s.extract 0 m.size).toList == m.toList) = q := by
      rw [hq, Lc.begins, ByteArray.toList_eq, ByteArray.toList_eq, take_list, hl, hml]
    rw [← hq]
    replace hq := Lib.hid hq
    replace hml := Lib.hid hml
    replace hl := Lib.hid hl
    go_wp2
    go_ret
    exact ⟨rfl, rfl⟩
  · have hfin : Hid (Lc.begins l s.data.toList = false) := Lib.hid (by
      cases hb : Lc.begins l s.data.toList with
      | false => rfl
      | true =>
        have := Lc.begins_len hb
        rw [list_len, ← hml] at this
        exact absurd this h)
    replace hml := Lib.hid hml
    replace hl := Lib.hid hl
    go_wp2
    go_ret
    exact ⟨ret_bool hfin.out.symm, rfl⟩

set_option maxRecDepth 100000 in
set_option maxHeartbeats 3200000 in
theorem lUp_any (s : ByteArray) (w : World) (hs : s.size ≤ maxLen) : Calls Try.prog 36 #[.string s] w fun e w' => e = .returned (.string (Lc.str (Lc.up s.data.toList))) ∧ w = w' := by
  have hsm : s.size ≤ 9223372036854775807 := hs
  have hlen := Lib.hid (list_len s)
  go_enter Try.func36, Try.ntmps36
  go_wp2_with fail
  go_loop [3] (fun i => ∃ k : Nat, k ≤ s.size ∧ i = .int .i64 ((k : Int) - 1) ∧ Hid ((47 : UInt8) ∉ s.data.toList.drop k)) (fun i => (intOf i + 1).toNat)
  case atStart => exact ⟨s.size, Nat.le_refl _, rfl, Lib.hid (by rw [List.drop_of_length_le (by rw [hlen.out]; omega)]; simp)⟩
  case round =>
    obtain ⟨k, hk, rfl, hall⟩ := hrel
    cases k with
    | zero =>
      have hfin : Hid (Lc.up s.data.toList = []) := Lib.hid (Lc.up_free (by have := hall.out; rwa [List.drop_zero] at this))
      rw [show ((0 : Nat) : Int) - 1 = -1 from rfl]
      go_wp2_with fail
      go_ret
      refine ⟨?_, rfl⟩
      rw [hfin.out]
      rfl
    | succ j =>
      rw [show ((j + 1 : Nat) : Int) - 1 = (j : Int) by omega]
      have hj : j < s.size := by omega
      have hmk : s.data.toList[j]'(by rw [hlen.out]; exact hj) = s[j] := rfl
      by_cases he : s[j] = 47
      · have hb : ((s[j].toNat : Int) == 47) = true := by rw [he]; rfl
        have hfin : Hid (Lc.up s.data.toList = s.data.toList.take j) := Lib.hid (Lc.up_at (by rw [hlen.out]; exact hj) hall.out (hmk.trans he))
        clear hmk he
        go_wp2_with fail
        go_ret
        refine ⟨?_, rfl⟩
        rw [hfin.out, ← Lc.str_of (take_list s j)]
        rfl
      · have hb : ((s[j].toNat : Int) == 47) = false := by
          rw [beq_eq_false_iff_ne]
          exact fun e => he (UInt8.toNat_inj.1 (by have : (47 : UInt8).toNat = 47 := rfl; omega))
        have hnx : Hid ((47 : UInt8) ∉ s.data.toList.drop j) := Lib.hid (Lc.free_more (by rw [hlen.out]; exact hj) hall.out (fun e => he (hmk.symm.trans e)))
        clear hmk he
        go_wp2_with fail
        go_round
        case rel => exact ⟨j, by omega, by go_num, hnx⟩
        case measure => simp [intOf]
end Go.Proofs.Ytmfmgbjkbadndaa
