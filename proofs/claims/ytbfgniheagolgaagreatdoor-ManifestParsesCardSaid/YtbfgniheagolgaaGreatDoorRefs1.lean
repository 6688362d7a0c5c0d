/-
  What the document's own functions of a manifest come to: contracts of Name, digits, Sum, right, spell, Print.
-/
import Derived.Test.YtbfgniheagolgaaGreatDoorSum
import Derived.Test.YtbfgniheagolgaaGreatDoorPrint
import Derived.Test.YtbfgniheagolgaaGreatDoorPlate
namespace Go.Proofs.YtbfgniheagolgaaGreatDoor
open Go.RowKit

set_option maxRecDepth 100000 in
set_option maxHeartbeats 800000 in
theorem refName_any (s : ByteArray) (w : World) (hs : s.size ≤ maxLen) :
    Calls Tryz.prog 26 #[.string s] w fun e w' => e = .returned (.bool (M.name s.data.toList)) ∧ w = w' := by
  unfold maxLen at hs
  have hlen : s.data.toList.length = s.size := by simp
  by_cases h1 : s.size = 0
  · have HN0 : M.name s.data.toList = false := by
      unfold M.name; rw [hlen]; simp; omega
    have HN := Lib.hid HN0
    obtain rfl : s = ByteArray.empty := ByteArray.size_eq_zero_iff.1 h1
    clear hlen HN0
    go_enter Tryz.func26, Tryz.ntmps26
    go_wp2
    go_ret
    exact ⟨ret_bool HN.out.symm, rfl⟩
  have hne : s.toList.isEmpty = false := by
    rw [List.isEmpty_eq_false_iff]; intro h
    rw [ByteArray.toList_eq] at h
    have := congrArg List.length h
    rw [hlen, List.length_nil] at this
    omega
  by_cases h32 : 32 < s.size
  · have HN0 : M.name s.data.toList = false := by
      unfold M.name; rw [hlen]; simp; omega
    have HN := Lib.hid HN0
    clear hlen HN0
    go_enter Tryz.func26, Tryz.ntmps26
    go_wp2
    go_ret
    exact ⟨ret_bool HN.out.symm, rfl⟩
  have HN0 : M.name s.data.toList = s.data.toList.all M.nameByte := by
    unfold M.name; rw [hlen]; simp; omega
  have HN := Lib.hid HN0
  have hlen' := Lib.hid hlen
  clear HN0 hlen
  go_enter Tryz.func26, Tryz.ntmps26
  go_wp2_with fail
  go_loop [3] (fun i => ∃ k : Nat, k ≤ s.size ∧ i = .int .i64 k ∧ Hid ((s.data.toList.take k).all M.nameByte = true)) (fun i => s.size - (intOf i).toNat)
  case atStart => exact ⟨0, Nat.zero_le _, rfl, Lib.hid (by simp)⟩
  case round =>
    obtain ⟨k, hk, rfl, hall⟩ := hrel
    by_cases hlt : k < s.size
    · have hst := Lib.hid (all_take M.nameByte s.data.toList k (by rw [hlen'.out]; exact hlt))
      have hno := Lib.hid (all_not M.nameByte s.data.toList k (by rw [hlen'.out]; exact hlt))
      have hgk : s.data.toList[k]'(by rw [hlen'.out]; exact hlt) = s[k] := rfl
      rw [hgk] at hst hno
      clear hgk
      have hb := (s[k]).toNat_lt
      have hc : M.nameByte s[k] = ((decide (97 ≤ (s[k]).toNat) && decide ((s[k]).toNat ≤ 122)) || (decide (48 ≤ (s[k]).toNat) && decide ((s[k]).toNat ≤ 57)) || decide ((s[k]).toNat = 46) || decide ((s[k]).toNat = 45)) := rfl
      cases hq : M.nameByte s[k]
      · have hq1 := hq
        rw [hc] at hq1
        simp only [Bool.or_eq_false_iff, Bool.and_eq_false_iff, decide_eq_false_iff_not] at hq1
        have hq := Lib.hid hq
        have hc := Lib.hid hc
        have ha := Lib.hid (hno.out hq.out)
        go_wp2
        all_goals first
          | (exfalso; omega)
          | (go_ret; exact ⟨ret_bool (by rw [HN.out]; exact ha.out.symm), rfl⟩)
          | (exfalso; simp only [Bool.not_eq_false', beq_iff_eq, decide_eq_true_eq] at *; omega)
      · have hq1 := hq
        rw [hc] at hq1
        simp only [Bool.or_eq_true, Bool.and_eq_true, decide_eq_true_eq] at hq1
        have hq := Lib.hid hq
        have hc := Lib.hid hc
        have ha := Lib.hid (show (List.take (k + 1) s.data.toList).all M.nameByte = true by rw [hst.out, hall.out]; exact hq.out)
        go_wp2
        all_goals first
          | (exact ⟨⟨k + 1, by omega, by go_num, ha⟩, by simp [intOf]; omega⟩)
          | (exfalso; omega)
          | (exfalso; simp only [Bool.not_eq_true', beq_eq_false_iff_ne, ne_eq] at *; omega)
    · have hfull : s.data.toList.take k = s.data.toList := List.take_of_length_le (by rw [hlen'.out]; omega)
      have hall2 : Hid (s.data.toList.all M.nameByte = true) := Lib.hid (by rw [← hfull]; exact hall.out)
      clear hfull
      go_wp2
      go_ret
      exact ⟨ret_bool (by rw [HN.out]; exact hall2.out.symm), rfl⟩

end Go.Proofs.YtbfgniheagolgaaGreatDoor
