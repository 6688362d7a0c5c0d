/-
  What each call on a plate comes to, as far as a name's form goes: contracts of isNameByte, isName, New, outcome, Create's deferred closure, spend, take, do, Create, and of manifest's isName.
-/
import Derived.Test.YtbfgniheagolgaaGreatDoorRows
import Derived.Test.YtbfgniheagolgaaGreatDoorMath
import Derived.WalkKit
import Derived.WalkSpells
import Derived.Lib.Hide
import Derived.Defers
import Derived.Recover
import Derived.Orders
import Derived.Maps.OwnSet
import Derived.Maps.OwnOps
namespace Go.Proofs.YtbfgniheagolgaaGreatDoor
open Go.RowKit
open Go.Maps (Keyed)

theorem ret_bool {a b : Bool} (h : a = b) : Ending.returned (.bool a) = .returned (.bool b) := by rw [h]

theorem isNameByte_any (c : UInt8) (w : World) :
    Calls Tryz.prog 49 #[.int .u8 (c.toNat : Int)] w fun e w' => e = .returned (.bool (M.nameByte c)) ∧ w = w' := by
  have hb := c.toNat_lt
  generalize hn : c.toNat = n at hb
  have H : M.nameByte c = ((decide (97 ≤ n) && decide (n ≤ 122)) || (decide (48 ≤ n) && decide (n ≤ 57)) || decide (n = 46) || decide (n = 45)) := by unfold M.nameByte; rw [hn]
  have HH := Lib.hid H
  clear hn H
  go_enter Tryz.func49, Tryz.ntmps49
  go_wp2
  all_goals go_ret
  all_goals refine ⟨ret_bool ?_, rfl⟩
  all_goals rw [HH.out, Bool.eq_iff_iff]
  all_goals simp
  all_goals omega

theorem all_take (p : UInt8 → Bool) (l : List UInt8) (k : Nat) (h : k < l.length) : (l.take (k + 1)).all p = ((l.take k).all p && p l[k]) := by
  rw [List.take_succ_eq_append_getElem h, List.all_append, List.all_cons, List.all_nil, Bool.and_true]

theorem all_not (p : UInt8 → Bool) (l : List UInt8) (k : Nat) (h : k < l.length) (hn : p l[k] = false) : l.all p = false := by
  rw [← Bool.not_eq_true, List.all_eq_true]
  intro x
  have := x l[k] (List.getElem_mem h)
  rw [hn] at this; cases this

set_option maxHeartbeats 400000 in
theorem isName_any (s : ByteArray) (w : World) (hs : s.size ≤ maxLen) :
    Calls Tryz.prog 39 #[.string s] w fun e w' => e = .returned (.bool (M.name s.data.toList)) ∧ w = w' := by
  unfold maxLen at hs
  have hlen : s.data.toList.length = s.size := by simp
  by_cases hb : 1 ≤ s.size ∧ s.size ≤ 32
  · obtain ⟨h1, h32⟩ := hb
    have HN0 : M.name s.data.toList = s.data.toList.all M.nameByte := by
      unfold M.name; rw [hlen]; simp [h1, h32]
    have HN := Lib.hid HN0
    have hlen' := Lib.hid hlen
    clear HN0 hlen
    go_enter Tryz.func39, Tryz.ntmps39
    go_wp2_with fail
    go_loop [14] (fun i => ∃ k : Nat, k ≤ s.size ∧ i = .int .i64 k ∧ Hid ((s.data.toList.take k).all M.nameByte = true)) (fun i => s.size - (intOf i).toNat)
    case atStart => exact ⟨0, Nat.zero_le _, rfl, Lib.hid (by simp)⟩
    case round =>
      obtain ⟨k, hk, rfl, hall⟩ := hrel
      by_cases hlt : k < s.size
      · have hst := Lib.hid (all_take M.nameByte s.data.toList k (by simpa using hlt))
        have hno := Lib.hid (all_not M.nameByte s.data.toList k (by simpa using hlt))
        go_wp2_with fail
        (with_reducible refine (isNameByte_any _ _).mono ?_); rintro e w1 ⟨rfl, rfl⟩
        cases hq : M.nameByte s[k]
        · have hq := Lib.hid hq
          go_wp2
          go_ret
          exact ⟨ret_bool (by rw [HN.out]; exact (hno.out hq.out).symm), rfl⟩
        · have hq := Lib.hid hq
          go_wp2
          go_round
          case rel => exact ⟨k + 1, by omega, by go_num, Lib.hid (by rw [hst.out, hall.out]; exact hq.out)⟩
          case measure => simp [intOf]; omega
      · go_wp2
        go_ret
        have hfull : s.data.toList.take k = s.data.toList := List.take_of_length_le (by rw [hlen'.out]; omega)
        exact ⟨ret_bool (by rw [HN.out, ← hall.out, hfull]), rfl⟩
  · have HN0 : M.name s.data.toList = false := by
      unfold M.name; rw [hlen]; simp; omega
    have HN := Lib.hid HN0
    clear hlen HN0
    go_enter Tryz.func39, Tryz.ntmps39
    by_cases h1 : s.size < 1
    · go_wp2
      go_ret
      exact ⟨ret_bool HN.out.symm, rfl⟩
    · have h32 : 32 < s.size := by omega
      go_wp2
      go_ret
      exact ⟨ret_bool HN.out.symm, rfl⟩
end Go.Proofs.YtbfgniheagolgaaGreatDoor
