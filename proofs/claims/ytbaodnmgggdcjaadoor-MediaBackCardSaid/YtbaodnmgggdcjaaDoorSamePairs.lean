/-
  What comparing pairs comes to: contract of SamePairs.
-/
import Derived.Test.YtbaodnmgggdcjaaDoorPairs
import Derived.Laws.StructEq
import Derived.Deep.DeepCutAuto
import Derived.Deep.RegionHeld3
import Derived.Deep.QuietTactic
import Derived.BigQuiet
import Derived.Laws.Cover1
namespace Go.Proofs.YtbaodnmgggdcjaaDoor
open Go.RowKit

theorem pairs_step (l m : List Pair) (k : Nat) (h : k < l.length) (hm : k < m.length) (h0 : l.take k = m.take k) (h1 : l[k] = m[k]) : l.take (k + 1) = m.take (k + 1) := by
  rw [List.take_succ_eq_append_getElem h, List.take_succ_eq_append_getElem hm, h0, h1]
theorem drewN_below {B : Nat} (w : World) (n : Nat) : Below B w (w.drewN n) := ⟨rfl, rfl, rfl, Nat.le_refl _, fun _ _ => rfl⟩
theorem str_differ {a b : ByteArray} (h : ¬ a = b) : (a.toList == b.toList) = false := by
  rw [ByteArray.toList_eq, ByteArray.toList_eq]
  exact beq_false_of_ne (fun e => h (bytes_eq e))

set_option maxRecDepth 100000 in
set_option maxHeartbeats 1600000 in
theorem samePairs_any {ao bo : Option Addr} {ca cb n1 n2 : Nat} (l m : List Pair) (w : World) (hl : PairsIn w ao l) (hm : PairsIn w bo m) (hln : l.length ≤ 1000000) (h1 : l.length = n1) (h2 : m.length = n2) :
    Calls Tryd.prog 28 #[.slice ao n1 ca, .slice bo n2 cb] w fun e w' => e = .returned (.bool (decide (l = m))) ∧ Below w.heap.size w w' := by
  subst h1; subst h2
  go_enter Tryd.func28, Tryd.ntmps28
  by_cases hlen : l.length = m.length
  · rw [← hlen]
    have hlh := Lib.hid hlen
    clear hlen
    go_wp2_with fail
    go_loopw [5] (fun i wr => ∃ k : Nat, k ≤ l.length ∧ i = .int .i64 k ∧ l.take k = m.take k ∧ Below w.heap.size w wr) (fun i _ => l.length - (intOf i).toNat)
    case atStart => exact ⟨0, Nat.zero_le _, rfl, rfl, Below.refl _ _⟩
    case round =>
      obtain ⟨k, hk, rfl, htk, bw⟩ := hrel
      by_cases hlt : k < l.length
      · obtain ⟨b, off, rfl, c0, c1⟩ := (hl.below bw) k hlt
        obtain ⟨b', off', rfl, d0, d1⟩ := (hm.below bw) k (by rw [← hlh.out]; exact hlt)
        have hkm : k < m.length := by rw [← hlh.out]; exact hlt
        have hst := Lib.hid (fun (h1 : l[k] = m[k]'hkm) => pairs_step l m k hlt hkm htk h1)
        have hdf := Lib.hid (fun (h1 : ¬ l[k] = m[k]'hkm) (h2 : l = m) => h1 (by subst h2; rfl))
        have g3 : (k : Int) < (l.length : Int) := by omega
        generalize l[k] = x at c0 c1 hst hdf
        generalize m[k]'hkm = y at d0 d1 hst hdf
        obtain ⟨xn, xv⟩ := x
        obtain ⟨yn, yv⟩ := y
        clear hl hm
        by_cases e1 : xn = yn
        · subst e1
          by_cases e2 : xv = yv
          · subst e2
            have hst2 := Lib.hid (hst.out rfl)
            clear hdf hst
            go_wp2_with fail
            go_quiet (fail)
            go_wp2_with fail
            go_round
            case rel => exact ⟨k + 1, by omega, by go_num, hst2.out, bw.trans (drewN_below _ _)⟩
            case measure => simp [intOf]; omega
          · have hno := Lib.hid (hdf.out (by simp [e2]))
            have f2 := str_differ e2
            clear hdf hst
            go_wp2_with fail
            go_quiet (fail)
            go_wp2_with fail
            go_ret
            exact ⟨ret_bool (decide_eq_false hno.out).symm, bw.trans (drewN_below _ _)⟩
        · have hno := Lib.hid (hdf.out (by simp [e1]))
          have f1 := str_differ e1
          clear hdf hst
          go_wp2_with fail
          go_quiet (fail)
          go_wp2_with fail
          go_ret
          exact ⟨ret_bool (decide_eq_false hno.out).symm, bw.trans (drewN_below _ _)⟩
      · have hkl : k = l.length := by omega
        have he : Hid (l = m) := Lib.hid (by rw [hkl, List.take_length] at htk; rw [htk, hlh.out, List.take_length])
        go_wp2_with fail
        go_ret
        exact ⟨ret_bool (decide_eq_true he.out).symm, bw⟩
  · have hno : Hid (¬ l = m) := Lib.hid (fun e => hlen (by rw [e]))
    go_wp2
    go_ret
    exact ⟨ret_bool (decide_eq_false hno.out).symm, Below.refl _ _⟩
end Go.Proofs.YtbaodnmgggdcjaaDoor
