/-
  What comparing rows, and asking whether they are few, comes to.
-/
import Derived.Test.YtbfgniheagolgaaGreatDoorParse2
import Derived.Laws.StructEq
namespace Go.Proofs.YtbfgniheagolgaaGreatDoor
open Go.RowKit

theorem same_step (l m : List M.Row) (k : Nat) (h : k < l.length) (hm : k < m.length) (h0 : l.take k = m.take k) (h1 : l[k] = m[k]) : l.take (k + 1) = m.take (k + 1) := by
  rw [List.take_succ_eq_append_getElem h, List.take_succ_eq_append_getElem hm, h0, h1]

theorem bytes_ne {a b : ByteArray} (h : ¬ a = b) : (a.toList == b.toList) = false := by
  rw [ByteArray.toList_eq, ByteArray.toList_eq]
  apply beq_false_of_ne
  intro e
  apply h
  have := congrArg (fun l : List UInt8 => (⟨l.toArray⟩ : ByteArray)) e
  exact (M.array_toList a).symm.trans (this.trans (M.array_toList b))

set_option maxRecDepth 100000 in
set_option maxHeartbeats 1600000 in
theorem same_any {ao bo : Option Addr} {ca cb : Nat} (l m : List M.Row) (w : World) (hl : RowsAt w ao l) (hm : RowsAt w bo m) (hln : l.length ≤ 1000000) :
    Calls Tryz.prog 11 #[.slice ao l.length ca, .slice bo m.length cb] w fun e w' => e = .returned (.bool (decide (l = m))) ∧ Below w.heap.size w w' := by
  go_enter Tryz.func11, Tryz.ntmps11
  by_cases hlen : l.length = m.length
  · rw [← hlen]
    have hlh := Lib.hid hlen
    clear hlen
    go_wp2_with fail
    go_loopw [5] (fun i wr => ∃ k : Nat, k ≤ l.length ∧ i = .int .i64 k ∧ l.take k = m.take k ∧ Below w.heap.size w wr) (fun i _ => l.length - (intOf i).toNat)
    case atStart => exact ⟨0, Nat.zero_le _, rfl, rfl, Below.refl _ _⟩
    case round =>
      obtain ⟨k, hk, rfl, htk, bw⟩ := hrel
      by_cases hlt : k < l.length
      · obtain ⟨b, off, rfl, c0, c1, c2, c3⟩ := (hl.below bw) k hlt
        obtain ⟨b', off', rfl, d0, d1, d2, d3⟩ := (hm.below bw) k (by rw [← hlh.out]; exact hlt)
        have hkm : k < m.length := by rw [← hlh.out]; exact hlt
        have hst := Lib.hid (fun (h1 : l[k] = m[k]'hkm) => same_step l m k hlt hkm htk h1)
        have hdf := Lib.hid (fun (h1 : ¬ l[k] = m[k]'hkm) (h2 : l = m) => h1 (by subst h2; rfl))
        have g3 : (k : Int) < (l.length : Int) := by omega
        generalize l[k] = x at c0 c1 c2 c3 hst hdf
        generalize m[k]'hkm = y at d0 d1 d2 d3 hst hdf
        obtain ⟨xn, xf, xs, xu⟩ := x
        obtain ⟨yn, yf, ys, yu⟩ := y
        clear hl hm
        by_cases e1 : xn = yn
        · subst e1
          by_cases e2 : xf = yf
          · subst e2
            by_cases e3 : xs = ys
            · subst e3
              by_cases e4 : xu = yu
              · subst e4
                have hst2 := Lib.hid (hst.out rfl)
                clear hdf hst
                go_wp2_with fail
                go_quiet (fail)
                go_wp2_with fail
                go_round
                case rel => exact ⟨k + 1, by omega, by go_num, hst2.out, bw.trans (below_drewN _ _)⟩
                case measure => simp [intOf]; omega
              · have hno := Lib.hid (hdf.out (by simp [e4]))
                clear hdf hst
                go_wp2_with fail
                go_quiet (fail)
                go_wp2_with fail
                go_ret
                exact ⟨ret_bool (decide_eq_false hno.out).symm, bw.trans (below_drewN _ _)⟩
            · have hno := Lib.hid (hdf.out (by simp [e3]))
              clear hdf hst
              go_wp2_with fail
              go_quiet (fail)
              go_wp2_with fail
              go_ret
              exact ⟨ret_bool (decide_eq_false hno.out).symm, bw.trans (below_drewN _ _)⟩
          · have hno := Lib.hid (hdf.out (by simp [e2]))
            have f2 := bytes_ne e2
            clear hdf hst
            go_wp2_with fail
            go_quiet (fail)
            go_wp2_with fail
            go_ret
            exact ⟨ret_bool (decide_eq_false hno.out).symm, bw.trans (below_drewN _ _)⟩
        · have hno := Lib.hid (hdf.out (by simp [e1]))
          have f1 := bytes_ne e1
          clear hdf hst
          go_wp2_with fail
          go_quiet (fail)
          go_wp2_with fail
          go_ret
          exact ⟨ret_bool (decide_eq_false hno.out).symm, bw.trans (below_drewN _ _)⟩
      · have hkl : k = l.length := by omega
        have he : Hid (l = m) := Lib.hid (by rw [hkl, List.take_length] at htk; rw [htk, hlh.out, List.take_length])
        go_wp2_with fail
        go_ret
        exact ⟨ret_bool (decide_eq_true he.out).symm, bw⟩
  · have hno : Hid (¬ l = m) := Lib.hid (fun e => hlen (by rw [e]))
    go_wp2
    go_ret
    exact ⟨ret_bool (decide_eq_false hno.out).symm, Below.refl _ _⟩
end Go.Proofs.YtbfgniheagolgaaGreatDoor
