/-
  What the document's own functions of a manifest come to: the contract of right.
-/
import Derived.Test.YtbfgniheagolgaaGreatDoorRefs2
import Derived.Deep.QuietTactic
import Derived.BigQuiet
import Derived.Laws.Cover1
import Derived.IntWalk
namespace Go.Proofs.YtbfgniheagolgaaGreatDoor
open Go.RowKit

theorem less_flip : ∀ (a b : List UInt8), (!(Op.bytesLess a b)) = (Op.bytesLess b a || b == a)
  | [], [] => by simp [Op.bytesLess]
  | [], _ :: _ => by simp [Op.bytesLess]
  | _ :: _, [] => by simp [Op.bytesLess]
  | x :: a, y :: b => by
    have ih := less_flip a b
    simp only [Op.bytesLess, List.cons_beq_cons]
    rcases Nat.lt_trichotomy x.toNat y.toNat with h | h | h
    · have h1 : x < y := h
      have h2 : ¬ y < x := by show ¬ y.toNat < x.toNat; omega
      have h3 : ¬ y = x := by rintro rfl; omega
      simp [h1, h2, h3]
    · have h0 : x = y := UInt8.toNat_inj.1 h
      subst h0
      have h1 : ¬ x < x := by show ¬ x.toNat < x.toNat; omega
      simp [h1, ih]
    · have h1 : y < x := h
      have h2 : ¬ x < y := by show ¬ x.toNat < y.toNat; omega
      have h3 : ¬ y = x := by rintro rfl; omega
      have h4 : ¬ x = y := fun e => h3 e.symm
      simp [h1, h2, h4]

theorem refName_is {s : ByteArray} {b : Bool} (w : World) (hs : s.size ≤ maxLen) (h : M.name s.data.toList = b) :
    Calls Tryz.prog 26 #[.string s] w fun e w' => e = .returned (.bool b) ∧ w = w' := by
  rw [← h]; exact refName_any s w hs

theorem refName_same {s : ByteArray} {b : Bool} (w : World) (hs : s.size ≤ maxLen) (h : M.name s.data.toList = b) :
    Calls Tryz.prog 26 #[.string s] w fun e w' => e = .returned (.bool b) ∧ w' = w := 
  (refName_is w hs h).mono fun _ _ ⟨a, c⟩ => ⟨a, c.symm⟩

theorem bool_cases (b : Bool) : b = true ∨ b = false := by cases b <;> simp
theorem num_not {x : Int} (h : x < 0 ∨ 1099511627776 < x) : M.num x = false := by simp [M.num]; omega
theorem num_is {x : Int} (h : ¬ x < 0) (h1 : ¬ 1099511627776 < x) : M.num x = true := by simp [M.num]; omega

set_option maxRecDepth 100000 in
set_option maxHeartbeats 3200000 in
theorem refRight_any {ao : Option Addr} {cap : Nat} (l : List M.Row) (w : World) (hR : RowsAt w ao l) (hF : Fit l) :
    Calls Tryz.prog 16 #[.slice ao l.length cap] w fun e w' => e = .returned (.bool (M.areRows l)) ∧ Below w.heap.size w w' := by
  obtain ⟨hlen, hfit⟩ := hF
  go_enter Tryz.func16, Tryz.ntmps16
  go_wp2_with fail
  go_loopw [3] (fun i wr => ∃ k : Nat, k ≤ l.length ∧ i = .int .i64 k ∧ (List.range k).all (M.okAt l) = true ∧ Below w.heap.size w wr) (fun i _ => l.length - (intOf i).toNat)
  case atStart => exact ⟨0, Nat.zero_le _, rfl, rfl, Below.refl _ _⟩
  case round =>
    obtain ⟨k, hk, rfl, hall, bw⟩ := hrel
    have hall := Lib.hid hall
    have hbs := bw.size
    by_cases hlt : k < l.length
    · obtain ⟨b, off, rfl, c0, c1, c2, c3⟩ := (hR.below bw) k hlt
      have hok := okAt_eq l k hlt _ rfl
      have hbad := ok_false l k hlt
      obtain ⟨f0, f1, f2, f3⟩ := hfit l[k] (List.getElem_mem _)
      generalize hr : l[k] = r at c0 c1 c2 c3 hok f0 f1 f2 f3
      clear hr
      have hok := Lib.hid hok
      have hbad := Lib.hid hbad
      have f0 := Lib.hid f0
      have f1 := Lib.hid f1
      have bw2 : Below w.heap.size w (wr.alloc (.cells #[.string r.name, .string r.file, .int .i64 r.size, .int .i64 r.sum] 34)) := bw.alloc hbs _
      cases hN : M.name r.name.data.toList
      · have hb := Lib.hid (hbad.out (by rw [hok.out, hN]; rfl))
        have hN := Lib.hid hN
        go_wp2_with fail
        go_quiet (first | (go_at_call_of 26 r.name; exact Calls.quiet_of_same (refName_same _ f0.out hN.out)))
        go_wp2_with fail
        go_ret
        exact ⟨ret_bool hb.out.symm, bw2.trans (below_drewN _ _)⟩
      have hN := Lib.hid hN
      cases hM : M.name r.file.data.toList
      · have hb := Lib.hid (hbad.out (by rw [hok.out, hN.out, hM]; rfl))
        have hM := Lib.hid hM
        go_wp2_with fail
        go_quiet (first | (go_at_call_of 26 r.name; exact Calls.quiet_of_same (refName_same _ f0.out hN.out)) | (go_at_call_of 26 r.file; exact Calls.quiet_of_same (refName_same _ f1.out hM.out)))
        go_wp2_with fail
        go_ret
        exact ⟨ret_bool hb.out.symm, bw2.trans (below_drewN _ _)⟩
      have hM := Lib.hid hM
      rcases bool_cases (decide (r.size < 0)) with q0 | q0
      · have hb := Lib.hid (hbad.out (by rw [hok.out, num_not (x := r.size) (by have := of_decide_eq_true q0; omega)]; simp))
        go_wp2_with fail
        go_quiet (first | (go_at_call_of 26 r.name; exact Calls.quiet_of_same (refName_same _ f0.out hN.out)) | (go_at_call_of 26 r.file; exact Calls.quiet_of_same (refName_same _ f1.out hM.out)))
        go_wp2_with fail
        go_ret
        exact ⟨ret_bool hb.out.symm, bw2.trans (below_drewN _ _)⟩
      rcases bool_cases (decide (1099511627776 < r.size)) with q1 | q1
      · have hb := Lib.hid (hbad.out (by rw [hok.out, num_not (x := r.size) (by have := of_decide_eq_true q1; omega)]; simp))
        go_wp2_with fail
        go_quiet (first | (go_at_call_of 26 r.name; exact Calls.quiet_of_same (refName_same _ f0.out hN.out)) | (go_at_call_of 26 r.file; exact Calls.quiet_of_same (refName_same _ f1.out hM.out)))
        go_wp2_with fail
        go_ret
        exact ⟨ret_bool hb.out.symm, bw2.trans (below_drewN _ _)⟩
      rcases bool_cases (decide (r.sum < 0)) with q2 | q2
      · have hb := Lib.hid (hbad.out (by rw [hok.out, num_not (x := r.sum) (by have := of_decide_eq_true q2; omega)]; simp))
        go_wp2_with fail
        go_quiet (first | (go_at_call_of 26 r.name; exact Calls.quiet_of_same (refName_same _ f0.out hN.out)) | (go_at_call_of 26 r.file; exact Calls.quiet_of_same (refName_same _ f1.out hM.out)))
        go_wp2_with fail
        go_ret
        exact ⟨ret_bool hb.out.symm, bw2.trans (below_drewN _ _)⟩
      rcases bool_cases (decide (1099511627776 < r.sum)) with q3 | q3
      · have hb := Lib.hid (hbad.out (by rw [hok.out, num_not (x := r.sum) (by have := of_decide_eq_true q3; omega)]; simp))
        go_wp2_with fail
        go_quiet (first | (go_at_call_of 26 r.name; exact Calls.quiet_of_same (refName_same _ f0.out hN.out)) | (go_at_call_of 26 r.file; exact Calls.quiet_of_same (refName_same _ f1.out hM.out)))
        go_wp2_with fail
        go_ret
        exact ⟨ret_bool hb.out.symm, bw2.trans (below_drewN _ _)⟩
      have hnS := Lib.hid (num_is (of_decide_eq_false q0) (of_decide_eq_false q1))
      have hnU := Lib.hid (num_is (of_decide_eq_false q2) (of_decide_eq_false q3))
      have hok1 := hok.out
      rw [hN.out, hM.out, hnS.out, hnU.out] at hok1
      have hok1 := Lib.hid hok1
      go_wp2_with fail
      by_cases hk0 : k = 0
      · subst hk0
        have hb := Lib.hid (ok_snoc l 0 hall.out hok1.out)
        clear hok1
        go_quiet (first | (go_at_call_of 26 r.name; exact Calls.quiet_of_same (refName_same _ f0.out hN.out)) | (go_at_call_of 26 r.file; exact Calls.quiet_of_same (refName_same _ f1.out hM.out)))
        go_wp2_with fail
        go_round
        case rel => exact ⟨1, by omega, by go_num, hb.out, bw2.trans (below_drewN _ _)⟩
        case measure => simp [intOf]; omega
      · obtain ⟨j, rfl⟩ : ∃ j, k = j + 1 := ⟨k - 1, by omega⟩
        obtain ⟨b', off', eb, d0, _, _, _⟩ := (hR.below (bw2.mono (Nat.le_refl _))) j (by omega)
        cases eb
        generalize hpr : l[j]'(by omega) = p at d0
        have hlj : l[j]? = some p := by rw [List.getElem?_eq_getElem (by omega), hpr]
        have hok2 : M.okAt l (j + 1) = Op.bytesLess p.name.toList r.name.toList := by
          rw [hok1.out]; simp only [hlj, ← less_flip]; simp
        have hok2 := Lib.hid hok2
        have g1 : (0 : Int) < ((j : Int) + 1) := by omega
        have g2 : IntKind.i64.wrap (j : Int) = (j : Int) := IntWalk.i64_in _ ⟨by omega, by omega⟩
        have g3 : (j : Int) < (l.length : Int) := by omega
        have g4 : ((j : Nat) : Int).toNat = j := by omega
        clear hpr hlj hok1
        cases h1 : Op.bytesLess p.name.toList r.name.toList
        · have hb := Lib.hid (hbad.out (hok2.out.trans h1))
          go_quiet (first | (go_at_call_of 26 r.name; exact Calls.quiet_of_same (refName_same _ f0.out hN.out)) | (go_at_call_of 26 r.file; exact Calls.quiet_of_same (refName_same _ f1.out hM.out)))
          go_wp2_with fail
          go_ret
          exact ⟨ret_bool hb.out.symm, bw2.trans (below_drewN _ _)⟩
        · have hb := Lib.hid (ok_snoc l (j + 1) hall.out (hok2.out.trans h1))
          go_quiet (first | (go_at_call_of 26 r.name; exact Calls.quiet_of_same (refName_same _ f0.out hN.out)) | (go_at_call_of 26 r.file; exact Calls.quiet_of_same (refName_same _ f1.out hM.out)))
          go_wp2_with fail
          go_round
          case rel => exact ⟨j + 1 + 1, by omega, by go_num, hb.out, bw2.trans (below_drewN _ _)⟩
          case measure => simp [intOf]; omega
    · have hkl : k = l.length := by omega
      have hall' : Hid (M.areRows l = true) := Lib.hid (by unfold M.areRows; rw [← hkl]; exact hall.out)
      clear hfit hR
      go_wp2_with fail
      go_ret
      exact ⟨ret_bool hall'.out.symm, bw⟩
end Go.Proofs.YtbfgniheagolgaaGreatDoor
