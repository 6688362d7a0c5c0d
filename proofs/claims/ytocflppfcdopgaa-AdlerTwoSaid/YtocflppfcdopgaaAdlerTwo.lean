/-
  Proved: for all strings s and t, AdlerTwo(s, t) answers true: the sum of the two, one behind the other, is Join of their sums and the second one's length (B3).
  Conditions: none (strings over 10000 bytes are let by by the statement itself).
-/
import Derived.Test.YtocflppfcdopgaaRows
import Derived.Test.YtocflppfcdopgaaWalks
import Derived.WalkKit
import Derived.ProofKit
import Derived.OpenShut
import Derived.ShutString
import Derived.ChangeOld
import Derived.Below
namespace Go.Proofs.Ytocflppfcdopgaa.adlerTwo
open Go.ChangeShapes Go.WideShapes Go.ChangeAt Go.RowKit
open Go.ChangeMaps (open_string shut_string)
set_option linter.unusedVariables false      -- a walk need not use every 'w<i>' (that an integer argument fits its kind)

theorem own : ownKnob Try.prog.godebug = none := by kernel_rfl

theorem cat_call (s t : ByteArray) (w : World) (h0 : ¬ 10000 < s.size) (h1 : ¬ 10000 < t.size) :
    Calls Try.prog 8 #[.string (s ++ t)] w fun e w' => e = .returned (.int .i64 (M.join (M.adl s.data.toList) (M.adl t.data.toList) (t.size : Int))) ∧ Below w.heap.size w w' :=
  (sum_any (s ++ t) w (by rw [ByteArray.size_append]; unfold maxLen; omega)).mono fun _ _ ⟨he, hw⟩ => ⟨by
    rw [he]; refine ret_int ?_
    rw [ByteArray.data_append, Array.toList_append, M.adl_append]; rfl, hw⟩

set_option maxHeartbeats 400000 in
theorem walk (a0 : ByteArray) (a1 : ByteArray) (w0 : a0.size ≤ maxLen) (w1 : a1.size ≤ maxLen) (w : World) :
    Calls Try.prog 5 #[.string a0, .string a1] w fun e w' => e = .returned (.bool true) ∧ Below w.heap.size w w' := by
  have A0 := M.adl_bd a0.data.toList
  have A1 := M.adl_bd a1.data.toList
  have hbig : 10000 < a0.size ∨ (¬ 10000 < a0.size ∧ 10000 < a1.size) ∨ (¬ 10000 < a0.size ∧ ¬ 10000 < a1.size) := by omega
  rcases hbig with hbig | ⟨hb0, hb1⟩ | ⟨hb0, hb1⟩
  · go_enter Try.func5, Try.ntmps5
    go_wp2_with fail
    (with_reducible refine (awake_any _).mono ?_); rintro e w2 ⟨rfl, b1⟩
    go_wp2_with fail
    go_ret
    exact ⟨rfl, b1⟩
  · go_enter Try.func5, Try.ntmps5
    go_wp2_with fail
    (with_reducible refine (awake_any _).mono ?_); rintro e w2 ⟨rfl, b1⟩
    go_wp2_with fail
    go_ret
    exact ⟨rfl, b1⟩
  · go_enter Try.func5, Try.ntmps5
    go_wp2_with fail
    (with_reducible refine (awake_any _).mono ?_); rintro e w2 ⟨rfl, b1⟩
    go_wp2_with fail
    (with_reducible refine (cat_call a0 a1 _ hb0 hb1).mono ?_); rintro e w3 ⟨rfl, b2⟩
    go_wp2_with fail
    (with_reducible refine (sum_any a0 _ w0).mono ?_); rintro e w4 ⟨rfl, b3⟩
    go_wp2_with fail
    (with_reducible refine (sum_any a1 _ w1).mono ?_); rintro e w5 ⟨rfl, b4⟩
    go_wp2_with fail
    (with_reducible refine (join_any _ _ _ _ A0.1 A0.2 A1.1 A1.2 (by omega) (by omega)).mono ?_); rintro e w6 ⟨rfl, rfl⟩
    go_wp2_with fail
    go_ret
    exact ⟨rfl, b1.trans ((b2.trans ((b3.trans (b4.mono b3.size)).mono b2.size)).mono b1.size)⟩

set_option maxRecDepth 100000 in
theorem lifted (os : Os) (started : os.Started) (H : Type) (enc : TypeId × Value → H) :
    ReturnsInHanded {} Try.checked os 5 .any (Rows.adlerTwoSpec.pre6 enc Try.prog Try.f5 Rows.adlerTwoRow.domain false) (Rows.adlerTwoSpec.post enc Try.prog Try.f5 false true false false) := by
  refine returnsInHanded_of_change (C := Try.checked) own started (by kernel_rfl) Try.func5
    (ChangeSpec.witness6 (enc := enc) (C := Try.checked) false ⟨#[], #[.string ByteArray.empty, .string ByteArray.empty], []⟩ 8 (by kernel_rfl) (by kernel_rfl) (by kernel_rfl) (by kernel_rfl)) ?_
  intro W base args ds gs before hval0 hW hcnd _
  have hval : ∀ (j : Nat) t v, Try.f5.params[j]? = some t → args[j]? = some v → Value.okWide Try.prog W .any base t v := hval0
  have hW' := hW
  obtain ⟨p, q, hA0, hV, rfl, hfz, hnd⟩ := hW
  have hA : DataW.TrodAll enc Try.prog W 0 (fun _ => true) true Try.f5.params.toList args.toList ds p := hA0
  rw [Try.params5] at hA hval
  obtain ⟨v0, vs0, d0, ds0, p0, q0, hargs, rfl, rfl, h0, r0⟩ := trodAll_cons hA
  obtain ⟨v1, vs1, d1, ds1, p1, q1, rfl, rfl, rfl, h1, r1⟩ := trodAll_cons r0
  obtain ⟨rfl, rfl, rfl⟩ := trodAll_nil r1
  obtain rfl : args = #[v0, v1] := by cases args; simp_all
  obtain ⟨rfl, rfl⟩ := trodVars_none hV
  obtain ⟨a0, rfl, rfl, rfl, w0⟩ := open_string Try.underlying9 (hval 0 9 v0 rfl rfl) h0
  obtain ⟨a1, rfl, rfl, rfl, w1⟩ := open_string Try.underlying9 (hval 1 9 v1 rfl rfl) h1
  clear hA0 hval0
  simp only [List.append_nil] at hW'
  refine (walk a0 a1 w0 w1 W).mono fun e W' ⟨he, bel⟩ => ?_
  subst he
  exact ⟨_, rfl, _, _, _, [], [], [], hW', (trodAll_cons_mk (shut_bool Try.underlying4 _) trodAll_mk0), (trodAll_cons_mk (shut_string Try.underlying9 w0) (trodAll_cons_mk (shut_string Try.underlying9 w1) trodAll_mk0)), rfl, bel.frame _, fun h => by cases h⟩

theorem over : Rows.adlerTwoRow.holds Try.pinned (OpenSpec.ofChange Rows.adlerTwoSpec) :=
  OpenClaim.holds_of_wide 5 Try.f5 rfl rfl rfl rfl rfl rfl rfl ⟨rfl, rfl, rfl, rfl, rfl⟩ rfl rfl rfl rfl rfl (by kernel_rfl) Try.func5 (by kernel_rfl)
    (of_decide_eq_true (by kernel_rfl)) (by unfold Func.isWrapper; first | (rw [if_pos (by decide +kernel)]; kernel_rfl) | (rw [if_neg (by decide +kernel)]; exact ⟨rfl, rfl⟩))
    (fun os started H enc _ => lifted os started H enc)

theorem proved : Rows.AdlerTwoSaid :=
  over
#print axioms proved
end Go.Proofs.Ytocflppfcdopgaa.adlerTwo
