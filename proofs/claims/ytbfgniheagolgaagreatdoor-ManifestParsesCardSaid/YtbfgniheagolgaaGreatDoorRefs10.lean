/-
  The walk of the law on what any lines say.
-/
import Derived.Test.YtbfgniheagolgaaGreatDoorRefs9
namespace Go.Proofs.YtbfgniheagolgaaGreatDoor
open Go.RowKit

theorem same_nil (w : World) : Calls Tryz.prog 11 #[.slice none 0 0, .slice none 0 0] w fun e w' => e = .returned (.bool true) ∧ Below w.heap.size w w' :=
  same_any (ao := none) (bo := none) (ca := 0) (cb := 0) [] [] w (fun j hj => by simp at hj) (fun j hj => by simp at hj) (by simp)
theorem same_same {ao bo : Option Addr} {ca cb : Nat} (l : List M.Row) (w : World) (hl : RowsAt w ao l) (hm : RowsAt w bo l) (hln : l.length ≤ 1000000) :
    Calls Tryz.prog 11 #[.slice ao l.length ca, .slice bo l.length cb] w fun e w' => e = .returned (.bool true) ∧ Below w.heap.size w w' :=
  (same_any l l w hl hm hln).mono fun _ _ ⟨he, hb⟩ => ⟨by rw [he]; simp, hb⟩

set_option maxRecDepth 100000 in
set_option maxHeartbeats 3200000 in
theorem parses_any (s : ByteArray) (w : World) (hs : s.size ≤ maxLen) (hE : Env w.heap.size w) :
    Calls Tryz.prog 4 #[.string s] w fun e w' => e = .returned (.bool true) ∧ Below w.heap.size w w' := by
  unfold maxLen at hs
  go_enter Tryz.func4, Tryz.ntmps4
  by_cases hbig : 5000 < s.size
  · go_wp2_with fail
    (with_reducible refine (awake_any _ hE).mono ?_)
    rintro e w1 ⟨rfl, b1⟩
    go_wp2_with fail
    go_ret
    exact ⟨rfl, b1⟩
  go_wp2_with fail
  (with_reducible refine (parse_any s _ (by omega) hE).mono ?_)
  rintro e w1 ⟨he, b1⟩
  obtain ⟨hfl, _⟩ := fit_read s.data.toList (by rw [show s.data.toList.length = s.size by simp]; omega)
  unfold Answers at he
  cases hp : M.parses s.data.toList
  · rw [hp] at he
    simp only [Bool.false_eq_true, if_false] at he
    subst he
    go_wp2_with fail
    (with_reducible refine (refParse_any s _ (by omega)).mono ?_)
    rintro e w2 ⟨he, b2⟩
    have b02 := b1.trans (b2.mono b1.size)
    unfold Answers at he
    rw [hp] at he
    simp only [Bool.false_eq_true, if_false] at he
    subst he
    go_wp2_with fail
    (with_reducible refine (awake_any _ (hE.on b02 b02.size)).mono ?_)
    rintro e w3 ⟨rfl, b3⟩
    have b03 := b02.trans (b3.mono b02.size)
    go_wp2_with fail
    (with_reducible refine (same_nil _).mono ?_)
    rintro e w4 ⟨rfl, b4⟩
    have b04 := b03.trans (b4.mono b03.size)
    go_wp2_with fail
    go_ret
    exact ⟨rfl, b04⟩
  · rw [hp, if_pos rfl] at he
    obtain ⟨ao, cap, rfl, hR⟩ := he
    go_wp2_with fail
    (with_reducible refine (refParse_any s _ (by omega)).mono ?_)
    rintro e w2 ⟨he, b2⟩
    have b02 := b1.trans (b2.mono b1.size)
    have hR2 := hR.below b2
    unfold Answers at he
    rw [hp, if_pos rfl] at he
    obtain ⟨ao2, cap2, rfl, hQ2⟩ := he
    generalize (M.read s.data.toList).1 = n at *
    generalize (M.read s.data.toList).2 = l at *
    go_wp2_with fail
    (with_reducible refine (awake_any _ (hE.on b02 b02.size)).mono ?_)
    rintro e w3 ⟨rfl, b3⟩
    have b03 := b02.trans (b3.mono b02.size)
    go_wp2_with fail
    (with_reducible refine (same_same l _ (hR2.below b3) (hQ2.below b3) hfl).mono ?_)
    rintro e w4 ⟨rfl, b4⟩
    have b04 := b03.trans (b4.mono b03.size)
    go_wp2_with fail
    go_ret
    exact ⟨rfl, b04⟩
end Go.Proofs.YtbfgniheagolgaaGreatDoor
