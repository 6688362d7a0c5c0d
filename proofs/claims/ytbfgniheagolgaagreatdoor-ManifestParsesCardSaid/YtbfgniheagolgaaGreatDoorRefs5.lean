/-
  What the document's Print comes to, and the walk of the law on it.
-/
import Derived.Test.YtbfgniheagolgaaGreatDoorRefs3
import Derived.Test.YtbfgniheagolgaaGreatDoorRefs4
import Derived.Test.YtbfgniheagolgaaGreatDoorAwake
namespace Go.Proofs.YtbfgniheagolgaaGreatDoor
open Go.RowKit

theorem told_all (n : Int) (l : List M.Row) : (⟨(M.body n l).toArray⟩ ++ ⟨#[115, 117, 109, 32]⟩ ++ ⟨(Lib.itoa (M.adl (M.body n l))).toArray⟩ ++ ⟨#[10]⟩ : ByteArray) = ⟨(M.text n l).toArray⟩ := by
  have h : (⟨(M.body n l).toArray⟩ ++ ⟨#[115, 117, 109, 32]⟩ ++ ⟨(Lib.itoa (M.adl (M.body n l))).toArray⟩ ++ ⟨#[10]⟩ : ByteArray).data.toList = M.text n l := by
    simp [M.text, M.line_one, M.sumw]
  rw [← M.array_toList (_ ++ _), h]
theorem sum_size4 : ({ data := #[115, 117, 109, 32] } : ByteArray).size = 4 := by decide
theorem body_len {n : Int} {l : List M.Row} (hg : M.good n l = true) (hl : l.length ≤ 1000000) : (M.body n l).length ≤ 120000100 := by
  have h1 := rows_len l (good_rows hg)
  have h2 := line_gen_len n (M.good_num hg).1 (M.good_num hg).2
  unfold M.body; rw [List.length_append]; omega
theorem told_no {n : Int} {l : List M.Row} (h : M.good n l = false) : told n l = .tuple #[.string { data := #[] }, .int .i64 30] := by unfold told; rw [h]; rfl
theorem told_yes {n : Int} {l : List M.Row} (h : M.good n l = true) : told n l = .tuple #[.string ⟨(M.text n l).toArray⟩, .int .i64 0] := by unfold told; rw [h]; rfl

set_option maxRecDepth 100000 in
set_option maxHeartbeats 3200000 in
theorem refPrint_any {ao : Option Addr} {cap : Nat} (n : Int) (l : List M.Row) (w : World) (hR : RowsAt w ao l) (hF : Fit l) :
    Calls Tryz.prog 8 #[.int .i64 n, .slice ao l.length cap] w fun e w' => e = .returned (told n l) ∧ Below w.heap.size w w' := by
  have hlen := hF.1
  by_cases q0 : n < 0
  · have hg := Lib.hid (show M.good n l = false by simp [M.good, num_not (x := n) (.inl q0)])
    go_enter Tryz.func8, Tryz.ntmps8
    go_wp2_with fail
    go_ret2
    exact ⟨by rw [told_no hg.out]; rfl, Below.refl _ _⟩
  by_cases q1 : 1099511627776 < n
  · have hg := Lib.hid (show M.good n l = false by simp [M.good, num_not (x := n) (.inr q1)])
    go_enter Tryz.func8, Tryz.ntmps8
    go_wp2_with fail
    go_ret2
    exact ⟨by rw [told_no hg.out]; rfl, Below.refl _ _⟩
  have hn := num_is q0 q1
  have hn := Lib.hid hn
  go_enter Tryz.func8, Tryz.ntmps8
  go_wp2_with fail
  (with_reducible refine (refRight_any l _ hR hF).mono ?_)
  rintro e w1 ⟨rfl, b1⟩
  cases ha : M.areRows l
  · have hg := Lib.hid (show M.good n l = false by simp [M.good, ha])
    have ha := Lib.hid ha
    go_wp2_with fail
    go_ret2
    exact ⟨by rw [told_no hg.out]; rfl, b1⟩
  have hg0 : M.good n l = true := by simp [M.good, hn.out, ha]
  have hbl := body_len hg0 hlen
  have hta := Lib.hid (told_all n l)
  have hg := Lib.hid hg0
  have hab := M.adl_bd (M.body n l)
  have hdl := Lib.itoa_length_le (M.adl (M.body n l)) (by omega) (by omega)
  have hss := sum_size4
  have h10 := one_size 10
  go_wp2_with fail
  (with_reducible refine (refSpell_any n l _ (hR.below b1) hF hg.out).mono ?_)
  rintro e w2 ⟨rfl, b2⟩
  have b02 := b1.trans (b2.mono b1.size)
  have hds : (⟨(M.body n l).toArray⟩ : ByteArray).size ≤ maxLen := by
    have : (⟨(M.body n l).toArray⟩ : ByteArray).size = (M.body n l).length := by simp [ByteArray.size]
    unfold maxLen; omega
  have hds := Lib.hid hds
  go_wp2_with fail
  (with_reducible refine (refSum_any ⟨(M.body n l).toArray⟩ _ hds.out).mono ?_)
  rintro e w3 ⟨rfl, rfl⟩
  obtain ⟨a, ha1⟩ := Int.eq_ofNat_of_zero_le hab.1
  have hdb : (⟨(M.body n l).toArray⟩ : ByteArray).data.toList = M.body n l := by simp
  rw [hdb]
  rw [ha1] at hab hdl hta ⊢
  have hab := Lib.hid hab
  go_wp2_with fail
  (with_reducible refine (refDigits_any a _ (by have := hab.out; omega)).mono ?_)
  rintro e w4 ⟨rfl, b4⟩
  have b04 := b02.trans (b4.mono b02.size)
  go_wp2_with fail
  go_ret2
  exact ⟨by rw [told_yes hg.out, ← hta.out]; rfl, b04⟩

set_option maxRecDepth 100000 in
set_option maxHeartbeats 3200000 in
theorem prints_any {ao : Option Addr} {cap : Nat} (n : Int) (l : List M.Row) (w : World) (hR : RowsAt w ao l) (hW : Wide l) (hE : Env w.heap.size w) :
    Calls Tryz.prog 3 #[.int .i64 n, .slice ao l.length cap] w fun e w' => e = .returned (.bool true) ∧ Below w.heap.size w w' := by
  go_enter Tryz.func3, Tryz.ntmps3
  go_wp2_with fail
  (with_reducible refine (few_any l _ hR hW.len).mono ?_)
  rintro e w2 ⟨rfl, rfl⟩
  cases hf : fewRows l
  · go_wp2_with fail
    (with_reducible refine (awake_any _ hE).mono ?_)
    rintro e w1 ⟨rfl, b1⟩
    go_wp2_with fail
    go_ret
    exact ⟨rfl, b1⟩
  have hfit := hW.fit hf
  go_wp2_with fail
  (with_reducible refine (print_any n l _ hR hfit hE).mono ?_)
  rintro e w3 ⟨rfl, b3⟩
  have hR3 := hR.below b3
  cases hg : M.good n l
  · rw [told_no hg]
    go_wp2_with fail
    (with_reducible refine (refPrint_any n l _ hR3 hfit).mono ?_)
    rintro e w4 ⟨rfl, b4⟩
    have b04 := b3.trans (b4.mono b3.size)
    rw [told_no hg]
    go_wp2_with fail
    (with_reducible refine (awake_any _ (hE.on b04 b04.size)).mono ?_)
    rintro e w5 ⟨rfl, b5⟩
    have b05 := b04.trans (b5.mono b04.size)
    go_wp2_with fail
    go_ret
    exact ⟨rfl, b05⟩
  · rw [told_yes hg]
    obtain ⟨s, hse⟩ : ∃ s : ByteArray, s = ⟨(M.text n l).toArray⟩ := ⟨_, rfl⟩
    rw [← hse]
    have heq : (s.toList == s.toList) = true := beq_self_eq_true _
    go_wp2_with fail
    (with_reducible refine (refPrint_any n l _ hR3 hfit).mono ?_)
    rintro e w4 ⟨rfl, b4⟩
    have b04 := b3.trans (b4.mono b3.size)
    rw [told_yes hg, ← hse]
    clear hse
    go_wp2_with fail
    (with_reducible refine (awake_any _ (hE.on b04 b04.size)).mono ?_)
    rintro e w5 ⟨rfl, b5⟩
    have b05 := b04.trans (b5.mono b04.size)
    go_wp2_with fail
    go_ret
    exact ⟨rfl, b05⟩
end Go.Proofs.YtbfgniheagolgaaGreatDoor
