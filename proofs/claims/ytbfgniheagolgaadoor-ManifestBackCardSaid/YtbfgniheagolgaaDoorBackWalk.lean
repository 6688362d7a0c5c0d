/-
  The walk of the law on what is told and read.
-/
import Derived.Test.YtbfgniheagolgaaDoorAwake
namespace Go.Proofs.YtbfgniheagolgaaDoor
open Go.RowKit

theorem text_len {n : Int} {l : List M.Row} (hg : M.good n l = true) (hl : l.length ≤ 100) : (M.text n l).length ≤ 20000 := by
  have h1 := rows_len l (good_rows hg)
  have h2 := line_gen_len n (M.good_num hg).1 (M.good_num hg).2
  have hb := M.adl_bd (M.body n l)
  have h3 := Lib.itoa_length_le (M.adl (M.body n l)) (by omega) (by omega)
  have e : (M.text n l).length = (M.line M.gen [n]).length + (l.flatMap M.rowLine).length + (3 + 1 + (Lib.itoa (M.adl (M.body n l))).length + 1) := by
    unfold M.text
    rw [M.line_one]
    simp [M.body, M.sumw]; omega
  omega

theorem parse_text {n : Int} {l : List M.Row} (w : World) (hg : M.good n l = true) (hl : l.length ≤ 100) (hE : Env w.heap.size w) :
    Calls Tryd.prog 8 #[.string ⟨(M.text n l).toArray⟩] w fun e w' => ∃ ao cap, e = .returned (.tuple #[.int .i64 n, .slice ao l.length cap, .int .i64 0]) ∧ RowsAt w' ao l ∧ Below w.heap.size w w' := by
  have hsz : (⟨(M.text n l).toArray⟩ : ByteArray).size = (M.text n l).length := by simp [ByteArray.size]
  have htl := text_len hg hl
  refine (parse_any _ w (by omega) hE).mono fun e w' ⟨he, hb⟩ => ?_
  have he : Answers (M.text n l) e w' := he
  unfold Answers at he
  rw [M.parses_text hg, if_pos rfl, M.read_text hg] at he
  obtain ⟨ao, cap, he, hR⟩ := he
  exact ⟨ao, cap, he, hR, hb⟩

theorem print_nil (w : World) (hE : Env w.heap.size w) : Calls Tryd.prog 7 #[.int .i64 0, .slice none 0 0] w fun e w' => e = .returned (told 0 []) ∧ Below w.heap.size w w' :=
  print_any (ao := none) (cap := 0) 0 [] w (fun j hj => by simp at hj) ⟨by decide, fun r hr => by cases hr⟩ hE

set_option maxRecDepth 100000 in
set_option maxHeartbeats 3200000 in
theorem back_any {ao : Option Addr} {cap : Nat} (n : Int) (l : List M.Row) (s : ByteArray) (w : World) (hR : RowsAt w ao l) (hW : Wide l) (hs : s.size ≤ maxLen) (hE : Env w.heap.size w) :
    Calls Tryd.prog 3 #[.int .i64 n, .slice ao l.length cap, .string s] w fun e w' => e = .returned (.bool true) ∧ Below w.heap.size w w' := by
  unfold maxLen at hs
  go_enter Tryd.func3, Tryd.ntmps3
  go_wp2_with fail
  (with_reducible refine (awake_any _ hE).mono ?_)
  rintro e w1 ⟨rfl, b1⟩
  have hR1 := hR.below b1
  have hE1 : Env w1.heap.size w1 := hE.on b1 b1.size
  go_wp2_with fail
  (with_reducible refine (few_any l _ hR1 hW.len).mono ?_)
  rintro e w2 ⟨rfl, rfl⟩
  go_upto_if 22 with fail
  go_cut [22] (fun _ wx => Below w.heap.size w wx)
  case first =>
    cases hf : fewRows l
    · go_wp2_with fail
      go_meet
      exact b1
    · have hfit := hW.fit hf
      have hl100 : l.length ≤ 100 := by simp only [fewRows, Bool.and_eq_true, decide_eq_true_eq] at hf; exact hf.1
      go_wp2_with fail
      (with_reducible refine (print_any n l _ hR1 hfit hE1).mono ?_)
      rintro e w3 ⟨rfl, b3⟩
      have b03 := b1.trans (b3.mono b1.size)
      have hR3 := hR1.below b3
      unfold told
      cases hg : M.good n l
      · simp only [Bool.false_eq_true, if_false]
        go_wp2_with fail
        go_meet
        exact b03
      · simp only [if_true]
        go_wp2_with fail
        (with_reducible refine (parse_text _ hg hl100 (hE.on b03 b03.size)).mono ?_)
        rintro e w4 ⟨ao4, cap4, rfl, hR4, b4⟩
        have b04 := b03.trans (b4.mono b03.size)
        go_wp2_with fail
        (with_reducible refine (same_any l l _ hR4 (hR3.below b4) (by omega)).mono ?_)
        rintro e w5 ⟨rfl, b5⟩
        have b05 := b04.trans (b5.mono b04.size)
        go_wp2_with fail
        go_meet
        exact b05
  case rest =>
    have hEc : Env wc.heap.size wc := hE.on hcut hcut.size
    by_cases hbig : 5000 < s.size
    · go_wp2_with fail
      go_ret
      exact ⟨rfl, hcut⟩
    · go_wp2_with fail
      (with_reducible refine (parse_any s _ (by omega) hEc).mono ?_)
      rintro e w6 ⟨he, b6⟩
      have b06 := hcut.trans (b6.mono hcut.size)
      have hE6 : Env w6.heap.size w6 := hE.on b06 b06.size
      unfold Answers at he
      cases hp : M.parses s.data.toList
      · rw [hp] at he
        simp only [Bool.false_eq_true, if_false] at he
        subst he
        go_wp2_with fail
        (with_reducible refine (print_nil _ hE6).mono ?_)
        rintro e w7 ⟨rfl, b7⟩
        have b07 := b06.trans (b7.mono b06.size)
        unfold told
        cases hg : M.good 0 []
        · simp only [Bool.false_eq_true, if_false]
          go_wp2_with fail
          go_ret
          exact ⟨rfl, b07⟩
        · simp only [if_true]
          go_wp2_with fail
          go_ret
          exact ⟨rfl, b07⟩
      · rw [hp, if_pos rfl] at he
        obtain ⟨ao6, cap6, rfl, hR6⟩ := he
        obtain ⟨hgd, htx⟩ := M.parses_is hp
        have hfit6 := fit_read s.data.toList (by rw [show s.data.toList.length = s.size by simp]; omega)
        generalize (M.read s.data.toList).1 = n6 at hgd htx ⊢
        generalize (M.read s.data.toList).2 = l6 at hgd htx hR6 hfit6 ⊢
        go_wp2_with fail
        (with_reducible refine (print_any n6 l6 _ hR6 hfit6 hE6).mono ?_)
        rintro e w7 ⟨rfl, b7⟩
        have b07 := b06.trans (b7.mono b06.size)
        unfold told
        have hts : (⟨(M.text n6 l6).toArray⟩ : ByteArray) = s := (congrArg (fun z : List UInt8 => (⟨z.toArray⟩ : ByteArray)) htx).trans (M.array_toList s)
        rw [hgd, if_pos rfl, hts]
        have heq : (s.toList == s.toList) = true := beq_self_eq_true _
        clear hts htx hgd
        go_wp2_with fail
        go_ret
        exact ⟨rfl, b07⟩
end Go.Proofs.YtbfgniheagolgaaDoor
