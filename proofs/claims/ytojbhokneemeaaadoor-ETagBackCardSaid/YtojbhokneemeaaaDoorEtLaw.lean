/-
  The statements' walks: awake, ETagLists, ETagBack.
-/
import Derived.Test.YtojbhokneemeaaaDoorProgMay
namespace Go.Proofs.YtojbhokneemeaaaDoor
open Go.RowKit

theorem tagsIn_two (w : World) (a b : Tag) : TagsIn (w.alloc (.cells #[.bool a.weak, .string a.value, .bool b.weak, .string b.value] 23)) (some ⟨w.heap.size, 0, none⟩) [a, b] := by
  have k := Cells.new w 23 #[.bool a.weak, .string a.value, .bool b.weak, .string b.value]
  intro j hj
  match j, hj with
  | 0, _ => exact ⟨w.heap.size, 0, rfl, k.cell rfl, k.cell rfl⟩
  | 1, _ => exact ⟨w.heap.size, 0, rfl, k.cell rfl, k.cell rfl⟩
  | n + 2, h => simp at h; omega

set_option maxRecDepth 100000 in
set_option maxHeartbeats 3200000 in
theorem awake_any (w : World) : Calls Tryd.prog 8 #[] w fun e w' => e = .returned (.bool true) ∧ Below w.heap.size w w' := by
  obtain ⟨a1, a2, a3⟩ := li_some (s := ⟨#[34, 97, 34, 44, 32, 87, 47, 34, 98, 34]⟩) (l := [⟨false, ⟨#[97]⟩⟩, ⟨true, ⟨#[98]⟩⟩]) (b := false) (by decide +kernel)
  obtain ⟨b1, b2, b3⟩ := li_none (s := ⟨#[97]⟩) (by decide +kernel)
  have m1 : Et.mayQ (⟨#[34, 97, 34]⟩ : ByteArray).data.toList (⟨#[]⟩ : ByteArray).data.toList ⟨false, ⟨#[97]⟩⟩ true false = 0 := by decide +kernel
  have m2 : Et.mayQ (⟨#[42]⟩ : ByteArray).data.toList (⟨#[]⟩ : ByteArray).data.toList ⟨false, ⟨#[97]⟩⟩ false false = 412 := by decide +kernel
  have cL := Lib.hid (fun W => eList_any ⟨#[34, 97, 34, 44, 32, 87, 47, 34, 98, 34]⟩ W (by decide))
  have cM := Lib.hid (fun W => eList_any ⟨#[97]⟩ W (by decide))
  have cA := Lib.hid (fun W => eMay_any ⟨#[34, 97, 34]⟩ ⟨#[]⟩ ⟨false, ⟨#[97]⟩⟩ true false W (by decide) (by decide))
  have cB := Lib.hid (fun W => eMay_any ⟨#[42]⟩ ⟨#[]⟩ ⟨false, ⟨#[97]⟩⟩ false false W (by decide) (by decide))
  rw [a1, a2, a3] at cL
  rw [b1, b2, b3] at cM
  rw [m1] at cA
  rw [m2] at cB
  clear a1 a2 a3 b1 b2 b3 m1 m2
  go_enter Tryd.func8, Tryd.ntmps8
  go_wp2_with fail
  (with_reducible refine (cL.out _).mono ?_); rintro e w1 ⟨v, rfl, ho, x1⟩
  obtain ⟨ao, cap, rfl, hT⟩ := tags_of_owns ho
  replace hT := Lib.hid hT
  replace x1 := Lib.hid x1
  clear ho cL
  go_wp2_with fail
  (with_reducible refine (cM.out _).mono ?_); rintro e w2 ⟨v, rfl, ho, b2⟩
  obtain ⟨ao2, cap2, rfl, -⟩ := tags_of_owns ho
  replace hT := Lib.hid (hT.out.below b2)
  have x2 := Lib.hid (x1.out.trans (b2.mono x1.out.size))
  have bN := (Below.refl w2.heap.size w2).alloc (Nat.le_refl _) (.cells #[.bool false, .string ⟨#[97]⟩, .bool true, .string ⟨#[98]⟩] 23)
  have hN := Lib.hid (tagsIn_two w2 ⟨false, ⟨#[97]⟩⟩ ⟨true, ⟨#[98]⟩⟩)
  have hT3 := Lib.hid (hT.out.below bN)
  have x3 := Lib.hid (x2.out.trans (bN.mono x2.out.size))
  clear ho b2 x1 cM bN
  go_wp2_with fail
  (with_reducible refine (sameTags_any (n1 := 2) (n2 := 2) [⟨false, ⟨#[97]⟩⟩, ⟨true, ⟨#[98]⟩⟩] [⟨false, ⟨#[97]⟩⟩, ⟨true, ⟨#[98]⟩⟩] _ hT3.out hN.out (by decide) rfl rfl).mono ?_); rintro e w4 ⟨rfl, b4⟩
  rw [decide_eq_true rfl]
  have hT4 := hT3.out.below b4
  obtain ⟨bb, off, rfl, c0, c1⟩ := hT4 0 (by decide)
  simp only [Nat.zero_mul, Nat.add_zero, List.getElem_cons_zero] at c0 c1
  replace hT4 := Lib.hid hT4
  have x4 := Lib.hid (x3.out.trans (b4.mono x3.out.size))
  clear b4 x3 x2 hT hT3 hN
  go_wp2_with fail
  (with_reducible refine (cA.out _).mono ?_); rintro e w5 ⟨rfl, b5⟩
  have d0 := (b5.cell (World.block_lt_of_cell? _ _ c0)).trans c0
  have d1 := (b5.cell (World.block_lt_of_cell? _ _ c1)).trans c1
  have x5 := Lib.hid (x4.out.trans (b5.mono x4.out.size))
  clear c0 c1 b5 x4 hT4 cA
  go_wp2_with fail
  (with_reducible refine (cB.out _).mono ?_); rintro e w6 ⟨rfl, b6⟩
  have x6 := Lib.hid (x5.out.trans (b6.mono x5.out.size))
  go_wp2_with fail
  go_ret
  exact ⟨rfl, x6.out⟩

set_option maxRecDepth 100000 in
set_option maxHeartbeats 6400000 in
theorem lists_any (s : ByteArray) (t : Tag) (w : World) (_ : s.size ≤ maxLen) : Calls Tryd.prog 3 #[.string s, .agg #[.bool t.weak, .string t.value]] w fun e w' => e = .returned (.bool true) ∧ Below w.heap.size w w' := by
  have bA := (Below.refl w.heap.size w).alloc (Nat.le_refl _) (.cells #[.bool t.weak, .string t.value] 23)
  have k0 := TagBox.new w t
  go_enter Tryd.func3, Tryd.ntmps3
  go_upto_region 1 with fail
  generalize w.alloc (.cells #[.bool t.weak, .string t.value] 23) = W at *
  have c0 := k0.c0
  have c1 := k0.c1
  replace bA := Lib.hid bA
  replace k0 := Lib.hid k0
  by_cases hl : 1000 < s.size ∨ 1000 < t.value.size
  · have hl' : 1000 < s.size ∨ (¬ 1000 < s.size ∧ 1000 < t.value.size) := by omega
    clear hl
    rcases hl' with hl | ⟨hl, hl2⟩
    all_goals
      go_wp2_with fail
      (with_reducible refine (awake_any _).mono ?_); rintro e w1 ⟨rfl, b1⟩
      have x1 := Lib.hid (bA.out.trans (b1.mono bA.out.size))
      go_wp2_with fail
      go_ret
      exact ⟨rfl, x1.out⟩
  · obtain ⟨h1, h2⟩ : ¬ 1000 < s.size ∧ ¬ 1000 < t.value.size := by omega
    clear hl
    have cL := Lib.hid (fun W => eList_any s W (by omega))
    have cR := Lib.hid (fun W => refList_any s W (by omega))
    have cP := Lib.hid (fun W => ePrint_any t W (by omega))
    have cQ := Lib.hid (fun W => refPrint_any t W (by omega))
    have hz := li_size s
    generalize liT s = T at *
    generalize liS s = S at *
    generalize liE s = E at *
    generalize plA t = A at *
    generalize plE t = F at *
    go_wp2_with fail
    (with_reducible refine (cL.out _).mono ?_); rintro e w1 ⟨v, rfl, ho, b1⟩
    obtain ⟨ao, cap, rfl, hT⟩ := tags_of_owns ho
    have x1 := Lib.hid (bA.out.trans (b1.mono bA.out.size))
    have k1 := Lib.hid (k0.out.on b1)
    replace hT := Lib.hid hT
    clear ho b1 bA k0 cL c0 c1
    go_wp2_with fail
    (with_reducible refine (cR.out _).mono ?_); rintro e w2 ⟨v, rfl, ho, b2⟩
    obtain ⟨ao2, cap2, rfl, hU⟩ := tags_of_owns ho
    have x2 := Lib.hid (x1.out.trans (b2.mono x1.out.size))
    have k2 := Lib.hid (k1.out.on b2)
    replace hT := Lib.hid (hT.out.below b2)
    replace hU := Lib.hid hU
    have c0 := k2.out.c0
    have c1 := k2.out.c1
    clear ho b2 x1 k1 cR
    go_wp2_with fail
    (with_reducible refine (cP.out _).mono ?_); rintro e w3 ⟨rfl, b3⟩
    have x3 := Lib.hid (x2.out.trans (b3.mono x2.out.size))
    have k3 := Lib.hid (k2.out.on b3)
    replace hT := Lib.hid (hT.out.below b3)
    replace hU := Lib.hid (hU.out.below b3)
    clear b3 x2 k2 cP c0 c1
    have c0 := k3.out.c0
    have c1 := k3.out.c1
    go_wp2_with fail
    (with_reducible refine (cQ.out _).mono ?_); rintro e w4 ⟨rfl, b4⟩
    have x4 := Lib.hid (x3.out.trans (b4.mono x3.out.size))
    replace hT := Lib.hid (hT.out.below b4)
    replace hU := Lib.hid (hU.out.below b4)
    clear b4 x3 k3 cQ c0 c1
    go_wp2_with fail
    (with_reducible refine (awake_any _).mono ?_); rintro e w5 ⟨rfl, b5⟩
    have x5 := Lib.hid (x4.out.trans (b5.mono x4.out.size))
    replace hT := Lib.hid (hT.out.below b5)
    replace hU := Lib.hid (hU.out.below b5)
    clear b5 x4
    go_wp2_with fail
    (with_reducible refine (sameTags_any T T _ hT.out hU.out (by omega) rfl rfl).mono ?_); rintro e w6 ⟨rfl, b6⟩
    rw [decide_eq_true rfl]
    have x6 := Lib.hid (x5.out.trans (b6.mono x5.out.size))
    have g1 : (S == S) = true := beq_self_eq_true _
    have g2 : (A.toList == A.toList) = true := beq_self_eq_true _
    clear b6 x5 hT hU
    go_wp2_with fail
    go_ret
    exact ⟨rfl, x6.out⟩

set_option maxRecDepth 100000 in
set_option maxHeartbeats 6400000 in
theorem back_any (a b : Tag) (w : World) : Calls Tryd.prog 5 #[.agg #[.bool a.weak, .string a.value], .agg #[.bool b.weak, .string b.value]] w fun e w' => e = .returned (.bool true) ∧ Below w.heap.size w w' := by
  have b1 := (Below.refl w.heap.size w).alloc (Nat.le_refl _) (.cells #[.bool a.weak, .string a.value] 23)
  have bA := b1.alloc (by simp) (.cells #[.bool b.weak, .string b.value] 23)
  have k0 : TagBox _ w.heap.size a := (Cells.new w 23 #[.bool a.weak, .string a.value]).alloc (.cells #[.bool b.weak, .string b.value] 23)
  have k1 := TagBox.new (w.alloc (.cells #[.bool a.weak, .string a.value] 23)) b
  rw [World.size_alloc] at k1
  go_enter Tryd.func5, Tryd.ntmps5
  go_upto_region 1 with fail
  generalize (w.alloc (.cells #[.bool a.weak, .string a.value] 23)).alloc (.cells #[.bool b.weak, .string b.value] 23) = W at *
  replace bA := Lib.hid bA
  replace k0 := Lib.hid k0
  replace k1 := Lib.hid k1
  clear b1
  go_wp2_with fail
  (with_reducible refine (awake_any _).mono ?_); rintro e w1 ⟨rfl, b1⟩
  have x1 := Lib.hid (bA.out.trans (b1.mono bA.out.size))
  replace k0 := Lib.hid (k0.out.on b1)
  replace k1 := Lib.hid (k1.out.on b1)
  have c0 := k0.out.c0
  have c1 := k0.out.c1
  have d0 := k1.out.c0
  have d1 := k1.out.c1
  clear b1 bA
  by_cases hl : 500 < a.value.size ∨ 500 < b.value.size
  · have hl' : 500 < a.value.size ∨ (¬ 500 < a.value.size ∧ 500 < b.value.size) := by omega
    clear hl
    rcases hl' with hl | ⟨hl, hl2⟩
    all_goals
      go_wp2_with fail
      go_ret
      exact ⟨rfl, x1.out⟩
  · obtain ⟨h1, h2⟩ : ¬ 500 < a.value.size ∧ ¬ 500 < b.value.size := by omega
    clear hl
    have cP := Lib.hid (fun W => ePrint_any a W (by omega))
    have cQ := Lib.hid (fun W => ePrint_any b W (by omega))
    have ea : (plE a = 0 ∧ Et.may a = true ∧ (plA a).data.toList = Et.tell a) ∨ (plE a = 170 ∧ plA a = ⟨#[]⟩) := by
      cases h : Et.may a with
      | true => obtain ⟨r1, r2⟩ := pl_yes h; exact .inl ⟨r2, rfl, by rw [r1, mk_list]⟩
      | false => obtain ⟨r1, r2⟩ := pl_no h; exact .inr ⟨r2, r1⟩
    have eb : (plE b = 0 ∧ Et.may b = true ∧ (plA b).data.toList = Et.tell b) ∨ (plE b = 170 ∧ plA b = ⟨#[]⟩) := by
      cases h : Et.may b with
      | true => obtain ⟨r1, r2⟩ := pl_yes h; exact .inl ⟨r2, rfl, by rw [r1, mk_list]⟩
      | false => obtain ⟨r1, r2⟩ := pl_no h; exact .inr ⟨r2, r1⟩
    have za := pl_size a
    have zb := pl_size b
    generalize plA a = A at *
    generalize plE a = E at *
    generalize plA b = B at *
    generalize plE b = F at *
    replace ea := Lib.hid ea
    replace eb := Lib.hid eb
    go_wp2_with fail
    (with_reducible refine (cP.out _).mono ?_); rintro e w2 ⟨rfl, b2⟩
    have x2 := Lib.hid (x1.out.trans (b2.mono x1.out.size))
    replace k0 := Lib.hid (k0.out.on b2)
    replace k1 := Lib.hid (k1.out.on b2)
    clear b2 x1 cP c0 c1 d0 d1
    have d0 := k1.out.c0
    have d1 := k1.out.c1
    go_wp2_with fail
    (with_reducible refine (cQ.out _).mono ?_); rintro e w3 ⟨rfl, b3⟩
    have x3 := Lib.hid (x2.out.trans (b3.mono x2.out.size))
    replace k0 := Lib.hid (k0.out.on b3)
    replace k1 := Lib.hid (k1.out.on b3)
    clear b3 x2 cQ d0 d1
    rcases ea.out with ⟨rfl, ma, hA⟩ | ⟨rfl, rfl⟩
    case inr =>
      clear ea
      have hn : ((⟨#[]⟩ : ByteArray).toList == []) = true := by rw [ByteArray.toList_eq]; rfl
      rcases eb.out with ⟨rfl, -, -⟩ | ⟨rfl, rfl⟩
      all_goals
        clear eb
        go_wp2_with fail
        go_ret
        exact ⟨rfl, x3.out⟩
    case inl =>
      rcases eb.out with ⟨rfl, mb, hB⟩ | ⟨rfl, rfl⟩
      case inr =>
        have hn : ((⟨#[]⟩ : ByteArray).toList == []) = true := by rw [ByteArray.toList_eq]; rfl
        replace ma := Lib.hid ma
        replace hA := Lib.hid hA
        clear ea eb
        go_wp2_with fail
        go_ret
        exact ⟨rfl, x3.out⟩
      case inl =>
        clear ea eb
        have hb := Et.back ma mb
        have ht : ((⟨#[32, 44, 9]⟩ : ByteArray) ++ A ++ ⟨#[32, 44, 44, 32]⟩ ++ B ++ ⟨#[44]⟩).data.toList = [32, 44, 9] ++ Et.tell a ++ [32, 44, 44, 32] ++ Et.tell b ++ [44] := by
          simp only [ByteArray.data_append, Array.toList_append, hA, hB]
        rw [← ht] at hb
        obtain ⟨r1, r2, r3⟩ := li_some hb
        have hsz : ((⟨#[32, 44, 9]⟩ : ByteArray) ++ A ++ ⟨#[32, 44, 44, 32]⟩ ++ B ++ ⟨#[44]⟩).size ≤ 100000 := by
          simp only [ByteArray.size_append]
          have : (⟨#[32, 44, 9]⟩ : ByteArray).size = 3 := rfl
          have : (⟨#[32, 44, 44, 32]⟩ : ByteArray).size = 4 := rfl
          have : (⟨#[44]⟩ : ByteArray).size = 1 := rfl
          omega
        have cL := Lib.hid (fun W => eList_any _ W hsz)
        rw [r1, r2, r3] at cL
        clear hb ht r1 r2 r3 hsz
        replace ma := Lib.hid ma
        replace hA := Lib.hid hA
        replace mb := Lib.hid mb
        replace hB := Lib.hid hB
        have q1 : ¬ 9223372036854775807 < 3 + A.size := by omega
        have q2 : ¬ 9223372036854775807 < 3 + A.size + 4 := by omega
        have q3 : ¬ 9223372036854775807 < 3 + A.size + 4 + B.size := by omega
        have q4 : ¬ 9223372036854775807 < 3 + A.size + 4 + B.size + 1 := by omega
        go_wp2_with fail
        (with_reducible refine (cL.out _).mono ?_); rintro e w4 ⟨v, rfl, ho, b4⟩
        obtain ⟨ao, cap, rfl, hT⟩ := tags_of_owns ho
        have x4 := Lib.hid (x3.out.trans (b4.mono x3.out.size))
        replace k0 := k0.out.on b4
        replace k1 := k1.out.on b4
        have c0 := k0.c0
        have c1 := k0.c1
        have d0 := k1.c0
        have d1 := k1.c1
        have bN := (Below.refl w4.heap.size w4).alloc (Nat.le_refl _) (.cells #[.bool a.weak, .string a.value, .bool b.weak, .string b.value] 23)
        have hN := Lib.hid (tagsIn_two w4 a b)
        have hT2 := Lib.hid (hT.below bN)
        have x5 := Lib.hid (x4.out.trans (bN.mono x4.out.size))
        clear ho b4 x3 cL hT bN k0 k1 q1 q2 q3 q4 x4
        go_wp2_with fail
        (with_reducible refine (sameTags_any (n1 := 2) (n2 := 2) [a, b] [a, b] _ hT2.out hN.out (by simp) rfl rfl).mono ?_); rintro e w6 ⟨rfl, b6⟩
        rw [decide_eq_true rfl]
        have x6 := Lib.hid (x5.out.trans (b6.mono x5.out.size))
        clear b6 x5 hT2 hN c0 c1 d0 d1
        go_wp2_with fail
        go_ret
        exact ⟨rfl, x6.out⟩
end Go.Proofs.YtojbhokneemeaaaDoor
