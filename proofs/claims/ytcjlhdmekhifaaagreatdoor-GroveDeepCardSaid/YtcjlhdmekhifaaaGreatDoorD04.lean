/-
  What the document's own words of references come to: contracts of Space, digit, number, utf8.
  What the document's own words of references come to: contracts of number, named.
-/
import Derived.Test.YtcjlhdmekhifaaaGreatDoorD03
import Derived.Test.YtcjlhdmekhifaaaGreatDoorD02
import Derived.Deep.DeepCutAuto
namespace Go.Proofs.YtcjlhdmekhifaaaGreatDoor
open Go.RowKit

theorem refSpace_any (c : Int) (w : World) :
    Calls Tryz.prog 26 #[.int .i64 c] w fun e w' => e = .returned (.bool (G.space c)) ∧ w = w' := by
  have H : G.space c = (decide (c = 32) || decide (c = 9) || decide (c = 10) || decide (c = 13)) := rfl
  have HH := Lib.hid H
  clear H
  go_enter Tryz.func26, Tryz.ntmps26
  go_wp2
  all_goals go_ret
  all_goals refine ⟨ret_bool ?_, rfl⟩
  all_goals rw [HH.out, Bool.eq_iff_iff]
  all_goals simp
  all_goals omega

namespace E
/-- a digit's worth, -1: none. -/
def digitN (c : UInt8) (base : Nat) : Int := match digit c base with | some k => (k : Int) | none => -1
def numN (base : Nat) (l : List UInt8) : Int := match number base l with | some k => (k : Int) | none => -1
theorem digitN_cases (c : UInt8) (base : Nat) : digitN c base =
    (let n : Int := if 48 ≤ c.toNat ∧ c.toNat ≤ 57 then (c.toNat : Int) - 48 else if 65 ≤ c.toNat ∧ c.toNat ≤ 70 then (c.toNat : Int) - 55 else if 97 ≤ c.toNat ∧ c.toNat ≤ 102 then (c.toNat : Int) - 87 else -1
     if n < (base : Int) then n else -1) := by
  unfold digitN digit
  by_cases h1 : 48 ≤ c.toNat ∧ c.toNat ≤ 57
  · simp only [if_pos h1, Option.bind_some]
    by_cases hb : c.toNat - 48 < base
    · simp only [if_pos hb]; rw [if_pos (by omega)]; omega
    · simp only [if_neg hb]; rw [if_neg (by omega)]
  · by_cases h2 : 65 ≤ c.toNat ∧ c.toNat ≤ 70
    · simp only [if_neg h1, if_pos h2, Option.bind_some]
      by_cases hb : c.toNat - 55 < base
      · simp only [if_pos hb]; rw [if_pos (by omega)]; omega
      · simp only [if_neg hb]; rw [if_neg (by omega)]
    · by_cases h3 : 97 ≤ c.toNat ∧ c.toNat ≤ 102
      · simp only [if_neg h1, if_neg h2, if_pos h3, Option.bind_some]
        by_cases hb : c.toNat - 87 < base
        · simp only [if_pos hb]; rw [if_pos (by omega)]; omega
        · simp only [if_neg hb]; rw [if_neg (by omega)]
      · simp only [if_neg h1, if_neg h2, if_neg h3, Option.bind_none]
        split <;> rfl
end E

theorem refDigit_any (c : UInt8) (base : Nat) (w : World) (hb : base ≤ 100) :
    Calls Tryz.prog 169 #[.int .u8 (c.toNat : Int), .int .i64 (base : Int)] w fun e w' => e = .returned (.int .i64 (E.digitN c base)) ∧ w = w' := by
  have H := E.digitN_cases c base
  generalize E.digitN c base = r at H
  have hc := c.toNat_lt
  generalize c.toNat = n at *
  replace H := Lib.hid H
  go_enter Tryz.func169, Tryz.ntmps169
  go_wp2
  all_goals go_ret
  all_goals refine ⟨ret_int ?_, rfl⟩
  all_goals rw [H.out]
  all_goals repeat' split
  all_goals omega

theorem cells_new (w : World) (xs : List Value) (t : TypeId) (fr : Nat × Nat) : ∀ j u, xs[j]? = some u → (w.alloc (.cells xs.toArray t fr)).cell? ((⟨w.heap.size, 0, none⟩ : Addr).add j) = some u := by
  intro j u hj
  have e := heap_alloc_new w (.cells xs.toArray t fr)
  have a : (⟨w.heap.size, 0, none⟩ : Addr).add j = ⟨w.heap.size, j, none⟩ := by unfold Addr.add; split <;> simp_all
  rw [a]
  unfold World.cell?
  rw [e]
  simp [hj]

theorem byteCells_rune (r : Int) : (Lib.encodeRuneZ r).map (fun x => Value.int .u8 x) = Lib.byteCells (Lib.encodeRune r) := (Lib.byteCells_encodeRune r).symm

set_option maxRecDepth 100000 in
set_option maxHeartbeats 1600000 in
theorem refUtf8_any (c : Nat) (w : World) (hc : G.char (c : Int) = true) :
    Calls Tryz.prog 162 #[.int .i64 (c : Int)] w fun e w' => e = .returned (.string ⟨(Lib.encodeRune (c : Int)).toArray⟩) ∧ Below w.heap.size w w' := by
  obtain ⟨i0, hi, hz0, hz1, hz2⟩ := info_parts infoByte
  have hb : c ≤ 1114111 ∧ (c < 55296 ∨ 57343 < c) := by
    simp [G.char, G.inR] at hc
    omega
  clear hc
  obtain ⟨hb1, hb2⟩ := hb
  go_enter Tryz.func162, Tryz.ntmps162
  by_cases h1 : c < 128
  · have hE := Lib.hid (Lib.encodeRuneZ_one (r := (c : Int)) (by omega) (by omega))
    go_wp2_with (at_builtin; refine wpList_append_own _ rfl _ _ 78 rfl w.heap.size 5 i0 (.int .u8 0) 1 1 Tryz.underlying78 hi hz0 hz1 hz2 rfl (by decide) _ _ _ rfl (owns_nil w.heap.size _) ⟨w.heap.size, 0, none⟩ 1 1 [.int .u8 ((c : Int))] rfl rfl (cells_new w [.int .u8 ((c : Int))] _ _) (fun u hu => by simp at hu; rcases hu with rfl <;> rfl) (by unfold maxLen; decide) (by decide) (by simp) ?_)
    intro v2 w2 hown2 hg2 _
    have hga : w.grownBy w2 _ := (World.grownBy_alloc w _ _).trans hg2
    have b2 := (owns_nil w.heap.size w).below hga (Nat.le_refl _)
    have ho2 : Owns w.heap.size v2 (Lib.encodeRune (c : Int)) w2 := owns_of hown2 (by unfold Lib.encodeRune; rw [hE.out]; rfl) (by rw [← byteCells_rune, hE.out]; rfl)
    have hcv := owns_string ho2 (fun e => by unfold Lib.encodeRune at e; rw [hE.out] at e; cases e)
    clear hown2 hg2 hga
    go_wp2
    go_ret
    exact ⟨rfl, b2⟩
  by_cases h2 : c < 2048
  · have hE := Lib.hid (Lib.encodeRuneZ_two (r := (c : Int)) (by omega) (by omega))
    go_wp2_with (at_builtin; refine wpList_append_own _ rfl _ _ 78 rfl w.heap.size 5 i0 (.int .u8 0) 1 1 Tryz.underlying78 hi hz0 hz1 hz2 rfl (by decide) _ _ _ rfl (owns_nil w.heap.size _) ⟨w.heap.size, 0, none⟩ 2 2 [.int .u8 (192 + (c : Int) / 64), .int .u8 (128 + (c : Int) % 64)] rfl rfl (cells_new w [.int .u8 (192 + (c : Int) / 64), .int .u8 (128 + (c : Int) % 64)] _ _) (fun u hu => by simp at hu; rcases hu with rfl | rfl <;> rfl) (by unfold maxLen; decide) (by decide) (by simp) ?_)
    intro v2 w2 hown2 hg2 _
    have hga : w.grownBy w2 _ := (World.grownBy_alloc w _ _).trans hg2
    have b2 := (owns_nil w.heap.size w).below hga (Nat.le_refl _)
    have ho2 : Owns w.heap.size v2 (Lib.encodeRune (c : Int)) w2 := owns_of hown2 (by unfold Lib.encodeRune; rw [hE.out]; rfl) (by rw [← byteCells_rune, hE.out]; rfl)
    have hcv := owns_string ho2 (fun e => by unfold Lib.encodeRune at e; rw [hE.out] at e; cases e)
    clear hown2 hg2 hga
    go_wp2
    go_ret
    exact ⟨rfl, b2⟩
  by_cases h3 : c < 65536
  · have hE := Lib.encodeRuneZ_three (r := (c : Int)) (by omega)
    obtain ⟨q1, e1, l1⟩ : ∃ q : Nat, (c : Int) / 4096 = (q : Int) ∧ q < 16 := ⟨((c : Int) / 4096).toNat, by omega, by omega⟩
    obtain ⟨q2, e2, l2⟩ : ∃ q : Nat, (c : Int) / 64 % 64 = (q : Int) ∧ q < 64 := ⟨((c : Int) / 64 % 64).toNat, by omega, by omega⟩
    obtain ⟨q3, e3, l3⟩ : ∃ q : Nat, (c : Int) % 64 = (q : Int) ∧ q < 64 := ⟨((c : Int) % 64).toNat, by omega, by omega⟩
    rw [e1, e2, e3] at hE
    replace hE := Lib.hid hE
    replace h3 : (c : Int) < 65536 := by omega
    replace h2 : ¬ (c : Int) < 2048 := by omega
    replace h1 : ¬ (c : Int) < 128 := by omega
    clear hb1 hb2
    go_wp2_with (at_builtin; refine wpList_append_own _ rfl _ _ 78 rfl w.heap.size 5 i0 (.int .u8 0) 1 1 Tryz.underlying78 hi hz0 hz1 hz2 rfl (by decide) _ _ _ rfl (owns_nil w.heap.size _) ⟨w.heap.size, 0, none⟩ 3 3 [.int .u8 (224 + (q1 : Int)), .int .u8 (128 + (q2 : Int)), .int .u8 (128 + (q3 : Int))] rfl rfl (cells_new w [.int .u8 (224 + (q1 : Int)), .int .u8 (128 + (q2 : Int)), .int .u8 (128 + (q3 : Int))] _ _) (fun u hu => by simp at hu; rcases hu with rfl | rfl | rfl <;> rfl) (by unfold maxLen; decide) (by decide) (by simp) ?_)
    intro v2 w2 hown2 hg2 _
    have hga : w.grownBy w2 _ := (World.grownBy_alloc w _ _).trans hg2
    have b2 := (owns_nil w.heap.size w).below hga (Nat.le_refl _)
    have ho2 : Owns w.heap.size v2 (Lib.encodeRune (c : Int)) w2 := owns_of hown2 (by unfold Lib.encodeRune; rw [hE.out]; rfl) (by rw [← byteCells_rune, hE.out]; rfl)
    have hcv := owns_string ho2 (fun e => by unfold Lib.encodeRune at e; rw [hE.out] at e; cases e)
    clear hown2 hg2 hga
    go_wp2
    go_ret
    exact ⟨rfl, b2⟩
  · have hE := Lib.encodeRuneZ_four (r := (c : Int)) (by omega) (by omega)
    obtain ⟨q1, e1, l1⟩ : ∃ q : Nat, (c : Int) / 262144 = (q : Int) ∧ q < 8 := ⟨((c : Int) / 262144).toNat, by omega, by omega⟩
    obtain ⟨q2, e2, l2⟩ : ∃ q : Nat, (c : Int) / 4096 % 64 = (q : Int) ∧ q < 64 := ⟨((c : Int) / 4096 % 64).toNat, by omega, by omega⟩
    obtain ⟨q3, e3, l3⟩ : ∃ q : Nat, (c : Int) / 64 % 64 = (q : Int) ∧ q < 64 := ⟨((c : Int) / 64 % 64).toNat, by omega, by omega⟩
    obtain ⟨q4, e4, l4⟩ : ∃ q : Nat, (c : Int) % 64 = (q : Int) ∧ q < 64 := ⟨((c : Int) % 64).toNat, by omega, by omega⟩
    rw [e1, e2, e3, e4] at hE
    replace hE := Lib.hid hE
    replace h3 : ¬ (c : Int) < 65536 := by omega
    replace h2 : ¬ (c : Int) < 2048 := by omega
    replace h1 : ¬ (c : Int) < 128 := by omega
    clear hb1 hb2
    go_wp2_with (at_builtin; refine wpList_append_own _ rfl _ _ 78 rfl w.heap.size 5 i0 (.int .u8 0) 1 1 Tryz.underlying78 hi hz0 hz1 hz2 rfl (by decide) _ _ _ rfl (owns_nil w.heap.size _) ⟨w.heap.size, 0, none⟩ 4 4 [.int .u8 (240 + (q1 : Int)), .int .u8 (128 + (q2 : Int)), .int .u8 (128 + (q3 : Int)), .int .u8 (128 + (q4 : Int))] rfl rfl (cells_new w [.int .u8 (240 + (q1 : Int)), .int .u8 (128 + (q2 : Int)), .int .u8 (128 + (q3 : Int)), .int .u8 (128 + (q4 : Int))] _ _) (fun u hu => by simp at hu; rcases hu with rfl | rfl | rfl | rfl <;> rfl) (by unfold maxLen; decide) (by decide) (by simp) ?_)
    intro v2 w2 hown2 hg2 _
    have hga : w.grownBy w2 _ := (World.grownBy_alloc w _ _).trans hg2
    have b2 := (owns_nil w.heap.size w).below hga (Nat.le_refl _)
    have ho2 : Owns w.heap.size v2 (Lib.encodeRune (c : Int)) w2 := owns_of hown2 (by unfold Lib.encodeRune; rw [hE.out]; rfl) (by rw [← byteCells_rune, hE.out]; rfl)
    have hcv := owns_string ho2 (fun e => by unfold Lib.encodeRune at e; rw [hE.out] at e; cases e)
    clear hown2 hg2 hga
    go_wp2
    go_ret
    exact ⟨rfl, b2⟩
end Go.Proofs.YtcjlhdmekhifaaaGreatDoor
namespace Go.Proofs.YtcjlhdmekhifaaaGreatDoor
open Go.RowKit

namespace E
def numR (base m : Nat) (l : List UInt8) : Int := match numGo base m l with | some n => if G.char (n : Int) = true then (n : Int) else -1 | none => -1
theorem numN_of (base : Nat) (l : List UInt8) (h : l ≠ []) : numN base l = numR base 0 l := by
  unfold numN numR number
  rw [if_neg h]
  cases numGo base 0 l with
  | none => rfl
  | some n =>
    simp only [Option.bind_some]
    by_cases hc : G.char (n : Int) = true
    · rw [if_pos hc, if_pos hc]
    · rw [if_neg hc, if_neg hc]
theorem numN_nil (base : Nat) : numN base [] = -1 := rfl
theorem numR_nil (base m : Nat) : numR base m [] = if G.char (m : Int) = true then (m : Int) else -1 := rfl
theorem numR_bad (base m : Nat) (b : UInt8) (t : List UInt8) (h : digit b base = none) : numR base m (b :: t) = -1 := by
  unfold numR numGo; rw [h]; rfl
theorem numR_step (base m d : Nat) (b : UInt8) (t : List UInt8) (h : digit b base = some d) : numR base m (b :: t) = numR base (min (m * base + d) 1114112) t := by
  unfold numR; rw [numGo, h]; rfl
theorem digit_lt {b : UInt8} {base d : Nat} (h : digit b base = some d) : d < base := by
  unfold digit at h
  revert h
  generalize (if 48 ≤ b.toNat ∧ b.toNat ≤ 57 then some (b.toNat - 48) else if 65 ≤ b.toNat ∧ b.toNat ≤ 70 then some (b.toNat - 55) else if 97 ≤ b.toNat ∧ b.toNat ≤ 102 then some (b.toNat - 87) else none) = o
  intro h
  cases o with
  | none => cases h
  | some k =>
    simp only [Option.bind_some] at h
    split at h
    · cases h; assumption
    · cases h
end E

set_option maxRecDepth 100000 in
set_option maxHeartbeats 1600000 in
theorem refNumber_any (s : ByteArray) (base : Nat) (w : World) (hs : s.size ≤ maxLen) (hb : base ≤ 16) :
    Calls Tryz.prog 161 #[.string s, .int .i64 (base : Int)] w fun e w' => e = .returned (.int .i64 (E.numN base s.data.toList)) ∧ Below w.heap.size w w' := by
  have hsm : s.size ≤ 9223372036854775807 := hs
  go_enter Tryz.func161, Tryz.ntmps161
  go_wp2_with fail
  go_loop [5, 6, 7] (fun n i d => ∃ k m : Nat, k ≤ s.size ∧ m ≤ 1114112 ∧ n = .int .i64 m ∧ i = .int .i64 k ∧ Hid (E.numR base m (s.data.toList.drop k) = E.numR base 0 s.data.toList)) (fun _ i _ => s.size - (intOf i).toNat)
  case atStart => exact ⟨0, 0, Nat.zero_le _, by omega, rfl, rfl, Lib.hid rfl⟩
  case round =>
    obtain ⟨k, m, hk, hm, rfl, rfl, hR⟩ := hrel
    by_cases hlt : k < s.size
    · have hne := Lib.hid (E.numN_of base s.data.toList (lst_ne (by omega)))
      have hdc := drop_cons s k hlt
      have hR1 := hR.out
      rw [hdc] at hR1
      clear hdc
      go_wp2_with fail
      (with_reducible refine (refDigit_any s[k] base _ (by omega)).mono ?_); rintro e w1 ⟨rfl, rfl⟩
      cases hd : E.digit s[k] base with
      | none =>
        have e1 : E.digitN s[k] base = -1 := by unfold E.digitN; rw [hd]
        have hr := Lib.hid (hne.out.trans (hR1.symm.trans (E.numR_bad base m _ _ hd)))
        rw [e1]
        clear e1 hR1 hd
        go_wp2
        go_ret
        exact ⟨ret_int hr.out.symm, Below.refl _ _⟩
      | some d =>
        have e1 : E.digitN s[k] base = (d : Int) := by unfold E.digitN; rw [hd]
        have hr := Lib.hid ((E.numR_step base m d _ _ hd).symm.trans hR1)
        have hl := E.digit_lt hd
        rw [e1]
        clear e1 hR1 hd
        have hmul : m * base ≤ 1114112 * 16 := Nat.mul_le_mul hm hb
        obtain ⟨q, hq⟩ : ∃ q : Nat, q = m * base := ⟨_, rfl⟩
        have hqi : (m : Int) * (base : Int) = (q : Int) := by rw [hq]; simp
        rw [← hq] at hr hmul
        clear hq
        go_wp2
        go_round
        case rel => exact ⟨k + 1, min (q + d) 1114112, by omega, by omega, by congr 1; split <;> omega, by go_num, hr⟩
        case measure => simp [intOf]; omega
    · have hnil : s.data.toList.drop k = [] := List.drop_of_length_le (by rw [list_len]; omega)
      have hR1 := hR.out
      rw [hnil, E.numR_nil] at hR1
      clear hnil
      by_cases h0 : s.size = 0
      · obtain rfl : s = ByteArray.empty := ByteArray.size_eq_zero_iff.1 h0
        have hr := Lib.hid (E.numN_nil base)
        clear hR1
        go_wp2
        go_ret
        exact ⟨ret_int hr.out.symm, Below.refl _ _⟩
      · have hne := (E.numN_of base s.data.toList (lst_ne (by omega))).trans hR1.symm
        have hem := ne_empty (s := s) (by omega)
        clear hR1
        go_wp2_with fail
        (with_reducible refine (refChar_any (m : Int) _).mono ?_); rintro e w1 ⟨rfl, b1⟩
        cases hc : G.char (m : Int)
        · rw [hc] at hne
          have hr := Lib.hid hne
          clear hne hc
          go_wp2
          go_ret
          exact ⟨ret_int hr.out.symm, b1⟩
        · rw [hc] at hne
          have hr := Lib.hid hne
          clear hne hc
          go_wp2
          go_ret
          exact ⟨ret_int hr.out.symm, b1⟩

namespace E
/-- what a reference's name is, as a string: empty, if nothing. -/
def namedB (s : ByteArray) : ByteArray := match named s.data.toList with | some u => ⟨u.toArray⟩ | none => ByteArray.empty
end E

theorem str_ne {s : ByteArray} {l : List UInt8} (h : ¬ s.data.toList = l) : (s.toList == l) = false := by
  rw [ByteArray.toList_eq]; exact beq_false_of_ne h
theorem str_is {s : ByteArray} {l : List UInt8} (h : s.data.toList = l) : (s.toList == l) = true := by
  rw [ByteArray.toList_eq, h]; exact beq_self_eq_true l

namespace E
theorem number_char {base n : Nat} {l : List UInt8} (h : number base l = some n) : G.char (n : Int) = true := by
  unfold number at h
  split at h
  · cases h
  · cases hg : numGo base 0 l with
    | none => rw [hg] at h; cases h
    | some k =>
      rw [hg] at h
      simp only [Option.bind_some] at h
      split at h
      · cases h; assumption
      · cases h
theorem numN_some {base n : Nat} {l : List UInt8} (h : number base l = some n) : numN base l = (n : Int) := by unfold numN; rw [h]
theorem numN_none {base : Nat} {l : List UInt8} (h : number base l = none) : numN base l = -1 := by unfold numN; rw [h]
theorem namedB_of {s : ByteArray} {u : List UInt8} (h : named s.data.toList = some u) : namedB s = ⟨u.toArray⟩ := by unfold namedB; rw [h]
theorem namedB_no {s : ByteArray} (h : named s.data.toList = none) : namedB s = ByteArray.empty := by unfold namedB; rw [h]
theorem named_hash {l : List UInt8} (h1 : ¬ l = [108, 116]) (h2 : ¬ l = [103, 116]) (h3 : ¬ l = [97, 109, 112]) (h4 : ¬ l = [113, 117, 111, 116]) (h5 : ¬ l = [97, 112, 111, 115]) :
    named l = if 2 < l.length ∧ l.take 2 = [35, 120] then (number 16 (l.drop 2)).map fun n => Lib.encodeRune n else if 1 < l.length ∧ l.take 1 = [35] then (number 10 (l.drop 1)).map fun n => Lib.encodeRune n else none := by
  unfold named
  rw [if_neg h1, if_neg h2, if_neg h3, if_neg h4, if_neg h5]
end E

set_option maxRecDepth 100000 in
set_option maxHeartbeats 3200000 in
theorem refNamed_any (s : ByteArray) (w : World) (hs : s.size ≤ maxLen) :
    Calls Tryz.prog 147 #[.string s] w fun e w' => e = .returned (.string (E.namedB s)) ∧ Below w.heap.size w w' := by
  have hsm : s.size ≤ 9223372036854775807 := hs
  have hlen := list_len s
  go_enter Tryz.func147, Tryz.ntmps147
  by_cases h1 : s.data.toList = [108, 116]
  · obtain rfl : s = ⟨#[108, 116]⟩ := bytes_eq h1
    have hr : E.namedB ⟨#[108, 116]⟩ = ⟨#[60]⟩ := by decide +kernel
    rw [hr]
    clear hlen 
    go_wp2
    go_ret
    exact ⟨rfl, Below.refl _ _⟩
  have n1 := str_ne h1
  by_cases h2 : s.data.toList = [103, 116]
  · obtain rfl : s = ⟨#[103, 116]⟩ := bytes_eq h2
    have hr : E.namedB ⟨#[103, 116]⟩ = ⟨#[62]⟩ := by decide +kernel
    rw [hr]
    clear hlen h1 n1
    go_wp2
    go_ret
    exact ⟨rfl, Below.refl _ _⟩
  have n2 := str_ne h2
  by_cases h3 : s.data.toList = [97, 109, 112]
  · obtain rfl : s = ⟨#[97, 109, 112]⟩ := bytes_eq h3
    have hr : E.namedB ⟨#[97, 109, 112]⟩ = ⟨#[38]⟩ := by decide +kernel
    rw [hr]
    clear hlen h1 n1 h2 n2
    go_wp2
    go_ret
    exact ⟨rfl, Below.refl _ _⟩
  have n3 := str_ne h3
  by_cases h4 : s.data.toList = [113, 117, 111, 116]
  · obtain rfl : s = ⟨#[113, 117, 111, 116]⟩ := bytes_eq h4
    have hr : E.namedB ⟨#[113, 117, 111, 116]⟩ = ⟨#[34]⟩ := by decide +kernel
    rw [hr]
    clear hlen h1 n1 h2 n2 h3 n3
    go_wp2
    go_ret
    exact ⟨rfl, Below.refl _ _⟩
  have n4 := str_ne h4
  by_cases h5 : s.data.toList = [97, 112, 111, 115]
  · obtain rfl : s = ⟨#[97, 112, 111, 115]⟩ := bytes_eq h5
    have hr : E.namedB ⟨#[97, 112, 111, 115]⟩ = ⟨#[39]⟩ := by decide +kernel
    rw [hr]
    clear hlen h1 n1 h2 n2 h3 n3 h4 n4
    go_wp2
    go_ret
    exact ⟨rfl, Below.refl _ _⟩
  have n5 := str_ne h5
  have hN := E.named_hash h1 h2 h3 h4 h5
  rw [hlen] at hN
  clear h1 h2 h3 h4 h5
  by_cases hx : 2 < s.size ∧ s.data.toList.take 2 = [35, 120]
  · rw [if_pos hx] at hN
    obtain ⟨hx1, hx2⟩ := hx
    rw [← take_list] at hx2
    rw [← drop_list] at hN
    have m1 := str_is hx2
    have hz : (s.extract 2 s.size).size ≤ maxLen := by simp; unfold maxLen at *; omega
    clear hx2
    replace hN := Lib.hid hN
    have key : ∀ {Q : Ending → World → Prop} (w0 : World), (∀ e w1, (e = Ending.returned (.int .i64 (E.numN 16 (s.extract 2 s.size).data.toList)) ∧ Below w0.heap.size w0 w1) → Q e w1) → Calls Tryz.prog 161 #[.string (s.extract 2 s.size), .int .i64 16] w0 Q := fun w0 h =>
      (refNumber_any (s.extract 2 s.size) 16 w0 hz (by decide)).mono h
    go_wp2_with fail
    refine key _ ?_
    rintro e w1 ⟨rfl, b1⟩
    cases hn : E.number 16 (s.extract 2 s.size).data.toList with
    | none =>
      have hr := Lib.hid (E.namedB_no (hN.out.trans (by rw [hn]; rfl)))
      rw [E.numN_none hn]
      clear hn
      go_wp2
      go_ret
      exact ⟨ret_str hr.out.symm, b1⟩
    | some n =>
      have hr := Lib.hid (E.namedB_of (hN.out.trans (by rw [hn]; rfl)))
      rw [E.numN_some hn]
      have hc := E.number_char hn
      clear hn
      go_wp2_with fail
      (with_reducible refine (refUtf8_any n _ hc).mono ?_); rintro e w2 ⟨rfl, b2⟩
      have b3 := b1.trans (b2.mono b1.size)
      go_wp2
      go_ret
      exact ⟨ret_str hr.out.symm, b3⟩
  · rw [if_neg hx] at hN
    by_cases hy : 1 < s.size ∧ s.data.toList.take 1 = [35]
    · rw [if_pos hy] at hN
      obtain ⟨hy1, hy2⟩ := hy
      rw [← drop_list] at hN
      have h0 : (s[0]).toNat = 35 := by
        have e := drop_cons s 0 (by omega)
        rw [List.drop_zero] at e
        rw [e, List.take_succ_cons, List.take_zero] at hy2
        have := List.head_eq_of_cons_eq hy2
        rw [this]; rfl
      have hz : (s.extract 1 s.size).size ≤ maxLen := by simp; unfold maxLen at *; omega
      have hx' : 2 < s.size → ((s.extract 0 2).toList == [35, 120]) = false := fun h => str_ne (by rw [take_list]; exact fun e => hx ⟨h, e⟩)
      clear hx hy2
      replace hN := Lib.hid hN
      have key : ∀ {Q : Ending → World → Prop} (w0 : World), (∀ e w1, (e = Ending.returned (.int .i64 (E.numN 10 (s.extract 1 s.size).data.toList)) ∧ Below w0.heap.size w0 w1) → Q e w1) → Calls Tryz.prog 161 #[.string (s.extract 1 s.size), .int .i64 10] w0 Q := fun w0 h =>
        (refNumber_any (s.extract 1 s.size) 10 w0 hz (by decide)).mono h
      by_cases h2 : 2 < s.size
      · have hx2 := hx' h2
        clear hx'
        go_wp2_with fail
        refine key _ ?_
        rintro e w1 ⟨rfl, b1⟩
        cases hn : E.number 10 (s.extract 1 s.size).data.toList with
        | none =>
          have hr := Lib.hid (E.namedB_no (hN.out.trans (by rw [hn]; rfl)))
          rw [E.numN_none hn]
          clear hn
          go_wp2
          go_ret
          exact ⟨ret_str hr.out.symm, b1⟩
        | some n =>
          have hr := Lib.hid (E.namedB_of (hN.out.trans (by rw [hn]; rfl)))
          rw [E.numN_some hn]
          have hc := E.number_char hn
          clear hn
          go_wp2_with fail
          (with_reducible refine (refUtf8_any n _ hc).mono ?_); rintro e w2 ⟨rfl, b2⟩
          have b3 := b1.trans (b2.mono b1.size)
          go_wp2
          go_ret
          exact ⟨ret_str hr.out.symm, b3⟩
      · clear hx'
        go_wp2_with fail
        refine key _ ?_
        rintro e w1 ⟨rfl, b1⟩
        cases hn : E.number 10 (s.extract 1 s.size).data.toList with
        | none =>
          have hr := Lib.hid (E.namedB_no (hN.out.trans (by rw [hn]; rfl)))
          rw [E.numN_none hn]
          clear hn
          go_wp2
          go_ret
          exact ⟨ret_str hr.out.symm, b1⟩
        | some n =>
          have hr := Lib.hid (E.namedB_of (hN.out.trans (by rw [hn]; rfl)))
          rw [E.numN_some hn]
          have hc := E.number_char hn
          clear hn
          go_wp2_with fail
          (with_reducible refine (refUtf8_any n _ hc).mono ?_); rintro e w2 ⟨rfl, b2⟩
          have b3 := b1.trans (b2.mono b1.size)
          go_wp2
          go_ret
          exact ⟨ret_str hr.out.symm, b3⟩
    · rw [if_neg hy] at hN
      have hr := Lib.hid (E.namedB_no hN)
      have hx' : 2 < s.size → ((s.extract 0 2).toList == [35, 120]) = false := fun h => str_ne (by rw [take_list]; exact fun e => hx ⟨h, e⟩)
      have hy' : (h : 1 < s.size) → ¬ ((s[0]).toNat : Int) = 35 := fun h e => hy ⟨h, by
        have e1 := drop_cons s 0 (by omega)
        rw [List.drop_zero] at e1
        rw [e1, List.take_succ_cons, List.take_zero, byte_is (b := s[0]) (c := 35) (by have : (35 : UInt8).toNat = 35 := rfl; omega)]⟩
      clear hx hy hN
      by_cases h2 : 2 < s.size
      · have hx2 := hx' h2
        have hy2 := hy' (by omega)
        clear hx' hy'
        go_wp2
        go_ret
        exact ⟨ret_str hr.out.symm, Below.refl _ _⟩
      · by_cases h1 : 1 < s.size
        · have hy2 := hy' h1
          clear hx' hy'
          go_wp2
          go_ret
          exact ⟨ret_str hr.out.symm, Below.refl _ _⟩
        · clear hx' hy'
          go_wp2
          go_ret
          exact ⟨ret_str hr.out.symm, Below.refl _ _⟩
end Go.Proofs.YtcjlhdmekhifaaaGreatDoor
