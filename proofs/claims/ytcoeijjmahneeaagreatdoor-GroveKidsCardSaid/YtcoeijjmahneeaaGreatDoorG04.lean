/-
  What the document's own words of references come to: contracts of Space, digit, number, utf8.
-/
import Derived.Test.YtcoeijjmahneeaaGreatDoorG03
import Derived.Test.YtcoeijjmahneeaaGreatDoorG02
import Derived.Deep.DeepCutAuto
namespace Go.Proofs.YtcoeijjmahneeaaGreatDoor
open Go.RowKit

theorem refSpace_any (c : Int) (w : World) :
    Calls Tryz.prog 30 #[.int .i64 c] w fun e w' => e = .returned (.bool (G.space c)) ∧ w = w' := by
  have H : G.space c = (decide (c = 32) || decide (c = 9) || decide (c = 10) || decide (c = 13)) := rfl
  have HH := Lib.hid H
  clear H
  go_enter Tryz.func30, Tryz.ntmps30
  go_wp2
  all_goals go_ret
  all_goals refine ⟨ret_bool ?_, rfl⟩
  all_goals rw [HH.out, Bool.eq_iff_iff]
  all_goals simp
  all_goals omega

namespace E
/-- a digit's worth, -1: none. -/
def digitN (c : UInt8) (base : Nat) : Int := match digit c base with | some k => (k : Int) | none => -1
def numN (base : Nat) (l : List UInt8) : Int := match number base l with | some k => (k : Int) | none => -1
theorem digitN_cases (c : UInt8) (base : Nat) : digitN c base =
    (let n : Int := if 48 ≤ c.toNat ∧ c.toNat ≤ 57 then (c.toNat : Int) - 48 else if 65 ≤ c.toNat ∧ c.toNat ≤ 70 then (c.toNat : Int) - 55 else if 97 ≤ c.toNat ∧ c.toNat ≤ 102 then (c.toNat : Int) - 87 else -1
     if n < (base : Int) then n else -1) := by
  unfold digitN digit
  by_cases h1 : 48 ≤ c.toNat ∧ c.toNat ≤ 57
  · simp only [if_pos h1, Option.bind_some]
    by_cases hb : c.toNat - 48 < base
    · simp only [if_pos hb]; rw [if_pos (by omega)]; omega
    · simp only [if_neg hb]; rw [if_neg (by omega)]
  · by_cases h2 : 65 ≤ c.toNat ∧ c.toNat ≤ 70
    · simp only [if_neg h1, if_pos h2, Option.bind_some]
      by_cases hb : c.toNat - 55 < base
      · simp only [if_pos hb]; rw [if_pos (by omega)]; omega
      · simp only [if_neg hb]; rw [if_neg (by omega)]
    · by_cases h3 : 97 ≤ c.toNat ∧ c.toNat ≤ 102
      · simp only [if_neg h1, if_neg h2, if_pos h3, Option.bind_some]
        by_cases hb : c.toNat - 87 < base
        · simp only [if_pos hb]; rw [if_pos (by omega)]; omega
        · simp only [if_neg hb]; rw [if_neg (by omega)]
      · simp only [if_neg h1, if_neg h2, if_neg h3, Option.bind_none]
        split <;> rfl
end E

theorem refDigit_any (c : UInt8) (base : Nat) (w : World) (hb : base ≤ 100) :
    Calls Tryz.prog 173 #[.int .u8 (c.toNat : Int), .int .i64 (base : Int)] w fun e w' => e = .returned (.int .i64 (E.digitN c base)) ∧ w = w' := by
  have H := E.digitN_cases c base
  generalize E.digitN c base = r at H
  have hc := c.toNat_lt
  generalize c.toNat = n at *
  replace H := Lib.hid H
  go_enter Tryz.func173, Tryz.ntmps173
  go_wp2
  all_goals go_ret
  all_goals refine ⟨ret_int ?_, rfl⟩
  all_goals rw [H.out]
  all_goals repeat' split
  all_goals omega

theorem cells_new (w : World) (xs : List Value) (t : TypeId) (fr : Nat × Nat) : ∀ j u, xs[j]? = some u → (w.alloc (.cells xs.toArray t fr)).cell? ((⟨w.heap.size, 0, none⟩ : Addr).add j) = some u := by
  intro j u hj
  have e := heap_alloc_new w (.cells xs.toArray t fr)
  have a : (⟨w.heap.size, 0, none⟩ : Addr).add j = ⟨w.heap.size, j, none⟩ := by unfold Addr.add; split <;> simp_all
  rw [a]
  unfold World.cell?
  rw [e]
  simp [hj]

theorem byteCells_rune (r : Int) : (Lib.encodeRuneZ r).map (fun x => Value.int .u8 x) = Lib.byteCells (Lib.encodeRune r) := (Lib.byteCells_encodeRune r).symm

set_option maxRecDepth 100000 in
set_option maxHeartbeats 1600000 in
theorem refUtf8_any (c : Nat) (w : World) (hc : G.char (c : Int) = true) :
    Calls Tryz.prog 166 #[.int .i64 (c : Int)] w fun e w' => e = .returned (.string ⟨(Lib.encodeRune (c : Int)).toArray⟩) ∧ Below w.heap.size w w' := by
  obtain ⟨i0, hi, hz0, hz1, hz2⟩ := info_parts infoByte
  have hb : c ≤ 1114111 ∧ (c < 55296 ∨ 57343 < c) := by
    simp [G.char, G.inR] at hc
    omega
  clear hc
  obtain ⟨hb1, hb2⟩ := hb
  go_enter Tryz.func166, Tryz.ntmps166
  by_cases h1 : c < 128
  · have hE := Lib.hid (Lib.encodeRuneZ_one (r := (c : Int)) (by omega) (by omega))
    go_wp2_with (at_builtin; refine wpList_append_own _ rfl _ _ 81 rfl w.heap.size 5 i0 (.int .u8 0) 1 1 Tryz.underlying81 hi hz0 hz1 hz2 rfl (by decide) _ _ _ rfl (owns_nil w.heap.size _) ⟨w.heap.size, 0, none⟩ 1 1 [.int .u8 ((c : Int))] rfl rfl (cells_new w [.int .u8 ((c : Int))] _ _) (fun u hu => by simp at hu; rcases hu with rfl <;> rfl) (by unfold maxLen; decide) (by decide) (by simp) ?_)
    intro v2 w2 hown2 hg2 _
    have hga : w.grownBy w2 _ := (World.grownBy_alloc w _ _).trans hg2
    have b2 := (owns_nil w.heap.size w).below hga (Nat.le_refl _)
    have ho2 : Owns w.heap.size v2 (Lib.encodeRune (c : Int)) w2 := owns_of hown2 (by unfold Lib.encodeRune; rw [hE.out]; rfl) (by rw [← byteCells_rune, hE.out]; rfl)
    have hcv := owns_string ho2 (fun e => by unfold Lib.encodeRune at e; rw [hE.out] at e; cases e)
    clear hown2 hg2 hga
    go_wp2
    go_ret
    exact ⟨rfl, b2⟩
  by_cases h2 : c < 2048
  · have hE := Lib.hid (Lib.encodeRuneZ_two (r := (c : Int)) (by omega) (by omega))
    go_wp2_with (at_builtin; refine wpList_append_own _ rfl _ _ 81 rfl w.heap.size 5 i0 (.int .u8 0) 1 1 Tryz.underlying81 hi hz0 hz1 hz2 rfl (by decide) _ _ _ rfl (owns_nil w.heap.size _) ⟨w.heap.size, 0, none⟩ 2 2 [.int .u8 (192 + (c : Int) / 64), .int .u8 (128 + (c : Int) % 64)] rfl rfl (cells_new w [.int .u8 (192 + (c : Int) / 64), .int .u8 (128 + (c : Int) % 64)] _ _) (fun u hu => by simp at hu; rcases hu with rfl | rfl <;> rfl) (by unfold maxLen; decide) (by decide) (by simp) ?_)
    intro v2 w2 hown2 hg2 _
    have hga : w.grownBy w2 _ := (World.grownBy_alloc w _ _).trans hg2
    have b2 := (owns_nil w.heap.size w).below hga (Nat.le_refl _)
    have ho2 : Owns w.heap.size v2 (Lib.encodeRune (c : Int)) w2 := owns_of hown2 (by unfold Lib.encodeRune; rw [hE.out]; rfl) (by rw [← byteCells_rune, hE.out]; rfl)
    have hcv := owns_string ho2 (fun e => by unfold Lib.encodeRune at e; rw [hE.out] at e; cases e)
    clear hown2 hg2 hga
    go_wp2
    go_ret
    exact ⟨rfl, b2⟩
  by_cases h3 : c < 65536
  · have hE := Lib.encodeRuneZ_three (r := (c : Int)) (by omega)
    obtain ⟨q1, e1, l1⟩ : ∃ q : Nat, (c : Int) / 4096 = (q : Int) ∧ q < 16 := ⟨((c : Int) / 4096).toNat, by omega, by omega⟩
    obtain ⟨q2, e2, l2⟩ : ∃ q : Nat, (c : Int) / 64 % 64 = (q : Int) ∧ q < 64 := ⟨((c : Int) / 64 % 64).toNat, by omega, by omega⟩
    obtain ⟨q3, e3, l3⟩ : ∃ q : Nat, (c : Int) % 64 = (q : Int) ∧ q < 64 := ⟨((c : Int) % 64).toNat, by omega, by omega⟩
    rw [e1, e2, e3] at hE
    replace hE := Lib.hid hE
    replace h3 : (c : Int) < 65536 := by omega
    replace h2 : ¬ (c : Int) < 2048 := by omega
    replace h1 : ¬ (c : Int) < 128 := by omega
    clear hb1 hb2
    go_wp2_with (at_builtin; refine wpList_append_own _ rfl _ _ 81 rfl w.heap.size 5 i0 (.int .u8 0) 1 1 Tryz.underlying81 hi hz0 hz1 hz2 rfl (by decide) _ _ _ rfl (owns_nil w.heap.size _) ⟨w.heap.size, 0, none⟩ 3 3 [.int .u8 (224 + (q1 : Int)), .int .u8 (128 + (q2 : Int)), .int .u8 (128 + (q3 : Int))] rfl rfl (cells_new w [.int .u8 (224 + (q1 : Int)), .int .u8 (128 + (q2 : Int)), .int .u8 (128 + (q3 : Int))] _ _) (fun u hu => by simp at hu; rcases hu with rfl | rfl | rfl <;> rfl) (by unfold maxLen; decide) (by decide) (by simp) ?_)
    intro v2 w2 hown2 hg2 _
    have hga : w.grownBy w2 _ := (World.grownBy_alloc w _ _).trans hg2
    have b2 := (owns_nil w.heap.size w).below hga (Nat.le_refl _)
    have ho2 : Owns w.heap.size v2 (Lib.encodeRune (c : Int)) w2 := owns_of hown2 (by unfold Lib.encodeRune; rw [hE.out]; rfl) (by rw [← byteCells_rune, hE.out]; rfl)
    have hcv := owns_string ho2 (fun e => by unfold Lib.encodeRune at e; rw [hE.out] at e; cases e)
    clear hown2 hg2 hga
    go_wp2
    go_ret
    exact ⟨rfl, b2⟩
  · have hE := Lib.encodeRuneZ_four (r := (c : Int)) (by omega) (by omega)
    obtain ⟨q1, e1, l1⟩ : ∃ q : Nat, (c : Int) / 262144 = (q : Int) ∧ q < 8 := ⟨((c : Int) / 262144).toNat, by omega, by omega⟩
    obtain ⟨q2, e2, l2⟩ : ∃ q : Nat, (c : Int) / 4096 % 64 = (q : Int) ∧ q < 64 := ⟨((c : Int) / 4096 % 64).toNat, by omega, by omega⟩
    obtain ⟨q3, e3, l3⟩ : ∃ q : Nat, (c : Int) / 64 % 64 = (q : Int) ∧ q < 64 := ⟨((c : Int) / 64 % 64).toNat, by omega, by omega⟩
    obtain ⟨q4, e4, l4⟩ : ∃ q : Nat, (c : Int) % 64 = (q : Int) ∧ q < 64 := ⟨((c : Int) % 64).toNat, by omega, by omega⟩
    rw [e1, e2, e3, e4] at hE
    replace hE := Lib.hid hE
    replace h3 : ¬ (c : Int) < 65536 := by omega
    replace h2 : ¬ (c : Int) < 2048 := by omega
    replace h1 : ¬ (c : Int) < 128 := by omega
    clear hb1 hb2
    go_wp2_with (at_builtin; refine wpList_append_own _ rfl _ _ 81 rfl w.heap.size 5 i0 (.int .u8 0) 1 1 Tryz.underlying81 hi hz0 hz1 hz2 rfl (by decide) _ _ _ rfl (owns_nil w.heap.size _) ⟨w.heap.size, 0, none⟩ 4 4 [.int .u8 (240 + (q1 : Int)), .int .u8 (128 + (q2 : Int)), .int .u8 (128 + (q3 : Int)), .int .u8 (128 + (q4 : Int))] rfl rfl (cells_new w [.int .u8 (240 + (q1 : Int)), .int .u8 (128 + (q2 : Int)), .int .u8 (128 + (q3 : Int)), .int .u8 (128 + (q4 : Int))] _ _) (fun u hu => by simp at hu; rcases hu with rfl | rfl | rfl | rfl <;> rfl) (by unfold maxLen; decide) (by decide) (by simp) ?_)
    intro v2 w2 hown2 hg2 _
    have hga : w.grownBy w2 _ := (World.grownBy_alloc w _ _).trans hg2
    have b2 := (owns_nil w.heap.size w).below hga (Nat.le_refl _)
    have ho2 : Owns w.heap.size v2 (Lib.encodeRune (c : Int)) w2 := owns_of hown2 (by unfold Lib.encodeRune; rw [hE.out]; rfl) (by rw [← byteCells_rune, hE.out]; rfl)
    have hcv := owns_string ho2 (fun e => by unfold Lib.encodeRune at e; rw [hE.out] at e; cases e)
    clear hown2 hg2 hga
    go_wp2
    go_ret
    exact ⟨rfl, b2⟩
end Go.Proofs.YtcoeijjmahneeaaGreatDoor
