/-
  What the document's own words of small letters, of quoted texts and of values come to: contracts of Lower, Quoted, value.
-/
import Derived.Test.YtojbhokneemeaaaDoorRefTok
namespace Go.Proofs.YtojbhokneemeaaaDoor
open Go.RowKit

namespace Md
theorem low_at {L acc : List UInt8} {s : ByteArray} {k : Nat} (hk : k < s.size) (h : L = acc ++ lower (s.data.toList.drop k)) (d : UInt8) (hd : lowB s[k] = d) : L = (acc ++ [d]) ++ lower (s.data.toList.drop (k + 1)) := by
  rw [h, drop_cons s k hk, lower, List.map_cons, hd]; simp [lower]
theorem low_end {L acc : List UInt8} {s : ByteArray} {k : Nat} (hk : ¬ k < s.size) (h : L = acc ++ lower (s.data.toList.drop k)) : L = acc := by
  rw [h, List.drop_of_length_le (by rw [list_len]; omega)]; simp [lower]
theorem low_small {b : UInt8} (h : 65 ≤ b.toNat ∧ b.toNat ≤ 90) : (lowB b).toNat = b.toNat + 32 := by
  unfold lowB; rw [if_pos h]; simp; omega
theorem low_same {b : UInt8} (h : ¬ (65 ≤ b.toNat ∧ b.toNat ≤ 90)) : lowB b = b := by unfold lowB; rw [if_neg h]
end Md

theorem blank_is {b : UInt8} : Md.blankB b = decide (b.toNat = 32 ∨ b.toNat = 9) := by
  rw [Bool.eq_iff_iff, decide_eq_true_eq]
  simp only [Md.blankB, Md.inB, Bool.or_eq_true, Bool.and_eq_true, decide_eq_true_eq]
  omega

theorem bad_cases (b : UInt8) : (Md.badB b = true ∧ ((b.toNat < 32 ∧ ((b.toNat : Int) != 9) = true) ∨ (¬ b.toNat < 32 ∧ ((b.toNat : Int) == 127) = true))) ∨
    (Md.badB b = false ∧ ((b.toNat < 32 ∧ ((b.toNat : Int) != 9) = false ∧ ((b.toNat : Int) == 127) = false) ∨ (¬ b.toNat < 32 ∧ ((b.toNat : Int) == 127) = false ∧ True))) := by
  have h9 : ((b.toNat : Int) != 9) = decide (b.toNat ≠ 9) := by rw [Bool.eq_iff_iff, bne_iff_ne, decide_eq_true_eq]; omega
  have h127 : ((b.toNat : Int) == 127) = decide (b.toNat = 127) := by rw [Bool.eq_iff_iff, beq_iff_eq, decide_eq_true_eq]; omega
  rw [h9, h127]
  unfold Md.badB
  by_cases h1 : b.toNat < 32 <;> by_cases h2 : b.toNat = 9 <;> by_cases h3 : b.toNat = 127 <;> simp [h1, h2, h3] <;> omega

theorem head_byte {s : ByteArray} (h : 0 < s.size) : s.data.toList.head? = some s[0] := by
  have := drop_cons s 0 h
  rw [List.drop_zero] at this
  rw [this]; rfl

theorem nil_of_size {s : ByteArray} (h : s.size = 0) : s.data.toList = [] := by
  obtain rfl : s = ByteArray.empty := ByteArray.size_eq_zero_iff.1 h
  rfl
theorem not_nil {s : ByteArray} (h : 0 < s.size) : s.data.toList ≠ [] := lst_ne h
theorem empty_yes {s : ByteArray} (h : s.size = 0) : s.toList.isEmpty = true := by
  rw [ByteArray.toList_eq, nil_of_size h]; rfl

set_option maxHeartbeats 800000 in
theorem refSkip_any (s : ByteArray) (w : World) (hs : s.size ≤ maxLen) :
    Calls Tryd.prog 22 #[.string s] w fun e w' => e = .returned (.string (skA s)) ∧ w = w' := by
  have hsm : s.size ≤ 9223372036854775807 := hs
  go_enter Tryd.func22, Tryd.ntmps22
  go_wp2_with fail
  go_loop [0] (fun v => ∃ t : ByteArray, v = .string t ∧ t.size ≤ s.size ∧ Hid (skA s = skA t)) (fun v => strLen v)
  case atStart => exact ⟨s, rfl, Nat.le_refl _, Lib.hid rfl⟩
  case round =>
    obtain ⟨t, rfl, ht, hr⟩ := hrel
    by_cases h0 : t.size = 0
    · obtain rfl : t = ByteArray.empty := ByteArray.size_eq_zero_iff.1 h0
      go_wp2
      go_ret
      exact ⟨ret_str (by rw [hr.out]; rfl), rfl⟩
    · have h1 : 0 < t.size := by omega
      have hc := drop_cons t 0 h1
      rw [List.drop_zero] at hc
      by_cases hb : (t[0]).toNat = 32 ∨ (t[0]).toNat = 9
      · have hr2 : Hid (skA s = skA (t.extract 1 t.size)) := Lib.hid (by
          rw [hr.out]
          apply bytes_eq
          rw [skA_list, skA_list, drop_list, hc, Md.skip_one _ _ (by rw [blank_is]; exact decide_eq_true hb)]
          rfl)
        have hc := Lib.hid hc
        rcases hb with hb | hb
        all_goals
          have hb' : ((t[0]).toNat : Int) = _ := congrArg Int.ofNat hb
          go_wp2
          go_round
          case rel => exact ⟨_, rfl, by simp; omega, hr2⟩
          case measure => simp [strLen]; omega
      · have hr2 : Hid (skA s = t) := Lib.hid (by
          rw [hr.out]
          apply bytes_eq
          rw [skA_list, hc, Md.skip_stop _ _ (by rw [blank_is]; exact decide_eq_false hb)])
        have hb1 : (((t[0]).toNat : Int) == 32) = false := beq_false_of_ne (fun e => hb (.inl (by omega)))
        have hb2 : (((t[0]).toNat : Int) == 9) = false := beq_false_of_ne (fun e => hb (.inr (by omega)))
        clear hb hc
        go_wp2
        go_ret
        exact ⟨ret_str hr2.out.symm, rfl⟩
end Go.Proofs.YtojbhokneemeaaaDoor
