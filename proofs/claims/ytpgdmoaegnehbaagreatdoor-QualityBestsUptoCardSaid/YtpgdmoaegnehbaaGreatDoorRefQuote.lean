/-
  What the document's own words of told values come to: contracts of quote, Print.
-/
import Derived.Test.YtpgdmoaegnehbaaGreatDoorRefFits
namespace Go.Proofs.YtpgdmoaegnehbaaGreatDoor
open Go.RowKit

namespace Md
theorem isTok_iff {l : List UInt8} : isTok l = true ↔ tok l ≠ [] ∧ tokR l = [] := by
  unfold isTok tok tokR
  rw [Bool.and_eq_true]
  constructor
  · rintro ⟨h1, h2⟩
    have hl : l ≠ [] := by intro e; rw [e] at h1; simp at h1
    refine ⟨?_, ?_⟩
    · cases l with
      | nil => exact absurd rfl hl
      | cons b t =>
        simp only [List.all_cons, Bool.and_eq_true] at h2
        rw [List.takeWhile_cons_of_pos h2.1]; simp
    · clear h1 hl
      induction l with
      | nil => rfl
      | cons b t ih =>
        simp only [List.all_cons, Bool.and_eq_true] at h2
        rw [List.dropWhile_cons_of_pos h2.1, ih h2.2]
  · rintro ⟨h1, h2⟩
    have hl : l ≠ [] := by rintro rfl; exact h1 rfl
    refine ⟨by simpa using hl, ?_⟩
    have e := tok_tokR l
    rw [show tokR l = [] from h2, List.append_nil] at e
    rw [← e]
    unfold tok
    clear h1 h2 hl e
    induction l with
    | nil => rfl
    | cons b t ih =>
      by_cases hb : tokB b = true
      · rw [List.takeWhile_cons_of_pos hb, List.all_cons, hb, ih]; rfl
      · rw [List.takeWhile_cons_of_neg hb]; rfl
theorem esc_take (l : List UInt8) (k : Nat) (h : k < l.length) : esc (l.take (k + 1)) = esc (l.take k) ++ (if l[k] = 34 ∨ l[k] = 92 then [92, l[k]] else [l[k]]) := by
  unfold esc
  rw [List.take_succ_eq_append_getElem h, List.flatMap_append]
  simp
end Md

theorem extract_one (s : ByteArray) (k : Nat) (h : k < s.size) : (s.extract k (k + 1)).data.toList = [s[k]] := by
  rw [extract_list, List.drop_take, drop_cons s k h, Nat.add_sub_cancel_left]; rfl
/-- quote's answer. -/
def qoA (s : ByteArray) : ByteArray := ⟨(Md.quote s.data.toList).toArray⟩
theorem qoA_list (s : ByteArray) : (qoA s).data.toList = Md.quote s.data.toList := mk_list _
theorem esc_length (l : List UInt8) : (Md.esc l).length ≤ 2 * l.length := by
  unfold Md.esc
  induction l with
  | nil => simp
  | cons b t ih =>
    rw [List.flatMap_cons, List.length_append, List.length_cons]
    have : (if b = 34 ∨ b = 92 then [92, b] else [b] : List UInt8).length ≤ 2 := by split <;> simp
    omega
theorem qoA_size (s : ByteArray) : (qoA s).size ≤ 2 * s.size + 2 := by
  have hl := list_len s
  rw [← list_len, qoA_list]
  unfold Md.quote
  split
  · omega
  · have := esc_length s.data.toList
    rw [List.length_cons, List.length_append, List.length_singleton]; omega

set_option maxHeartbeats 1600000 in
theorem refQuote_any (s : ByteArray) (w : World) (hs : s.size ≤ 70368744177664) :
    Calls Tryz.prog 26 #[.string s] w fun e w' => e = .returned (.string (qoA s)) ∧ Below w.heap.size w w' := by
  have hsm : s.size ≤ maxLen := by unfold maxLen; omega
  have hlen := Lib.hid (list_len s)
  go_enter Tryz.func26, Tryz.ntmps26
  go_wp2_with fail
  (with_reducible refine (refToken_any s _ hsm).mono ?_); rintro e w1 ⟨rfl, b1⟩
  by_cases htk : Md.isTok s.data.toList = true
  · obtain ⟨h1, h2⟩ := Md.isTok_iff.1 htk
    have hr : Hid (qoA s = s) := Lib.hid (by apply bytes_eq; rw [qoA_list, Md.quote, if_pos htk])
    have g1 : (tkA s).toList.isEmpty = false := by rw [ByteArray.toList_eq, tkA_list]; simpa using h1
    have g2 : (tkB s).toList.isEmpty = true := by rw [ByteArray.toList_eq, tkB_list, h2]; rfl
    clear h1 h2 htk
    go_wp2
    go_ret
    exact ⟨ret_str hr.out.symm, b1⟩
  · have hq : Hid (Md.quote s.data.toList = 34 :: (Md.esc s.data.toList ++ [34])) := Lib.hid (if_neg htk)
    have g : (tkA s).toList.isEmpty = true ∨ ((tkA s).toList.isEmpty = false ∧ (tkB s).toList.isEmpty = false) := by
      by_cases h1 : Md.tok s.data.toList = []
      · exact .inl (by rw [ByteArray.toList_eq, tkA_list, h1]; rfl)
      · refine .inr ⟨by rw [ByteArray.toList_eq, tkA_list]; simpa using h1, ?_⟩
        rw [ByteArray.toList_eq, tkB_list]
        have : Md.tokR s.data.toList ≠ [] := fun e => htk (Md.isTok_iff.2 ⟨h1, e⟩)
        simpa using this
    clear htk
    rcases g with g | ⟨g, g'⟩
    all_goals
      go_wp2_with fail
      go_loop [5, 6] (fun v i => ∃ (k : Nat) (t : ByteArray), k ≤ s.size ∧ i = .int .i64 (k : Int) ∧ v = .string t ∧ t.size ≤ 1 + 2 * k ∧ Hid (t.data.toList = 34 :: Md.esc (s.data.toList.take k))) (fun _ i => s.size - (intOf i).toNat)
      case atStart => exact ⟨0, _, Nat.zero_le _, rfl, rfl, by decide, Lib.hid (by simp [Md.esc])⟩
      case round =>
        obtain ⟨k, t, hk, rfl, rfl, htz, ht⟩ := hrel
        have one1 : (⟨#[92]⟩ : ByteArray).size = 1 := rfl
        by_cases hlt : k < s.size
        · have hst := Md.esc_take s.data.toList k (by rw [hlen.out]; exact hlt)
          have hgk : s.data.toList[k]'(by rw [hlen.out]; exact hlt) = s[k] := rfl
          rw [hgk] at hst
          clear hgk
          have hex := extract_one s k hlt
          have hez : (s.extract k (k + 1)).size = 1 := by rw [← list_len, hex]; rfl
          by_cases hb : (s[k]).toNat = 34 ∨ (s[k]).toNat = 92
          · have hst2 : Hid ((t ++ ⟨#[92]⟩ ++ s.extract k (k + 1)).data.toList = 34 :: Md.esc (s.data.toList.take (k + 1))) := Lib.hid (by
              rw [hst, if_pos (by rcases hb with h | h; exact .inl (byte_is h); exact .inr (byte_is h))]
              rw [ByteArray.data_append, ByteArray.data_append, Array.toList_append, Array.toList_append, hex, ht.out]
              simp)
            have hb' : (((s[k]).toNat : Int) == 34) = true ∨ ((((s[k]).toNat : Int) == 34) = false ∧ (((s[k]).toNat : Int) == 92) = true) := by
              by_cases h34 : (s[k]).toNat = 34
              · exact .inl (by rw [h34]; rfl)
              · exact .inr ⟨beq_false_of_ne (by omega), by rw [hb.resolve_left h34]; rfl⟩
            have hz2 : (t ++ ⟨#[92]⟩ ++ s.extract k (k + 1)).size ≤ 1 + 2 * (k + 1) := by rw [ByteArray.size_append, ByteArray.size_append, hez, one1]; omega
            replace hz2 := Lib.hid hz2
            replace hex := Lib.hid hex
            clear hst hb
            rcases hb' with h | ⟨h, h'⟩
            all_goals
              go_wp2_with fail
              go_round
              case rel => exact ⟨k + 1, _, by omega, by go_num, rfl, hz2.out, hst2⟩
              case measure => simp [intOf]; omega
          · have hst2 : Hid ((t ++ s.extract k (k + 1)).data.toList = 34 :: Md.esc (s.data.toList.take (k + 1))) := Lib.hid (by
              rw [hst, if_neg (by rintro (h | h); exact hb (.inl (by rw [h]; rfl)); exact hb (.inr (by rw [h]; rfl)))]
              rw [ByteArray.data_append, Array.toList_append, hex, ht.out]
              simp)
            have h1 : (((s[k]).toNat : Int) == 34) = false := beq_false_of_ne (by omega)
            have h2 : (((s[k]).toNat : Int) == 92) = false := beq_false_of_ne (by omega)
            have hz2 : (t ++ s.extract k (k + 1)).size ≤ 1 + 2 * (k + 1) := by rw [ByteArray.size_append, hez]; omega
            replace hz2 := Lib.hid hz2
            replace hex := Lib.hid hex
            clear hst hb
            go_wp2_with fail
            go_round
            case rel => exact ⟨k + 1, _, by omega, by go_num, rfl, hz2.out, hst2⟩
            case measure => simp [intOf]; omega
        · have hfin : Hid (t ++ ⟨#[34]⟩ = qoA s) := Lib.hid (by
            apply bytes_eq
            rw [qoA_list, hq.out, ByteArray.data_append, Array.toList_append, ht.out, List.take_of_length_le (by rw [hlen.out]; omega)]
            simp)
          go_wp2_with fail
          go_ret
          exact ⟨ret_str hfin.out, b1⟩
end Go.Proofs.YtpgdmoaegnehbaaGreatDoor
