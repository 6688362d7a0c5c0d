/-
  What the program's escaping comes to.
-/
import Derived.Test.YtddpkfdmfoehiaaDoorBuilderByte
import Derived.Test.YtddpkfdmfoehiaaDoorEscape
namespace Go.Proofs.YtddpkfdmfoehiaaDoor
open Go.RowKit

namespace E
/-- The reference in a byte's place; none: it stays. -/
def told (attr : Bool) (b : UInt8) : List UInt8 :=
  if b = 38 then [38, 97, 109, 112, 59] else if b = 60 then [38, 108, 116, 59] else if b = 62 then [38, 103, 116, 59] else if b = 13 then [38, 35, 120, 68, 59]
  else if attr = true ∧ b = 34 then [38, 113, 117, 111, 116, 59] else if attr = true ∧ b = 9 then [38, 35, 120, 57, 59] else if attr = true ∧ b = 10 then [38, 35, 120, 65, 59]
  else []
theorem told_esc (attr : Bool) (b : UInt8) : esc attr b = if told attr b = [] then [b] else told attr b := by
  unfold esc told
  repeat' split
  all_goals simp_all
theorem told_le (attr : Bool) (b : UInt8) : (told attr b).length ≤ 6 := by
  unfold told
  repeat' split
  all_goals decide
theorem esc_le (attr : Bool) (b : UInt8) : (esc attr b).length ≤ 6 := by
  unfold esc
  repeat' split
  all_goals simp
theorem escape_snoc (attr : Bool) (l : List UInt8) (b : UInt8) : escape attr (l ++ [b]) = escape attr l ++ esc attr b := by simp [escape]
theorem escape_le (attr : Bool) (l : List UInt8) : (escape attr l).length ≤ 6 * l.length := by
  induction l with
  | nil => simp [escape]
  | cons b t ih =>
    have := esc_le attr b
    simp only [escape, List.flatMap_cons, List.length_append, List.length_cons] at *
    omega
end E

theorem told_ret {r : List UInt8} {x : ByteArray} (h : r = x.data.toList) : Ending.returned (.string x) = .returned (.string ⟨r.toArray⟩) := by rw [h]

set_option maxRecDepth 100000 in
set_option maxHeartbeats 3200000 in
theorem escaped_any (b : UInt8) (attr : Bool) (w : World) : Calls Tryd.prog 20 #[.int .u8 (b.toNat : Int), .bool attr] w fun e w' => e = .returned (.string ⟨(E.told attr b).toArray⟩) ∧ w = w' := by
  have h1 := Lib.hid (show E.told attr b = if b.toNat = 38 then [38, 97, 109, 112, 59] else if b.toNat = 60 then [38, 108, 116, 59] else if b.toNat = 62 then [38, 103, 116, 59] else if b.toNat = 13 then [38, 35, 120, 68, 59] else if attr = true ∧ b.toNat = 34 then [38, 113, 117, 111, 116, 59] else if attr = true ∧ b.toNat = 9 then [38, 35, 120, 57, 59] else if attr = true ∧ b.toNat = 10 then [38, 35, 120, 65, 59] else [] by
    have e : ∀ n : UInt8, (b = n) = (b.toNat = n.toNat) := fun n => propext ⟨fun h => by rw [h], fun h => UInt8.toNat_inj.1 h⟩
    unfold E.told
    simp only [e]
    rfl)
  generalize E.told attr b = r at *
  have hb := b.toNat_lt
  generalize b.toNat = n at *
  cases attr with
  | false =>
    go_enter Tryd.func20, Tryd.ntmps20
    go_wp2
    all_goals go_ret
    all_goals refine ⟨told_ret ?_, rfl⟩
    all_goals rw [h1.out]
    all_goals simp only [beq_iff_eq, beq_eq_false_iff_ne, ne_eq] at *
    all_goals repeat' split
    all_goals first | rfl | (exfalso; simp_all; done) | (exfalso; omega)
  | true =>
    go_enter Tryd.func20, Tryd.ntmps20
    go_wp2
    all_goals go_ret
    all_goals refine ⟨told_ret ?_, rfl⟩
    all_goals rw [h1.out]
    all_goals simp only [beq_iff_eq, beq_eq_false_iff_ne, ne_eq, true_and] at *
    all_goals repeat' split
    all_goals first | rfl | (exfalso; simp_all; done) | (exfalso; omega)

set_option maxRecDepth 100000 in
set_option maxHeartbeats 3200000 in
theorem eEscape_at (s : ByteArray) (attr : Bool) (w : World) (hs : s.size ≤ 1000000) : Calls Tryd.prog 13 #[.string s, .bool attr] w fun e w' => e = .returned (.string ⟨(E.escape attr s.data.toList).toArray⟩) ∧ Below w.heap.size w w' := by
  have hlen := list_len s
  have hfull := Lib.hid (show s.data.toList.take s.size = s.data.toList from List.take_of_length_le (by omega))
  have hb0 := Lib.hid (builds_new w)
  have bb0 := Lib.hid ((Below.refl w.heap.size w).alloc (Nat.le_refl _) (.cells #[.pointer none, .slice none 0 0] 39))
  replace hlen := Lib.hid hlen
  go_enter Tryd.func13, Tryd.ntmps13
  go_wp2_with fail
  go_loopw [10] (fun v wr => ∃ k : Nat, k ≤ s.size ∧ v = .int .i64 (k : Int) ∧ Builds w.heap.size w.heap.size (E.escape attr (s.data.toList.take k)) wr ∧ Below w.heap.size w wr) (fun v _ => s.size - (intOf v).toNat)
  case atStart => exact ⟨0, Nat.zero_le _, rfl, by rw [List.take_zero]; exact hb0.out, bb0.out⟩
  case round =>
    obtain ⟨k, hk, rfl, hbd, bw⟩ := hrel
    have hle := E.escape_le attr (s.data.toList.take k)
    have htl : (s.data.toList.take k).length ≤ k := List.length_take_le _ _
    by_cases hlt : k < s.size
    · have hsn := Lib.hid (show E.escape attr (s.data.toList.take (k + 1)) = E.escape attr (s.data.toList.take k) ++ E.esc attr s[k] by
        rw [List.take_succ_eq_append_getElem (by rw [list_len]; exact hlt), E.escape_snoc]
        rfl)
      have hte := E.told_esc attr s[k]
      have htl6 := E.told_le attr s[k]
      have hesc := fun w => escaped_any s[k] attr w
      have hlt1 := bw.size
      by_cases h0 : E.told attr s[k] = []
      · rw [if_pos h0] at hte
        rw [h0] at hesc
        replace hte := Lib.hid hte
        replace hesc := Lib.hid hesc
        clear htl6
        go_wp2_with fail
        (with_reducible refine (hesc.out _).mono ?_)
        rintro e w1 ⟨rfl, rfl⟩
        go_wp2_with fail
        (with_reducible refine (builder_writeByte _ _ _ s[k] _ hbd (by omega) bw.size).mono ?_)
        rintro e w2 ⟨rfl, hbd2, b2⟩
        go_wp2
        go_roundw
        case rel => exact ⟨k + 1, by omega, by go_num, by rw [hsn.out, hte.out]; exact hbd2, bw.trans b2⟩
        case measure => simp [intOf]; omega
      · rw [if_neg h0] at hte
        replace hte := Lib.hid hte
        obtain ⟨r, hr⟩ : ∃ r : ByteArray, r = ⟨(E.told attr s[k]).toArray⟩ := ⟨_, rfl⟩
        have hrl : r.data.toList = E.told attr s[k] := by rw [hr]
        have hrz : r.size ≤ 6 := by rw [← list_len, hrl]; exact htl6
        have hrn : 0 < r.size := by rw [← list_len, hrl]; exact List.length_pos_iff.2 h0
        rw [← hr] at hesc
        rw [← hrl] at hte
        replace hesc := Lib.hid hesc
        have hne := ne_empty hrn
        clear htl6 hr hrl h0
        go_wp2_with fail
        (with_reducible refine (hesc.out _).mono ?_)
        rintro e w1 ⟨rfl, rfl⟩
        go_wp2_with fail
        (with_reducible refine (builder_writeString _ _ _ r _ hbd (by omega) bw.size).mono ?_)
        rintro e w2 ⟨rfl, hbd2, b2⟩
        go_wp2
        go_roundw
        case rel => exact ⟨k + 1, by omega, by go_num, by rw [hsn.out, hte.out]; exact hbd2, bw.trans b2⟩
        case measure => simp [intOf]; omega
    · obtain rfl : k = s.size := by omega
      rw [hfull.out] at hbd
      go_wp2_with fail
      (with_reducible refine (builder_string _ _ _ _ hbd bw.size).mono ?_)
      rintro e w2 ⟨rfl, hbd2, b2⟩
      go_wp2
      go_ret
      exact ⟨rfl, bw.trans b2⟩
end Go.Proofs.YtddpkfdmfoehiaaDoor
