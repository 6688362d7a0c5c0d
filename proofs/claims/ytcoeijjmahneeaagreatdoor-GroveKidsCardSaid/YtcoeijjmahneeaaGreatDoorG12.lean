/-
  What the document's own words of references come to: contracts of Escape, expand, Expand, Value.
-/
import Derived.Test.YtcoeijjmahneeaaGreatDoorG05
namespace Go.Proofs.YtcoeijjmahneeaaGreatDoor
open Go.RowKit

namespace E
theorem escape_take (attr : Bool) (s : ByteArray) (k : Nat) (h : k < s.size) : escape attr (s.data.toList.take (k + 1)) = escape attr (s.data.toList.take k) ++ esc attr s[k] := by
  have h1 : k < s.data.toList.length := by rw [list_len]; exact h
  unfold escape
  rw [List.take_succ_eq_append_getElem h1, List.flatMap_append, List.flatMap_cons, List.flatMap_nil, List.append_nil]
  rfl
theorem acc_esc {attr : Bool} {s t u : ByteArray} {k : Nat} (h : k < s.size) (ht : t.data.toList = escape attr (s.data.toList.take k)) (hu : u.data.toList = esc attr s[k]) : (t ++ u).data.toList = escape attr (s.data.toList.take (k + 1)) := by
  rw [ByteArray.toList_data_append, ht, hu, escape_take attr s k h]
theorem six {t u : ByteArray} {k : Nat} (hu : u.size ≤ 6) (ht : t.size ≤ 6 * k) : (t ++ u).size ≤ 6 * (k + 1) := by
  rw [ByteArray.size_append]; omega
theorem one_byte (s : ByteArray) (k : Nat) (h : k < s.size) : (s.extract k (k + 1)).data.toList = [s[k]] := by
  rw [extract_list, List.drop_take, Nat.add_sub_cancel_left, drop_cons s k h]
  rfl
end E

set_option maxRecDepth 100000 in
set_option maxHeartbeats 6400000 in
theorem refEscape_any (s : ByteArray) (attr : Bool) (w : World) (hs : s.size ≤ 1000000) :
    Calls Tryz.prog 12 #[.string s, .bool attr] w fun e w' => e = .returned (.string ⟨(E.escape attr s.data.toList).toArray⟩) ∧ w = w' := by
  go_enter Tryz.func12, Tryz.ntmps12
  go_wp2_with fail
  go_loop [5, 6, 7] (fun v i c => ∃ (k : Nat) (t : ByteArray), k ≤ s.size ∧ i = .int .i64 k ∧ v = .string t ∧ t.size ≤ 6 * k ∧ Hid (t.data.toList = E.escape attr (s.data.toList.take k))) (fun _ i _ => s.size - (intOf i).toNat)
  case atStart => exact ⟨0, ⟨#[]⟩, Nat.zero_le _, rfl, rfl, by decide, Lib.hid rfl⟩
  case round =>
    obtain ⟨k, t, hk, rfl, rfl, ht, hT⟩ := hrel
    by_cases hlt : k < s.size
    · have hb := (s[k]).toNat_lt
      have hone := E.one_byte s k hlt
      have key : ∀ u : ByteArray, u.data.toList = E.esc attr s[k] → Hid ((t ++ u).data.toList = E.escape attr (s.data.toList.take (k + 1))) := fun u hu => Lib.hid (E.acc_esc hlt hT.out hu)
      have key := Lib.hid key
      generalize hx : s[k] = x at *
      have hxn : (s[k]).toNat = x.toNat := by rw [hx]
      by_cases h38 : x.toNat = 38
      · obtain rfl : x = 38 := byte_is h38
        replace hxn : ((s[k]).toNat : Int) = 38 := by rw [hxn]; rfl
        have hr := key.out ⟨#[38, 97, 109, 112, 59]⟩ (by cases attr <;> rfl)
        clear key hx
        go_wp2
        go_round
        case rel => exact ⟨k + 1, _, by omega, by go_num, rfl, E.six (by decide) ht, hr⟩
        case measure => simp [intOf]; omega
      have n38 : ¬ (x.toNat : Int) = 38 := by omega
      by_cases h60 : x.toNat = 60
      · obtain rfl : x = 60 := byte_is h60
        replace hxn : ((s[k]).toNat : Int) = 60 := by rw [hxn]; rfl
        have hr := key.out ⟨#[38, 108, 116, 59]⟩ (by cases attr <;> rfl)
        clear key hx
        go_wp2
        go_round
        case rel => exact ⟨k + 1, _, by omega, by go_num, rfl, E.six (by decide) ht, hr⟩
        case measure => simp [intOf]; omega
      have n60 : ¬ (x.toNat : Int) = 60 := by omega
      by_cases h62 : x.toNat = 62
      · obtain rfl : x = 62 := byte_is h62
        replace hxn : ((s[k]).toNat : Int) = 62 := by rw [hxn]; rfl
        have hr := key.out ⟨#[38, 103, 116, 59]⟩ (by cases attr <;> rfl)
        clear key hx
        go_wp2
        go_round
        case rel => exact ⟨k + 1, _, by omega, by go_num, rfl, E.six (by decide) ht, hr⟩
        case measure => simp [intOf]; omega
      have n62 : ¬ (x.toNat : Int) = 62 := by omega
      by_cases h13 : x.toNat = 13
      · obtain rfl : x = 13 := byte_is h13
        replace hxn : ((s[k]).toNat : Int) = 13 := by rw [hxn]; rfl
        have hr := key.out ⟨#[38, 35, 120, 68, 59]⟩ (by cases attr <;> rfl)
        clear key hx
        go_wp2
        go_round
        case rel => exact ⟨k + 1, _, by omega, by go_num, rfl, E.six (by decide) ht, hr⟩
        case measure => simp [intOf]; omega
      have n13 : ¬ (x.toNat : Int) = 13 := by omega
      have e0 : x ≠ 38 ∧ x ≠ 60 ∧ x ≠ 62 ∧ x ≠ 13 := ⟨fun e => h38 (by rw [e]; rfl), fun e => h60 (by rw [e]; rfl), fun e => h62 (by rw [e]; rfl), fun e => h13 (by rw [e]; rfl)⟩
      replace hxn : ((s[k]).toNat : Int) = (x.toNat : Int) := by rw [hxn]
      cases attr
      · have hu : E.esc false x = [x] := by unfold E.esc; rw [if_neg e0.1, if_neg e0.2.1, if_neg e0.2.2.1, if_neg e0.2.2.2]; simp
        have hr := key.out (s.extract k (k + 1)) (by rw [hone, hu])
        clear key hx
        go_wp2
        go_round
        case rel => exact ⟨k + 1, _, by omega, by go_num, rfl, by simp; omega, hr⟩
        case measure => simp [intOf]; omega
      · by_cases h34 : x.toNat = 34
        · obtain rfl : x = 34 := byte_is h34
          replace hxn : ((s[k]).toNat : Int) = 34 := by rw [hxn]; rfl
          have hr := key.out ⟨#[38, 113, 117, 111, 116, 59]⟩ (rfl)
          clear key hx
          go_wp2
          go_round
          case rel => exact ⟨k + 1, _, by omega, by go_num, rfl, E.six (by decide) ht, hr⟩
          case measure => simp [intOf]; omega
        have n34 : ¬ (x.toNat : Int) = 34 := by omega
        by_cases h9 : x.toNat = 9
        · obtain rfl : x = 9 := byte_is h9
          replace hxn : ((s[k]).toNat : Int) = 9 := by rw [hxn]; rfl
          have hr := key.out ⟨#[38, 35, 120, 57, 59]⟩ (rfl)
          clear key hx
          go_wp2
          go_round
          case rel => exact ⟨k + 1, _, by omega, by go_num, rfl, E.six (by decide) ht, hr⟩
          case measure => simp [intOf]; omega
        have n9 : ¬ (x.toNat : Int) = 9 := by omega
        by_cases h10 : x.toNat = 10
        · obtain rfl : x = 10 := byte_is h10
          replace hxn : ((s[k]).toNat : Int) = 10 := by rw [hxn]; rfl
          have hr := key.out ⟨#[38, 35, 120, 65, 59]⟩ (rfl)
          clear key hx
          go_wp2
          go_round
          case rel => exact ⟨k + 1, _, by omega, by go_num, rfl, E.six (by decide) ht, hr⟩
          case measure => simp [intOf]; omega
        have n10 : ¬ (x.toNat : Int) = 10 := by omega
        have hu : E.esc true x = [x] := by
          unfold E.esc
          rw [if_neg e0.1, if_neg e0.2.1, if_neg e0.2.2.1, if_neg e0.2.2.2, if_neg (fun e => h34 (by rw [e.2]; rfl)), if_neg (fun e => h9 (by rw [e.2]; rfl)), if_neg (fun e => h10 (by rw [e.2]; rfl))]
        have hr := key.out (s.extract k (k + 1)) (by rw [hone, hu])
        clear key hx
        go_wp2
        go_round
        case rel => exact ⟨k + 1, _, by omega, by go_num, rfl, by simp; omega, hr⟩
        case measure => simp [intOf]; omega
    · have hfull : s.data.toList.take k = s.data.toList := List.take_of_length_le (by rw [list_len]; omega)
      rw [hfull] at hT
      clear hfull
      go_wp2
      go_ret
      exact ⟨ret_str (bytes_eq hT.out), rfl⟩
end Go.Proofs.YtcoeijjmahneeaaGreatDoor
