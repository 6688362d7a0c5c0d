/-
  What the document's own words of quoted texts and of values come to: contracts of Quoted, value.
-/
import Derived.Test.YtpgdmoaegnehbaaGreatDoorRefLow
namespace Go.Proofs.YtpgdmoaegnehbaaGreatDoor
open Go.RowKit

/-- Quoted's answers. -/
def quA (s : ByteArray) : ByteArray := match Md.quo [] s.data.toList with | some x => ⟨x.1.toArray⟩ | none => ⟨#[]⟩
def quB (s : ByteArray) : ByteArray := match Md.quo [] s.data.toList with | some x => ⟨x.2.toArray⟩ | none => ⟨#[]⟩
def quC (s : ByteArray) : Bool := (Md.quo [] s.data.toList).isSome
theorem qu_none {s : ByteArray} (h : Md.quo [] s.data.toList = none) : quA s = ⟨#[]⟩ ∧ quB s = ⟨#[]⟩ ∧ quC s = false := by unfold quA quB quC; rw [h]; exact ⟨rfl, rfl, rfl⟩
theorem qu_some {s : ByteArray} {v r : List UInt8} (h : Md.quo [] s.data.toList = some (v, r)) : quA s = ⟨v.toArray⟩ ∧ quB s = ⟨r.toArray⟩ ∧ quC s = true := by unfold quA quB quC; rw [h]; exact ⟨rfl, rfl, rfl⟩

theorem ret_quo {a b c d : ByteArray} {x y : Bool} (h1 : a = c) (h2 : b = d) (h3 : x = y) : Ending.returned (.tuple #[.string a, .string b, .bool x]) = .returned (.tuple #[.string c, .string d, .bool y]) := by rw [h1, h2, h3]

set_option maxRecDepth 100000 in
set_option maxHeartbeats 3200000 in
theorem refQuoted_any (s : ByteArray) (w : World) (hs : s.size ≤ 70368744177664) :
    Calls Tryz.prog 87 #[.string s] w fun e w' => e = .returned (.tuple #[.string (quA s), .string (quB s), .bool (quC s)]) ∧ Below w.heap.size w w' := by
  obtain ⟨i0, hi, hz0, hz1, hz2⟩ := info_parts infoByte
  have hlen := Lib.hid (list_len s)
  go_enter Tryz.func87, Tryz.ntmps87
  go_wp2_with fail
  go_loopw [5, 6] (fun v i wr => ∃ (k : Nat) (acc : List UInt8), k ≤ s.size ∧ i = .int .i64 k ∧ Hid (Md.quo [] s.data.toList = Md.quo acc (s.data.toList.drop k)) ∧ acc.length ≤ k ∧ (acc = [] → v = .slice none 0 0) ∧ Owns w.heap.size v acc wr ∧ Below w.heap.size w wr) (fun _ i _ => s.size - (intOf i).toNat)
  case atStart => exact ⟨0, [], Nat.zero_le _, rfl, Lib.hid (by simp), by simp, fun _ => rfl, owns_nil _ _, Below.refl _ _⟩
  case round =>
    obtain ⟨k, acc, hk, rfl, hL, hacc, hnil, ho, bw⟩ := hrel
    have hsz := bw.size
    have hacch := Lib.hid hacc
    have hnilh := Lib.hid hnil
    clear hnil
    by_cases hlt : k < s.size
    · have hdk := Lib.hid (drop_cons s k hlt)
      by_cases h34 : (s[k]).toNat = 34
      · obtain ⟨r1, r2, r3⟩ := qu_some (hL.out.trans (by rw [hdk.out, byte_is (c := 34) h34, Md.quo_end]))
        replace r1 := Lib.hid r1
        replace r2 := Lib.hid (r2.trans (show _ = s.extract (k + 1) s.size from bytes_eq (by rw [mk_list, drop_list])))
        replace r3 := Lib.hid r3
        have h34i : ((s[k]).toNat : Int) = 34 := by omega
        have hcv : ∀ n, (convert 31 9 u5).run Tryz.prog (wr.drewN n) = .ok (.string ⟨acc.toArray⟩) (wr.drewN n) := fun n => owns_string (w := wr.drewN n) ho hnilh.out
        clear hL hdk h34
        go_wp2_with fail
        go_quiet (fail)
        go_wp2_with fail
        go_ret3
        exact ⟨ret_quo r1.out.symm r2.out.symm r3.out.symm, below_drewN bw _⟩
      · have h34b : (((s[k]).toNat : Int) == 34) = false := beq_false_of_ne (fun e => h34 (by omega))
        have n34 : s[k] ≠ 34 := fun e => h34 (by rw [e]; rfl)
        by_cases h92 : (s[k]).toNat = 92
        · have h92i : ((s[k]).toNat : Int) = 92 := by omega
          have e92 := byte_is (c := 92) h92
          by_cases h1 : k + 1 < s.size
          · have hd2 := Lib.hid (drop_cons s (k + 1) h1)
            rcases bad_cases s[k + 1] with ⟨hb, hc⟩ | ⟨hb, hc⟩
            · obtain ⟨r1, r2, r3⟩ := qu_none (hL.out.trans (by rw [hdk.out, hd2.out, e92, Md.quo_esc_bad _ _ _ hb]))
              replace r1 := Lib.hid r1
              replace r2 := Lib.hid r2
              replace r3 := Lib.hid r3
              have hne : ¬ (k : Int) + 1 = (s.size : Int) := by omega
              clear hL hdk hd2 h92 hb e92 h34 n34
              rcases hc with ⟨c1, c2⟩ | ⟨c1, c2⟩
              all_goals
                go_wp2_with fail
                go_ret3
                exact ⟨ret_quo r1.out.symm r2.out.symm r3.out.symm, bw⟩
            · have hr : Hid (Md.quo [] s.data.toList = Md.quo (acc ++ [s[k + 1]]) (s.data.toList.drop (k + 2))) := Lib.hid (hL.out.trans (by rw [hdk.out, hd2.out, e92, Md.quo_esc _ _ _ hb]))
              have hne : ¬ (k : Int) + 1 = (s.size : Int) := by omega
              clear hL hdk hd2 h92 hb e92 h34 n34
              rcases hc with ⟨c1, c2, c3⟩ | ⟨c1, c2, c3⟩
              all_goals
                go_wp2_with (at_builtin; refine wpList_append_own _ rfl _ _ 31 rfl w.heap.size 5 i0 (.int .u8 0) 1 1 Tryz.underlying31 hi hz0 hz1 hz2 rfl (by decide) _ _ _ rfl (World.ownsRow.alloc ho _) ⟨wr.heap.size, 0, none⟩ 1 1 [.int .u8 ((s[k + 1]).toNat : Int)] rfl rfl (cell_one_new _ _ _) (fun u hu => by simp at hu; subst hu; rfl) (by have := hacch.out; unfold maxLen; omega) (by have := hacch.out; omega) (by simp; omega) ?_)
                intro v2 w2 hown2 hg2 hnil2
                have hga : wr.grownBy w2 u5.ownBlock := (World.grownBy_alloc wr _ _).trans hg2
                have b2 := ho.below hga (by omega)
                have ho2 : Owns w.heap.size v2 (acc ++ [s[k + 1]]) w2 := owns_of hown2 (by simp) (by simp [Lib.byteCells])
                have hlen2 : (acc ++ [s[k + 1]]).length ≤ k + 2 := by rw [List.length_append, List.length_singleton]; omega
                clear hown2 hg2 hnil2 hga ho
                go_wp2_with fail
                go_roundw
                case rel => exact ⟨k + 2, acc ++ [s[k + 1]], by omega, by go_num, hr, by omega, fun e => by simp at e, ho2, bw.trans b2⟩
                case measure => simp [intOf]; omega
          · obtain ⟨r1, r2, r3⟩ := qu_none (hL.out.trans (by rw [hdk.out, e92, List.drop_of_length_le (by rw [hlen.out]; omega), Md.quo_esc_end]))
            replace r1 := Lib.hid r1
            replace r2 := Lib.hid r2
            replace r3 := Lib.hid r3
            have hne : (k : Int) + 1 = (s.size : Int) := by omega
            clear hL hdk h92 e92 h34 n34
            go_wp2_with fail
            go_ret3
            exact ⟨ret_quo r1.out.symm r2.out.symm r3.out.symm, bw⟩
        · have h92b : (((s[k]).toNat : Int) == 92) = false := beq_false_of_ne (fun e => h92 (by omega))
          have n92 : s[k] ≠ 92 := fun e => h92 (by rw [e]; rfl)
          rcases bad_cases s[k] with ⟨hb, hc⟩ | ⟨hb, hc⟩
          · obtain ⟨r1, r2, r3⟩ := qu_none (hL.out.trans (by rw [hdk.out, Md.quo_bad _ _ _ n34 n92 hb]))
            replace r1 := Lib.hid r1
            replace r2 := Lib.hid r2
            replace r3 := Lib.hid r3
            clear hL hdk h92 hb h34 n34 n92
            rcases hc with ⟨c1, c2⟩ | ⟨c1, c2⟩
            all_goals
              go_wp2_with fail
              go_ret3
              exact ⟨ret_quo r1.out.symm r2.out.symm r3.out.symm, bw⟩
          · have hr : Hid (Md.quo [] s.data.toList = Md.quo (acc ++ [s[k]]) (s.data.toList.drop (k + 1))) := Lib.hid (hL.out.trans (by rw [hdk.out, Md.quo_one _ _ _ n34 n92 hb]))
            clear hL hdk h92 hb h34 n34 n92
            rcases hc with ⟨c1, c2, c3⟩ | ⟨c1, c2, c3⟩
            all_goals
              go_wp2_with (at_builtin; refine wpList_append_own _ rfl _ _ 31 rfl w.heap.size 5 i0 (.int .u8 0) 1 1 Tryz.underlying31 hi hz0 hz1 hz2 rfl (by decide) _ _ _ rfl (World.ownsRow.alloc ho _) ⟨wr.heap.size, 0, none⟩ 1 1 [.int .u8 ((s[k]).toNat : Int)] rfl rfl (cell_one_new _ _ _) (fun u hu => by simp at hu; subst hu; rfl) (by have := hacch.out; unfold maxLen; omega) (by have := hacch.out; omega) (by simp; omega) ?_)
              intro v2 w2 hown2 hg2 hnil2
              have hga : wr.grownBy w2 u5.ownBlock := (World.grownBy_alloc wr _ _).trans hg2
              have b2 := ho.below hga (by omega)
              have ho2 : Owns w.heap.size v2 (acc ++ [s[k]]) w2 := owns_of hown2 (by simp) (by simp [Lib.byteCells])
              have hlen2 : (acc ++ [s[k]]).length ≤ k + 1 := by rw [List.length_append, List.length_singleton]; omega
              clear hown2 hg2 hnil2 hga ho
              go_wp2_with fail
              go_roundw
              case rel => exact ⟨k + 1, acc ++ [s[k]], by omega, by go_num, hr, by omega, fun e => by simp at e, ho2, bw.trans b2⟩
              case measure => simp [intOf]; omega
    · obtain ⟨r1, r2, r3⟩ := qu_none (hL.out.trans (by rw [List.drop_of_length_le (by rw [hlen.out]; omega), Md.quo_nil]))
      replace r1 := Lib.hid r1
      replace r2 := Lib.hid r2
      replace r3 := Lib.hid r3
      clear hL
      go_wp2_with fail
      go_ret3
      exact ⟨ret_quo r1.out.symm r2.out.symm r3.out.symm, bw⟩
end Go.Proofs.YtpgdmoaegnehbaaGreatDoor
