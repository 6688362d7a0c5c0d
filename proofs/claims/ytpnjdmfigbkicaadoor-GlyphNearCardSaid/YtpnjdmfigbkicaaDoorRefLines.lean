/-
  What the document's own words of texts come to: contract of Lines.
-/
import Derived.Test.YtpnjdmfigbkicaaDoorBytes
import Derived.Test.YtpnjdmfigbkicaaDoorRefPlain
namespace Go.Proofs.YtpnjdmfigbkicaaDoor
open Go.RowKit

namespace G
theorem lines_at (s : ByteArray) (k : Nat) (h : k < s.size) (hb : (s[k]).toNat ≠ 13) : lines (s.data.toList.drop k) = s[k] :: lines (s.data.toList.drop (k + 1)) := by
  rw [drop_cons s k h, lines_cons _ _ (fun e => hb (by rw [e]; rfl))]
theorem lines_two (s : ByteArray) (k : Nat) (h : k < s.size) (h1 : k + 1 < s.size) (hb : (s[k]).toNat = 13) (hc : (s[k + 1]).toNat = 10) : lines (s.data.toList.drop k) = 10 :: lines (s.data.toList.drop (k + 2)) := by
  rw [drop_cons s k h, drop_cons s (k + 1) h1, byte_is (c := 13) hb, byte_is (c := 10) hc, lines_crlf]
theorem lines_one (s : ByteArray) (k : Nat) (h : k < s.size) (hb : (s[k]).toNat = 13) (hc : (h1 : k + 1 < s.size) → (s[k + 1]).toNat ≠ 10) : lines (s.data.toList.drop k) = 10 :: lines (s.data.toList.drop (k + 1)) := by
  rw [drop_cons s k h, byte_is (c := 13) hb, lines_cr]
  by_cases h1 : k + 1 < s.size
  · rw [drop_cons s (k + 1) h1, List.head?_cons]
    intro e
    exact hc h1 (by rw [Option.some.inj e]; rfl)
  · rw [List.drop_of_length_le (by rw [list_len]; omega)]; simp
theorem acc_step {L acc : List UInt8} {x y : List UInt8} {b : UInt8} (h : L = acc ++ x) (e : x = b :: y) : L = (acc ++ [b]) ++ y := by rw [h, e]; simp
theorem acc_end {L acc x : List UInt8} (h : L = acc ++ lines x) (e : x = []) : L = acc := by rw [h, e]; simp [lines]
end G

set_option maxRecDepth 100000 in
set_option maxHeartbeats 1600000 in
theorem refLines_any (s : ByteArray) (w : World) (hs : s.size ≤ 70368744177664) :
    Calls Tryd.prog 21 #[.string s] w fun e w' => e = .returned (.string ⟨(G.lines s.data.toList).toArray⟩) ∧ Below w.heap.size w w' := by
  obtain ⟨i0, hi, hz0, hz1, hz2⟩ := info_parts infoByte
  have hlen := Lib.hid (list_len s)
  go_enter Tryd.func21, Tryd.ntmps21
  go_wp2_with fail
  go_loopw [3, 4] (fun v i wr => ∃ (k : Nat) (acc : List UInt8), k ≤ s.size ∧ i = .int .i64 k ∧ Hid (G.lines s.data.toList = acc ++ G.lines (s.data.toList.drop k)) ∧ acc.length ≤ k ∧ (acc = [] → v = .slice none 0 0) ∧ Owns w.heap.size v acc wr ∧ Below w.heap.size w wr) (fun _ i _ => s.size - (intOf i).toNat)
  case atStart => exact ⟨0, [], Nat.zero_le _, rfl, Lib.hid (by simp), by simp, fun _ => rfl, owns_nil _ _, Below.refl _ _⟩
  case round =>
    obtain ⟨k, acc, hk, rfl, hL, hacc, hnil, ho, bw⟩ := hrel
    have hsz := bw.size
    have hacch := Lib.hid hacc
    have hnilh := Lib.hid hnil
    clear hnil
    by_cases hlt : k < s.size
    · by_cases hq : (s[k]).toNat = 13
      · have hqi : ((s[k]).toNat : Int) = 13 := by omega
        by_cases h1 : k + 1 < s.size
        · by_cases hd : (s[k + 1]).toNat = 10
          · have hr := Lib.hid (G.acc_step hL.out (G.lines_two s k hlt h1 hq hd))
            have hdi : ((s[k + 1]).toNat : Int) = 10 := by omega
            clear hL hd hq
            go_wp2_with (at_builtin; refine wpList_append_own _ rfl _ _ 35 rfl w.heap.size 5 i0 (.int .u8 0) 1 1 Tryd.underlying35 hi hz0 hz1 hz2 rfl (by decide) _ _ _ rfl (World.ownsRow.alloc ho _) ⟨wr.heap.size, 0, none⟩ 1 1 [.int .u8 10] rfl rfl (cell_one_new _ _ _) (fun u hu => by simp at hu; subst hu; rfl) (by have := hacch.out; unfold maxLen; omega) (by have := hacch.out; omega) (by simp; omega) ?_)
            intro v2 w2 hown2 hg2 hnil2
            have hga : wr.grownBy w2 u3.ownBlock := (World.grownBy_alloc wr _ _).trans hg2
            have b2 := ho.below hga (by omega)
            have ho2 : Owns w.heap.size v2 (acc ++ [10]) w2 := owns_of hown2 (by simp) (by simp [Lib.byteCells])
            have hlen2 : (acc ++ [10]).length ≤ k + 1 := by rw [List.length_append, List.length_singleton]; omega
            clear hown2 hg2 hnil2 hga ho
            go_wp2_with fail
            go_round
            case rel => exact ⟨k + 2, acc ++ [10], by omega, by go_num, hr, by omega, fun e => by simp at e, ho2, bw.trans b2⟩
            case measure => simp [intOf]; omega
          · have hr := Lib.hid (G.acc_step hL.out (G.lines_one s k hlt hq (fun _ => hd)))
            have hdi : ¬ ((s[k + 1]).toNat : Int) = 10 := by omega
            clear hL hd hq
            go_wp2_with (at_builtin; refine wpList_append_own _ rfl _ _ 35 rfl w.heap.size 5 i0 (.int .u8 0) 1 1 Tryd.underlying35 hi hz0 hz1 hz2 rfl (by decide) _ _ _ rfl (World.ownsRow.alloc ho _) ⟨wr.heap.size, 0, none⟩ 1 1 [.int .u8 10] rfl rfl (cell_one_new _ _ _) (fun u hu => by simp at hu; subst hu; rfl) (by have := hacch.out; unfold maxLen; omega) (by have := hacch.out; omega) (by simp; omega) ?_)
            intro v2 w2 hown2 hg2 hnil2
            have hga : wr.grownBy w2 u3.ownBlock := (World.grownBy_alloc wr _ _).trans hg2
            have b2 := ho.below hga (by omega)
            have ho2 : Owns w.heap.size v2 (acc ++ [10]) w2 := owns_of hown2 (by simp) (by simp [Lib.byteCells])
            have hlen2 : (acc ++ [10]).length ≤ k + 1 := by rw [List.length_append, List.length_singleton]; omega
            clear hown2 hg2 hnil2 hga ho
            go_wp2_with fail
            go_round
            case rel => exact ⟨k + 1, acc ++ [10], by omega, by go_num, hr, by omega, fun e => by simp at e, ho2, bw.trans b2⟩
            case measure => simp [intOf]; omega
        · have hr := Lib.hid (G.acc_step hL.out (G.lines_one s k hlt hq (fun h2 => absurd h2 h1)))
          clear hL hq
          go_wp2_with (at_builtin; refine wpList_append_own _ rfl _ _ 35 rfl w.heap.size 5 i0 (.int .u8 0) 1 1 Tryd.underlying35 hi hz0 hz1 hz2 rfl (by decide) _ _ _ rfl (World.ownsRow.alloc ho _) ⟨wr.heap.size, 0, none⟩ 1 1 [.int .u8 10] rfl rfl (cell_one_new _ _ _) (fun u hu => by simp at hu; subst hu; rfl) (by have := hacch.out; unfold maxLen; omega) (by have := hacch.out; omega) (by simp; omega) ?_)
          intro v2 w2 hown2 hg2 hnil2
          have hga : wr.grownBy w2 u3.ownBlock := (World.grownBy_alloc wr _ _).trans hg2
          have b2 := ho.below hga (by omega)
          have ho2 : Owns w.heap.size v2 (acc ++ [10]) w2 := owns_of hown2 (by simp) (by simp [Lib.byteCells])
          have hlen2 : (acc ++ [10]).length ≤ k + 1 := by rw [List.length_append, List.length_singleton]; omega
          clear hown2 hg2 hnil2 hga ho
          go_wp2_with fail
          go_round
          case rel => exact ⟨k + 1, acc ++ [10], by omega, by go_num, hr, by omega, fun e => by simp at e, ho2, bw.trans b2⟩
          case measure => simp [intOf]; omega
      · have hr := Lib.hid (G.acc_step hL.out (G.lines_at s k hlt hq))
        have hqi : ¬ ((s[k]).toNat : Int) = 13 := by omega
        clear hL hq
        go_wp2_with (at_builtin; refine wpList_append_own _ rfl _ _ 35 rfl w.heap.size 5 i0 (.int .u8 0) 1 1 Tryd.underlying35 hi hz0 hz1 hz2 rfl (by decide) _ _ _ rfl (World.ownsRow.alloc ho _) ⟨wr.heap.size, 0, none⟩ 1 1 [.int .u8 ((s[k]).toNat : Int)] rfl rfl (cell_one_new _ _ _) (fun u hu => by simp at hu; subst hu; rfl) (by have := hacch.out; unfold maxLen; omega) (by have := hacch.out; omega) (by simp; omega) ?_)
        intro v2 w2 hown2 hg2 hnil2
        have hga : wr.grownBy w2 u3.ownBlock := (World.grownBy_alloc wr _ _).trans hg2
        have b2 := ho.below hga (by omega)
        have ho2 : Owns w.heap.size v2 (acc ++ [s[k]]) w2 := owns_of hown2 (by simp) (by simp [Lib.byteCells])
        have hlen2 : (acc ++ [s[k]]).length ≤ k + 1 := by rw [List.length_append, List.length_singleton]; omega
        clear hown2 hg2 hnil2 hga ho
        go_wp2_with fail
        go_round
        case rel => exact ⟨k + 1, acc ++ [s[k]], by omega, by go_num, hr, by omega, fun e => by simp at e, ho2, bw.trans b2⟩
        case measure => simp [intOf]; omega
    · have hfull : s.data.toList.drop k = [] := List.drop_of_length_le (by rw [hlen.out]; omega)
      have hcv := owns_string ho hnilh.out
      have hr := Lib.hid (G.acc_end hL.out hfull)
      clear hfull hL
      go_wp2
      go_ret
      exact ⟨ret_str (by rw [hr.out]), bw⟩
end Go.Proofs.YtpnjdmfigbkicaaDoor
