/-
  What the sum of a text comes to.
-/
import Derived.Test.YtbfgniheagolgaaGreatDoorRows
import Derived.Test.YtbfgniheagolgaaGreatDoorAdlerMath
import Derived.WalkKit
import Derived.WalkSpells
import Derived.Lib.Hide
import Derived.Laws.IdiomStrings
namespace Go.Proofs.YtbfgniheagolgaaGreatDoor
open Go.RowKit

theorem ret_int {k : IntKind} {a b : Int} (h : a = b) : Ending.returned (.int k a) = .returned (.int k b) := by rw [h]

theorem bytes_laid (s : ByteArray) (w : World) : ∃ cap C, (convert 9 36 (.string s)).run Tryz.prog w = .ok (.slice (some ⟨w.heap.size, 0, none⟩) s.size cap) (w.drew.alloc (.cells C 5 (C.size, C.size + 1))) ∧
    ∀ j (h : j < s.size), (w.alloc (.cells C 5 (C.size, C.size + 1))).cell? ⟨w.heap.size, j, none⟩ = some (.int .u8 (s[j].toNat : Int)) :=
  ⟨_, _, run_bytes_of_string w 9 36 5 s Tryz.underlying9 Tryz.underlying36 Tryz.underlying5, fun j h => by
    rw [World.cell?_alloc_mark, bytesRow_at s _ j h]; rfl⟩

set_option maxHeartbeats 400000 in
theorem sum_any (s : ByteArray) (w : World) (hs : s.size ≤ maxLen) :
    Calls Tryz.prog 15 #[.string s] w fun e w' => e = .returned (.int .i64 (M.adl s.data.toList)) ∧ Below w.heap.size w w' := by
  unfold maxLen at hs
  obtain ⟨cap, C, hconv, hcell⟩ := bytes_laid s w
  go_enter Tryz.func15, Tryz.ntmps15
  go_wp2
  go_loop [3, 4, 10] (fun a b i => ∃ k : Nat, k ≤ s.size ∧ i = .int .i64 k ∧ a = .int .i64 (M.stt (s.data.toList.take k)).1 ∧ b = .int .i64 (M.stt (s.data.toList.take k)).2) (fun _ _ i => s.size - (intOf i).toNat)
  case atStart => exact ⟨0, Nat.zero_le _, rfl, rfl, rfl⟩
  case round =>
    obtain ⟨k, hk, rfl, rfl, rfl⟩ := hrel
    have hb := M.stt_bd (s.data.toList.take k)
    by_cases hlt : k < s.size
    · have hc := hcell k hlt
      have hbyte : (s[k].toNat : Int) < 256 := by have := s[k].toNat_lt; omega
      have hst := Lib.hid (M.stt_take s.data.toList k (by simpa using hlt))
      have hgk : s.data.toList[k]'(by simpa using hlt) = s[k] := rfl
      rw [hgk] at hst
      clear hgk hcell hconv
      go_wp2
      go_round
      case rel => exact ⟨k + 1, by omega, by go_num, by rw [hst.out.1], by rw [hst.out.2]⟩
      case measure => simp [intOf]; omega
    · go_wp2
      go_ret
      have hfull : s.data.toList.take k = s.data.toList := List.take_of_length_le (by simp; omega)
      rw [hfull]
      exact ⟨ret_int rfl, ((Below.refl _ _).alloc (Nat.le_refl _) _).drew⟩

end Go.Proofs.YtbfgniheagolgaaGreatDoor
