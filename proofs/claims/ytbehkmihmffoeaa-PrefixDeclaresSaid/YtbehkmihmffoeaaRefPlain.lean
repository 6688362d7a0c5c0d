/-
  What the document's own words of texts come to: contracts of Plain, Lines.
-/
import Derived.Test.YtbehkmihmffoeaaRefNames
namespace Go.Proofs.Ytbehkmihmffoeaa
open Go.RowKit

namespace G
theorem plain_no (l : List UInt8) (h : name l = 0 ∨ name l ≠ l.length) : plain l = false := by
  unfold plain
  rcases h with h | h
  · by_cases hl : l = []
    · simp [hl]
    · have := List.length_pos_iff.2 hl
      simp [h]; intro _ h1; omega
  · simp [h]
theorem plain_all (l : List UInt8) (h : name l = l.length) (h0 : name l ≠ 0) : plain l = l.all (fun b => decide (b ≠ 58)) := by
  have hl : l ≠ [] := by rintro rfl; exact h0 rfl
  unfold plain
  simp [h, hl]
end G

set_option maxRecDepth 100000 in
set_option maxHeartbeats 1600000 in
theorem refPlain_any (s : ByteArray) (w : World) (hs : s.size ≤ maxLen) :
    Calls Try.prog 18 #[.string s] w fun e w' => e = .returned (.bool (G.plain s.data.toList)) ∧ Below w.heap.size w w' := by
  have hsm : s.size ≤ 9223372036854775807 := hs
  have hlen := list_len s
  have hle := G.name_le s.data.toList
  rw [hlen] at hle
  go_enter Try.func18, Try.ntmps18
  go_wp2_with fail
  (with_reducible refine (refName_any s _ hs).mono ?_); rintro e w1 ⟨rfl, b1⟩
  by_cases h0 : G.name s.data.toList = 0
  · have hr := Lib.hid (G.plain_no s.data.toList (.inl h0))
    obtain ⟨e1, e2, e3⟩ := G.nm_none h0
    rw [e1, e2, e3]
    clear e1 e2 e3 h0 hle hlen
    go_wp2
    go_ret
    exact ⟨ret_bool' hr.out.symm, b1⟩
  · by_cases hk : G.name s.data.toList = s.size
    · obtain ⟨e1, e2, e3⟩ := G.nm_some rfl h0
      have hall := Lib.hid (G.plain_all s.data.toList (by rw [hk, hlen]) h0)
      rw [e1, e2, e3, hk, extract_full]
      have e4 : s.extract s.size s.size = ByteArray.empty := bytes_eq (by rw [drop_list, List.drop_of_length_le (by rw [hlen]; exact Nat.le_refl _)]; rfl)
      rw [e4]
      have hlen := Lib.hid hlen
      clear e1 e2 e3 e4 h0 hle hk
      go_wp2_with fail
      go_loop [6] (fun i => ∃ k : Nat, k ≤ s.size ∧ i = .int .i64 k ∧ Hid ((s.data.toList.take k).all (fun b => decide (b ≠ 58)) = true)) (fun i => s.size - (intOf i).toNat)
      case atStart => exact ⟨0, Nat.zero_le _, rfl, Lib.hid (by simp)⟩
      case round =>
        obtain ⟨k, hk, rfl, hall1⟩ := hrel
        by_cases hlt : k < s.size
        · have hst := Lib.hid (all_take (fun b => decide (b ≠ 58)) s.data.toList k (by rw [hlen.out]; exact hlt))
          have hno := Lib.hid (all_not (fun b => decide (b ≠ 58)) s.data.toList k (by rw [hlen.out]; exact hlt))
          have hgk : s.data.toList[k]'(by rw [hlen.out]; exact hlt) = s[k] := rfl
          rw [hgk] at hst hno
          clear hgk
          by_cases hq : s[k] = 58
          · have hr := Lib.hid (hno.out (by rw [hq]; rfl))
            have hq1 : (s[k]).toNat = 58 := by rw [hq]; rfl
            clear hno hst hq
            go_wp2
            go_ret
            exact ⟨ret_bool' (by rw [hall.out]; exact hr.out.symm), b1⟩
          · have hr := Lib.hid (hst.out.trans (show _ = true by rw [hall1.out]; simp [hq]))
            have hq1 : (s[k]).toNat ≠ 58 := fun e => hq (UInt8.toNat_inj.1 e)
            have hq2 : ¬ ((s[k]).toNat : Int) = 58 := by omega
            clear hno hst hq
            go_wp2
            go_round
            case rel => exact ⟨k + 1, by omega, by go_num, hr⟩
            case measure => simp [intOf]; omega
        · have hfull : s.data.toList.take k = s.data.toList := List.take_of_length_le (by rw [hlen.out]; omega)
          rw [hfull] at hall1
          clear hfull
          go_wp2
          go_ret
          exact ⟨ret_bool' (by rw [hall.out]; exact hall1.out.symm), b1⟩
    · have hr := Lib.hid (G.plain_no s.data.toList (.inr (by rw [hlen]; exact hk)))
      obtain ⟨e1, e2, e3⟩ := G.nm_some rfl h0
      rw [e1, e2, e3]
      generalize G.name s.data.toList = n at *
      have hsz : 0 < (s.extract n s.size).size := by simp; omega
      have hne := ne_empty hsz
      clear hlen
      generalize s.extract n s.size = t at *
      clear e1 e2 e3
      go_wp2
      go_ret
      exact ⟨ret_bool' hr.out.symm, b1⟩
end Go.Proofs.Ytbehkmihmffoeaa
