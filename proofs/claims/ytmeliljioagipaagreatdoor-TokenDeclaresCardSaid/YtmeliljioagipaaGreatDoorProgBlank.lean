/-
  What becomes of the rest, by the program's two closures.
-/
import Derived.Test.YtmeliljioagipaaGreatDoorProgDefer
import Derived.Lib.ConvBytes
import Derived.BigGuard
namespace Go.Proofs.YtmeliljioagipaaGreatDoor
open Go.RowKit

theorem map_blank_false (l : List UInt8) : l.map (E.blank false) = l := by
  have : E.blank false = id := by funext b; simp [E.blank]
  rw [this, List.map_id]

theorem becomes_text (s : ByteArray) (w : World) : Calls Tryz.prog 72 #[.string s] w fun e w' => e = .returned (.string ⟨(s.data.toList.map (E.blank false)).toArray⟩) ∧ Below w.heap.size w w' := by
  have h : (⟨(s.data.toList.map (E.blank false)).toArray⟩ : ByteArray) = s := bytes_eq (by rw [map_blank_false])
  rw [h]
  clear h
  go_enter Tryz.func72, Tryz.ntmps72
  go_wp2
  go_ret
  exact ⟨rfl, Below.refl _ _⟩

/-- A byte behind k rounds. -/
def turned (l : List UInt8) (k j : Nat) : UInt8 := if j < k then E.blank true (l.getD j 0) else l.getD j 0
theorem turned_past (l : List UInt8) {k : Nat} : turned l k k = l.getD k 0 := by simp [turned]
theorem turned_other (l : List UInt8) {k j : Nat} (h : j ≠ k) : turned l (k + 1) j = turned l k j := by
  unfold turned
  by_cases h1 : j < k
  · rw [if_pos h1, if_pos (by omega)]
  · rw [if_neg h1, if_neg (by omega)]
theorem turned_now (l : List UInt8) {k : Nat} : turned l (k + 1) k = E.blank true (l.getD k 0) := by simp [turned]
theorem blank_yes {b : UInt8} (h : b.toNat = 9 ∨ b.toNat = 10 ∨ b.toNat = 13) : E.blank true b = 32 := by
  have : G.space b.toNat = true := by simp [G.space]; omega
  simp [E.blank, this]
theorem blank_no {b : UInt8} (h : ¬ (b.toNat = 9 ∨ b.toNat = 10 ∨ b.toNat = 13)) : E.blank true b = b := by
  by_cases h2 : b.toNat = 32
  · have : b = 32 := UInt8.toNat_inj.1 h2
    subst this; rfl
  · have : G.space b.toNat = false := by simp [G.space]; omega
    simp [E.blank, this]

/-- The row behind k rounds. -/
def RowAt (N n : Nat) (l : List UInt8) (k : Nat) (w : World) : Prop := ∀ j, j < n → w.cell? ⟨N, j, none⟩ = some (.int .u8 ((turned l k j).toNat : Int)) ∧ w.frozen? ⟨N, j, none⟩ = false

theorem frozen_bytes (w : World) (t : TypeId) (s : ByteArray) (j : Nat) (h : j < s.size) : (Lib.bytesWorld w t s).frozen? ⟨w.heap.size, j, none⟩ = false := by
  unfold World.frozen?
  rw [Lib.bytesWorld_at_new]
  have : s.size ≤ (Lib.bytesCells w t s).size := by simp [Lib.bytesCells]
  simp
  omega

theorem row_turned {N n : Nat} {l : List UInt8} {k : Nat} {w : World} (h : RowAt N n l k w) (hk : k < n) (hb : E.blank true (l.getD k 0) = 32) : RowAt N n l (k + 1) (w.setCell ⟨N, k, none⟩ (.int .u8 32)) := by
  intro j hj
  by_cases e : j = k
  · subst e
    obtain ⟨h1, h2⟩ := h j hj
    rw [turned_now, hb]
    exact ⟨by simp [go_sem, h1], by simp [go_sem, h2]⟩
  · obtain ⟨h1, h2⟩ := h j hj
    rw [turned_other l e]
    exact ⟨by simp [go_sem, h1], by simp [go_sem, h2]⟩
theorem row_kept {N n : Nat} {l : List UInt8} {k : Nat} {w : World} (h : RowAt N n l k w) (hb : E.blank true (l.getD k 0) = l.getD k 0) : RowAt N n l (k + 1) w := by
  intro j hj
  by_cases e : j = k
  · subst e
    obtain ⟨h1, h2⟩ := h j hj
    rw [turned_now, hb, ← turned_past l]
    exact ⟨h1, h2⟩
  · rw [turned_other l e]; exact h j hj

set_option maxRecDepth 100000 in
set_option maxHeartbeats 3200000 in
theorem becomes_value (s : ByteArray) (w : World) (hs : s.size ≤ 1000000) : Calls Tryz.prog 83 #[.string s] w fun e w' => e = .returned (.string ⟨(s.data.toList.map (E.blank true)).toArray⟩) ∧ Below w.heap.size w w' := by
  have hcv := Lib.run_convert_string_bytes (P := Tryz.prog) w 9 75 5 s (u := .string) Tryz.underlying9 Tryz.underlying75 Tryz.underlying5
  have hbw := below_bytes w s 5
  have hrow : RowAt w.heap.size s.size s.data.toList 0 (Lib.bytesWorld w 5 s) := fun j hj => by
    refine ⟨?_, frozen_bytes w _ s j hj⟩
    rw [Lib.bytesWorld_cell w 5 s j hj]
    simp [turned]
  have hlen := list_len s
  obtain ⟨W1, hW1⟩ : ∃ W1, W1 = Lib.bytesWorld w 5 s := ⟨_, rfl⟩
  rw [← hW1] at hcv hbw hrow
  clear hW1
  generalize grownCap w s.size 0 5 = cap at hcv
  generalize s.data.toList = l at *
  have hlen := Lib.hid hlen
  go_enter Tryz.func83, Tryz.ntmps83
  go_wp2
  go_loopw [10] (fun vi wr => ∃ k : Nat, k ≤ s.size ∧ vi = .int .i64 (k : Int) ∧ RowAt w.heap.size s.size l k wr ∧ Below w.heap.size w wr) (fun vi _ => s.size - (intOf vi).toNat)
  case atStart => exact ⟨0, Nat.zero_le _, rfl, hrow, hbw⟩
  case round =>
    obtain ⟨k, hk, rfl, hr, hb⟩ := hrel
    clear hcv hrow hbw
    by_cases hkn : k < s.size
    · obtain ⟨hc, hf⟩ := hr k hkn
      rw [turned_past] at hc
      have hyes := fun hb => Lib.hid (row_turned hr hkn hb)
      have hno := fun hb => Lib.hid (row_kept hr hb)
      have hlt := (l.getD k 0).toNat_lt
      have by1 := @blank_yes (l.getD k 0)
      have bn1 := @blank_no (l.getD k 0)
      generalize l.getD k 0 = c at *
      by_cases h9 : c.toNat = 9 ∨ c.toNat = 10 ∨ c.toNat = 13
      · have hR := hyes (by1 h9)
        clear hyes hno by1 bn1 hr
        rcases h9 with h | h | h
        all_goals
          rw [h] at hc
          clear h hlt
          go_wp2
          go_roundw
          case rel => exact ⟨k + 1, by omega, by go_num, hR.out, hb.setCell (p := ⟨w.heap.size, k, none⟩) (Nat.le_refl _) _⟩
          case measure => simp [intOf]; omega
      · have hR := hno (bn1 h9)
        have e1 : ((c.toNat : Int) == 9) = false := beq_eq_false_iff_ne.2 (by omega)
        have e2 : ((c.toNat : Int) == 10) = false := beq_eq_false_iff_ne.2 (by omega)
        have e3 : ((c.toNat : Int) == 13) = false := beq_eq_false_iff_ne.2 (by omega)
        clear hyes hno by1 bn1 hr h9
        generalize (c.toNat : Int) = cv at *
        go_wp2
        go_roundw
        case rel => exact ⟨k + 1, by omega, by go_num, hR.out, hb⟩
        case measure => simp [intOf]; omega
    · obtain rfl : k = s.size := by omega
      have hback : (convert 75 9 (.slice (some ⟨w.heap.size, 0, none⟩) s.size cap)).run Tryz.prog wr = .ok (.string ⟨(l.map (E.blank true)).toArray⟩) wr := by
        have hl2 : (l.map (E.blank true)).length = s.size := by rw [List.length_map, hlen.out]
        have := run_convert_bytes_back (P := Tryz.prog) (l := l.map (E.blank true)) wr 75 9 5 ⟨w.heap.size, 0, none⟩ cap Tryz.underlying75 Tryz.underlying5 Tryz.underlying9 (fun j hj => by
          have hj' : j < s.size := by omega
          have e : (⟨w.heap.size, 0, none⟩ : Addr).add j = ⟨w.heap.size, j, none⟩ := by unfold Addr.add; split <;> simp_all
          rw [e, (hr j hj').1]
          have hjl : j < l.length := by rw [hlen.out]; exact hj'
          simp [turned, hj', List.getD, List.getElem?_eq_getElem hjl])
        rwa [hl2] at this
      clear hr
      go_wp2
      go_ret
      exact ⟨rfl, hb⟩
end Go.Proofs.YtmeliljioagipaaGreatDoor
