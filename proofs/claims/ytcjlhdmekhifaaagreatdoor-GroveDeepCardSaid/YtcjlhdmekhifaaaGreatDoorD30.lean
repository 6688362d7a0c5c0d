/-
  The deferred call that recovers: what it makes of a call that returns, and of one in which the error was thrown.
  What becomes of the rest, by the program's two closures.
  A builder of text that a call has made itself: what its methods come to (copyCheck, WriteString, WriteByte, WriteRune), and that it stays what it is under what only makes memory.
-/
import Derived.Test.YtcjlhdmekhifaaaGreatDoorD29
import Derived.Defers
import Derived.Lib.ConvBytes
import Derived.BigGuard
import Derived.Test.YtcjlhdmekhifaaaGreatDoorD03
import Derived.Test.YtcjlhdmekhifaaaGreatDoorShelf
import Derived.Lib.RuneBytes
import Derived.Lib.FrozenHead2
import Derived.Lib.OthersKept
namespace Go.Proofs.YtcjlhdmekhifaaaGreatDoor
open Go.RowKit Go.Extern.Stop Go.Stop Go.Extern

set_option maxRecDepth 100000 in
theorem outcome_nil (s : ByteArray) (w : World) :
    Calls Tryz.prog 150 #[.nilIface, .string s] w fun e w' => e = .returned (.tuple #[.string s, .int .i64 0]) ∧ w = w' := by
  go_enter Tryz.func150, Tryz.ntmps150
  go_wp2
  go_ret2
  exact ⟨rfl, rfl⟩

theorem hasError (v : Value) (xT : TypeId) (w : World) : (Instr.typeAssert (.iface 222 v) xT 134 true).run Tryz.prog w = .ok (.tuple #[.iface 222 v, .bool true]) w := run_typeAssert_hasB Tryz.underlying134 (by kernel_rfl) v xT w

set_option maxRecDepth 100000 in
theorem outcome_err (s : ByteArray) (a : Addr) (w : World) (hv : w.cell? ⟨6, 0, none⟩ = some (.iface 222 (.pointer (some a)))) :
    Calls Tryz.prog 150 #[.iface 222 (.pointer (some a)), .string s] w fun e w' => e = .returned (.tuple #[.string ⟨#[]⟩, .int .i64 60]) ∧ w = w' := by
  have hE := hasError
  go_enter Tryz.func150, Tryz.ntmps150
  go_wp2_with fail
  (with_reducible refine (is_same a _).mono ?_)
  rintro e w' ⟨rfl, rfl⟩
  go_wp2
  go_ret2
  exact ⟨rfl, rfl⟩

theorem mixedOrders : Tryz.prog.follows .mixedOrders = true := by kernel_rfl

set_option maxRecDepth 100000 in
set_option maxHeartbeats 6400000 in
/-- The call returned: what it told stays. -/
theorem catch_idle (p q : Nat) (s : ByteArray) (w : World) (hqp : q ≠ p) (hc : w.cell? ⟨p, 0, none⟩ = some (.string s)) (m : Int) (hd : w.cell? ⟨q, 0, none⟩ = some (.int .i64 m)) (hf : w.frozen? ⟨p, 0, none⟩ = false) (hg : w.frozen? ⟨q, 0, none⟩ = false) :
    CallsD Tryz.prog 149 #[.pointer (some ⟨p, 0, none⟩), .pointer (some ⟨q, 0, none⟩)] .returning w fun e u' w' =>
      e = .returned (.tuple #[]) ∧ u' = .returning ∧ w' = (w.drew.setCell ⟨p, 0, none⟩ (.string s)).setCell ⟨q, 0, none⟩ (.int .i64 0) := by
  refine callsD_of_wpS Tryz.func149 rfl fun c₀ cs hu => ?_
  apply wpS_region_any mixedOrders
  refine wpAnyS_ready (rs := [0, 1]) (by kernel_rfl) (by simp) ?_
  intro i hi
  simp at hi
  rcases hi with rfl | rfl
  · simp [wpOpS, go_sem, recoverD, hu, Tryz.ntmps149]
    refine wpAnyS_ready (rs := [1]) (by kernel_rfl) (by simp) ?_
    intro i hi
    simp at hi
    subst hi
    simp [wpOpS, go_sem, hc]
    refine wpAnyS_ready (rs := [2]) (by kernel_rfl) (by simp) ?_
    intro i hi
    simp at hi
    subst hi
    simp [wpOpS, go_sem]
    refine (outcome_nil s _).mono ?_
    rintro e w1 ⟨rfl, rfl⟩
    simp only []
    refine wpAnyS_ready (rs := [3]) (by kernel_rfl) (by simp) ?_
    intro i hi
    simp at hi
    subst hi
    simp [wpOpS, go_sem]
    refine wpAnyS_ready (rs := [4, 5]) (by kernel_rfl) (by simp) ?_
    intro i hi
    simp at hi
    rcases hi with rfl | rfl
    · simp [wpOpS, go_sem]
      refine wpAnyS_ready (rs := [5, 6]) (by kernel_rfl) (by simp) ?_
      intro i hi
      simp at hi
      rcases hi with rfl | rfl
      · simp [wpOpS, go_sem]
        refine wpAnyS_ready (rs := [6]) (by kernel_rfl) (by simp) ?_
        intro i hi
        simp at hi
        subst hi
        simp [wpOpS, go_sem, hf, hc]
        refine wpAnyS_ready (rs := [7]) (by kernel_rfl) (by simp) ?_
        intro i hi
        simp at hi
        subst hi
        simp [wpOpS, go_sem, hd, hg]
        refine wpAnyS_done (by kernel_rfl) ?_ _
        cases c₀
        simp_all [bodyPostS, results, Tryz.results149]
      · simp [wpOpS, go_sem, hf, hc]
        refine wpAnyS_ready (rs := [5]) (by kernel_rfl) (by simp) ?_
        intro i hi
        simp at hi
        subst hi
        simp [wpOpS, go_sem]
        refine wpAnyS_ready (rs := [7]) (by kernel_rfl) (by simp) ?_
        intro i hi
        simp at hi
        subst hi
        simp [wpOpS, go_sem, hd, hg]
        refine wpAnyS_done (by kernel_rfl) ?_ _
        cases c₀
        simp_all [bodyPostS, results, Tryz.results149]
    · simp [wpOpS, go_sem]
      refine wpAnyS_ready (rs := [4]) (by kernel_rfl) (by simp) ?_
      intro i hi
      simp at hi
      subst hi
      simp [wpOpS, go_sem]
      refine wpAnyS_ready (rs := [6]) (by kernel_rfl) (by simp) ?_
      intro i hi
      simp at hi
      subst hi
      simp [wpOpS, go_sem, hf, hc]
      refine wpAnyS_ready (rs := [7]) (by kernel_rfl) (by simp) ?_
      intro i hi
      simp at hi
      subst hi
      simp [wpOpS, go_sem, hd, hg]
      refine wpAnyS_done (by kernel_rfl) ?_ _
      cases c₀
      simp_all [bodyPostS, results, Tryz.results149]
  · simp [wpOpS, go_sem, Tryz.ntmps149, hc]
    refine wpAnyS_ready (rs := [0]) (by kernel_rfl) (by simp) ?_
    intro i hi
    simp at hi
    subst hi
    simp [wpOpS, go_sem, recoverD, hu]
    refine wpAnyS_ready (rs := [2]) (by kernel_rfl) (by simp) ?_
    intro i hi
    simp at hi
    subst hi
    simp [wpOpS, go_sem]
    refine (outcome_nil s _).mono ?_
    rintro e w1 ⟨rfl, rfl⟩
    simp only []
    refine wpAnyS_ready (rs := [3]) (by kernel_rfl) (by simp) ?_
    intro i hi
    simp at hi
    subst hi
    simp [wpOpS, go_sem]
    refine wpAnyS_ready (rs := [4, 5]) (by kernel_rfl) (by simp) ?_
    intro i hi
    simp at hi
    rcases hi with rfl | rfl
    · simp [wpOpS, go_sem]
      refine wpAnyS_ready (rs := [5, 6]) (by kernel_rfl) (by simp) ?_
      intro i hi
      simp at hi
      rcases hi with rfl | rfl
      · simp [wpOpS, go_sem]
        refine wpAnyS_ready (rs := [6]) (by kernel_rfl) (by simp) ?_
        intro i hi
        simp at hi
        subst hi
        simp [wpOpS, go_sem, hf, hc]
        refine wpAnyS_ready (rs := [7]) (by kernel_rfl) (by simp) ?_
        intro i hi
        simp at hi
        subst hi
        simp [wpOpS, go_sem, hd, hg]
        refine wpAnyS_done (by kernel_rfl) ?_ _
        cases c₀
        simp_all [bodyPostS, results, Tryz.results149]
      · simp [wpOpS, go_sem, hf, hc]
        refine wpAnyS_ready (rs := [5]) (by kernel_rfl) (by simp) ?_
        intro i hi
        simp at hi
        subst hi
        simp [wpOpS, go_sem]
        refine wpAnyS_ready (rs := [7]) (by kernel_rfl) (by simp) ?_
        intro i hi
        simp at hi
        subst hi
        simp [wpOpS, go_sem, hd, hg]
        refine wpAnyS_done (by kernel_rfl) ?_ _
        cases c₀
        simp_all [bodyPostS, results, Tryz.results149]
    · simp [wpOpS, go_sem]
      refine wpAnyS_ready (rs := [4]) (by kernel_rfl) (by simp) ?_
      intro i hi
      simp at hi
      subst hi
      simp [wpOpS, go_sem]
      refine wpAnyS_ready (rs := [6]) (by kernel_rfl) (by simp) ?_
      intro i hi
      simp at hi
      subst hi
      simp [wpOpS, go_sem, hf, hc]
      refine wpAnyS_ready (rs := [7]) (by kernel_rfl) (by simp) ?_
      intro i hi
      simp at hi
      subst hi
      simp [wpOpS, go_sem, hd, hg]
      refine wpAnyS_done (by kernel_rfl) ?_ _
      cases c₀
      simp_all [bodyPostS, results, Tryz.results149]

set_option maxRecDepth 100000 in
set_option maxHeartbeats 6400000 in
/-- The error was thrown: nothing is told. -/
theorem catch_thrown (p q : Nat) (s : ByteArray) (a : Addr) (w : World) (hqp : q ≠ p) (hc : w.cell? ⟨p, 0, none⟩ = some (.string s)) (m : Int) (hd : w.cell? ⟨q, 0, none⟩ = some (.int .i64 m)) (hf : w.frozen? ⟨p, 0, none⟩ = false) (hg : w.frozen? ⟨q, 0, none⟩ = false) (hv : w.cell? ⟨6, 0, none⟩ = some (.iface 222 (.pointer (some a)))) :
    CallsD Tryz.prog 149 #[.pointer (some ⟨p, 0, none⟩), .pointer (some ⟨q, 0, none⟩)] (.panicking (thrown a)) w fun e u' w' =>
      e = .returned (.tuple #[]) ∧ u' = (.panicking [{ v := .iface 222 (.pointer (some a)), recovered := true }]) ∧ w' = (w.drew.setCell ⟨p, 0, none⟩ (.string ⟨#[]⟩)).setCell ⟨q, 0, none⟩ (.int .i64 60) := by
  refine callsD_of_wpS Tryz.func149 rfl fun c₀ cs hu => ?_
  apply wpS_region_any mixedOrders
  refine wpAnyS_ready (rs := [0, 1]) (by kernel_rfl) (by simp) ?_
  intro i hi
  simp at hi
  rcases hi with rfl | rfl
  · simp [wpOpS, go_sem, recoverD, hu, Tryz.ntmps149, thrown]
    refine wpAnyS_ready (rs := [1]) (by kernel_rfl) (by simp) ?_
    intro i hi
    simp at hi
    subst hi
    simp [wpOpS, go_sem, hc]
    refine wpAnyS_ready (rs := [2]) (by kernel_rfl) (by simp) ?_
    intro i hi
    simp at hi
    subst hi
    simp [wpOpS, go_sem]
    refine (outcome_err s a _ (by exact hv)).mono ?_
    rintro e w1 ⟨rfl, rfl⟩
    simp only []
    refine wpAnyS_ready (rs := [3]) (by kernel_rfl) (by simp) ?_
    intro i hi
    simp at hi
    subst hi
    simp [wpOpS, go_sem]
    refine wpAnyS_ready (rs := [4, 5]) (by kernel_rfl) (by simp) ?_
    intro i hi
    simp at hi
    rcases hi with rfl | rfl
    · simp [wpOpS, go_sem]
      refine wpAnyS_ready (rs := [5, 6]) (by kernel_rfl) (by simp) ?_
      intro i hi
      simp at hi
      rcases hi with rfl | rfl
      · simp [wpOpS, go_sem]
        refine wpAnyS_ready (rs := [6]) (by kernel_rfl) (by simp) ?_
        intro i hi
        simp at hi
        subst hi
        simp [wpOpS, go_sem, hf, hc]
        refine wpAnyS_ready (rs := [7]) (by kernel_rfl) (by simp) ?_
        intro i hi
        simp at hi
        subst hi
        simp [wpOpS, go_sem, hd, hg]
        refine wpAnyS_done (by kernel_rfl) ?_ _
        cases c₀
        simp_all [bodyPostS, results, Tryz.results149]
      · simp [wpOpS, go_sem, hf, hc]
        refine wpAnyS_ready (rs := [5]) (by kernel_rfl) (by simp) ?_
        intro i hi
        simp at hi
        subst hi
        simp [wpOpS, go_sem]
        refine wpAnyS_ready (rs := [7]) (by kernel_rfl) (by simp) ?_
        intro i hi
        simp at hi
        subst hi
        simp [wpOpS, go_sem, hd, hg]
        refine wpAnyS_done (by kernel_rfl) ?_ _
        cases c₀
        simp_all [bodyPostS, results, Tryz.results149]
    · simp [wpOpS, go_sem]
      refine wpAnyS_ready (rs := [4]) (by kernel_rfl) (by simp) ?_
      intro i hi
      simp at hi
      subst hi
      simp [wpOpS, go_sem]
      refine wpAnyS_ready (rs := [6]) (by kernel_rfl) (by simp) ?_
      intro i hi
      simp at hi
      subst hi
      simp [wpOpS, go_sem, hf, hc]
      refine wpAnyS_ready (rs := [7]) (by kernel_rfl) (by simp) ?_
      intro i hi
      simp at hi
      subst hi
      simp [wpOpS, go_sem, hd, hg]
      refine wpAnyS_done (by kernel_rfl) ?_ _
      cases c₀
      simp_all [bodyPostS, results, Tryz.results149]
  · simp [wpOpS, go_sem, Tryz.ntmps149, hc]
    refine wpAnyS_ready (rs := [0]) (by kernel_rfl) (by simp) ?_
    intro i hi
    simp at hi
    subst hi
    simp [wpOpS, go_sem, recoverD, hu, thrown]
    refine wpAnyS_ready (rs := [2]) (by kernel_rfl) (by simp) ?_
    intro i hi
    simp at hi
    subst hi
    simp [wpOpS, go_sem]
    refine (outcome_err s a _ (by exact hv)).mono ?_
    rintro e w1 ⟨rfl, rfl⟩
    simp only []
    refine wpAnyS_ready (rs := [3]) (by kernel_rfl) (by simp) ?_
    intro i hi
    simp at hi
    subst hi
    simp [wpOpS, go_sem]
    refine wpAnyS_ready (rs := [4, 5]) (by kernel_rfl) (by simp) ?_
    intro i hi
    simp at hi
    rcases hi with rfl | rfl
    · simp [wpOpS, go_sem]
      refine wpAnyS_ready (rs := [5, 6]) (by kernel_rfl) (by simp) ?_
      intro i hi
      simp at hi
      rcases hi with rfl | rfl
      · simp [wpOpS, go_sem]
        refine wpAnyS_ready (rs := [6]) (by kernel_rfl) (by simp) ?_
        intro i hi
        simp at hi
        subst hi
        simp [wpOpS, go_sem, hf, hc]
        refine wpAnyS_ready (rs := [7]) (by kernel_rfl) (by simp) ?_
        intro i hi
        simp at hi
        subst hi
        simp [wpOpS, go_sem, hd, hg]
        refine wpAnyS_done (by kernel_rfl) ?_ _
        cases c₀
        simp_all [bodyPostS, results, Tryz.results149]
      · simp [wpOpS, go_sem, hf, hc]
        refine wpAnyS_ready (rs := [5]) (by kernel_rfl) (by simp) ?_
        intro i hi
        simp at hi
        subst hi
        simp [wpOpS, go_sem]
        refine wpAnyS_ready (rs := [7]) (by kernel_rfl) (by simp) ?_
        intro i hi
        simp at hi
        subst hi
        simp [wpOpS, go_sem, hd, hg]
        refine wpAnyS_done (by kernel_rfl) ?_ _
        cases c₀
        simp_all [bodyPostS, results, Tryz.results149]
    · simp [wpOpS, go_sem]
      refine wpAnyS_ready (rs := [4]) (by kernel_rfl) (by simp) ?_
      intro i hi
      simp at hi
      subst hi
      simp [wpOpS, go_sem]
      refine wpAnyS_ready (rs := [6]) (by kernel_rfl) (by simp) ?_
      intro i hi
      simp at hi
      subst hi
      simp [wpOpS, go_sem, hf, hc]
      refine wpAnyS_ready (rs := [7]) (by kernel_rfl) (by simp) ?_
      intro i hi
      simp at hi
      subst hi
      simp [wpOpS, go_sem, hd, hg]
      refine wpAnyS_done (by kernel_rfl) ?_ _
      cases c₀
      simp_all [bodyPostS, results, Tryz.results149]
end Go.Proofs.YtcjlhdmekhifaaaGreatDoor
namespace Go.Proofs.YtcjlhdmekhifaaaGreatDoor
open Go.RowKit

theorem map_blank_false (l : List UInt8) : l.map (E.blank false) = l := by
  have : E.blank false = id := by funext b; simp [E.blank]
  rw [this, List.map_id]

theorem becomes_text (s : ByteArray) (w : World) : Calls Tryz.prog 137 #[.string s] w fun e w' => e = .returned (.string ⟨(s.data.toList.map (E.blank false)).toArray⟩) ∧ Below w.heap.size w w' := by
  have h : (⟨(s.data.toList.map (E.blank false)).toArray⟩ : ByteArray) = s := bytes_eq (by rw [map_blank_false])
  rw [h]
  clear h
  go_enter Tryz.func137, Tryz.ntmps137
  go_wp2
  go_ret
  exact ⟨rfl, Below.refl _ _⟩

/-- A byte behind k rounds. -/
def turned (l : List UInt8) (k j : Nat) : UInt8 := if j < k then E.blank true (l.getD j 0) else l.getD j 0
theorem turned_past (l : List UInt8) {k : Nat} : turned l k k = l.getD k 0 := by simp [turned]
theorem turned_other (l : List UInt8) {k j : Nat} (h : j ≠ k) : turned l (k + 1) j = turned l k j := by
  unfold turned
  by_cases h1 : j < k
  · rw [if_pos h1, if_pos (by omega)]
  · rw [if_neg h1, if_neg (by omega)]
theorem turned_now (l : List UInt8) {k : Nat} : turned l (k + 1) k = E.blank true (l.getD k 0) := by simp [turned]
theorem blank_yes {b : UInt8} (h : b.toNat = 9 ∨ b.toNat = 10 ∨ b.toNat = 13) : E.blank true b = 32 := by
  have : G.space b.toNat = true := by simp [G.space]; omega
  simp [E.blank, this]
theorem blank_no {b : UInt8} (h : ¬ (b.toNat = 9 ∨ b.toNat = 10 ∨ b.toNat = 13)) : E.blank true b = b := by
  by_cases h2 : b.toNat = 32
  · have : b = 32 := UInt8.toNat_inj.1 h2
    subst this; rfl
  · have : G.space b.toNat = false := by simp [G.space]; omega
    simp [E.blank, this]

/-- The row behind k rounds. -/
def RowAt (N n : Nat) (l : List UInt8) (k : Nat) (w : World) : Prop := ∀ j, j < n → w.cell? ⟨N, j, none⟩ = some (.int .u8 ((turned l k j).toNat : Int)) ∧ w.frozen? ⟨N, j, none⟩ = false

theorem frozen_bytes (w : World) (t : TypeId) (s : ByteArray) (j : Nat) (h : j < s.size) : (Lib.bytesWorld w t s).frozen? ⟨w.heap.size, j, none⟩ = false := by
  unfold World.frozen?
  rw [Lib.bytesWorld_at_new]
  have : s.size ≤ (Lib.bytesCells w t s).size := by simp [Lib.bytesCells]
  simp
  omega

theorem row_turned {N n : Nat} {l : List UInt8} {k : Nat} {w : World} (h : RowAt N n l k w) (hk : k < n) (hb : E.blank true (l.getD k 0) = 32) : RowAt N n l (k + 1) (w.setCell ⟨N, k, none⟩ (.int .u8 32)) := by
  intro j hj
  by_cases e : j = k
  · subst e
    obtain ⟨h1, h2⟩ := h j hj
    rw [turned_now, hb]
    exact ⟨by simp [go_sem, h1], by simp [go_sem, h2]⟩
  · obtain ⟨h1, h2⟩ := h j hj
    rw [turned_other l e]
    exact ⟨by simp [go_sem, h1], by simp [go_sem, h2]⟩
theorem row_kept {N n : Nat} {l : List UInt8} {k : Nat} {w : World} (h : RowAt N n l k w) (hb : E.blank true (l.getD k 0) = l.getD k 0) : RowAt N n l (k + 1) w := by
  intro j hj
  by_cases e : j = k
  · subst e
    obtain ⟨h1, h2⟩ := h j hj
    rw [turned_now, hb, ← turned_past l]
    exact ⟨h1, h2⟩
  · rw [turned_other l e]; exact h j hj

set_option maxRecDepth 100000 in
set_option maxHeartbeats 3200000 in
theorem becomes_value (s : ByteArray) (w : World) (hs : s.size ≤ 1000000) : Calls Tryz.prog 148 #[.string s] w fun e w' => e = .returned (.string ⟨(s.data.toList.map (E.blank true)).toArray⟩) ∧ Below w.heap.size w w' := by
  have hcv := Lib.run_convert_string_bytes (P := Tryz.prog) w 9 78 5 s (u := .string) Tryz.underlying9 Tryz.underlying78 Tryz.underlying5
  have hbw := below_bytes w s 5
  have hrow : RowAt w.heap.size s.size s.data.toList 0 (Lib.bytesWorld w 5 s) := fun j hj => by
    refine ⟨?_, frozen_bytes w _ s j hj⟩
    rw [Lib.bytesWorld_cell w 5 s j hj]
    simp [turned]
  have hlen := list_len s
  obtain ⟨W1, hW1⟩ : ∃ W1, W1 = Lib.bytesWorld w 5 s := ⟨_, rfl⟩
  rw [← hW1] at hcv hbw hrow
  clear hW1
  generalize grownCap w s.size 0 5 = cap at hcv
  generalize s.data.toList = l at *
  have hlen := Lib.hid hlen
  go_enter Tryz.func148, Tryz.ntmps148
  go_wp2
  go_loopw [10] (fun vi wr => ∃ k : Nat, k ≤ s.size ∧ vi = .int .i64 (k : Int) ∧ RowAt w.heap.size s.size l k wr ∧ Below w.heap.size w wr) (fun vi _ => s.size - (intOf vi).toNat)
  case atStart => exact ⟨0, Nat.zero_le _, rfl, hrow, hbw⟩
  case round =>
    obtain ⟨k, hk, rfl, hr, hb⟩ := hrel
    clear hcv hrow hbw
    by_cases hkn : k < s.size
    · obtain ⟨hc, hf⟩ := hr k hkn
      rw [turned_past] at hc
      have hyes := fun hb => Lib.hid (row_turned hr hkn hb)
      have hno := fun hb => Lib.hid (row_kept hr hb)
      have hlt := (l.getD k 0).toNat_lt
      have by1 := @blank_yes (l.getD k 0)
      have bn1 := @blank_no (l.getD k 0)
      generalize l.getD k 0 = c at *
      by_cases h9 : c.toNat = 9 ∨ c.toNat = 10 ∨ c.toNat = 13
      · have hR := hyes (by1 h9)
        clear hyes hno by1 bn1 hr
        rcases h9 with h | h | h
        all_goals
          rw [h] at hc
          clear h hlt
          go_wp2
          go_roundw
          case rel => exact ⟨k + 1, by omega, by go_num, hR.out, hb.setCell (p := ⟨w.heap.size, k, none⟩) (Nat.le_refl _) _⟩
          case measure => simp [intOf]; omega
      · have hR := hno (bn1 h9)
        have e1 : ((c.toNat : Int) == 9) = false := beq_eq_false_iff_ne.2 (by omega)
        have e2 : ((c.toNat : Int) == 10) = false := beq_eq_false_iff_ne.2 (by omega)
        have e3 : ((c.toNat : Int) == 13) = false := beq_eq_false_iff_ne.2 (by omega)
        clear hyes hno by1 bn1 hr h9
        generalize (c.toNat : Int) = cv at *
        go_wp2
        go_roundw
        case rel => exact ⟨k + 1, by omega, by go_num, hR.out, hb⟩
        case measure => simp [intOf]; omega
    · obtain rfl : k = s.size := by omega
      have hback : (convert 78 9 (.slice (some ⟨w.heap.size, 0, none⟩) s.size cap)).run Tryz.prog wr = .ok (.string ⟨(l.map (E.blank true)).toArray⟩) wr := by
        have hl2 : (l.map (E.blank true)).length = s.size := by rw [List.length_map, hlen.out]
        have := run_convert_bytes_back (P := Tryz.prog) (l := l.map (E.blank true)) wr 78 9 5 ⟨w.heap.size, 0, none⟩ cap Tryz.underlying78 Tryz.underlying5 Tryz.underlying9 (fun j hj => by
          have hj' : j < s.size := by omega
          have e : (⟨w.heap.size, 0, none⟩ : Addr).add j = ⟨w.heap.size, j, none⟩ := by unfold Addr.add; split <;> simp_all
          rw [e, (hr j hj').1]
          have hjl : j < l.length := by rw [hlen.out]; exact hj'
          simp [turned, hj', List.getD, List.getElem?_eq_getElem hjl])
        rwa [hl2] at this
      clear hr
      go_wp2
      go_ret
      exact ⟨rfl, hb⟩
end Go.Proofs.YtcjlhdmekhifaaaGreatDoor
namespace Go.Proofs.YtcjlhdmekhifaaaGreatDoor
open Go.RowKit

theorem sizeBuilder : ∃ j, Tryz.prog.info? 131 = some j ∧ j.size ≠ 0 := by
  have h : (Tryz.prog.info? 131).map (·.size) = some 2 := by kernel_rfl
  obtain ⟨j, hj, hs⟩ := Option.map_eq_some_iff.1 h
  exact ⟨j, hj, by rw [hs]; decide⟩
theorem liesBuilder : liesAt Tryz.prog Tryz.prog.depth 131 (2 / Tryz.prog.cellsOf 131) 0 131 1 = true := by kernel_rfl

/-- A builder at block b, the call's own from B on, with these bytes. -/
def Builds (B b : Nat) (l : List UInt8) (w : World) : Prop := Lib.IsBuilderF 131 5 B b (Lib.byteCells l) w

theorem builds_new (w : World) : Builds w.heap.size w.heap.size [] (w.alloc (.cells #[.pointer none, .slice none 0 0] 131)) :=
  .inl ⟨Nat.le_refl _, .slice none 0 0, heap_alloc_new w _, World.ownsRowF_nil _ _ _ _, by simp [Value.ownBlock]⟩

/-- What only makes memory leaves a builder as it is. -/
theorem builds_below {B b : Nat} {l : List UInt8} {w w' : World} (h : Builds B b l w) (hb : Below w.heap.size w w') : Builds B b l w' := by
  have key : ∀ p, Lib.BuilderAtF 131 5 B b p (Lib.byteCells l) w → Lib.BuilderAtF 131 5 B b p (Lib.byteCells l) w' := by
    rintro p ⟨hB, v, hbk, hown, hne⟩
    have hlt : b < w.heap.size := Lib.BuilderAtF.lt ⟨hB, v, hbk, hown, hne⟩
    refine ⟨hB, v, (hb.block b hlt).trans hbk, World.ownsRowF.kept hown (grown_of_below hb none) ?_, hne⟩
    cases h : v.ownBlock with
    | none => exact .inl rfl
    | some k => exact .inr (by simp)
  exact h.imp (key _) (key _)

set_option maxHeartbeats 1000000 in
set_option maxRecDepth 100000 in
theorem builder_check_used (b : Nat) (w : World) (h0 : w.cell? ⟨b, 0, none⟩ = some (.pointer (some ⟨b, 0, none⟩))) :
    Calls Tryz.prog 140 #[.pointer (some ⟨b, 0, none⟩)] w fun e w' => e = .returned (.tuple #[]) ∧ w' = w := by
  obtain ⟨j, hj, _⟩ := sizeBuilder
  have hsm := Lib.run_neq_ptr_same (P := Tryz.prog) w (tp := 129) (te := 131) ⟨b, 0, none⟩ Tryz.underlying129 hj
  go_enter Tryz.func140, Tryz.ntmps140
  go_wp2
  go_end0
  exact ⟨rfl, rfl⟩

set_option maxHeartbeats 1000000 in
set_option maxRecDepth 100000 in
theorem builder_check_fresh (b : Nat) (w : World) (h0 : w.cell? ⟨b, 0, none⟩ = some (.pointer none)) (hsh : w.shape? b = some (131, 2)) (hfz : w.frozen? ⟨b, 0, none⟩ = false) :
    Calls Tryz.prog 140 #[.pointer (some ⟨b, 0, none⟩)] w fun e w' => e = .returned (.tuple #[]) ∧ w' = w.setCell ⟨b, 0, none⟩ (.pointer (some ⟨b, 0, none⟩)) := by
  obtain ⟨j, hj, hjs⟩ := sizeBuilder
  go_enter Tryz.func140, Tryz.ntmps140
  go_wp2
  rw [Lib.run_to_unsafe w ⟨b, 0, none⟩ Tryz.underlying129 Tryz.underlying173 hj hjs hsh (Nat.zero_lt_succ 1)]
  simp only [Result.andThen]
  rw [Oper.upon_value]
  go_wp2
  rw [run_callFunc_extern Tryz.func153 (by kernel_rfl) (by kernel_rfl) (by kernel_rfl) (e := Extern.AbiNoEscape.same) (by kernel_rfl)]
  rw [Lib.run_noEscape]
  simp only [Result.andThen]
  rw [Oper.upon_value]
  go_wp2
  rw [Lib.run_from_unsafe w ⟨b, 0, none⟩ Tryz.underlying173 Tryz.underlying129 hj hsh liesBuilder]
  simp only [Result.andThen]
  rw [Oper.upon_value]
  go_wp2
  go_end0
  exact ⟨rfl, rfl⟩

theorem builder_check (B b : Nat) (bs : List Value) (w : World) (h : Lib.IsBuilderF 131 5 B b bs w) :
    Calls Tryz.prog 140 #[.pointer (some ⟨b, 0, none⟩)] w fun e w' => e = .returned (.tuple #[]) ∧ Lib.BuilderAtF 131 5 B b (.pointer (some ⟨b, 0, none⟩)) bs w' ∧ Below B w w' := by
  rcases h with h | h
  · refine (builder_check_fresh b w h.cell0 h.shape h.frozen0).mono ?_
    rintro e w' ⟨rfl, rfl⟩
    exact ⟨rfl, h.used _, (Below.refl B w).setCell (p := ⟨b, 0, none⟩) h.1 _⟩
  · refine (builder_check_used b w h.cell0).mono ?_
    rintro e w' ⟨rfl, rfl⟩
    exact ⟨rfl, h, Below.refl B _⟩

set_option maxHeartbeats 2000000 in
set_option maxRecDepth 100000 in
theorem builder_writeString (B b : Nat) (l : List UInt8) (s : ByteArray) (w : World) (h : Builds B b l w) (hlen : l.length + s.size ≤ 140737488355328) (hBw : B ≤ w.heap.size) :
    Calls Tryz.prog 114 #[.pointer (some ⟨b, 0, none⟩), .string s] w fun e w' => e = .returned (.tuple #[.int .i64 s.size, .nilIface]) ∧ Builds B b (l ++ s.data.toList) w' ∧ Below B w w' := by
  obtain ⟨i0, hi, hz0, hz1, hz2⟩ := info_parts infoByte
  have hl0 : (Lib.byteCells l).length = l.length := Lib.byteCells_length l
  unfold Builds at *
  rw [Lib.byteCells_append, ← Lib.strCells_eq]
  generalize Lib.byteCells l = bs at *
  replace hlen : bs.length + s.size ≤ 140737488355328 := by omega
  clear hl0
  go_enter Tryz.func114, Tryz.ntmps114
  go_wp2_with fail
  (with_reducible refine (builder_check B b bs _ h).mono ?_)
  rintro e w1 ⟨rfl, h1, hb1⟩
  obtain ⟨hB, v, hbk, hown, hne⟩ := h1
  have c0 : w1.cell? ⟨b, 0, none⟩ = some (.pointer (some ⟨b, 0, none⟩)) := by rw [Lib.cell_of_heap hbk]; rfl
  have c1 : w1.cell? ⟨b, 1, none⟩ = some v := by rw [Lib.cell_of_heap hbk]; rfl
  go_wp2_with (at_builtin; refine Lib.wpList_append_own_stringF _ rfl _ _ 78 9 rfl B 5 i0 Tryz.underlying78 Tryz.underlying9 hi hz0 hz1 hz2 _ _ _ rfl hown s rfl ?c3 ?c4 ?c5 ?_)
  case c3 => unfold maxLen; omega
  case c4 => omega
  case c5 => have := hb1.size; omega
  intro v' w2 hown' hgrow _
  have hlt : b < w1.heap.size := by
    rcases Nat.lt_or_ge b w1.heap.size with h' | h'
    · exact h'
    · simp [Array.getElem?_eq_none h'] at hbk
  have hb2 : w2.heap[b]? = some (.cells #[.pointer (some ⟨b, 0, none⟩), v] 131 (0, 0)) := by
    rw [hgrow.block b hlt (fun e => hne e.symm)]
    exact hbk
  have d0 : w2.cell? ⟨b, 0, none⟩ = some (.pointer (some ⟨b, 0, none⟩)) := by rw [Lib.cell_of_heap hb2]; rfl
  have d1 : w2.cell? ⟨b, 1, none⟩ = some v := by rw [Lib.cell_of_heap hb2]; rfl
  have f1 : w2.frozen? ⟨b, 1, none⟩ = false := Lib.frozen_of_heap hb2 1
  obtain ⟨ao, n', cap, rfl⟩ : ∃ ao n' cap, v' = .slice ao n' cap := by
    rcases hown'.2 with ⟨hv, _⟩ | ⟨g, cap, cur, fz, hv, _⟩
    · exact ⟨_, _, _, hv⟩
    · exact ⟨_, _, _, hv⟩
  go_wp2
  go_ret2
  refine ⟨rfl, .inr ?_, ?_⟩
  · exact Lib.BuilderAtF.put (T := 131) (e := 5) hB hb2 (bs' := bs ++ Lib.strCells s) (by simpa [Lib.strCells_length] using hown') (by decide)
  · exact (hb1.grown hgrow (by have := hb1.size; omega) (fun k hk => (hown.lt k hk).1)).setCell (p := ⟨b, 1, none⟩) hB _

/-- The text that a builder has. -/
theorem builder_string (B b : Nat) (l : List UInt8) (w : World) (h : Builds B b l w) (hBw : B ≤ w.heap.size) :
    Calls Tryz.prog 115 #[.pointer (some ⟨b, 0, none⟩)] w fun e w' => e = .returned (.string ⟨l.toArray⟩) ∧ Builds B b l w' ∧ Below B w w' :=
  (Tryz.Builder_String_any_f B b l w h hBw).mono fun _ _ h => h
end Go.Proofs.YtcjlhdmekhifaaaGreatDoor
