/-
  What the document's own words of zones come to: the contract of zone; the word itself, in plain Lean.
-/
import Derived.Test.YtdkephbfehlodaaDoorRefFrac
namespace Go.Proofs.YtdkephbfehlodaaDoor
open Go.RowKit

namespace D
/-- Seconds ahead of UTC. -/
def zone (l : List UInt8) : Option Int :=
  if l = [90] then some 0
  else if l.length = 6 ∧ (l[0]? = some 43 ∨ l[0]? = some 45) ∧ l[3]? = some 58 then
    if num l 1 2 < 0 ∨ 23 < num l 1 2 ∨ num l 4 2 < 0 ∨ 59 < num l 4 2 then none
    else if l[0]? = some 45 then some (-num l 1 2 * 3600 - num l 4 2 * 60) else some (num l 1 2 * 3600 + num l 4 2 * 60)
  else none
def zoneN (l : List UInt8) : Int := (zone l).getD 0
def zoneB (l : List UInt8) : Bool := (zone l).isSome
theorem zone_none {l : List UInt8} (h : zone l = none) : zoneN l = 0 ∧ zoneB l = false := by unfold zoneN zoneB; rw [h]; exact ⟨rfl, rfl⟩
theorem zone_some {l : List UInt8} {z : Int} (h : zone l = some z) : zoneN l = z ∧ zoneB l = true := by unfold zoneN zoneB; rw [h]; exact ⟨rfl, rfl⟩
end D

theorem refNumber_n (s : ByteArray) (a n : Nat) {x y : Int} (w : World) (hs : s.size ≤ maxLen) (ha : a ≤ 1000) (hn : n ≤ 4) (hx : (a : Int) = x) (hy : (n : Int) = y) :
    Calls Tryd.prog 23 #[.string s, .int .i64 x, .int .i64 y] w fun e w' => e = .returned (.int .i64 (D.num s.data.toList a n)) ∧ w = w' :=
  hx ▸ hy ▸ refNumber_any s a n w hs ha hn

theorem txt_ne {s : ByteArray} {l : List UInt8} (h : ¬ s.data.toList = l) : (s.toList == l) = false := by
  rw [ByteArray.toList_eq]; exact beq_false_of_ne h
theorem txt_is {s : ByteArray} {l : List UInt8} (h : s.data.toList = l) : (s.toList == l) = true := by
  rw [ByteArray.toList_eq, h]; exact beq_self_eq_true l
theorem ret_zone {a x : Int} {b y : Bool} (h1 : a = x) (h2 : b = y) : Ending.returned (.tuple #[.int .i64 a, .bool b]) = .returned (.tuple #[.int .i64 x, .bool y]) := by rw [h1, h2]
theorem byte_at {s : ByteArray} {k : Nat} (h : k < s.size) : s.data.toList[k]? = some s[k] := by
  rw [List.getElem?_eq_getElem (by rw [Array.length_toList]; exact h)]; rfl
theorem sbyte_is {a b : UInt8} : some a = some b ↔ a.toNat = b.toNat := by
  rw [Option.some.injEq]; exact UInt8.toNat_inj.symm

set_option maxRecDepth 100000 in
set_option maxHeartbeats 6400000 in
theorem refZone_any (s : ByteArray) (w : World) (hs : s.size ≤ maxLen) :
    Calls Tryd.prog 27 #[.string s] w fun e w' => e = .returned (.tuple #[.int .i64 (D.zoneN s.data.toList), .bool (D.zoneB s.data.toList)]) ∧ w = w' := by
  have hsm : s.size ≤ 9223372036854775807 := hs
  go_enter Tryd.func27, Tryd.ntmps27
  by_cases hz : s.data.toList = [90]
  · obtain ⟨r1, r2⟩ := D.zone_some (l := s.data.toList) (if_pos hz)
    replace r1 := Lib.hid r1
    replace r2 := Lib.hid r2
    have hz' := txt_is hz
    clear hz
    go_wp2
    go_ret2
    exact ⟨ret_zone r1.out.symm r2.out.symm, rfl⟩
  have hz' := txt_ne hz
  have hlen : s.data.toList.length = s.size := Array.length_toList
  have hZ : D.zone s.data.toList = _ := if_neg hz
  rw [hlen] at hZ
  replace hlen := Lib.hid hlen
  replace hZ := Lib.hid hZ
  clear hz
  by_cases h6 : s.size = 6
  · have b0 := Lib.hid (byte_at (s := s) (k := 0) (by omega))
    have b3 := Lib.hid (byte_at (s := s) (k := 3) (by omega))
    have hcase : (s[0].toNat = 43 ∧ s[3].toNat = 58) ∨ (s[0].toNat = 45 ∧ s[3].toNat = 58) ∨ (s[0].toNat = 43 ∧ ¬ s[3].toNat = 58) ∨ (s[0].toNat = 45 ∧ ¬ s[3].toNat = 58) ∨ (¬ s[0].toNat = 43 ∧ ¬ s[0].toNat = 45) := by omega
    have hno : ¬ ((s[0].toNat = 43 ∨ s[0].toNat = 45) ∧ s[3].toNat = 58) → D.zone s.data.toList = none := fun h => by
      rw [hZ.out, b0.out, b3.out, if_neg]
      rintro ⟨_, h1, h2⟩
      rw [sbyte_is] at h1 h2
      rw [sbyte_is] at h1
      exact h ⟨h1, h2⟩
    have hyes : (s[0].toNat = 43 ∨ s[0].toNat = 45) ∧ s[3].toNat = 58 → D.zone s.data.toList = if D.num s.data.toList 1 2 < 0 ∨ 23 < D.num s.data.toList 1 2 ∨ D.num s.data.toList 4 2 < 0 ∨ 59 < D.num s.data.toList 4 2 then none
        else if s[0].toNat = 45 then some (-D.num s.data.toList 1 2 * 3600 - D.num s.data.toList 4 2 * 60) else some (D.num s.data.toList 1 2 * 3600 + D.num s.data.toList 4 2 * 60) := fun h => by
      rw [hZ.out, b0.out, b3.out, if_pos ⟨h6, by rw [sbyte_is, sbyte_is]; exact h.1, by rw [sbyte_is]; exact h.2⟩]
      congr 1
      by_cases h45 : s[0].toNat = 45
      · rw [if_pos h45, if_pos (sbyte_is.2 h45)]
      · rw [if_neg h45, if_neg (fun e => h45 (sbyte_is.1 e))]
    replace hno := Lib.hid hno
    replace hyes := Lib.hid hyes
    have hn1 := D.num_bd s.data.toList 1 (n := 2) (by omega)
    have hn2 := D.num_bd s.data.toList 4 (n := 2) (by omega)
    have key : ∀ (neg : Bool), s[0].toNat = (if neg = true then 45 else 43) → s[3].toNat = 58 → D.zone s.data.toList = if D.num s.data.toList 1 2 < 0 ∨ 23 < D.num s.data.toList 1 2 ∨ D.num s.data.toList 4 2 < 0 ∨ 59 < D.num s.data.toList 4 2 then none
        else some (if neg = true then (-D.num s.data.toList 1 2 * 3600 - D.num s.data.toList 4 2 * 60) else (D.num s.data.toList 1 2 * 3600 + D.num s.data.toList 4 2 * 60)) := fun neg h1 h2 => by
      cases neg
      · simp at h1
        rw [hyes.out ⟨.inl h1, h2⟩, if_neg (show ¬ s[0].toNat = 45 by omega)]; rfl
      · simp at h1
        rw [hyes.out ⟨.inr h1, h2⟩, if_pos h1]; rfl
    replace key := Lib.hid key
    clear hyes
    rcases hcase with ⟨h0, h3⟩ | ⟨h0, h3⟩ | ⟨h0, h3⟩ | ⟨h0, h3⟩ | ⟨h0, h3⟩
    · have hk := Lib.hid (key.out false h0 h3)
      clear key hno
      go_wp2_with fail
      (with_reducible refine (refNumber_n (x := 1) (y := 2) s 1 2 _ hs (by omega) (by omega) rfl rfl).mono ?_); rintro e w1 ⟨rfl, rfl⟩
      go_wp2_with fail
      (with_reducible refine (refNumber_n (x := 4) (y := 2) s 4 2 _ hs (by omega) (by omega) rfl rfl).mono ?_); rintro e w1 ⟨rfl, rfl⟩
      generalize D.num s.data.toList 1 2 = h at *
      generalize D.num s.data.toList 4 2 = m at *
      obtain ⟨n1, n2⟩ := hn1
      obtain ⟨n3, n4⟩ := hn2
      have hq : h < 0 ∨ (0 ≤ h ∧ 23 < h) ∨ (0 ≤ h ∧ h ≤ 23 ∧ m < 0) ∨ (0 ≤ h ∧ h ≤ 23 ∧ 0 ≤ m ∧ 59 < m) ∨ (0 ≤ h ∧ h ≤ 23 ∧ 0 ≤ m ∧ m ≤ 59) := by omega
      rcases hq with q | ⟨q, q1⟩ | ⟨q, q1, q2⟩ | ⟨q, q1, q2, q3⟩ | ⟨q, q1, q2, q3⟩
      · obtain ⟨r1, r2⟩ := D.zone_none (hk.out.trans (if_pos (by omega)))
        replace r1 := Lib.hid r1
        replace r2 := Lib.hid r2
        go_wp2
        go_ret2
        exact ⟨ret_zone r1.out.symm r2.out.symm, rfl⟩
      · obtain ⟨r1, r2⟩ := D.zone_none (hk.out.trans (if_pos (by omega)))
        replace r1 := Lib.hid r1
        replace r2 := Lib.hid r2
        go_wp2
        go_ret2
        exact ⟨ret_zone r1.out.symm r2.out.symm, rfl⟩
      · obtain ⟨r1, r2⟩ := D.zone_none (hk.out.trans (if_pos (by omega)))
        replace r1 := Lib.hid r1
        replace r2 := Lib.hid r2
        go_wp2
        go_ret2
        exact ⟨ret_zone r1.out.symm r2.out.symm, rfl⟩
      · obtain ⟨r1, r2⟩ := D.zone_none (hk.out.trans (if_pos (by omega)))
        replace r1 := Lib.hid r1
        replace r2 := Lib.hid r2
        go_wp2
        go_ret2
        exact ⟨ret_zone r1.out.symm r2.out.symm, rfl⟩
      · obtain ⟨r1, r2⟩ := D.zone_some (hk.out.trans (if_neg (by omega)))
        replace r1 := Lib.hid r1
        replace r2 := Lib.hid r2
        go_wp2
        go_ret2
        exact ⟨ret_zone (by rw [r1.out]; rfl) r2.out.symm, rfl⟩
    · have hk := Lib.hid (key.out true h0 h3)
      clear key hno
      go_wp2_with fail
      (with_reducible refine (refNumber_n (x := 1) (y := 2) s 1 2 _ hs (by omega) (by omega) rfl rfl).mono ?_); rintro e w1 ⟨rfl, rfl⟩
      go_wp2_with fail
      (with_reducible refine (refNumber_n (x := 4) (y := 2) s 4 2 _ hs (by omega) (by omega) rfl rfl).mono ?_); rintro e w1 ⟨rfl, rfl⟩
      generalize D.num s.data.toList 1 2 = h at *
      generalize D.num s.data.toList 4 2 = m at *
      obtain ⟨n1, n2⟩ := hn1
      obtain ⟨n3, n4⟩ := hn2
      have hq : h < 0 ∨ (0 ≤ h ∧ 23 < h) ∨ (0 ≤ h ∧ h ≤ 23 ∧ m < 0) ∨ (0 ≤ h ∧ h ≤ 23 ∧ 0 ≤ m ∧ 59 < m) ∨ (0 ≤ h ∧ h ≤ 23 ∧ 0 ≤ m ∧ m ≤ 59) := by omega
      rcases hq with q | ⟨q, q1⟩ | ⟨q, q1, q2⟩ | ⟨q, q1, q2, q3⟩ | ⟨q, q1, q2, q3⟩
      · obtain ⟨r1, r2⟩ := D.zone_none (hk.out.trans (if_pos (by omega)))
        replace r1 := Lib.hid r1
        replace r2 := Lib.hid r2
        go_wp2
        go_ret2
        exact ⟨ret_zone r1.out.symm r2.out.symm, rfl⟩
      · obtain ⟨r1, r2⟩ := D.zone_none (hk.out.trans (if_pos (by omega)))
        replace r1 := Lib.hid r1
        replace r2 := Lib.hid r2
        go_wp2
        go_ret2
        exact ⟨ret_zone r1.out.symm r2.out.symm, rfl⟩
      · obtain ⟨r1, r2⟩ := D.zone_none (hk.out.trans (if_pos (by omega)))
        replace r1 := Lib.hid r1
        replace r2 := Lib.hid r2
        go_wp2
        go_ret2
        exact ⟨ret_zone r1.out.symm r2.out.symm, rfl⟩
      · obtain ⟨r1, r2⟩ := D.zone_none (hk.out.trans (if_pos (by omega)))
        replace r1 := Lib.hid r1
        replace r2 := Lib.hid r2
        go_wp2
        go_ret2
        exact ⟨ret_zone r1.out.symm r2.out.symm, rfl⟩
      · obtain ⟨r1, r2⟩ := D.zone_some (hk.out.trans (if_neg (by omega)))
        replace r1 := Lib.hid r1
        replace r2 := Lib.hid r2
        go_wp2
        go_ret2
        exact ⟨ret_zone (by rw [r1.out]; rfl) r2.out.symm, rfl⟩
    all_goals
      obtain ⟨r1, r2⟩ := D.zone_none (hno.out (by omega))
      replace r1 := Lib.hid r1
      replace r2 := Lib.hid r2
      clear key hno hn1 hn2
      go_wp2
      go_ret2
      exact ⟨ret_zone r1.out.symm r2.out.symm, rfl⟩
  · obtain ⟨r1, r2⟩ := D.zone_none (hZ.out.trans (if_neg (fun h => h6 h.1)))
    replace r1 := Lib.hid r1
    replace r2 := Lib.hid r2
    go_wp2
    go_ret2
    exact ⟨ret_zone r1.out.symm r2.out.symm, rfl⟩
end Go.Proofs.YtdkephbfehlodaaDoor
