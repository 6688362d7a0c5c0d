/-
  What the document's own words of numbers in texts come to: contracts of sign and number; the words themselves, in plain Lean.
-/
import Derived.Test.YtdkephbfehlodaaDoorRefSince
namespace Go.Proofs.YtdkephbfehlodaaDoor
open Go.RowKit

namespace D
def dg (b : UInt8) : Bool := decide (48 ≤ b.toNat ∧ b.toNat ≤ 57)
def dv (l : List UInt8) : Nat := l.foldl (fun a b => a * 10 + (b.toNat - 48)) 0
/-- So many digits at a place. -/
def num (l : List UInt8) (a n : Nat) : Int := if l.length < a + n then -1 else if ((l.drop a).take n).all dg = true then (dv ((l.drop a).take n) : Int) else -1
/-- A byte at a place. -/
def sign (l : List UInt8) (a : Nat) (c : UInt8) : Bool := decide (l[a]? = some c)

theorem dv_snoc (l : List UInt8) (b : UInt8) : dv (l ++ [b]) = dv l * 10 + (b.toNat - 48) := by simp [dv]
theorem piece_succ {l : List UInt8} {a k : Nat} (h : a + k < l.length) : (l.drop a).take (k + 1) = (l.drop a).take k ++ [l[a + k]] := by
  rw [List.take_add_one]
  congr 1
  rw [List.getElem?_drop, List.getElem?_eq_getElem h]
  rfl

/-- So far: digits, and what they tell. -/
structure NumAt (l : List UInt8) (a k x : Nat) : Prop where
  dig : ((l.drop a).take k).all dg = true
  val : x = dv ((l.drop a).take k)
  lt : x < 10 ^ k

theorem NumAt.zero (l : List UInt8) (a : Nat) : NumAt l a 0 0 := ⟨by simp, by simp [dv], by simp⟩
theorem NumAt.succ {l : List UInt8} {a k x : Nat} (hk : NumAt l a k x) (h : a + k < l.length) (h1 : 48 ≤ l[a + k].toNat) (h2 : l[a + k].toNat ≤ 57) : NumAt l a (k + 1) (x * 10 + (l[a + k].toNat - 48)) := by
  refine ⟨?_, ?_, ?_⟩
  · rw [piece_succ h, List.all_append, hk.dig]; simp [dg, h1, h2]
  · rw [piece_succ h, dv_snoc, ← hk.val]
  · have := hk.lt
    rw [Nat.pow_succ]
    omega
theorem num_end {l : List UInt8} {a n x : Nat} (hk : NumAt l a n x) (h : a + n ≤ l.length) : num l a n = (x : Int) := by
  unfold num
  rw [if_neg (by omega), if_pos hk.dig, hk.val]
theorem num_short {l : List UInt8} {a n : Nat} (h : l.length < a + n) : num l a n = -1 := if_pos h
theorem num_bad {l : List UInt8} {a n k : Nat} (hk : k < n) (h : a + k < l.length) (hb : l[a + k].toNat < 48 ∨ 57 < l[a + k].toNat) : num l a n = -1 := by
  unfold num
  split
  · rfl
  · rw [if_neg]
    intro e
    rw [List.all_eq_true] at e
    have hm : l[a + k] ∈ (l.drop a).take n := by
      rw [List.mem_iff_getElem?]
      exact ⟨k, by rw [List.getElem?_take, if_pos hk, List.getElem?_drop, List.getElem?_eq_getElem h]⟩
    have := e _ hm
    simp [dg] at this
    omega
theorem pow_le {k : Nat} (h : k ≤ 4) : 10 ^ k ≤ 10000 := Nat.pow_le_pow_right (n := 10) (by omega) h
theorem pow_le3 {k : Nat} (h : k ≤ 3) : 10 ^ k ≤ 1000 := Nat.pow_le_pow_right (n := 10) (by omega) h
theorem num_bd (l : List UInt8) (a : Nat) {n : Nat} (h : n ≤ 4) : -1 ≤ num l a n ∧ num l a n ≤ 9999 := by
  suffices H : ∀ (p : List UInt8), p.all dg = true → dv p < 10 ^ p.length by
    unfold num
    split
    · omega
    · split
      · rename_i h1 h2
        have := H _ h2
        have hl : ((l.drop a).take n).length ≤ 4 := by rw [List.length_take]; omega
        have := pow_le hl
        omega
      · omega
  intro p hp
  have key : ∀ (q : List UInt8) (a : Nat), q.all dg = true → q.foldl (fun a b => a * 10 + (b.toNat - 48)) a < (a + 1) * 10 ^ q.length := by
    intro q
    induction q with
    | nil => intro a _; simp
    | cons b q ih =>
      intro a hq
      simp only [List.all_cons, Bool.and_eq_true] at hq
      have hb := hq.1
      simp [dg] at hb
      refine Nat.lt_of_lt_of_le (ih (a * 10 + (b.toNat - 48)) hq.2) ?_
      rw [List.length_cons, Nat.pow_succ, Nat.mul_comm (10 ^ q.length) 10, ← Nat.mul_assoc]
      exact Nat.mul_le_mul_right _ (by omega)
  have := key p 0 hp
  rw [Nat.zero_add, Nat.one_mul] at this
  exact this
end D

theorem refSign_any (s : ByteArray) (a : Nat) (c : UInt8) (w : World) (hs : s.size ≤ maxLen) :
    Calls Tryd.prog 24 #[.string s, .int .i64 (a : Int), .int .u8 c.toNat] w fun e w' => e = .returned (.bool (D.sign s.data.toList a c)) ∧ w = w' := by
  have hsm : s.size ≤ 9223372036854775807 := hs
  go_enter Tryd.func24, Tryd.ntmps24
  by_cases h : a < s.size
  · have hr : D.sign s.data.toList a c = decide (s[a] = c) := by
      unfold D.sign
      rw [List.getElem?_eq_getElem (by rw [Array.length_toList]; exact h)]
      simp
      rfl
    by_cases he : s[a] = c
    · have hr := Lib.hid (hr.trans (decide_eq_true he))
      have hn : s[a].toNat = c.toNat := by rw [he]
      clear he
      go_wp2
      go_ret
      exact ⟨ret_bool hr.out.symm, rfl⟩
    · have hr := Lib.hid (hr.trans (decide_eq_false he))
      have hn : ¬ s[a].toNat = c.toNat := fun e => he (UInt8.toNat_inj.1 e)
      clear he
      go_wp2
      go_ret
      exact ⟨ret_bool (by rw [hr.out]; simp; omega), rfl⟩
  · have hr := Lib.hid (show D.sign s.data.toList a c = false by
      unfold D.sign
      rw [List.getElem?_eq_none (by rw [Array.length_toList]; exact Nat.le_of_not_lt h)]
      simp)
    go_wp2
    go_ret
    exact ⟨ret_bool hr.out.symm, rfl⟩

set_option maxRecDepth 100000 in
set_option maxHeartbeats 3200000 in
theorem refNumber_any (s : ByteArray) (a n : Nat) (w : World) (hs : s.size ≤ maxLen) (ha : a ≤ 1000) (hn : n ≤ 4) :
    Calls Tryd.prog 23 #[.string s, .int .i64 (a : Int), .int .i64 (n : Int)] w fun e w' => e = .returned (.int .i64 (D.num s.data.toList a n)) ∧ w = w' := by
  have hsm : s.size ≤ 9223372036854775807 := hs
  have hlen : s.data.toList.length = s.size := Array.length_toList
  have hlen := Lib.hid hlen
  go_enter Tryd.func23, Tryd.ntmps23
  by_cases hsh : s.size < a + n
  · have hr := Lib.hid (D.num_short (l := s.data.toList) (a := a) (n := n) (by rw [hlen.out]; exact hsh))
    go_wp2
    go_ret
    exact ⟨ret_int hr.out.symm, rfl⟩
  go_wp2_with fail
  go_loop [7, 8] (fun nv iv => ∃ k x : Nat, k ≤ n ∧ nv = .int .i64 (x : Int) ∧ iv = .int .i64 ((a + k : Nat) : Int) ∧ Hid (D.NumAt s.data.toList a k x)) (fun _ iv => (a + n) - (intOf iv).toNat)
  case atStart => exact ⟨0, 0, Nat.zero_le _, rfl, rfl, Lib.hid (D.NumAt.zero _ _)⟩
  case round =>
    obtain ⟨k, x, hk, rfl, rfl, hx⟩ := hrel
    have hxb : x ≤ 9999 := by
      have a := hx.out.lt
      have b := D.pow_le (k := k) (by omega)
      omega
    by_cases hlt : k < n
    · have hin : a + k < s.size := by omega
      have hin' : a + k < s.data.toList.length := by rw [hlen.out]; exact hin
      have hb := Lib.hid (D.num_bad (l := s.data.toList) (a := a) hlt hin')
      have hst := Lib.hid (hx.out.succ hin')
      have hgk : s.data.toList[a + k]'hin' = s[a + k]'hin := rfl
      rw [hgk] at hb hst
      clear hgk hin' hx
      generalize hi : a + k = i at *
      have hbyte := (s[i]).toNat_lt
      by_cases d1 : s[i].toNat < 48
      · have hbad := Lib.hid (hb.out (.inl d1))
        clear hst hb
        go_wp2
        all_goals go_ret
        all_goals exact ⟨ret_int hbad.out.symm, rfl⟩
      · by_cases d2 : 57 < s[i].toNat
        · have hbad := Lib.hid (hb.out (.inr d2))
          clear hst hb
          go_wp2
          all_goals go_ret
          all_goals exact ⟨ret_int hbad.out.symm, rfl⟩
        · have hgood := Lib.hid (hst.out (by omega) (by omega))
          clear hst hb
          go_wp2
          go_round
          case rel => exact ⟨k + 1, x * 10 + (s[i].toNat - 48), by omega, by go_num, by go_num, hgood⟩
          case measure => simp [intOf]; omega
    · obtain rfl : k = n := by omega
      have hr := Lib.hid (D.num_end hx.out (by rw [hlen.out]; omega))
      clear hx
      go_wp2
      go_ret
      exact ⟨ret_int hr.out.symm, rfl⟩
end Go.Proofs.YtdkephbfehlodaaDoor
