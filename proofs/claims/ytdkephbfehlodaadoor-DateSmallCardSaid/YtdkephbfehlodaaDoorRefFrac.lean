/-
  What the document's own words of fractions come to: the contract of fraction; the word itself, in plain Lean.
-/
import Derived.Test.YtdkephbfehlodaaDoorRefNum
namespace Go.Proofs.YtdkephbfehlodaaDoor
open Go.RowKit

namespace D
/-- The digits behind the point. -/
def fdig (l : List UInt8) (a : Nat) : List UInt8 := (l.drop (a + 1)).takeWhile dg
def fracN (l : List UInt8) (a : Nat) : Int := if sign l a 46 = true then (if (fdig l a).length = 0 then 0 else (dv ((fdig l a).take 9) * 10 ^ (9 - (fdig l a).length) : Nat)) else 0
def fracE (l : List UInt8) (a : Nat) : Int := if sign l a 46 = true then (if (fdig l a).length = 0 then -1 else (a + 1 + (fdig l a).length : Nat)) else (a : Int)

theorem while_take {p : UInt8 → Bool} {m : List UInt8} {k : Nat} (h : (m.take k).all p = true) (h2 : ∀ h : k < m.length, p m[k] = false) : m.takeWhile p = m.take k := by
  induction m generalizing k with
  | nil => simp
  | cons b m ih =>
    cases k with
    | zero =>
      have := h2 (by simp)
      simp only [List.getElem_cons_zero] at this
      rw [List.takeWhile_cons_of_neg (by rw [this]; simp)]
      rfl
    | succ k =>
      simp only [List.take_succ_cons, List.all_cons, Bool.and_eq_true] at h
      rw [List.takeWhile_cons_of_pos h.1, List.take_succ_cons, ih h.2]
      intro hk
      have := h2 (by simp; omega)
      simpa using this

structure FracAt (l : List UInt8) (a k x : Nat) : Prop where
  dig : ((l.drop (a + 1)).take k).all dg = true
  val : x = dv ((l.drop (a + 1)).take (min k 9))
  lt : x < 10 ^ (min k 9)

theorem FracAt.zero (l : List UInt8) (a : Nat) : FracAt l a 0 0 := ⟨by simp, by simp [dv], by simp⟩
theorem FracAt.dig1 {l : List UInt8} {a k x : Nat} (hk : FracAt l a k x) (h : a + 1 + k < l.length) (h1 : 48 ≤ l[a + 1 + k].toNat) (h2 : l[a + 1 + k].toNat ≤ 57) : ((l.drop (a + 1)).take (k + 1)).all dg = true := by
  rw [piece_succ h, List.all_append, hk.dig]; simp [dg, h1, h2]
theorem FracAt.less {l : List UInt8} {a k x : Nat} (hk : FracAt l a k x) (h : a + 1 + k < l.length) (h1 : 48 ≤ l[a + 1 + k].toNat) (h2 : l[a + 1 + k].toNat ≤ 57) (h9 : k < 9) :
    FracAt l a (k + 1) (x * 10 + (l[a + 1 + k].toNat - 48)) := by
  have e1 : min (k + 1) 9 = k + 1 := Nat.min_eq_left (by omega)
  have e0 : min k 9 = k := Nat.min_eq_left (by omega)
  refine ⟨hk.dig1 h h1 h2, ?_, ?_⟩
  · rw [e1, piece_succ h, dv_snoc, hk.val, e0]
  · have := hk.lt
    rw [e0] at this
    rw [e1, Nat.pow_succ]
    omega
theorem FracAt.more {l : List UInt8} {a k x : Nat} (hk : FracAt l a k x) (h : a + 1 + k < l.length) (h1 : 48 ≤ l[a + 1 + k].toNat) (h2 : l[a + 1 + k].toNat ≤ 57) (h9 : ¬ k < 9) : FracAt l a (k + 1) x := by
  have e1 : min (k + 1) 9 = 9 := Nat.min_eq_right (by omega)
  have e0 : min k 9 = 9 := Nat.min_eq_right (by omega)
  exact ⟨hk.dig1 h h1 h2, by rw [e1]; have := hk.val; rwa [e0] at this, by rw [e1]; have := hk.lt; rwa [e0] at this⟩
theorem FracAt.bd {l : List UInt8} {a k x : Nat} (hk : FracAt l a k x) : x ≤ 999999999 := by
  have a := hk.lt
  have b : 10 ^ (min k 9) ≤ 10 ^ 9 := Nat.pow_le_pow_right (by omega) (Nat.min_le_right _ _)
  omega
theorem FracAt.bd8 {l : List UInt8} {a k x : Nat} (hk : FracAt l a k x) (h : k < 9) : x ≤ 99999999 := by
  have a := hk.lt
  have b : 10 ^ (min k 9) ≤ 10 ^ 8 := Nat.pow_le_pow_right (by omega) (by omega)
  omega
theorem FracAt.is {l : List UInt8} {a k x : Nat} (hk : FracAt l a k x) (hl : a + 1 + k ≤ l.length) (h2 : ∀ h : a + 1 + k < l.length, l[a + 1 + k].toNat < 48 ∨ 57 < l[a + 1 + k].toNat) : fdig l a = (l.drop (a + 1)).take k ∧ (fdig l a).length = k := by
  have e : fdig l a = (l.drop (a + 1)).take k := by
    unfold fdig
    refine while_take hk.dig (fun h => ?_)
    rw [List.length_drop] at h
    have := h2 (by omega)
    rw [List.getElem_drop]
    simp [dg]
    omega
  refine ⟨e, ?_⟩
  rw [e, List.length_take, List.length_drop]
  omega
theorem frac_none {l : List UInt8} {a : Nat} (h : sign l a 46 = false) : fracN l a = 0 ∧ fracE l a = a := by
  unfold fracN fracE
  rw [h]
  exact ⟨rfl, rfl⟩
theorem frac_bad {l : List UInt8} {a : Nat} (h : sign l a 46 = true) (h0 : (fdig l a).length = 0) : fracN l a = 0 ∧ fracE l a = -1 := by
  unfold fracN fracE
  rw [if_pos h, if_pos h, if_pos h0, if_pos h0]
  exact ⟨rfl, rfl⟩
theorem frac_some {l : List UInt8} {a k x : Nat} (h : sign l a 46 = true) (hk : FracAt l a k x) (he : fdig l a = (l.drop (a + 1)).take k ∧ (fdig l a).length = k) (h0 : ¬ k = 0) : fracN l a = ((x * 10 ^ (9 - k) : Nat) : Int) ∧ fracE l a = ((a + 1 + k : Nat) : Int) := by
  unfold fracN fracE
  rw [if_pos h, if_pos h, he.2, if_neg h0, if_neg h0, he.1, List.take_take, hk.val, Nat.min_comm]
  exact ⟨rfl, rfl⟩

/-- The filling up to nine digits. -/
structure PadAt (x k i y : Nat) : Prop where
  val : y = x * 10 ^ (i - k)
  lt : y < 10 ^ (min i 9)
theorem PadAt.succ {x k i y : Nat} (h : PadAt x k i y) (hk : k ≤ i) (hi : i < 9) : PadAt x k (i + 1) (y * 10) := by
  refine ⟨?_, ?_⟩
  · rw [h.val, Nat.succ_sub hk, Nat.pow_succ, Nat.mul_assoc]
  · have a := h.lt
    rw [Nat.min_eq_left (by omega)] at a
    rw [Nat.min_eq_left (by omega), Nat.pow_succ]
    omega
theorem PadAt.bd {x k i y : Nat} (h : PadAt x k i y) : y ≤ 999999999 := by
  have a := h.lt
  have b : 10 ^ (min i 9) ≤ 10 ^ 9 := Nat.pow_le_pow_right (by omega) (Nat.min_le_right _ _)
  omega
end D

theorem refSign_n (s : ByteArray) (a : Nat) (c : UInt8) {n : Int} (w : World) (hs : s.size ≤ maxLen) (h : (c.toNat : Int) = n) :
    Calls Tryd.prog 24 #[.string s, .int .i64 (a : Int), .int .u8 n] w fun e w' => e = .returned (.bool (D.sign s.data.toList a c)) ∧ w = w' := h ▸ refSign_any s a c w hs

theorem ret_frac {a b x y : Int} (h1 : a = x) (h2 : b = y) : Ending.returned (.tuple #[.int .i64 a, .int .i64 b]) = .returned (.tuple #[.int .i64 x, .int .i64 y]) := by rw [h1, h2]

set_option maxRecDepth 100000 in
set_option maxHeartbeats 6400000 in
theorem refFraction_any (s : ByteArray) (a : Nat) (w : World) (hs : s.size ≤ maxLen) (ha : a ≤ 1000) :
    Calls Tryd.prog 26 #[.string s, .int .i64 (a : Int)] w fun e w' => e = .returned (.tuple #[.int .i64 (D.fracN s.data.toList a), .int .i64 (D.fracE s.data.toList a)]) ∧ w = w' := by
  have hsm : s.size ≤ 9223372036854775807 := hs
  have hlen : s.data.toList.length = s.size := Array.length_toList
  have hlen := Lib.hid hlen
  go_enter Tryd.func26, Tryd.ntmps26
  go_wp2_with fail
  (with_reducible refine (refSign_n (n := 46) s a 46 _ hs rfl).mono ?_); rintro e w1 ⟨rfl, rfl⟩
  cases hsg : D.sign s.data.toList a 46
  · have hr := D.frac_none hsg
    obtain ⟨r1, r2⟩ := hr
    replace r1 := Lib.hid r1
    replace r2 := Lib.hid r2
    clear hsg
    go_wp2
    go_ret2
    exact ⟨ret_frac r1.out.symm r2.out.symm, rfl⟩
  · have hin : a + 1 ≤ s.size := by
      unfold D.sign at hsg
      simp only [decide_eq_true_eq] at hsg
      have := (List.getElem?_eq_some_iff.1 hsg).1
      rw [hlen.out] at this
      omega
    have hsg := Lib.hid hsg
    go_wp2_with fail
    go_loop [6, 7, 8] (fun nv kv iv => ∃ k x : Nat, a + 1 + k ≤ s.size ∧ nv = .int .i64 (x : Int) ∧ kv = .int .i64 (k : Int) ∧ iv = .int .i64 ((a + 1 + k : Nat) : Int) ∧ Hid (D.FracAt s.data.toList a k x)) (fun _ _ iv => s.size - (intOf iv).toNat)
    case atStart => exact ⟨0, 0, hin, rfl, rfl, rfl, Lib.hid (D.FracAt.zero _ _)⟩
    case round =>
      obtain ⟨k, x, hk, rfl, rfl, rfl, hx⟩ := hrel
      have hxb := hx.out.bd
      by_cases hd : ∃ h : a + 1 + k < s.size, 48 ≤ (s[a + 1 + k]'h).toNat ∧ (s[a + 1 + k]'h).toNat ≤ 57
      · obtain ⟨hlt, d1, d2⟩ := hd
        have hin' : a + 1 + k < s.data.toList.length := by rw [hlen.out]; exact hlt
        have hgk : s.data.toList[a + 1 + k]'hin' = s[a + 1 + k]'hlt := rfl
        by_cases h9 : k < 9
        · have hst := Lib.hid (hx.out.less hin' (by rw [hgk]; exact d1) (by rw [hgk]; exact d2) h9)
          rw [hgk] at hst
          have hx8 := hx.out.bd8 h9
          clear hgk hin' hx
          generalize hi : a + 1 + k = i at *
          have hbyte := (s[i]).toNat_lt
          go_wp2
          go_round
          case rel => exact ⟨k + 1, x * 10 + (s[i].toNat - 48), by omega, by go_num, by go_num, by go_num, hst⟩
          case measure => simp [intOf]; omega
        · have hst := Lib.hid (hx.out.more hin' (by rw [hgk]; exact d1) (by rw [hgk]; exact d2) h9)
          clear hgk hin' hx
          generalize hi : a + 1 + k = i at *
          have hbyte := (s[i]).toNat_lt
          go_wp2
          go_round
          case rel => exact ⟨k + 1, x, by omega, by go_num, by go_num, by go_num, hst⟩
          case measure => simp [intOf]; omega
      · have hnd : ∀ h : a + 1 + k < s.size, (s[a + 1 + k]'h).toNat < 48 ∨ 57 < (s[a + 1 + k]'h).toNat := fun h => by
          by_cases h1 : 48 ≤ (s[a + 1 + k]'h).toNat
          · by_cases h2 : (s[a + 1 + k]'h).toNat ≤ 57
            · exact absurd ⟨h, h1, h2⟩ hd
            · exact .inr (by omega)
          · exact .inl (by omega)
        have his := Lib.hid (hx.out.is (by rw [hlen.out]; exact hk) (fun h => hnd (by rw [← hlen.out]; exact h)))
        clear hd
        have hcase : (s.size ≤ a + 1 + k) ∨ ∃ h : a + 1 + k < s.size, (s[a + 1 + k]'h).toNat < 48 ∨ (48 ≤ (s[a + 1 + k]'h).toNat ∧ 57 < (s[a + 1 + k]'h).toNat) := by
          by_cases h : a + 1 + k < s.size
          · refine .inr ⟨h, ?_⟩
            have := hnd h
            omega
          · exact .inl (by omega)
        clear hnd
        by_cases h0 : k = 0
        · obtain ⟨r1, r2⟩ := D.frac_bad hsg.out (his.out.2.trans h0)
          replace r1 := Lib.hid r1
          replace r2 := Lib.hid r2
          clear hx his
          generalize hi : a + 1 + k = i at *
          rcases hcase with h | ⟨h, h | ⟨h, h'⟩⟩ <;> go_wp2 <;> go_ret2 <;> exact ⟨ret_frac r1.out.symm r2.out.symm, rfl⟩
        · obtain ⟨r1, r2⟩ := D.frac_some hsg.out hx.out his.out h0
          replace r1 := Lib.hid r1
          replace r2 := Lib.hid r2
          have hxl := Lib.hid hx.out.lt
          clear hx his
          rcases hcase with h | ⟨h, h | ⟨h, h'⟩⟩
          all_goals
            go_wp2_with fail
            go_loop [6, 9] (fun nv iv => ∃ i y : Nat, k ≤ i ∧ (i ≤ 9 ∨ i = k) ∧ nv = .int .i64 (y : Int) ∧ iv = .int .i64 (i : Int) ∧ Hid (D.PadAt x k i y)) (fun _ iv => 9 - (intOf iv).toNat)
            case atStart => exact ⟨k, x, Nat.le_refl _, .inr rfl, rfl, rfl, Lib.hid ⟨by simp, hxl.out⟩⟩
            case round =>
              obtain ⟨i, y, hi, hi9, rfl, rfl, hy⟩ := hrel
              have hyb := hy.out.bd
              by_cases h9 : i < 9
              · have hst := Lib.hid (hy.out.succ hi h9)
                go_wp2
                go_round
                case rel => exact ⟨i + 1, y * 10, by omega, by omega, by go_num, by go_num, hst⟩
                case measure => simp [intOf]; omega
              · have hv : Hid (y = x * 10 ^ (9 - k)) := Lib.hid (by
                  have := hy.out.val
                  rcases hi9 with h | h
                  · obtain rfl : i = 9 := by omega
                    exact this
                  · rw [h] at this
                    rw [this, show 9 - k = k - k by omega])
                rw [← hv.out] at r1
                clear hv hy
                go_wp2
                go_ret2
                exact ⟨ret_frac r1.out.symm (by rw [r2.out]; go_num), rfl⟩
end Go.Proofs.YtdkephbfehlodaaDoor
