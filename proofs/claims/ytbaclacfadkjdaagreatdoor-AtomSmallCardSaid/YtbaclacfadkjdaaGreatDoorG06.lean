/-
  What the document's own words of numbers in texts come to: contracts of sign and number; the words themselves, in plain Lean.
  What the document's own words of fractions come to: the contract of fraction; the word itself, in plain Lean.
  What the document's own words of zones come to: the contract of zone; the word itself, in plain Lean.
  What the document's own Parse of dates comes to, in plain Lean.
-/
import Derived.Test.YtbaclacfadkjdaaGreatDoorG05
namespace Go.Proofs.YtbaclacfadkjdaaGreatDoor
open Go.RowKit
namespace D
def dg (b : UInt8) : Bool := decide (48 ≤ b.toNat ∧ b.toNat ≤ 57)
def dv (l : List UInt8) : Nat := l.foldl (fun a b => a * 10 + (b.toNat - 48)) 0
def num (l : List UInt8) (a n : Nat) : Int := if l.length < a + n then -1 else if ((l.drop a).take n).all dg = true then (dv ((l.drop a).take n) : Int) else -1
def sign (l : List UInt8) (a : Nat) (c : UInt8) : Bool := decide (l[a]? = some c)
theorem dv_snoc (l : List UInt8) (b : UInt8) : dv (l ++ [b]) = dv l * 10 + (b.toNat - 48) := by simp [dv]
theorem piece_succ {l : List UInt8} {a k : Nat} (h : a + k < l.length) : (l.drop a).take (k + 1) = (l.drop a).take k ++ [l[a + k]] := by
  rw [List.take_add_one]
  congr 1
  rw [List.getElem?_drop, List.getElem?_eq_getElem h]
  rfl
structure NumAt (l : List UInt8) (a k x : Nat) : Prop where
  dig : ((l.drop a).take k).all dg = true
  val : x = dv ((l.drop a).take k)
  lt : x < 10 ^ k
theorem NumAt.zero (l : List UInt8) (a : Nat) : NumAt l a 0 0 := ⟨by simp, by simp [dv], by simp⟩
theorem NumAt.succ {l : List UInt8} {a k x : Nat} (hk : NumAt l a k x) (h : a + k < l.length) (h1 : 48 ≤ l[a + k].toNat) (h2 : l[a + k].toNat ≤ 57) : NumAt l a (k + 1) (x * 10 + (l[a + k].toNat - 48)) := by
  refine ⟨?_, ?_, ?_⟩
  · rw [piece_succ h, List.all_append, hk.dig]; simp [dg, h1, h2]
  · rw [piece_succ h, dv_snoc, ← hk.val]
  · have := hk.lt
    rw [Nat.pow_succ]
    omega
theorem num_end {l : List UInt8} {a n x : Nat} (hk : NumAt l a n x) (h : a + n ≤ l.length) : num l a n = (x : Int) := by
  unfold num
  rw [if_neg (by omega), if_pos hk.dig, hk.val]
theorem num_short {l : List UInt8} {a n : Nat} (h : l.length < a + n) : num l a n = -1 := if_pos h
theorem num_bad {l : List UInt8} {a n k : Nat} (hk : k < n) (h : a + k < l.length) (hb : l[a + k].toNat < 48 ∨ 57 < l[a + k].toNat) : num l a n = -1 := by
  unfold num
  split
  · rfl
  · rw [if_neg]
    intro e
    rw [List.all_eq_true] at e
    have hm : l[a + k] ∈ (l.drop a).take n := by
      rw [List.mem_iff_getElem?]
      exact ⟨k, by rw [List.getElem?_take, if_pos hk, List.getElem?_drop, List.getElem?_eq_getElem h]⟩
    have := e _ hm
    simp [dg] at this
    omega
theorem pow_le {k : Nat} (h : k ≤ 4) : 10 ^ k ≤ 10000 := Nat.pow_le_pow_right (n := 10) (by omega) h
theorem num_bd (l : List UInt8) (a : Nat) {n : Nat} (h : n ≤ 4) : -1 ≤ num l a n ∧ num l a n ≤ 9999 := by
  suffices H : ∀ (p : List UInt8), p.all dg = true → dv p < 10 ^ p.length by
    unfold num
    split
    · omega
    · split
      · rename_i h1 h2
        have := H _ h2
        have hl : ((l.drop a).take n).length ≤ 4 := by rw [List.length_take]; omega
        have := pow_le hl
        omega
      · omega
  intro p hp
  have key : ∀ (q : List UInt8) (a : Nat), q.all dg = true → q.foldl (fun a b => a * 10 + (b.toNat - 48)) a < (a + 1) * 10 ^ q.length := by
    intro q
    induction q with
    | nil => intro a _; simp
    | cons b q ih =>
      intro a hq
      simp only [List.all_cons, Bool.and_eq_true] at hq
      have hb := hq.1
      simp [dg] at hb
      refine Nat.lt_of_lt_of_le (ih (a * 10 + (b.toNat - 48)) hq.2) ?_
      rw [List.length_cons, Nat.pow_succ, Nat.mul_comm (10 ^ q.length) 10, ← Nat.mul_assoc]
      exact Nat.mul_le_mul_right _ (by omega)
  have := key p 0 hp
  rw [Nat.zero_add, Nat.one_mul] at this
  exact this
end D
theorem refSign_any (s : ByteArray) (a : Nat) (c : UInt8) (w : World) (hs : s.size ≤ maxLen) :
    Calls Tryz.prog 82 #[.string s, .int .i64 (a : Int), .int .u8 c.toNat] w fun e w' => e = .returned (.bool (D.sign s.data.toList a c)) ∧ w = w' := by
  have hsm : s.size ≤ 9223372036854775807 := hs
  go_enter Tryz.func82, Tryz.ntmps82
  by_cases h : a < s.size
  · have hr : D.sign s.data.toList a c = decide (s[a] = c) := by
      unfold D.sign
      rw [List.getElem?_eq_getElem (by rw [Array.length_toList]; exact h)]
      simp
      rfl
    by_cases he : s[a] = c
    · have hr := Lib.hid (hr.trans (decide_eq_true he))
      have hn : s[a].toNat = c.toNat := by rw [he]
      clear he
      go_wp2
      go_ret
      exact ⟨ret_bool hr.out.symm, rfl⟩
    · have hr := Lib.hid (hr.trans (decide_eq_false he))
      have hn : ¬ s[a].toNat = c.toNat := fun e => he (UInt8.toNat_inj.1 e)
      clear he
      go_wp2
      go_ret
      exact ⟨ret_bool (by rw [hr.out]; simp; omega), rfl⟩
  · have hr := Lib.hid (show D.sign s.data.toList a c = false by
      unfold D.sign
      rw [List.getElem?_eq_none (by rw [Array.length_toList]; exact Nat.le_of_not_lt h)]
      simp)
    go_wp2
    go_ret
    exact ⟨ret_bool hr.out.symm, rfl⟩
set_option maxRecDepth 100000 in
set_option maxHeartbeats 3200000 in
theorem refNumber_any (s : ByteArray) (a n : Nat) (w : World) (hs : s.size ≤ maxLen) (ha : a ≤ 1000000) (hn : n ≤ 4) :
    Calls Tryz.prog 81 #[.string s, .int .i64 (a : Int), .int .i64 (n : Int)] w fun e w' => e = .returned (.int .i64 (D.num s.data.toList a n)) ∧ w = w' := by
  have hsm : s.size ≤ 9223372036854775807 := hs
  have hlen : s.data.toList.length = s.size := Array.length_toList
  have hlen := Lib.hid hlen
  go_enter Tryz.func81, Tryz.ntmps81
  by_cases hsh : s.size < a + n
  · have hr := Lib.hid (D.num_short (l := s.data.toList) (a := a) (n := n) (by rw [hlen.out]; exact hsh))
    go_wp2
    go_ret
    exact ⟨ret_int hr.out.symm, rfl⟩
  go_wp2_with fail
  go_loop [7, 8] (fun nv iv => ∃ k x : Nat, k ≤ n ∧ nv = .int .i64 (x : Int) ∧ iv = .int .i64 ((a + k : Nat) : Int) ∧ Hid (D.NumAt s.data.toList a k x)) (fun _ iv => (a + n) - (intOf iv).toNat)
  case atStart => exact ⟨0, 0, Nat.zero_le _, rfl, rfl, Lib.hid (D.NumAt.zero _ _)⟩
  case round =>
    obtain ⟨k, x, hk, rfl, rfl, hx⟩ := hrel
    have hxb : x ≤ 9999 := by
      have a := hx.out.lt
      have b := D.pow_le (k := k) (by omega)
      omega
    by_cases hlt : k < n
    · have hin : a + k < s.size := by omega
      have hin' : a + k < s.data.toList.length := by rw [hlen.out]; exact hin
      have hb := Lib.hid (D.num_bad (l := s.data.toList) (a := a) hlt hin')
      have hst := Lib.hid (hx.out.succ hin')
      have hgk : s.data.toList[a + k]'hin' = s[a + k]'hin := rfl
      rw [hgk] at hb hst
      clear hgk hin' hx
      generalize hi : a + k = i at *
      have hbyte := (s[i]).toNat_lt
      by_cases d1 : s[i].toNat < 48
      · have hbad := Lib.hid (hb.out (.inl d1))
        clear hst hb
        go_wp2
        all_goals go_ret
        all_goals exact ⟨ret_int hbad.out.symm, rfl⟩
      · by_cases d2 : 57 < s[i].toNat
        · have hbad := Lib.hid (hb.out (.inr d2))
          clear hst hb
          go_wp2
          all_goals go_ret
          all_goals exact ⟨ret_int hbad.out.symm, rfl⟩
        · have hgood := Lib.hid (hst.out (by omega) (by omega))
          clear hst hb
          go_wp2
          go_round
          case rel => exact ⟨k + 1, x * 10 + (s[i].toNat - 48), by omega, by go_num, by go_num, hgood⟩
          case measure => simp [intOf]; omega
    · obtain rfl : k = n := by omega
      have hr := Lib.hid (D.num_end hx.out (by rw [hlen.out]; omega))
      clear hx
      go_wp2
      go_ret
      exact ⟨ret_int hr.out.symm, rfl⟩
end Go.Proofs.YtbaclacfadkjdaaGreatDoor
namespace Go.Proofs.YtbaclacfadkjdaaGreatDoor
open Go.RowKit
namespace D
def fdig (l : List UInt8) (a : Nat) : List UInt8 := (l.drop (a + 1)).takeWhile dg
def fracN (l : List UInt8) (a : Nat) : Int := if sign l a 46 = true then (if (fdig l a).length = 0 then 0 else (dv ((fdig l a).take 9) * 10 ^ (9 - (fdig l a).length) : Nat)) else 0
def fracE (l : List UInt8) (a : Nat) : Int := if sign l a 46 = true then (if (fdig l a).length = 0 then -1 else (a + 1 + (fdig l a).length : Nat)) else (a : Int)
theorem while_take {p : UInt8 → Bool} {m : List UInt8} {k : Nat} (h : (m.take k).all p = true) (h2 : ∀ h : k < m.length, p m[k] = false) : m.takeWhile p = m.take k := by
  induction m generalizing k with
  | nil => simp
  | cons b m ih =>
    cases k with
    | zero =>
      have := h2 (by simp)
      simp only [List.getElem_cons_zero] at this
      rw [List.takeWhile_cons_of_neg (by rw [this]; simp)]
      rfl
    | succ k =>
      simp only [List.take_succ_cons, List.all_cons, Bool.and_eq_true] at h
      rw [List.takeWhile_cons_of_pos h.1, List.take_succ_cons, ih h.2]
      intro hk
      have := h2 (by simp; omega)
      simpa using this
structure FracAt (l : List UInt8) (a k x : Nat) : Prop where
  dig : ((l.drop (a + 1)).take k).all dg = true
  val : x = dv ((l.drop (a + 1)).take (min k 9))
  lt : x < 10 ^ (min k 9)
theorem FracAt.zero (l : List UInt8) (a : Nat) : FracAt l a 0 0 := ⟨by simp, by simp [dv], by simp⟩
theorem FracAt.dig1 {l : List UInt8} {a k x : Nat} (hk : FracAt l a k x) (h : a + 1 + k < l.length) (h1 : 48 ≤ l[a + 1 + k].toNat) (h2 : l[a + 1 + k].toNat ≤ 57) : ((l.drop (a + 1)).take (k + 1)).all dg = true := by
  rw [piece_succ h, List.all_append, hk.dig]; simp [dg, h1, h2]
theorem FracAt.less {l : List UInt8} {a k x : Nat} (hk : FracAt l a k x) (h : a + 1 + k < l.length) (h1 : 48 ≤ l[a + 1 + k].toNat) (h2 : l[a + 1 + k].toNat ≤ 57) (h9 : k < 9) :
    FracAt l a (k + 1) (x * 10 + (l[a + 1 + k].toNat - 48)) := by
  have e1 : min (k + 1) 9 = k + 1 := Nat.min_eq_left (by omega)
  have e0 : min k 9 = k := Nat.min_eq_left (by omega)
  refine ⟨hk.dig1 h h1 h2, ?_, ?_⟩
  · rw [e1, piece_succ h, dv_snoc, hk.val, e0]
  · have := hk.lt
    rw [e0] at this
    rw [e1, Nat.pow_succ]
    omega
theorem FracAt.more {l : List UInt8} {a k x : Nat} (hk : FracAt l a k x) (h : a + 1 + k < l.length) (h1 : 48 ≤ l[a + 1 + k].toNat) (h2 : l[a + 1 + k].toNat ≤ 57) (h9 : ¬ k < 9) : FracAt l a (k + 1) x := by
  have e1 : min (k + 1) 9 = 9 := Nat.min_eq_right (by omega)
  have e0 : min k 9 = 9 := Nat.min_eq_right (by omega)
  exact ⟨hk.dig1 h h1 h2, by rw [e1]; have := hk.val; rwa [e0] at this, by rw [e1]; have := hk.lt; rwa [e0] at this⟩
theorem FracAt.bd {l : List UInt8} {a k x : Nat} (hk : FracAt l a k x) : x ≤ 999999999 := by
  have a := hk.lt
  have b : 10 ^ (min k 9) ≤ 10 ^ 9 := Nat.pow_le_pow_right (by omega) (Nat.min_le_right _ _)
  omega
theorem FracAt.bd8 {l : List UInt8} {a k x : Nat} (hk : FracAt l a k x) (h : k < 9) : x ≤ 99999999 := by
  have a := hk.lt
  have b : 10 ^ (min k 9) ≤ 10 ^ 8 := Nat.pow_le_pow_right (by omega) (by omega)
  omega
theorem FracAt.is {l : List UInt8} {a k x : Nat} (hk : FracAt l a k x) (hl : a + 1 + k ≤ l.length) (h2 : ∀ h : a + 1 + k < l.length, l[a + 1 + k].toNat < 48 ∨ 57 < l[a + 1 + k].toNat) : fdig l a = (l.drop (a + 1)).take k ∧ (fdig l a).length = k := by
  have e : fdig l a = (l.drop (a + 1)).take k := by
    unfold fdig
    refine while_take hk.dig (fun h => ?_)
    rw [List.length_drop] at h
    have := h2 (by omega)
    rw [List.getElem_drop]
    simp [dg]
    omega
  refine ⟨e, ?_⟩
  rw [e, List.length_take, List.length_drop]
  omega
theorem frac_none {l : List UInt8} {a : Nat} (h : sign l a 46 = false) : fracN l a = 0 ∧ fracE l a = a := by
  unfold fracN fracE
  rw [h]
  exact ⟨rfl, rfl⟩
theorem frac_bad {l : List UInt8} {a : Nat} (h : sign l a 46 = true) (h0 : (fdig l a).length = 0) : fracN l a = 0 ∧ fracE l a = -1 := by
  unfold fracN fracE
  rw [if_pos h, if_pos h, if_pos h0, if_pos h0]
  exact ⟨rfl, rfl⟩
theorem frac_some {l : List UInt8} {a k x : Nat} (h : sign l a 46 = true) (hk : FracAt l a k x) (he : fdig l a = (l.drop (a + 1)).take k ∧ (fdig l a).length = k) (h0 : ¬ k = 0) : fracN l a = ((x * 10 ^ (9 - k) : Nat) : Int) ∧ fracE l a = ((a + 1 + k : Nat) : Int) := by
  unfold fracN fracE
  rw [if_pos h, if_pos h, he.2, if_neg h0, if_neg h0, he.1, List.take_take, hk.val, Nat.min_comm]
  exact ⟨rfl, rfl⟩
structure PadAt (x k i y : Nat) : Prop where
  val : y = x * 10 ^ (i - k)
  lt : y < 10 ^ (min i 9)
theorem PadAt.succ {x k i y : Nat} (h : PadAt x k i y) (hk : k ≤ i) (hi : i < 9) : PadAt x k (i + 1) (y * 10) := by
  refine ⟨?_, ?_⟩
  · rw [h.val, Nat.succ_sub hk, Nat.pow_succ, Nat.mul_assoc]
  · have a := h.lt
    rw [Nat.min_eq_left (by omega)] at a
    rw [Nat.min_eq_left (by omega), Nat.pow_succ]
    omega
theorem PadAt.bd {x k i y : Nat} (h : PadAt x k i y) : y ≤ 999999999 := by
  have a := h.lt
  have b : 10 ^ (min i 9) ≤ 10 ^ 9 := Nat.pow_le_pow_right (by omega) (Nat.min_le_right _ _)
  omega
end D
theorem refSign_n (s : ByteArray) (a : Nat) (c : UInt8) {n : Int} (w : World) (hs : s.size ≤ maxLen) (h : (c.toNat : Int) = n) :
    Calls Tryz.prog 82 #[.string s, .int .i64 (a : Int), .int .u8 n] w fun e w' => e = .returned (.bool (D.sign s.data.toList a c)) ∧ w = w' := h ▸ refSign_any s a c w hs
theorem ret_frac {a b x y : Int} (h1 : a = x) (h2 : b = y) : Ending.returned (.tuple #[.int .i64 a, .int .i64 b]) = .returned (.tuple #[.int .i64 x, .int .i64 y]) := by rw [h1, h2]
set_option maxRecDepth 100000 in
set_option maxHeartbeats 6400000 in
theorem refFraction_any (s : ByteArray) (a : Nat) (w : World) (hs : s.size ≤ maxLen) (ha : a ≤ 1000000) :
    Calls Tryz.prog 84 #[.string s, .int .i64 (a : Int)] w fun e w' => e = .returned (.tuple #[.int .i64 (D.fracN s.data.toList a), .int .i64 (D.fracE s.data.toList a)]) ∧ w = w' := by
  have hsm : s.size ≤ 9223372036854775807 := hs
  have hlen : s.data.toList.length = s.size := Array.length_toList
  have hlen := Lib.hid hlen
  go_enter Tryz.func84, Tryz.ntmps84
  go_wp2_with fail
  (with_reducible refine (refSign_n (n := 46) s a 46 _ hs rfl).mono ?_); rintro e w1 ⟨rfl, rfl⟩
  cases hsg : D.sign s.data.toList a 46
  · have hr := D.frac_none hsg
    obtain ⟨r1, r2⟩ := hr
    replace r1 := Lib.hid r1
    replace r2 := Lib.hid r2
    clear hsg
    go_wp2
    go_ret2
    exact ⟨ret_frac r1.out.symm r2.out.symm, rfl⟩
  · have hin : a + 1 ≤ s.size := by
      unfold D.sign at hsg
      simp only [decide_eq_true_eq] at hsg
      have := (List.getElem?_eq_some_iff.1 hsg).1
      rw [hlen.out] at this
      omega
    have hsg := Lib.hid hsg
    go_wp2_with fail
    go_loop [6, 7, 8] (fun nv kv iv => ∃ k x : Nat, a + 1 + k ≤ s.size ∧ nv = .int .i64 (x : Int) ∧ kv = .int .i64 (k : Int) ∧ iv = .int .i64 ((a + 1 + k : Nat) : Int) ∧ Hid (D.FracAt s.data.toList a k x)) (fun _ _ iv => s.size - (intOf iv).toNat)
    case atStart => exact ⟨0, 0, hin, rfl, rfl, rfl, Lib.hid (D.FracAt.zero _ _)⟩
    case round =>
      obtain ⟨k, x, hk, rfl, rfl, rfl, hx⟩ := hrel
      have hxb := hx.out.bd
      by_cases hd : ∃ h : a + 1 + k < s.size, 48 ≤ (s[a + 1 + k]'h).toNat ∧ (s[a + 1 + k]'h).toNat ≤ 57
      · obtain ⟨hlt, d1, d2⟩ := hd
        have hin' : a + 1 + k < s.data.toList.length := by rw [hlen.out]; exact hlt
        have hgk : s.data.toList[a + 1 + k]'hin' = s[a + 1 + k]'hlt := rfl
        by_cases h9 : k < 9
        · have hst := Lib.hid (hx.out.less hin' (by rw [hgk]; exact d1) (by rw [hgk]; exact d2) h9)
          rw [hgk] at hst
          have hx8 := hx.out.bd8 h9
          clear hgk hin' hx
          generalize hi : a + 1 + k = i at *
          have hbyte := (s[i]).toNat_lt
          go_wp2
          go_round
          case rel => exact ⟨k + 1, x * 10 + (s[i].toNat - 48), by omega, by go_num, by go_num, by go_num, hst⟩
          case measure => simp [intOf]; omega
        · have hst := Lib.hid (hx.out.more hin' (by rw [hgk]; exact d1) (by rw [hgk]; exact d2) h9)
          clear hgk hin' hx
          generalize hi : a + 1 + k = i at *
          have hbyte := (s[i]).toNat_lt
          go_wp2
          go_round
          case rel => exact ⟨k + 1, x, by omega, by go_num, by go_num, by go_num, hst⟩
          case measure => simp [intOf]; omega
      · have hnd : ∀ h : a + 1 + k < s.size, (s[a + 1 + k]'h).toNat < 48 ∨ 57 < (s[a + 1 + k]'h).toNat := fun h => by
          by_cases h1 : 48 ≤ (s[a + 1 + k]'h).toNat
          · by_cases h2 : (s[a + 1 + k]'h).toNat ≤ 57
            · exact absurd ⟨h, h1, h2⟩ hd
            · exact .inr (by omega)
          · exact .inl (by omega)
        have his := Lib.hid (hx.out.is (by rw [hlen.out]; exact hk) (fun h => hnd (by rw [← hlen.out]; exact h)))
        clear hd
        have hcase : (s.size ≤ a + 1 + k) ∨ ∃ h : a + 1 + k < s.size, (s[a + 1 + k]'h).toNat < 48 ∨ (48 ≤ (s[a + 1 + k]'h).toNat ∧ 57 < (s[a + 1 + k]'h).toNat) := by
          by_cases h : a + 1 + k < s.size
          · refine .inr ⟨h, ?_⟩
            have := hnd h
            omega
          · exact .inl (by omega)
        clear hnd
        by_cases h0 : k = 0
        · obtain ⟨r1, r2⟩ := D.frac_bad hsg.out (his.out.2.trans h0)
          replace r1 := Lib.hid r1
          replace r2 := Lib.hid r2
          clear hx his
          generalize hi : a + 1 + k = i at *
          rcases hcase with h | ⟨h, h | ⟨h, h'⟩⟩ <;> go_wp2 <;> go_ret2 <;> exact ⟨ret_frac r1.out.symm r2.out.symm, rfl⟩
        · obtain ⟨r1, r2⟩ := D.frac_some hsg.out hx.out his.out h0
          replace r1 := Lib.hid r1
          replace r2 := Lib.hid r2
          have hxl := Lib.hid hx.out.lt
          clear hx his
          rcases hcase with h | ⟨h, h | ⟨h, h'⟩⟩
          all_goals
            go_wp2_with fail
            go_loop [6, 9] (fun nv iv => ∃ i y : Nat, k ≤ i ∧ (i ≤ 9 ∨ i = k) ∧ nv = .int .i64 (y : Int) ∧ iv = .int .i64 (i : Int) ∧ Hid (D.PadAt x k i y)) (fun _ iv => 9 - (intOf iv).toNat)
            case atStart => exact ⟨k, x, Nat.le_refl _, .inr rfl, rfl, rfl, Lib.hid ⟨by simp, hxl.out⟩⟩
            case round =>
              obtain ⟨i, y, hi, hi9, rfl, rfl, hy⟩ := hrel
              have hyb := hy.out.bd
              by_cases h9 : i < 9
              · have hst := Lib.hid (hy.out.succ hi h9)
                go_wp2
                go_round
                case rel => exact ⟨i + 1, y * 10, by omega, by omega, by go_num, by go_num, hst⟩
                case measure => simp [intOf]; omega
              · have hv : Hid (y = x * 10 ^ (9 - k)) := Lib.hid (by
                  have := hy.out.val
                  rcases hi9 with h | h
                  · obtain rfl : i = 9 := by omega
                    exact this
                  · rw [h] at this
                    rw [this, show 9 - k = k - k by omega])
                rw [← hv.out] at r1
                clear hv hy
                go_wp2
                go_ret2
                exact ⟨ret_frac r1.out.symm (by rw [r2.out]; go_num), rfl⟩
end Go.Proofs.YtbaclacfadkjdaaGreatDoor
namespace Go.Proofs.YtbaclacfadkjdaaGreatDoor
open Go.RowKit
namespace D
def zone (l : List UInt8) : Option Int :=
  if l = [90] then some 0
  else if l.length = 6 ∧ (l[0]? = some 43 ∨ l[0]? = some 45) ∧ l[3]? = some 58 then
    if num l 1 2 < 0 ∨ 23 < num l 1 2 ∨ num l 4 2 < 0 ∨ 59 < num l 4 2 then none
    else if l[0]? = some 45 then some (-num l 1 2 * 3600 - num l 4 2 * 60) else some (num l 1 2 * 3600 + num l 4 2 * 60)
  else none
def zoneN (l : List UInt8) : Int := (zone l).getD 0
def zoneB (l : List UInt8) : Bool := (zone l).isSome
theorem zone_none {l : List UInt8} (h : zone l = none) : zoneN l = 0 ∧ zoneB l = false := by unfold zoneN zoneB; rw [h]; exact ⟨rfl, rfl⟩
theorem zone_some {l : List UInt8} {z : Int} (h : zone l = some z) : zoneN l = z ∧ zoneB l = true := by unfold zoneN zoneB; rw [h]; exact ⟨rfl, rfl⟩
end D
theorem refNumber_n (s : ByteArray) (a n : Nat) {x y : Int} (w : World) (hs : s.size ≤ maxLen) (ha : a ≤ 1000000) (hn : n ≤ 4) (hx : (a : Int) = x) (hy : (n : Int) = y) :
    Calls Tryz.prog 81 #[.string s, .int .i64 x, .int .i64 y] w fun e w' => e = .returned (.int .i64 (D.num s.data.toList a n)) ∧ w = w' :=
  hx ▸ hy ▸ refNumber_any s a n w hs ha hn
theorem txt_ne {s : ByteArray} {l : List UInt8} (h : ¬ s.data.toList = l) : (s.toList == l) = false := by
  rw [ByteArray.toList_eq]; exact beq_false_of_ne h
theorem txt_is {s : ByteArray} {l : List UInt8} (h : s.data.toList = l) : (s.toList == l) = true := by
  rw [ByteArray.toList_eq, h]; exact beq_self_eq_true l
theorem ret_zone {a x : Int} {b y : Bool} (h1 : a = x) (h2 : b = y) : Ending.returned (.tuple #[.int .i64 a, .bool b]) = .returned (.tuple #[.int .i64 x, .bool y]) := by rw [h1, h2]
theorem byte_at {s : ByteArray} {k : Nat} (h : k < s.size) : s.data.toList[k]? = some s[k] := by
  rw [List.getElem?_eq_getElem (by rw [Array.length_toList]; exact h)]; rfl
theorem sbyte_is {a b : UInt8} : some a = some b ↔ a.toNat = b.toNat := by
  rw [Option.some.injEq]; exact UInt8.toNat_inj.symm
set_option maxRecDepth 100000 in
set_option maxHeartbeats 6400000 in
theorem refZone_any (s : ByteArray) (w : World) (hs : s.size ≤ maxLen) :
    Calls Tryz.prog 85 #[.string s] w fun e w' => e = .returned (.tuple #[.int .i64 (D.zoneN s.data.toList), .bool (D.zoneB s.data.toList)]) ∧ w = w' := by
  have hsm : s.size ≤ 9223372036854775807 := hs
  go_enter Tryz.func85, Tryz.ntmps85
  by_cases hz : s.data.toList = [90]
  · obtain ⟨r1, r2⟩ := D.zone_some (l := s.data.toList) (if_pos hz)
    replace r1 := Lib.hid r1
    replace r2 := Lib.hid r2
    have hz' := txt_is hz
    clear hz
    go_wp2
    go_ret2
    exact ⟨ret_zone r1.out.symm r2.out.symm, rfl⟩
  have hz' := txt_ne hz
  have hlen : s.data.toList.length = s.size := Array.length_toList
  have hZ : D.zone s.data.toList = _ := if_neg hz
  rw [hlen] at hZ
  replace hlen := Lib.hid hlen
  replace hZ := Lib.hid hZ
  clear hz
  by_cases h6 : s.size = 6
  · have b0 := Lib.hid (byte_at (s := s) (k := 0) (by omega))
    have b3 := Lib.hid (byte_at (s := s) (k := 3) (by omega))
    have hcase : (s[0].toNat = 43 ∧ s[3].toNat = 58) ∨ (s[0].toNat = 45 ∧ s[3].toNat = 58) ∨ (s[0].toNat = 43 ∧ ¬ s[3].toNat = 58) ∨ (s[0].toNat = 45 ∧ ¬ s[3].toNat = 58) ∨ (¬ s[0].toNat = 43 ∧ ¬ s[0].toNat = 45) := by omega
    have hno : ¬ ((s[0].toNat = 43 ∨ s[0].toNat = 45) ∧ s[3].toNat = 58) → D.zone s.data.toList = none := fun h => by
      rw [hZ.out, b0.out, b3.out, if_neg]
      rintro ⟨_, h1, h2⟩
      rw [sbyte_is] at h1 h2
      rw [sbyte_is] at h1
      exact h ⟨h1, h2⟩
    have hyes : (s[0].toNat = 43 ∨ s[0].toNat = 45) ∧ s[3].toNat = 58 → D.zone s.data.toList = if D.num s.data.toList 1 2 < 0 ∨ 23 < D.num s.data.toList 1 2 ∨ D.num s.data.toList 4 2 < 0 ∨ 59 < D.num s.data.toList 4 2 then none
        else if s[0].toNat = 45 then some (-D.num s.data.toList 1 2 * 3600 - D.num s.data.toList 4 2 * 60) else some (D.num s.data.toList 1 2 * 3600 + D.num s.data.toList 4 2 * 60) := fun h => by
      rw [hZ.out, b0.out, b3.out, if_pos ⟨h6, by rw [sbyte_is, sbyte_is]; exact h.1, by rw [sbyte_is]; exact h.2⟩]
      congr 1
      by_cases h45 : s[0].toNat = 45
      · rw [if_pos h45, if_pos (sbyte_is.2 h45)]
      · rw [if_neg h45, if_neg (fun e => h45 (sbyte_is.1 e))]
    replace hno := Lib.hid hno
    replace hyes := Lib.hid hyes
    have hn1 := D.num_bd s.data.toList 1 (n := 2) (by omega)
    have hn2 := D.num_bd s.data.toList 4 (n := 2) (by omega)
    have key : ∀ (neg : Bool), s[0].toNat = (if neg = true then 45 else 43) → s[3].toNat = 58 → D.zone s.data.toList = if D.num s.data.toList 1 2 < 0 ∨ 23 < D.num s.data.toList 1 2 ∨ D.num s.data.toList 4 2 < 0 ∨ 59 < D.num s.data.toList 4 2 then none
        else some (if neg = true then (-D.num s.data.toList 1 2 * 3600 - D.num s.data.toList 4 2 * 60) else (D.num s.data.toList 1 2 * 3600 + D.num s.data.toList 4 2 * 60)) := fun neg h1 h2 => by
      cases neg
      · simp at h1
        rw [hyes.out ⟨.inl h1, h2⟩, if_neg (show ¬ s[0].toNat = 45 by omega)]; rfl
      · simp at h1
        rw [hyes.out ⟨.inr h1, h2⟩, if_pos h1]; rfl
    replace key := Lib.hid key
    clear hyes
    rcases hcase with ⟨h0, h3⟩ | ⟨h0, h3⟩ | ⟨h0, h3⟩ | ⟨h0, h3⟩ | ⟨h0, h3⟩
    · have hk := Lib.hid (key.out false h0 h3)
      clear key hno
      go_wp2_with fail
      (with_reducible refine (refNumber_n (x := 1) (y := 2) s 1 2 _ hs (by omega) (by omega) rfl rfl).mono ?_); rintro e w1 ⟨rfl, rfl⟩
      go_wp2_with fail
      (with_reducible refine (refNumber_n (x := 4) (y := 2) s 4 2 _ hs (by omega) (by omega) rfl rfl).mono ?_); rintro e w1 ⟨rfl, rfl⟩
      generalize D.num s.data.toList 1 2 = h at *
      generalize D.num s.data.toList 4 2 = m at *
      obtain ⟨n1, n2⟩ := hn1
      obtain ⟨n3, n4⟩ := hn2
      have hq : h < 0 ∨ (0 ≤ h ∧ 23 < h) ∨ (0 ≤ h ∧ h ≤ 23 ∧ m < 0) ∨ (0 ≤ h ∧ h ≤ 23 ∧ 0 ≤ m ∧ 59 < m) ∨ (0 ≤ h ∧ h ≤ 23 ∧ 0 ≤ m ∧ m ≤ 59) := by omega
      rcases hq with q | ⟨q, q1⟩ | ⟨q, q1, q2⟩ | ⟨q, q1, q2, q3⟩ | ⟨q, q1, q2, q3⟩
      · obtain ⟨r1, r2⟩ := D.zone_none (hk.out.trans (if_pos (by omega)))
        replace r1 := Lib.hid r1
        replace r2 := Lib.hid r2
        go_wp2
        go_ret2
        exact ⟨ret_zone r1.out.symm r2.out.symm, rfl⟩
      · obtain ⟨r1, r2⟩ := D.zone_none (hk.out.trans (if_pos (by omega)))
        replace r1 := Lib.hid r1
        replace r2 := Lib.hid r2
        go_wp2
        go_ret2
        exact ⟨ret_zone r1.out.symm r2.out.symm, rfl⟩
      · obtain ⟨r1, r2⟩ := D.zone_none (hk.out.trans (if_pos (by omega)))
        replace r1 := Lib.hid r1
        replace r2 := Lib.hid r2
        go_wp2
        go_ret2
        exact ⟨ret_zone r1.out.symm r2.out.symm, rfl⟩
      · obtain ⟨r1, r2⟩ := D.zone_none (hk.out.trans (if_pos (by omega)))
        replace r1 := Lib.hid r1
        replace r2 := Lib.hid r2
        go_wp2
        go_ret2
        exact ⟨ret_zone r1.out.symm r2.out.symm, rfl⟩
      · obtain ⟨r1, r2⟩ := D.zone_some (hk.out.trans (if_neg (by omega)))
        replace r1 := Lib.hid r1
        replace r2 := Lib.hid r2
        go_wp2
        go_ret2
        exact ⟨ret_zone (by rw [r1.out]; rfl) r2.out.symm, rfl⟩
    · have hk := Lib.hid (key.out true h0 h3)
      clear key hno
      go_wp2_with fail
      (with_reducible refine (refNumber_n (x := 1) (y := 2) s 1 2 _ hs (by omega) (by omega) rfl rfl).mono ?_); rintro e w1 ⟨rfl, rfl⟩
      go_wp2_with fail
      (with_reducible refine (refNumber_n (x := 4) (y := 2) s 4 2 _ hs (by omega) (by omega) rfl rfl).mono ?_); rintro e w1 ⟨rfl, rfl⟩
      generalize D.num s.data.toList 1 2 = h at *
      generalize D.num s.data.toList 4 2 = m at *
      obtain ⟨n1, n2⟩ := hn1
      obtain ⟨n3, n4⟩ := hn2
      have hq : h < 0 ∨ (0 ≤ h ∧ 23 < h) ∨ (0 ≤ h ∧ h ≤ 23 ∧ m < 0) ∨ (0 ≤ h ∧ h ≤ 23 ∧ 0 ≤ m ∧ 59 < m) ∨ (0 ≤ h ∧ h ≤ 23 ∧ 0 ≤ m ∧ m ≤ 59) := by omega
      rcases hq with q | ⟨q, q1⟩ | ⟨q, q1, q2⟩ | ⟨q, q1, q2, q3⟩ | ⟨q, q1, q2, q3⟩
      · obtain ⟨r1, r2⟩ := D.zone_none (hk.out.trans (if_pos (by omega)))
        replace r1 := Lib.hid r1
        replace r2 := Lib.hid r2
        go_wp2
        go_ret2
        exact ⟨ret_zone r1.out.symm r2.out.symm, rfl⟩
      · obtain ⟨r1, r2⟩ := D.zone_none (hk.out.trans (if_pos (by omega)))
        replace r1 := Lib.hid r1
        replace r2 := Lib.hid r2
        go_wp2
        go_ret2
        exact ⟨ret_zone r1.out.symm r2.out.symm, rfl⟩
      · obtain ⟨r1, r2⟩ := D.zone_none (hk.out.trans (if_pos (by omega)))
        replace r1 := Lib.hid r1
        replace r2 := Lib.hid r2
        go_wp2
        go_ret2
        exact ⟨ret_zone r1.out.symm r2.out.symm, rfl⟩
      · obtain ⟨r1, r2⟩ := D.zone_none (hk.out.trans (if_pos (by omega)))
        replace r1 := Lib.hid r1
        replace r2 := Lib.hid r2
        go_wp2
        go_ret2
        exact ⟨ret_zone r1.out.symm r2.out.symm, rfl⟩
      · obtain ⟨r1, r2⟩ := D.zone_some (hk.out.trans (if_neg (by omega)))
        replace r1 := Lib.hid r1
        replace r2 := Lib.hid r2
        go_wp2
        go_ret2
        exact ⟨ret_zone (by rw [r1.out]; rfl) r2.out.symm, rfl⟩
    all_goals
      obtain ⟨r1, r2⟩ := D.zone_none (hno.out (by omega))
      replace r1 := Lib.hid r1
      replace r2 := Lib.hid r2
      clear key hno hn1 hn2
      go_wp2
      go_ret2
      exact ⟨ret_zone r1.out.symm r2.out.symm, rfl⟩
  · obtain ⟨r1, r2⟩ := D.zone_none (hZ.out.trans (if_neg (fun h => h6 h.1)))
    replace r1 := Lib.hid r1
    replace r2 := Lib.hid r2
    go_wp2
    go_ret2
    exact ⟨ret_zone r1.out.symm r2.out.symm, rfl⟩
end Go.Proofs.YtbaclacfadkjdaaGreatDoor
namespace Go.Proofs.YtbaclacfadkjdaaGreatDoor
open Go.RowKit
namespace D
def signs (l : List UInt8) : Bool := sign l 4 45 && sign l 7 45 && sign l 10 84 && sign l 13 58 && sign l 16 58
def inBounds (y mo d h mi se : Int) : Bool :=
  decide (0 ≤ y) && decide (1 ≤ mo) && decide (mo ≤ 12) && decide (1 ≤ d) && decide (d ≤ mlen y mo) && decide (0 ≤ h) && decide (h ≤ 23) && decide (0 ≤ mi) && decide (mi ≤ 59) && decide (0 ≤ se) && decide (se ≤ 59)
def parse (l : List UInt8) : Option (Int × Int) :=
  if signs l = true then
    if inBounds (num l 0 4) (num l 5 2) (num l 8 2) (num l 11 2) (num l 14 2) (num l 17 2) = true then
      if fracE l 19 < 0 then none
      else match zone (l.drop (fracE l 19).toNat) with
        | none => none
        | some z => some (days (num l 0 4) (num l 5 2) (num l 8 2) * 86400 + num l 11 2 * 3600 + num l 14 2 * 60 + num l 17 2 - z, fracN l 19)
    else none
  else none
def paS (l : List UInt8) : Int := ((parse l).map (·.1)).getD 0
def paN (l : List UInt8) : Int := ((parse l).map (·.2)).getD 0
def paE (l : List UInt8) : Int := if (parse l).isSome = true then 0 else 110
theorem pa_none {l : List UInt8} (h : parse l = none) : paS l = 0 ∧ paN l = 0 ∧ paE l = 110 := by unfold paS paN paE; rw [h]; exact ⟨rfl, rfl, rfl⟩
theorem pa_some {l : List UInt8} {x y : Int} (h : parse l = some (x, y)) : paS l = x ∧ paN l = y ∧ paE l = 0 := by unfold paS paN paE; rw [h]; exact ⟨rfl, rfl, rfl⟩
theorem pa_sign {l : List UInt8} (h : signs l = false) : parse l = none := by unfold parse; rw [if_neg (by rw [h]; simp)]
theorem pa_bound {l : List UInt8} (h : inBounds (num l 0 4) (num l 5 2) (num l 8 2) (num l 11 2) (num l 14 2) (num l 17 2) = false) : parse l = none := by
  unfold parse
  split
  · rw [if_neg (by rw [h]; simp)]
  · rfl
theorem pa_frac {l : List UInt8} (h : fracE l 19 < 0) : parse l = none := by
  unfold parse
  repeat' split
  all_goals first | rfl | omega
theorem pa_zone {l : List UInt8} (h : zone (l.drop (fracE l 19).toNat) = none) : parse l = none := by
  unfold parse
  rw [h]
  repeat' split
  all_goals first | rfl | contradiction
theorem pa_is {l : List UInt8} {z : Int} (h1 : signs l = true) (h2 : inBounds (num l 0 4) (num l 5 2) (num l 8 2) (num l 11 2) (num l 14 2) (num l 17 2) = true) (h3 : ¬ fracE l 19 < 0) (h4 : zone (l.drop (fracE l 19).toNat) = some z) :
    parse l = some (days (num l 0 4) (num l 5 2) (num l 8 2) * 86400 + num l 11 2 * 3600 + num l 14 2 * 60 + num l 17 2 - z, fracN l 19) := by
  unfold parse
  rw [if_pos h1, if_pos h2, if_neg h3, h4]
theorem bounds_of {y mo d h mi se : Int} (e : inBounds y mo d h mi se = true) : 0 ≤ y ∧ 1 ≤ mo ∧ mo ≤ 12 ∧ 1 ≤ d ∧ d ≤ mlen y mo ∧ 0 ≤ h ∧ h ≤ 23 ∧ 0 ≤ mi ∧ mi ≤ 59 ∧ 0 ≤ se ∧ se ≤ 59 := by
  simp only [inBounds, Bool.and_eq_true, decide_eq_true_eq] at e
  omega
theorem zone_bd {l : List UInt8} {z : Int} (h : zone l = some z) : -86400 < z ∧ z < 86400 := by
  unfold zone at h
  split at h
  · have := Option.some.inj h; omega
  · split at h
    · split at h
      · cases h
      · split at h <;> · have := Option.some.inj h; omega
    · cases h
theorem days_bd {y m d : Int} (h0 : 0 ≤ y) (h1 : y ≤ 9999) (hm1 : 1 ≤ m) (hm2 : m ≤ 12) (hd1 : 1 ≤ d) (hd2 : d ≤ mlen y m) : -2000000 ≤ days y m d ∧ days y m d ≤ 20000000 := by
  have a := yd_bd (y := y) h0 (by omega)
  have b := md_bd y hm1 hm2
  have c := mlen_le y m
  unfold days
  omega
theorem num_len {l : List UInt8} {a n : Nat} (h : 0 ≤ num l a n) : a + n ≤ l.length := by
  refine Nat.le_of_not_lt (fun e => ?_)
  rw [num_short e] at h
  omega
theorem fracE_nat {l : List UInt8} {a : Nat} (ha : a ≤ l.length) (h : ¬ fracE l a < 0) : ∃ k : Nat, fracE l a = (k : Int) ∧ k ≤ l.length := by
  unfold fracE at h ⊢
  by_cases hs : sign l a 46 = true
  · rw [if_pos hs] at h ⊢
    by_cases h0 : (fdig l a).length = 0
    · rw [if_pos h0] at h; omega
    · rw [if_neg h0]
      refine ⟨_, rfl, ?_⟩
      have h1 : (fdig l a).length ≤ (l.drop (a + 1)).length := (List.takeWhile_sublist _).length_le
      rw [List.length_drop] at h1
      omega
  · rw [if_neg hs]
    exact ⟨a, rfl, ha⟩
end D
end Go.Proofs.YtbaclacfadkjdaaGreatDoor
