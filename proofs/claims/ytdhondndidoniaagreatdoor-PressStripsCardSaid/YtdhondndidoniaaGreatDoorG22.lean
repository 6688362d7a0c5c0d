/-
  What the program's own words of fractions and zones come to: contracts of minutes, fraction, seconds.
  What the program's own words of a moment's text come to: contracts of day and second; the moment's form in plain Lean.
-/
import Derived.Test.YtdhondndidoniaaGreatDoorG21
import Derived.Test.YtdhondndidoniaaGreatDoorShelf
import Derived.Test.YtdhondndidoniaaGreatDoorShelf2
import Derived.Shelf.Strings.SlTrimAscii
namespace Go.Proofs.YtdhondndidoniaaGreatDoor
open Go.RowKit

theorem ret_num {a x : Int} {b : Bool} (h1 : a = x) : Ending.returned (.tuple #[.int .i64 a, .bool b]) = .returned (.tuple #[.int .i64 x, .bool b]) := by rw [h1]
theorem dv_two {l : List UInt8} (h : l.all D.dg = true) (hl : l.length ≤ 2) : D.dv l ≤ 99 := by
  match l, hl with
  | [], _ => decide
  | [a], _ =>
    simp [D.dg] at h
    simp [D.dv]; omega
  | [a, b], _ =>
    simp [D.dg] at h
    simp [D.dv]; omega

set_option maxRecDepth 100000 in
set_option maxHeartbeats 1600000 in
theorem gMinutes_any (s : ByteArray) (a h m : Nat) {x : Int} (w : World) (hs : s.size ≤ maxLen) (ha : a + 5 ≤ s.size) (ha1 : a ≤ 100) (h1 : ((s.data.toList.drop a).take 2).all D.dg = true) (h2 : ((s.data.toList.drop (a + 3)).take 2).all D.dg = true)
    (hh : D.dv ((s.data.toList.drop a).take 2) = h) (hm : D.dv ((s.data.toList.drop (a + 3)).take 2) = m) (hx : x = (a : Int)) :
    Calls Tryz.prog 182 #[.string s, .int .i64 x] w fun e w' => e = .returned (.tuple #[.int .i64 (if h ≤ 23 ∧ m ≤ 59 then ((h * 3600 + m * 60 : Nat) : Int) else 0), .bool (decide (h ≤ 23 ∧ m ≤ 59))]) ∧ Below w.heap.size w w' := by
  subst hx
  have hsm : s.size ≤ 9223372036854775807 := hs
  have b1 := dv_two h1 (by simp; omega)
  have b2 := dv_two h2 (by simp; omega)
  have c1 := fun (x y : Int) (w : World) (hx : x = (a : Int)) (hy : y = (a : Int) + 2) => gNumber_any (x := x) (y := y) s a 2 w hs (by omega) (by omega) h1 hx (by omega)
  have c2 := fun (x y : Int) (w : World) (hx : x = (a : Int) + 3) (hy : y = (a : Int) + 5) => gNumber_any (x := x) (y := y) s (a + 3) 2 w hs (by omega) (by omega) h2 (by omega) (by omega)
  rw [hh] at b1 c1
  rw [hm] at b2 c2
  clear hh hm h1 h2
  generalize hr : (if h ≤ 23 ∧ m ≤ 59 then ((h * 3600 + m * 60 : Nat) : Int) else 0) = r
  generalize hq : decide (h ≤ 23 ∧ m ≤ 59) = q
  have hr := Lib.hid hr
  have hq := Lib.hid hq
  go_enter Tryz.func182, Tryz.ntmps182
  go_wp2_with fail
  (with_reducible refine (c1 _ _ _ rfl rfl).mono ?_); rintro e w1 ⟨rfl, b3⟩
  go_wp2_with fail
  (with_reducible refine (c2 _ _ _ rfl rfl).mono ?_); rintro e w2 ⟨rfl, b4⟩
  have bb := b3.trans (b4.mono b3.size)
  clear c1 c2 b3 b4
  by_cases n1 : h ≤ 23
  · by_cases n2 : m ≤ 59
    · have r1 : ((h * 3600 + m * 60 : Nat) : Int) = r := by rw [← hr.out, if_pos ⟨n1, n2⟩]
      have q1 : true = q := by rw [← hq.out]; symm; exact decide_eq_true ⟨n1, n2⟩
      subst q1
      replace r1 := Lib.hid r1
      clear hq
      go_wp2
      go_ret2
      exact ⟨ret_num (by rw [← r1.out]; omega), bb⟩
    · have r1 : 0 = r := by rw [← hr.out, if_neg (fun e => n2 e.2)]
      have q1 : false = q := by rw [← hq.out]; symm; exact decide_eq_false (fun e => n2 e.2)
      subst q1 r1
      clear hq hr
      go_wp2
      go_ret2
      exact ⟨rfl, bb⟩
  · have r1 : 0 = r := by rw [← hr.out, if_neg (fun e => n1 e.1)]
    have q1 : false = q := by rw [← hq.out]; symm; exact decide_eq_false (fun e => n1 e.1)
    subst q1 r1
    clear hq hr
    go_wp2
    go_ret2
    exact ⟨rfl, bb⟩

/-! ### fractions -/
theorem trim_digits (l : List UInt8) : Lib.trimLeftS l [48, 49, 50, 51, 52, 53, 54, 55, 56, 57] = l.dropWhile D.dg := by
  unfold Lib.trimLeftS
  congr 1
  funext b
  have : ∀ n, n < 256 → ([48, 49, 50, 51, 52, 53, 54, 55, 56, 57] : List UInt8).contains (UInt8.ofNat n) = D.dg (UInt8.ofNat n) := by decide +kernel
  have := this b.toNat b.toNat_lt
  rwa [UInt8.ofNat_toNat] at this
theorem infoSetD : (Tryz.prog.info? 131).map (fun i => (i.zero, i.size)) = some (some (.agg (Array.replicate 256 (.bool false))), 256) := by kernel_rfl
theorem trimDigits_any (s t : ByteArray) (w : World) (ht : t.data.toList = s.data.toList.dropWhile D.dg) :
    Calls Tryz.prog 180 #[.string s, .string ⟨#[48, 49, 50, 51, 52, 53, 54, 55, 56, 57]⟩] w fun e w' => e = .returned (.string t) ∧ Below w.heap.size w w' := by
  refine (Any.strings_TrimLeft_laid Tryz.lays161 infoSetD s ⟨#[48, 49, 50, 51, 52, 53, 54, 55, 56, 57]⟩ w (by decide) (Go.Proofs.ascii_of_all (by decide))).mono ?_
  rintro e w' ⟨rfl, b⟩
  rw [show (⟨#[48, 49, 50, 51, 52, 53, 54, 55, 56, 57]⟩ : ByteArray).data.toList = [48, 49, 50, 51, 52, 53, 54, 55, 56, 57] from rfl, trim_digits, ← ht]
  exact ⟨rfl, b⟩
theorem while_len (p : UInt8 → Bool) (l : List UInt8) : (l.takeWhile p).length + (l.dropWhile p).length = l.length := by
  rw [← List.length_append, List.takeWhile_append_dropWhile]
theorem point_yes {s : ByteArray} {m : List UInt8} (h : s.data.toList = 46 :: m) : Lib.hasPrefix s.data.toList (⟨#[46]⟩ : ByteArray).data.toList = true := by rw [h]; simp [Lib.hasPrefix]
theorem point_no {s : ByteArray} (h : s.data.toList.head? ≠ some 46) : Lib.hasPrefix s.data.toList (⟨#[46]⟩ : ByteArray).data.toList = false := by
  cases hl : s.data.toList with
  | nil => rfl
  | cons a m =>
    rw [hl] at h
    have e : ¬ a = 46 := fun e => h (by rw [e]; rfl)
    show ((46 : UInt8) == a && ([] : List UInt8).isPrefixOf m) = false
    rw [show ((46 : UInt8) == a) = false from by simp; exact fun x => e x.symm]
    rfl

theorem gFraction_none (s : ByteArray) (w : World) (h : s.data.toList.head? ≠ some 46) :
    Calls Tryz.prog 153 #[.string s] w fun e w' => e = .returned (.tuple #[.int .i64 0, .string s, .bool true]) ∧ w = w' := by
  have hp := Lib.hid (point_no h)
  go_enter Tryz.func153, Tryz.ntmps153
  go_wp2_with fail
  (with_reducible refine (Tryz.strings_HasPrefix s _ _).mono ?_); rintro e w1 ⟨rfl, rfl⟩
  rw [hp.out]
  go_wp2
  go_ret3
  exact ⟨rfl, rfl⟩
theorem ret_fr {a x : Int} {t u : ByteArray} (h1 : a = x) (h2 : t = u) : Ending.returned (.tuple #[.int .i64 a, .string t, .bool true]) = .returned (.tuple #[.int .i64 x, .string u, .bool true]) := by rw [h1, h2]

set_option maxRecDepth 100000 in
set_option maxHeartbeats 1600000 in
theorem gFraction_bad (s : ByteArray) (m : List UInt8) (w : World) (hs : s.size ≤ maxLen) (h : s.data.toList = 46 :: m) (h0 : (m.takeWhile D.dg).length = 0) :
    Calls Tryz.prog 153 #[.string s] w fun e w' => e = .returned (.tuple #[.int .i64 0, .string ⟨#[]⟩, .bool false]) ∧ Below w.heap.size w w' := by
  have hsm : s.size ≤ 9223372036854775807 := hs
  have hp := Lib.hid (point_yes h)
  have hsz : s.size = m.length + 1 := by rw [← list_len s, h]; rfl
  have htl : (s.extract 1 s.size).data.toList = m := by rw [drop_list, h]; rfl
  have hwl := while_len D.dg m
  obtain ⟨u, hu⟩ : ∃ u : ByteArray, u.data.toList = m.dropWhile D.dg := ⟨⟨(m.dropWhile D.dg).toArray⟩, rfl⟩
  have hul : u.size = (m.dropWhile D.dg).length := by rw [← hu, list_len]
  have hus : s.size = u.size + 1 := by omega
  have c1 := fun w => trimDigits_any (s.extract 1 s.size) u w (by rw [htl, hu])
  have h1 : 1 ≤ s.size := by omega
  clear h h0 htl hwl hul hsz hu
  replace hus := Lib.hid hus
  go_enter Tryz.func153, Tryz.ntmps153
  go_wp2_with fail
  (with_reducible refine (Tryz.strings_HasPrefix s _ _).mono ?_); rintro e w1 ⟨rfl, rfl⟩
  rw [hp.out]
  go_wp2_with fail
  (with_reducible refine (c1 _).mono ?_); rintro e w1 ⟨rfl, b1⟩
  have e1 : wrap64 (wrap64 ((s.size : Int) - (u.size : Int)) - 1) = 0 := by
    have := hus.out
    rw [show wrap64 ((s.size : Int) - (u.size : Int)) = 1 by (rw [IntWalk.wrap64_in _ (by omega)]; omega), IntWalk.wrap64_in _ (by omega)]
    rfl
  clear c1
  go_wp2
  go_ret3
  exact ⟨rfl, b1⟩

theorem dv_lt {q : List UInt8} (h : q.all D.dg = true) : D.dv q < 10 ^ q.length := by
  have key : ∀ (q : List UInt8) (a : Nat), q.all D.dg = true → q.foldl (fun a b => a * 10 + (b.toNat - 48)) a < (a + 1) * 10 ^ q.length := by
    intro q
    induction q with
    | nil => intro a _; simp
    | cons b q ih =>
      intro a hq
      simp only [List.all_cons, Bool.and_eq_true] at hq
      have hb := hq.1
      simp [D.dg] at hb
      refine Nat.lt_of_lt_of_le (ih (a * 10 + (b.toNat - 48)) hq.2) ?_
      rw [List.length_cons, Nat.pow_succ, Nat.mul_comm (10 ^ q.length) 10, ← Nat.mul_assoc]
      exact Nat.mul_le_mul_right _ (by omega)
  have := key q 0 h
  rwa [Nat.zero_add, Nat.one_mul] at this
/-- The filling with noughts so far. -/
structure FillAt (x n i y : Nat) : Prop where
  val : y = x * 10 ^ i
  lt : y < 10 ^ (n + i)
theorem FillAt.succ {x n i y : Nat} (h : FillAt x n i y) : FillAt x n (i + 1) (y * 10) :=
  ⟨by rw [h.val, Nat.pow_succ, Nat.mul_assoc], by have := h.lt; rw [← Nat.add_assoc, Nat.pow_succ]; omega⟩

set_option maxRecDepth 100000 in
set_option maxHeartbeats 3200000 in
theorem gFraction_some (s u : ByteArray) (m : List UInt8) (k : Nat) (w : World) (hs : s.size ≤ maxLen) (h : s.data.toList = 46 :: m) (hk : (m.takeWhile D.dg).length = k) (h0 : 0 < k) (hu : u.data.toList = m.dropWhile D.dg) :
    Calls Tryz.prog 153 #[.string s] w fun e w' => e = .returned (.tuple #[.int .i64 ((D.dv ((m.takeWhile D.dg).take 9) * 10 ^ (9 - k) : Nat) : Int), .string u, .bool true]) ∧ Below w.heap.size w w' := by
  have hsm : s.size ≤ 9223372036854775807 := hs
  have hp := Lib.hid (point_yes h)
  have hsz : s.size = m.length + 1 := by rw [← list_len s, h]; rfl
  have htl : (s.extract 1 s.size).data.toList = m := by rw [drop_list, h]; rfl
  have hwl := while_len D.dg m
  have hul : u.size = (m.dropWhile D.dg).length := by rw [← hu, list_len]
  have hus : s.size = u.size + 1 + k := by omega
  have c1 := fun w => trimDigits_any (s.extract 1 s.size) u w (by rw [htl, hu])
  have h1 : 1 ≤ s.size := by omega
  obtain ⟨n, hn⟩ : ∃ n, min k 9 = n := ⟨_, rfl⟩
  have hn0 : 0 < n ∧ n ≤ 9 ∧ n ≤ k := by omega
  have hpre : (s.data.toList.drop 1).take n = (m.takeWhile D.dg).take 9 := by
    rw [h, List.drop_succ_cons, List.drop_zero, ← hn, ← hk]
    conv => lhs; arg 2; rw [← List.takeWhile_append_dropWhile (p := D.dg) (l := m)]
    rw [List.take_append_of_le_length (Nat.min_le_left _ _), Nat.min_comm, ← List.take_take, List.take_length]
  have hdg : ((s.data.toList.drop 1).take n).all D.dg = true := by
    rw [hpre, List.all_eq_true]
    intro x hx
    exact List.all_eq_true.1 List.all_takeWhile x (List.mem_of_mem_take hx)
  have c2 := fun (x y : Int) (w : World) (hx : x = 1) (hy : y = 1 + (n : Int)) => gNumber_any (x := x) (y := y) s 1 n w hs (by omega) (by omega) hdg hx (by omega)
  rw [hpre] at c2
  have e1 : min (wrap64 (wrap64 ((s.size : Int) - (u.size : Int)) - 1)) 9 = (n : Int) := by
    rw [show wrap64 ((s.size : Int) - (u.size : Int)) = 1 + (k : Int) by (rw [IntWalk.wrap64_in _ (by omega)]; omega), IntWalk.wrap64_in _ (by omega)]
    omega
  have hxl := dv_lt hdg
  rw [hpre] at hxl
  have hln : ((m.takeWhile D.dg).take 9).length = n := by rw [List.length_take, hk]; omega
  rw [hln] at hxl
  obtain ⟨x, hx⟩ : ∃ x, D.dv ((m.takeWhile D.dg).take 9) = x := ⟨_, rfl⟩
  rw [hx] at c2 hxl ⊢
  have hend : 9 - k = 9 - n := by omega
  rw [hend]
  have hx9 : x < 1000000000 := Nat.lt_of_lt_of_le hxl (Nat.pow_le_pow_right (n := 10) (by omega) hn0.2.1)
  have hf0 : FillAt x n 0 x := ⟨by simp, by rw [Nat.add_zero]; exact hxl⟩
  obtain ⟨hn0, hn9, hnk⟩ := hn0
  clear h hk h0 hu htl hwl hul hpre hdg hln hx hend hxl hn
  replace hsz := Lib.hid hsz
  replace hus := Lib.hid hus
  replace hf0 := Lib.hid hf0
  go_enter Tryz.func153, Tryz.ntmps153
  go_wp2_with fail
  (with_reducible refine (Tryz.strings_HasPrefix s _ _).mono ?_); rintro e w1 ⟨rfl, rfl⟩
  rw [hp.out]
  go_wp2_with fail
  (with_reducible refine (c1 _).mono ?_); rintro e w1 ⟨rfl, b1⟩
  clear c1
  go_wp2_with fail
  (with_reducible refine (c2 _ _ _ rfl rfl).mono ?_); rintro e w2 ⟨rfl, b2⟩
  have bb := b1.trans (b2.mono b1.size)
  clear c2 b1 b2
  go_wp2_with fail
  go_loop [2, 28] (fun nv iv => ∃ i y : Nat, i ≤ 9 - n ∧ nv = .int .i64 (y : Int) ∧ iv = .int .i64 (i : Int) ∧ Hid (FillAt x n i y)) (fun _ iv => 9 - (intOf iv).toNat)
  case atStart => exact ⟨0, x, Nat.zero_le _, rfl, rfl, hf0⟩
  case round =>
    obtain ⟨i, y, hi, rfl, rfl, hy⟩ := hrel
    have hyb : y < 1000000000 := Nat.lt_of_lt_of_le hy.out.lt (Nat.pow_le_pow_right (n := 10) (by omega) (show n + i ≤ 9 by omega))
    by_cases hlt : i < 9 - n
    · have hlt' : (i : Int) < 9 - (n : Int) := by omega
      have hst := Lib.hid hy.out.succ
      clear hy
      go_wp2
      go_round
      case rel => exact ⟨i + 1, y * 10, by omega, by go_num, by go_num, hst⟩
      case measure => simp [intOf]; omega
    · have hlt' : ¬ (i : Int) < 9 - (n : Int) := by omega
      have hie : i = 9 - n := by omega
      have hv := hy.out.val
      rw [hie] at hv
      replace hv := Lib.hid hv
      clear hy hie hlt
      go_wp2
      go_ret3
      exact ⟨ret_fr (by rw [hv.out]; simp) rfl, bb⟩

/-! ### zones -/
theorem word_size (f : ByteArray) (l : List UInt8) (h : f.data.toList = l) : f.size = l.length := by rw [← h, list_len]
abbrev aheadForm : ByteArray := ⟨#[43, 48, 48, 58, 48, 48]⟩
abbrev behindForm : ByteArray := ⟨#[45, 48, 48, 58, 48, 48]⟩
/-- A zone's text begins so: the sign, and what stands behind it. -/
theorem zone_fits {c : UInt8} (h48 : c ≠ 48) (l : List UInt8) : D.Fits [c, 48, 48, 58, 48, 48] l ↔ 6 ≤ l.length ∧ l[0]? = some c ∧ l[3]? = some 58 ∧ ((l.drop 1).take 2).all D.dg = true ∧ ((l.drop 4).take 2).all D.dg = true := by
  constructor
  · rintro ⟨h, hf⟩
    match l, h with
    | x0 :: x1 :: x2 :: x3 :: x4 :: x5 :: l, _ =>
      have a0 := hf 0 (by simp)
      have a1 := hf 1 (by simp)
      have a2 := hf 2 (by simp)
      have a3 := hf 3 (by simp)
      have a4 := hf 4 (by simp)
      have a5 := hf 5 (by simp)
      simp [D.okc, h48] at a0 a1 a2 a3 a4 a5
      subst a0 a3
      refine ⟨by simp, rfl, rfl, ?_, ?_⟩ <;> simp [*]
  · rintro ⟨h, h0, h3, h1, h4⟩
    refine ⟨h, ?_⟩
    match l, h with
    | x0 :: x1 :: x2 :: x3 :: x4 :: x5 :: l, _ =>
      simp at h0 h3 h1 h4
      subst h0 h3
      obtain ⟨a1, a2⟩ := h1
      obtain ⟨a4, a5⟩ := h4
      intro j hj
      have : j = 0 ∨ j = 1 ∨ j = 2 ∨ j = 3 ∨ j = 4 ∨ j = 5 := by simp at hj; omega
      rcases this with rfl | rfl | rfl | rfl | rfl | rfl <;> simp [D.okc, *]

theorem num_is {l : List UInt8} {a n : Nat} (h : a + n ≤ l.length) (hd : ((l.drop a).take n).all D.dg = true) : D.num l a n = (D.dv ((l.drop a).take n) : Int) := by
  unfold D.num
  rw [if_neg (by omega), if_pos hd]
theorem num_ge {l : List UInt8} {a n : Nat} (h : 0 ≤ D.num l a n) : a + n ≤ l.length ∧ ((l.drop a).take n).all D.dg = true := by
  unfold D.num at h
  split at h
  · omega
  · split at h
    · exact ⟨by omega, by assumption⟩
    · omega

/-- A zone of six bytes, its sign and numbers. -/
theorem zone_six {l : List UInt8} {c : UInt8} {h m : Nat} (hc : c = 43 ∨ c = 45) (hl : l.length = 6) (hf : D.Fits [c, 48, 48, 58, 48, 48] l) (hh : D.dv ((l.drop 1).take 2) = h) (hm : D.dv ((l.drop 4).take 2) = m) :
    D.zone l = if h ≤ 23 ∧ m ≤ 59 then some (if c = 45 then -((h * 3600 + m * 60 : Nat) : Int) else ((h * 3600 + m * 60 : Nat) : Int)) else none := by
  have h48 : c ≠ 48 := by rcases hc with rfl | rfl <;> decide
  obtain ⟨-, h0, h3, d1, d4⟩ := (zone_fits h48 l).1 hf
  have n1 := num_is (l := l) (a := 1) (n := 2) (by omega) d1
  have n4 := num_is (l := l) (a := 4) (n := 2) (by omega) d4
  rw [hh] at n1
  rw [hm] at n4
  unfold D.zone
  rw [if_neg (by intro e; rw [e] at hl; simp at hl), if_pos ⟨hl, by rw [h0]; rcases hc with rfl | rfl <;> simp, h3⟩, n1, n4]
  by_cases hb : h ≤ 23 ∧ m ≤ 59
  · rw [if_neg (by omega), if_pos hb, h0]
    rcases hc with rfl | rfl
    · rw [if_neg (by decide), if_neg (by decide)]; first | rfl | (congr 1; omega)
    · rw [if_pos rfl, if_pos rfl]; first | rfl | (congr 1; omega)
  · rw [if_pos (by omega), if_neg hb]
theorem zone_other {l : List UInt8} (hz : l ≠ [90]) (h : ¬ (l.length = 6 ∧ (D.Fits [43, 48, 48, 58, 48, 48] l ∨ D.Fits [45, 48, 48, 58, 48, 48] l))) : D.zone l = none := by
  unfold D.zone
  rw [if_neg hz]
  split
  · rename_i hq
    rw [if_pos]
    refine Classical.byContradiction (fun hn => h ⟨hq.1, ?_⟩)
    have a := num_ge (l := l) (a := 1) (n := 2) (by omega)
    have b := num_ge (l := l) (a := 4) (n := 2) (by omega)
    rcases hq.2.1 with h0 | h0
    · exact .inl ((zone_fits (by decide) l).2 ⟨by omega, h0, hq.2.2, a.2, b.2⟩)
    · exact .inr ((zone_fits (by decide) l).2 ⟨by omega, h0, hq.2.2, a.2, b.2⟩)
  · rfl
set_option maxRecDepth 100000 in
set_option maxHeartbeats 3200000 in
theorem gSeconds_six (s f : ByteArray) (c : UInt8) (w : World) (hs : s.size = 6) (hcf : c = 43 ∧ f = aheadForm ∨ c = 45 ∧ f = behindForm) (hf : D.Fits f.data.toList s.data.toList) :
    Calls Tryz.prog 154 #[.string s] w fun e w' => e = .returned (.tuple #[.int .i64 (D.zoneN s.data.toList), .bool (D.zoneB s.data.toList)]) ∧ Below w.heap.size w w' := by
  have hsm : s.size ≤ maxLen := by rw [hs]; unfold maxLen; omega
  have hzt : ¬ s.data.toList = [90] := by intro e; have := congrArg List.length e; rw [list_len, hs] at this; simp at this
  have hz := txt_ne hzt
  have hfl : f.data.toList = [c, 48, 48, 58, 48, 48] := by rcases hcf with ⟨rfl, rfl⟩ | ⟨rfl, rfl⟩ <;> rfl
  have hfit : D.Fits [c, 48, 48, 58, 48, 48] s.data.toList := by rw [← hfl]; exact hf
  have hc : c = 43 ∨ c = 45 := by rcases hcf with ⟨rfl, _⟩ | ⟨rfl, _⟩ <;> simp
  have h48 : c ≠ 48 := by rcases hc with rfl | rfl <;> decide
  obtain ⟨-, h0, -, d1, d4⟩ := (zone_fits h48 _).1 hfit
  obtain ⟨h, hh⟩ : ∃ h, D.dv ((s.data.toList.drop 1).take 2) = h := ⟨_, rfl⟩
  obtain ⟨m, hm⟩ : ∃ m, D.dv ((s.data.toList.drop 4).take 2) = m := ⟨_, rfl⟩
  have hzone := zone_six hc (by rw [list_len]; exact hs) hfit hh hm
  have b1 := dv_two d1 (by simp; omega)
  have b2 := dv_two d4 (by simp; omega)
  rw [hh] at b1
  rw [hm] at b2
  have cm := fun (w : World) => gMinutes_any (x := 1) s 1 h m w hsm (by omega) (by omega) d1 d4 hh hm rfl
  have f6 : f.size = 6 := by rw [word_size f _ hfl]; rfl
  have cy := fun (w : World) => gCut_yes s f s ⟨#[]⟩ w hsm (by rw [f6]; unfold maxLen; omega) hf (by rw [f6, ← hs, ← list_len s, List.take_length]) (by rw [f6, ← hs, ← list_len s, List.drop_length])
  have cn := fun (w : World) (hc45 : c = 45) => gCut_no s aheadForm w hsm (by decide) (fun hb => by
    have hx := ((zone_fits (c := 43) (by decide) _).1 hb).2.1
    rw [h0, hc45] at hx
    exact absurd (Option.some.inj hx) (by decide))
  have hzN : D.zoneN s.data.toList = if h ≤ 23 ∧ m ≤ 59 then (if c = 45 then -((h * 3600 + m * 60 : Nat) : Int) else ((h * 3600 + m * 60 : Nat) : Int)) else 0 := by
    unfold D.zoneN; rw [hzone]; split <;> rfl
  have hzB : D.zoneB s.data.toList = decide (h ≤ 23 ∧ m ≤ 59) := by
    unfold D.zoneB; rw [hzone]; split <;> simp [*]
  rw [hzN, hzB]
  generalize hr : (if h ≤ 23 ∧ m ≤ 59 then ((h * 3600 + m * 60 : Nat) : Int) else 0) = r at cm
  generalize hq : decide (h ≤ 23 ∧ m ≤ 59) = q at cm
  have hrb : 0 ≤ r ∧ r ≤ 1000000 := by rw [← hr]; split <;> omega
  obtain ⟨hrb0, hrb1⟩ := hrb
  generalize hz2 : (if h ≤ 23 ∧ m ≤ 59 then (if c = 45 then -((h * 3600 + m * 60 : Nat) : Int) else ((h * 3600 + m * 60 : Nat) : Int)) else 0) = z
  have z43 : c = 43 → r = z := fun e => by rw [← hr, ← hz2, e]; rfl
  have z45 : c = 45 → -r = z := fun e => by rw [← hr, ← hz2, e]; split <;> rfl
  clear hz2 hr hzN hzB hzone hh hm d1 d4 h0 hfit hf hfl f6 hzt hq hc h48
  go_enter Tryz.func154, Tryz.ntmps154
  rcases hcf with ⟨rfl, rfl⟩ | ⟨rfl, rfl⟩
  · have z1 := Lib.hid (z43 rfl)
    clear z43 z45 cn
    go_wp2_with fail
    (with_reducible refine (cy _).mono ?_); rintro e w1 ⟨rfl, b3⟩
    go_wp2_with fail
    (with_reducible refine (cm _).mono ?_); rintro e w2 ⟨rfl, b4⟩
    clear cm cy
    have bb := b3.trans (b4.mono b3.size)
    go_wp2
    go_ret2
    exact ⟨ret_zone z1.out rfl, bb⟩
  · have z1 := Lib.hid (z45 rfl)
    have cn2 := fun w => cn w rfl
    clear cn
    clear z43 z45
    go_wp2_with fail
    (with_reducible refine (cn2 _).mono ?_); rintro e w1 ⟨rfl, b2⟩
    go_wp2_with fail
    (with_reducible refine (cy _).mono ?_); rintro e w2 ⟨rfl, b3⟩
    go_wp2_with fail
    (with_reducible refine (cm _).mono ?_); rintro e w3 ⟨rfl, b4⟩
    clear cm cy cn2
    have b5 := b2.trans (b3.mono b2.size)
    have bb := b5.trans (b4.mono b5.size)
    go_wp2
    go_ret2
    exact ⟨ret_zone z1.out rfl, bb⟩

set_option maxRecDepth 100000 in
set_option maxHeartbeats 3200000 in
theorem gSeconds_any (s : ByteArray) (w : World) (hs : s.size ≤ maxLen) :
    Calls Tryz.prog 154 #[.string s] w fun e w' => e = .returned (.tuple #[.int .i64 (D.zoneN s.data.toList), .bool (D.zoneB s.data.toList)]) ∧ Below w.heap.size w w' := by
  have hsm : s.size ≤ 9223372036854775807 := hs
  by_cases hz : s.data.toList = [90]
  · go_enter Tryz.func154, Tryz.ntmps154
    obtain ⟨r1, r2⟩ := D.zone_some (l := s.data.toList) (if_pos hz)
    replace r1 := Lib.hid r1
    replace r2 := Lib.hid r2
    have hz' := txt_is hz
    clear hz
    go_wp2
    go_ret2
    exact ⟨ret_zone r1.out.symm r2.out.symm, Below.refl _ _⟩
  by_cases ha : D.Fits aheadForm.data.toList s.data.toList
  · by_cases h6 : s.size = 6
    · exact gSeconds_six s aheadForm 43 w h6 (.inl ⟨rfl, rfl⟩) ha
    · have h6l := fits_le ha
      have hb : ¬ D.Fits behindForm.data.toList s.data.toList := fun hb => by
        have hx := ((zone_fits (c := 43) (by decide) _).1 ha).2.1
        have hy := ((zone_fits (c := 45) (by decide) _).1 hb).2.1
        rw [hx] at hy
        exact absurd (Option.some.inj hy) (by decide)
      obtain ⟨r1, r2⟩ := D.zone_none (zone_other hz (fun e => h6 (by rw [← list_len s]; exact e.1)))
      have c1 := fun w => gCut_yes s aheadForm (s.extract 0 6) (s.extract 6 s.size) w hs (by decide) ha (take_list s 6) (drop_list s 6)
      have c2 := fun w => gCut_no s behindForm w hs (by decide) hb
      have hr : ¬ (s.extract 6 s.size).data.toList = [] := by
        rw [drop_list]
        intro e
        have := congrArg List.length e
        rw [List.length_drop, list_len] at this
        have h7 : aheadForm.size = 6 := rfl
        simp at this
        omega
      have hr1 := txt_ne hr
      have hz' := txt_ne hz
      generalize s.extract 6 s.size = u at *
      generalize s.extract 0 6 = v at *
      replace r1 := Lib.hid r1
      replace r2 := Lib.hid r2
      clear hz hb ha hr
      go_enter Tryz.func154, Tryz.ntmps154
      go_wp2_with fail
      (with_reducible refine (c1 _).mono ?_); rintro e w1 ⟨rfl, b1⟩
      go_wp2_with fail
      (with_reducible refine (c2 _).mono ?_); rintro e w2 ⟨rfl, b2⟩
      have bb := b1.trans (b2.mono b1.size)
      clear c1 c2
      go_wp2
      go_ret2
      exact ⟨ret_zone r1.out.symm r2.out.symm, bb⟩
  · have c1 := fun w => gCut_no s aheadForm w hs (by decide) ha
    by_cases hb : D.Fits behindForm.data.toList s.data.toList
    · by_cases h6 : s.size = 6
      · exact gSeconds_six s behindForm 45 w h6 (.inr ⟨rfl, rfl⟩) hb
      · have h6l := fits_le hb
        obtain ⟨r1, r2⟩ := D.zone_none (zone_other hz (fun e => h6 (by rw [← list_len s]; exact e.1)))
        have c2 := fun w => gCut_yes s behindForm (s.extract 0 6) (s.extract 6 s.size) w hs (by decide) hb (take_list s 6) (drop_list s 6)
        have hr : ¬ (s.extract 6 s.size).data.toList = [] := by
          rw [drop_list]
          intro e
          have := congrArg List.length e
          rw [List.length_drop, list_len] at this
          have h7 : behindForm.size = 6 := rfl
          simp at this
          omega
        have hr1 := txt_ne hr
        have hz' := txt_ne hz
        generalize s.extract 6 s.size = u at *
        generalize s.extract 0 6 = v at *
        replace r1 := Lib.hid r1
        replace r2 := Lib.hid r2
        clear hz hb ha hr
        go_enter Tryz.func154, Tryz.ntmps154
        go_wp2_with fail
        (with_reducible refine (c1 _).mono ?_); rintro e w1 ⟨rfl, b1⟩
        go_wp2_with fail
        (with_reducible refine (c2 _).mono ?_); rintro e w2 ⟨rfl, b2⟩
        have bb := b1.trans (b2.mono b1.size)
        clear c1 c2
        go_wp2
        go_ret2
        exact ⟨ret_zone r1.out.symm r2.out.symm, bb⟩
    · have c2 := fun w => gCut_no s behindForm w hs (by decide) hb
      obtain ⟨r1, r2⟩ := D.zone_none (zone_other hz (fun e => e.2.elim ha hb))
      have hz' := txt_ne hz
      replace r1 := Lib.hid r1
      replace r2 := Lib.hid r2
      clear hz hb ha
      go_enter Tryz.func154, Tryz.ntmps154
      go_wp2_with fail
      (with_reducible refine (c1 _).mono ?_); rintro e w1 ⟨rfl, b1⟩
      go_wp2_with fail
      (with_reducible refine (c2 _).mono ?_); rintro e w2 ⟨rfl, b2⟩
      have bb := b1.trans (b2.mono b1.size)
      clear c1 c2
      go_wp2
      go_ret2
      exact ⟨ret_zone r1.out.symm r2.out.symm, bb⟩
end Go.Proofs.YtdhondndidoniaaGreatDoor
namespace Go.Proofs.YtdhondndidoniaaGreatDoor
open Go.RowKit

theorem dv_four {l : List UInt8} (h : l.all D.dg = true) (hl : l.length ≤ 4) : D.dv l ≤ 9999 := by
  have := dv_lt h
  have := D.pow_le hl
  omega
namespace D
def dayOk (y mo d : Nat) : Bool := decide (1 ≤ mo ∧ mo ≤ 12 ∧ 1 ≤ d ∧ (d : Int) ≤ mlen y mo)
def secOk (h mi se : Nat) : Bool := decide (h ≤ 23 ∧ mi ≤ 59 ∧ se ≤ 59)
def dayN (y mo d : Nat) : Int := if dayOk y mo d = true then days y mo d else 0
def secN (h mi se : Nat) : Int := if secOk h mi se = true then ((h * 3600 + mi * 60 + se : Nat) : Int) else 0
theorem day_no {y mo d : Nat} (h : ¬ (1 ≤ mo ∧ mo ≤ 12 ∧ 1 ≤ d ∧ (d : Int) ≤ mlen y mo)) : dayN y mo d = 0 ∧ dayOk y mo d = false := by
  have : dayOk y mo d = false := decide_eq_false h
  exact ⟨by unfold dayN; rw [this]; rfl, this⟩
theorem day_yes {y mo d : Nat} (h : 1 ≤ mo ∧ mo ≤ 12 ∧ 1 ≤ d ∧ (d : Int) ≤ mlen y mo) : dayN y mo d = days y mo d ∧ dayOk y mo d = true := by
  have : dayOk y mo d = true := decide_eq_true h
  exact ⟨by unfold dayN; rw [this]; rfl, this⟩
theorem sec_no {h mi se : Nat} (x : ¬ (h ≤ 23 ∧ mi ≤ 59 ∧ se ≤ 59)) : secN h mi se = 0 ∧ secOk h mi se = false := by
  have : secOk h mi se = false := decide_eq_false x
  exact ⟨by unfold secN; rw [this]; rfl, this⟩
theorem sec_yes {h mi se : Nat} (x : h ≤ 23 ∧ mi ≤ 59 ∧ se ≤ 59) : secN h mi se = ((h * 3600 + mi * 60 + se : Nat) : Int) ∧ secOk h mi se = true := by
  have : secOk h mi se = true := decide_eq_true x
  exact ⟨by unfold secN; rw [this]; rfl, this⟩
end D

set_option maxRecDepth 100000 in
set_option maxHeartbeats 1600000 in
theorem gDay_any (s : ByteArray) (y mo d : Nat) (w : World) (hs : s.size = 19) (d1 : ((s.data.toList.drop 0).take 4).all D.dg = true) (d2 : ((s.data.toList.drop 5).take 2).all D.dg = true) (d3 : ((s.data.toList.drop 8).take 2).all D.dg = true)
    (hy : D.dv ((s.data.toList.drop 0).take 4) = y) (hm : D.dv ((s.data.toList.drop 5).take 2) = mo) (hd : D.dv ((s.data.toList.drop 8).take 2) = d) :
    Calls Tryz.prog 155 #[.string s] w fun e w' => e = .returned (.tuple #[.int .i64 (D.dayN y mo d), .bool (D.dayOk y mo d)]) ∧ Below w.heap.size w w' := by
  have hsm : s.size ≤ maxLen := by rw [hs]; unfold maxLen; omega
  have b1 := dv_four d1 (by simp; omega)
  have b2 := dv_two d2 (by simp; omega)
  have b3 := dv_two d3 (by simp; omega)
  have c1 := fun (w : World) => gNumber_any (x := 0) (y := 4) s 0 4 w hsm (by omega) (by omega) d1 rfl rfl
  have c2 := fun (w : World) => gNumber_any (x := 5) (y := 7) s 5 2 w hsm (by omega) (by omega) d2 rfl rfl
  have c3 := fun (w : World) => gNumber_any (x := 8) (y := 10) s 8 2 w hsm (by omega) (by omega) d3 rfl rfl
  rw [hy] at b1 c1
  rw [hm] at b2 c2
  rw [hd] at b3 c3
  clear hy hm hd d1 d2 d3
  go_enter Tryz.func155, Tryz.ntmps155
  go_wp2_with fail
  (with_reducible refine (c1 _).mono ?_); rintro e w1 ⟨rfl, e1⟩
  go_wp2_with fail
  (with_reducible refine (c2 _).mono ?_); rintro e w2 ⟨rfl, e2⟩
  have e2 := e1.trans (e2.mono e1.size)
  go_wp2_with fail
  (with_reducible refine (c3 _).mono ?_); rintro e w3 ⟨rfl, e3⟩
  have e3 := e2.trans (e3.mono e2.size)
  clear c1 c2 c3 e1 hs hsm
  by_cases hmo : 1 ≤ mo ∧ mo ≤ 12
  · have m1 : (1 : Int) ≤ (mo : Int) := by omega
    have m2 : (mo : Int) ≤ 12 := by omega
    by_cases hda : 1 ≤ d ∧ (d : Int) ≤ D.mlen y mo
    · obtain ⟨r1, r2⟩ := D.day_yes (y := y) ⟨hmo.1, hmo.2, hda.1, hda.2⟩
      have hml := D.mlen_le y mo
      have hdb := D.days_bd (y := y) (m := mo) (d := d) (by omega) (by omega) m1 m2 (by omega) hda.2
      have a1 : (1 : Int) ≤ (d : Int) := by omega
      have a2 := hda.2
      have cD := fun w => gDayOf_any (y : Int) (mo : Int) (d : Int) w (by omega) (by omega) m1 m2 a1 (by omega)
      have cL := fun w => gLastDay_any (y : Int) (mo : Int) w (by omega)
      have cW := fun w => gWithin_yes (d : Int) 1 (D.mlen y mo) w a1 a2
      replace r1 := Lib.hid r1
      replace r2 := Lib.hid r2
      clear hmo hda hdb hml a2
      go_wp2_with fail
      (with_reducible refine (gWithin_yes _ _ _ _ m1 m2).mono ?_); rintro e w1 ⟨rfl, rfl⟩
      go_wp2_with fail
      (with_reducible refine (cL _).mono ?_); rintro e w1 ⟨rfl, rfl⟩
      go_wp2_with fail
      (with_reducible refine (cW _).mono ?_); rintro e w1 ⟨rfl, rfl⟩
      go_wp2_with fail
      (with_reducible refine (cD _).mono ?_); rintro e w1 ⟨rfl, rfl⟩
      clear cD cL cW
      go_wp2
      go_ret2
      exact ⟨ret_zone r1.out.symm r2.out.symm, e3⟩
    · obtain ⟨r1, r2⟩ := D.day_no (y := y) (mo := mo) (d := d) (fun h => hda h.2.2)
      have cL := fun w => gLastDay_any (y : Int) (mo : Int) w (by omega)
      have cW := fun w => gWithin_no (d : Int) 1 (D.mlen y mo) w (by omega)
      replace r1 := Lib.hid r1
      replace r2 := Lib.hid r2
      clear hmo hda
      go_wp2_with fail
      (with_reducible refine (gWithin_yes _ _ _ _ m1 m2).mono ?_); rintro e w1 ⟨rfl, rfl⟩
      go_wp2_with fail
      (with_reducible refine (cL _).mono ?_); rintro e w1 ⟨rfl, rfl⟩
      go_wp2_with fail
      (with_reducible refine (cW _).mono ?_); rintro e w1 ⟨rfl, rfl⟩
      clear cL cW
      go_wp2
      go_ret2
      exact ⟨ret_zone r1.out.symm r2.out.symm, e3⟩
  · obtain ⟨r1, r2⟩ := D.day_no (y := y) (mo := mo) (d := d) (fun h => hmo ⟨h.1, h.2.1⟩)
    have cW := fun w => gWithin_no (mo : Int) 1 12 w (by omega)
    replace r1 := Lib.hid r1
    replace r2 := Lib.hid r2
    clear hmo
    go_wp2_with fail
    (with_reducible refine (cW _).mono ?_); rintro e w1 ⟨rfl, rfl⟩
    clear cW
    go_wp2
    go_ret2
    exact ⟨ret_zone r1.out.symm r2.out.symm, e3⟩

set_option maxRecDepth 100000 in
set_option maxHeartbeats 1600000 in
theorem gSecond_any (s : ByteArray) (h mi se : Nat) (w : World) (hs : s.size = 19) (d1 : ((s.data.toList.drop 11).take 2).all D.dg = true) (d2 : ((s.data.toList.drop 14).take 2).all D.dg = true) (d3 : ((s.data.toList.drop 17).take 2).all D.dg = true)
    (hy : D.dv ((s.data.toList.drop 11).take 2) = h) (hm : D.dv ((s.data.toList.drop 14).take 2) = mi) (hd : D.dv ((s.data.toList.drop 17).take 2) = se) :
    Calls Tryz.prog 156 #[.string s] w fun e w' => e = .returned (.tuple #[.int .i64 (D.secN h mi se), .bool (D.secOk h mi se)]) ∧ Below w.heap.size w w' := by
  have hsm : s.size ≤ maxLen := by rw [hs]; unfold maxLen; omega
  have b1 := dv_two d1 (by simp; omega)
  have b2 := dv_two d2 (by simp; omega)
  have b3 := dv_two d3 (by simp; omega)
  have c3 := fun (w : World) => gNumber_any (x := 17) (y := 19) s 17 2 w hsm (by omega) (by omega) d3 rfl rfl
  have cm := fun (w : World) => gMinutes_any (x := 11) s 11 h mi w hsm (by omega) (by omega) d1 d2 hy hm rfl
  rw [hy] at b1
  rw [hm] at b2
  rw [hd] at b3 c3
  clear hy hm hd d1 d2 d3
  go_enter Tryz.func156, Tryz.ntmps156
  go_wp2_with fail
  (with_reducible refine (c3 _).mono ?_); rintro e w1 ⟨rfl, e1⟩
  go_wp2_with fail
  by_cases hmi : h ≤ 23 ∧ mi ≤ 59
  · have i1 : (if h ≤ 23 ∧ mi ≤ 59 then ((h * 3600 + mi * 60 : Nat) : Int) else 0) = ((h * 3600 + mi * 60 : Nat) : Int) := if_pos hmi
    rw [i1, decide_eq_true hmi] at cm
    obtain ⟨k, hk⟩ : ∃ k, h * 3600 + mi * 60 = k := ⟨_, rfl⟩
    have hkb : k ≤ 1000000 := by omega
    rw [hk] at cm
    (with_reducible refine (cm _).mono ?_); rintro e w2 ⟨rfl, e2⟩
    have e2 := e1.trans (e2.mono e1.size)
    clear i1 cm c3
    by_cases hse : se ≤ 59
    · obtain ⟨r1, r2⟩ := D.sec_yes ⟨hmi.1, hmi.2, hse⟩
      rw [hk] at r1
      replace r1 := Lib.hid r1
      replace r2 := Lib.hid r2
      clear hmi hk
      go_wp2
      go_ret2
      exact ⟨ret_zone (by rw [r1.out]; omega) r2.out.symm, e2⟩
    · obtain ⟨r1, r2⟩ := D.sec_no (h := h) (mi := mi) (se := se) (fun e => hse e.2.2)
      replace r1 := Lib.hid r1
      replace r2 := Lib.hid r2
      clear hmi hk
      go_wp2
      go_ret2
      exact ⟨ret_zone r1.out.symm r2.out.symm, e2⟩
  · have i1 : (if h ≤ 23 ∧ mi ≤ 59 then ((h * 3600 + mi * 60 : Nat) : Int) else 0) = 0 := if_neg hmi
    rw [i1, decide_eq_false hmi] at cm
    (with_reducible refine (cm _).mono ?_); rintro e w2 ⟨rfl, e2⟩
    have e2 := e1.trans (e2.mono e1.size)
    obtain ⟨r1, r2⟩ := D.sec_no (h := h) (mi := mi) (se := se) (fun e => hmi ⟨e.1, e.2.1⟩)
    replace r1 := Lib.hid r1
    replace r2 := Lib.hid r2
    clear i1 cm c3 hmi
    go_wp2
    go_ret2
    exact ⟨ret_zone r1.out.symm r2.out.symm, e2⟩
end Go.Proofs.YtdhondndidoniaaGreatDoor
