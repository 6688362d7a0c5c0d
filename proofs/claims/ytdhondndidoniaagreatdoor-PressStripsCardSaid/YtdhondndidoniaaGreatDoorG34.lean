/-
  What the program's own words of numbers as texts come to: contracts of Repeat (at a nought), padded, dayText, secondText, fractionText.
-/
import Derived.Test.YtdhondndidoniaaGreatDoorG21
import Derived.Test.YtdhondndidoniaaGreatDoorG23
import Derived.Test.YtdhondndidoniaaGreatDoorG33
import Derived.Test.YtdhondndidoniaaGreatDoorShelf
import Derived.Test.YtdhondndidoniaaGreatDoorShelf2
namespace Go.Proofs.YtdhondndidoniaaGreatDoor
open Go.RowKit

theorem below_grown (w : World) (q : Nat) (os : Array Obj) : Below w.heap.size w (Go.Sort.grow (w.drewN q) os) :=
  ⟨rfl, rfl, rfl, by simp [Go.Sort.grow], fun i hi => by
    show ((w.drewN q).heap ++ os)[i]? = _
    rw [Array.getElem?_append_left (by show i < w.heap.size; omega)]
    rfl⟩
theorem itoa_any (n : Nat) (t : ByteArray) (w : World) (hn : n ≤ 1000000000) (hE : Env w) (ht : t.data.toList = Lib.decDigits n) :
    Calls Tryz.prog 124 #[.int .i64 (n : Int)] w fun e w' => e = .returned (.string t) ∧ Below w.heap.size w w' := by
  refine (Tryz.strconv_Itoa (n : Int) (by omega) (by omega) w hE.tab).mono ?_
  rintro e w' ⟨rfl, k, os, rfl⟩
  have : (⟨(Lib.itoa (n : Int)).toArray⟩ : ByteArray) = t := bytes_eq (by rw [ht, D.itoa_nn (by omega)]; simp)
  rw [this]
  exact ⟨rfl, below_grown _ _ _⟩

theorem mul_any (c : Nat) {x y : Int} (w : World) (hc : c ≤ 9) (hx : x = 1) (hy : y = (c : Int)) :
    Calls Tryz.prog 158 #[.int .u64 x, .int .u64 y] w fun e w' => e = .returned (.tuple #[.int .u64 0, .int .u64 (c : Int)]) ∧ w = w' := by
  subst hx hy
  refine (Tryz.bits_Mul 1 c (by omega) (by omega) w).mono ?_
  rintro e w' ⟨rfl, rfl⟩
  have h1 : 1 * c / 18446744073709551616 = 0 := by omega
  have h2 : 1 * c % 18446744073709551616 = c := by omega
  rw [h1, h2]
  exact ⟨rfl, rfl⟩

set_option maxRecDepth 100000 in
set_option maxHeartbeats 3200000 in
theorem repeat_any (c : Nat) {x : Int} (t : ByteArray) (w : World) (hc : c ≤ 9) (hx : x = (c : Int)) (ht : t.data.toList = List.replicate c 48) :
    Calls Tryz.prog 125 #[.string ⟨#[48]⟩, .int .i64 x] w fun e w' => e = .returned (.string t) ∧ w = w' := by
  subst hx
  have ht := Lib.hid ht
  go_enter Tryz.func125, Tryz.ntmps125
  by_cases h0 : c = 0
  · subst h0
    go_wp2
    go_ret
    exact ⟨ret_str (bytes_eq (by rw [ht.out]; rfl)), rfl⟩
  by_cases h1 : c = 1
  · subst h1
    go_wp2
    go_ret
    exact ⟨ret_str (bytes_eq (by rw [ht.out]; rfl)), rfl⟩
  go_wp2_with fail
  (with_reducible refine (mul_any c _ hc rfl rfl).mono ?_); rintro e w1 ⟨rfl, rfl⟩
  go_wp2_with fail
  (with_reducible refine (Tryz.strings_HasPrefix _ _ _).mono ?_); rintro e w1 ⟨rfl, rfl⟩
  generalize hq : Lib.hasPrefix _ _ = q
  obtain rfl : q = false := by rw [← hq]; rfl
  clear hq
  go_wp2_with fail
  (with_reducible refine (Tryz.strings_HasPrefix _ _ _).mono ?_); rintro e w1 ⟨rfl, rfl⟩
  generalize hq : Lib.hasPrefix _ _ = q
  obtain rfl : q = false := by rw [← hq]; rfl
  clear hq
  go_wp2_with fail
  (with_reducible refine (Tryz.strings_HasPrefix _ _ _).mono ?_); rintro e w1 ⟨rfl, rfl⟩
  generalize hq : Lib.hasPrefix _ _ = q
  obtain rfl : q = true := by rw [← hq]; rfl
  clear hq
  go_wp2
  go_ret
  refine ⟨ret_str (bytes_eq ?_), rfl⟩
  rw [ht.out, take_list]
  show (List.replicate 64 (48 : UInt8)).take c = _
  rw [List.take_replicate, Nat.min_eq_left (by omega)]

/-! ### a number in so many digits -/
theorem cat_list (a b : ByteArray) : (a ++ b : ByteArray).data.toList = a.data.toList ++ b.data.toList := by simp
set_option maxRecDepth 100000 in
set_option maxHeartbeats 1600000 in
theorem gPad_any (n k : Nat) {x y : Int} (t : ByteArray) (w : World) (hE : Env w) (hk1 : 1 ≤ k) (hk : k ≤ 9) (hn : n < 10 ^ k) (hx : x = (n : Int)) (hy : y = (k : Int)) (ht : t.data.toList = D.dig k n) :
    Calls Tryz.prog 93 #[.int .i64 x, .int .i64 y] w fun e w' => e = .returned (.string t) ∧ Below w.heap.size w w' := by
  subst hx hy
  obtain ⟨k, rfl⟩ : ∃ j, k = j + 1 := ⟨k - 1, by omega⟩
  have hn9 : n < 1000000000 := Nat.lt_of_lt_of_le hn (Nat.pow_le_pow_right (n := 10) (by omega) hk)
  have hdl := D.dec_length hn
  have hpd := D.pad_dig k n hn
  obtain ⟨u, hu⟩ : ∃ u : ByteArray, u.data.toList = Lib.decDigits n := ⟨⟨(Lib.decDigits n).toArray⟩, rfl⟩
  have hus : u.size = (Lib.decDigits n).length := by rw [← hu, list_len]
  obtain ⟨z, hz⟩ : ∃ z : ByteArray, z.data.toList = List.replicate (k + 1 - u.size) 48 := ⟨⟨(List.replicate (k + 1 - u.size) 48).toArray⟩, rfl⟩
  have hzs : z.size = k + 1 - u.size := by rw [← list_len, hz, List.length_replicate]
  have hul : u.size ≤ k + 1 := by omega
  have c1 := fun w hE => itoa_any n u w (by omega) hE hu
  have c2 := fun (x : Int) w hx => repeat_any (x := x) (k + 1 - u.size) z w (by omega) hx hz
  have hzt : z ++ u = t := bytes_eq (by rw [cat_list, hz, hu, ht, ← hpd, hus])
  have hzl : z.size ≤ 9 := by omega
  clear hz hu hpd ht hdl hus hn
  replace hzs := Lib.hid hzs
  replace hzt := Lib.hid hzt
  go_enter Tryz.func93, Tryz.ntmps93
  go_wp2_with fail
  (with_reducible refine (c1 _ hE).mono ?_); rintro e w1 ⟨rfl, b1⟩
  have e1 : IntKind.i64.wrap (((k + 1 : Nat) : Int) - (u.size : Int)) = ((k + 1 - u.size : Nat) : Int) := by rw [IntWalk.i64_left, IntWalk.wrap64_in _ (by omega)]; omega
  go_wp2_with fail
  (with_reducible refine (c2 _ _ (by omega)).mono ?_); rintro e w2 ⟨rfl, rfl⟩
  go_wp2
  go_ret
  exact ⟨ret_str hzt.out, b1⟩

theorem dig_sz {t : ByteArray} {k n : Nat} (h : t.data.toList = D.dig k n) : t.size = k := by rw [← list_len, h, D.dig_length]
theorem dig_ex (k n : Nat) : ∃ t : ByteArray, t.data.toList = D.dig k n := ⟨⟨(D.dig k n).toArray⟩, rfl⟩

set_option maxRecDepth 100000 in
set_option maxHeartbeats 1600000 in
theorem gDayText_any (n : Int) (t : ByteArray) (w : World) (hE : Env w) (h1 : -719528 ≤ n) (h2 : n < 2932897) (ht : t.data.toList = D.ymd (D.yOf n).toNat (D.mOf n).toNat (D.dOf n).toNat) :
    Calls Tryz.prog 46 #[.int .i64 n] w fun e w' => e = .returned (.string t) ∧ Below w.heap.size w w' := by
  obtain ⟨hD, -⟩ := D.day_of h1 h2
  obtain ⟨-, -, y0, y9⟩ := D.y_spec h1 h2
  obtain ⟨m1, m2, d1, d2⟩ := hD
  have d3 := (D.mlen_le (D.yOf n) (D.mOf n)).2
  have c0 := fun w => gDateOf_any n w h1 h2
  generalize D.mlen (D.yOf n) (D.mOf n) = ml at d2 d3
  obtain ⟨y, hy⟩ : ∃ y : Nat, D.yOf n = (y : Int) := ⟨(D.yOf n).toNat, by omega⟩
  obtain ⟨m, hm⟩ : ∃ m : Nat, D.mOf n = (m : Int) := ⟨(D.mOf n).toNat, by omega⟩
  obtain ⟨d, hd⟩ : ∃ d : Nat, D.dOf n = (d : Int) := ⟨(D.dOf n).toNat, by omega⟩
  rw [hy, hm, hd] at c0 ht
  rw [Int.toNat_natCast, Int.toNat_natCast, Int.toNat_natCast] at ht
  obtain ⟨t1, l1⟩ := dig_ex 4 y
  obtain ⟨t2, l2⟩ := dig_ex 2 m
  obtain ⟨t3, l3⟩ := dig_ex 2 d
  have z1 := dig_sz l1
  have z2 := dig_sz l2
  have z3 := dig_sz l3
  have e : t1 ++ ⟨#[45]⟩ ++ t2 ++ ⟨#[45]⟩ ++ t3 = t := bytes_eq (by rw [ht]; simp [l1, l2, l3, D.ymd])
  have c1 := fun w hE => gPad_any (x := (y : Int)) (y := 4) y 4 t1 w hE (by omega) (by omega) (by omega) rfl rfl l1
  have c2 := fun w hE => gPad_any (x := (m : Int)) (y := 2) m 2 t2 w hE (by omega) (by omega) (by omega) rfl rfl l2
  have c3 := fun w hE => gPad_any (x := (d : Int)) (y := 2) d 2 t3 w hE (by omega) (by omega) (by omega) rfl rfl l3
  clear ht hy hm hd l1 l2 l3 y0 y9 m1 m2 d1 d2 d3
  have n1 : t1.size ≤ 4 := by omega
  have n2 : t2.size ≤ 2 := by omega
  have n3 : t3.size ≤ 2 := by omega
  clear z1 z2 z3
  replace e := Lib.hid e
  go_enter Tryz.func46, Tryz.ntmps46
  go_wp2_with fail
  (with_reducible refine (c0 _).mono ?_); rintro e w1 ⟨rfl, rfl⟩
  go_wp2_with fail
  (with_reducible refine (c1 _ hE).mono ?_); rintro e w1 ⟨rfl, b1⟩
  go_wp2_with fail
  (with_reducible refine (c2 _ (hE.on b1)).mono ?_); rintro e w2 ⟨rfl, b2⟩
  have b2 := b1.trans (b2.mono b1.size)
  go_wp2_with fail
  (with_reducible refine (c3 _ (hE.on b2)).mono ?_); rintro e w3 ⟨rfl, b3⟩
  have b3 := b2.trans (b3.mono b2.size)
  clear c0 c1 c2 c3
  go_wp2
  go_ret
  exact ⟨ret_str e.out, b3⟩

set_option maxRecDepth 100000 in
set_option maxHeartbeats 1600000 in
theorem gSecondText_any (r : Nat) (t : ByteArray) (w : World) (hE : Env w) (h : r < 86400) (ht : t.data.toList = D.hms r) :
    Calls Tryz.prog 47 #[.int .i64 (r : Int)] w fun e w' => e = .returned (.string t) ∧ Below w.heap.size w w' := by
  obtain ⟨t1, l1⟩ := dig_ex 2 (r / 3600)
  obtain ⟨t2, l2⟩ := dig_ex 2 (r / 60 % 60)
  obtain ⟨t3, l3⟩ := dig_ex 2 (r % 60)
  have z1 := dig_sz l1
  have z2 := dig_sz l2
  have z3 := dig_sz l3
  have e : t1 ++ ⟨#[58]⟩ ++ t2 ++ ⟨#[58]⟩ ++ t3 = t := bytes_eq (by rw [ht]; simp [l1, l2, l3, D.hms])
  have c1 := fun (x : Int) w hE hx => gPad_any (x := x) (y := 2) (r / 3600) 2 t1 w hE (by omega) (by omega) (by omega) hx rfl l1
  have c2 := fun (x : Int) w hE hx => gPad_any (x := x) (y := 2) (r / 60 % 60) 2 t2 w hE (by omega) (by omega) (by omega) hx rfl l2
  have c3 := fun (x : Int) w hE hx => gPad_any (x := x) (y := 2) (r % 60) 2 t3 w hE (by omega) (by omega) (by omega) hx rfl l3
  clear ht l1 l2 l3
  have n1 : t1.size ≤ 4 := by omega
  have n2 : t2.size ≤ 2 := by omega
  have n3 : t3.size ≤ 2 := by omega
  clear z1 z2 z3
  replace e := Lib.hid e
  go_enter Tryz.func47, Tryz.ntmps47
  go_wp2_with fail
  (with_reducible refine (c1 _ _ hE (by omega)).mono ?_); rintro e w1 ⟨rfl, b1⟩
  go_wp2_with fail
  (with_reducible refine (c2 _ _ (hE.on b1) (by omega)).mono ?_); rintro e w2 ⟨rfl, b2⟩
  have b2 := b1.trans (b2.mono b1.size)
  go_wp2_with fail
  (with_reducible refine (c3 _ _ (hE.on b2) (by omega)).mono ?_); rintro e w3 ⟨rfl, b3⟩
  have b3 := b2.trans (b3.mono b2.size)
  clear c1 c2 c3
  go_wp2
  go_ret
  exact ⟨ret_str e.out, b3⟩

theorem strip_trim (l : List UInt8) : Lib.trimRightB l 48 = D.strip l := by
  unfold Lib.trimRightB D.strip
  congr 2
theorem strip_size (l : List UInt8) : (D.strip l).length ≤ l.length := by
  obtain ⟨j, h, -⟩ := D.strip_spec l
  have := congrArg List.length h
  rw [List.length_append] at this
  omega

set_option maxRecDepth 100000 in
set_option maxHeartbeats 1600000 in
theorem gFractionText_any (nano : Int) (t : ByteArray) (w : World) (hE : Env w) (h0 : 0 ≤ nano) (h9 : nano ≤ 999999999) (ht : t.data.toList = D.frac nano) :
    Calls Tryz.prog 48 #[.int .i64 nano] w fun e w' => e = .returned (.string t) ∧ Below w.heap.size w w' := by
  by_cases hn : nano = 0
  · subst hn
    have e := Lib.hid (show (⟨#[]⟩ : ByteArray) = t from bytes_eq (by rw [ht]; rfl))
    clear ht
    go_enter Tryz.func48, Tryz.ntmps48
    go_wp2
    go_ret
    exact ⟨ret_str e.out, Below.refl _ _⟩
  · have hp : 0 < nano := by omega
    obtain ⟨t1, l1⟩ := dig_ex 9 nano.toNat
    have z1 := dig_sz l1
    have c1 := fun (x : Int) w hE hx => gPad_any (x := x) (y := 9) nano.toNat 9 t1 w hE (by omega) (by omega) (by omega) hx rfl l1
    obtain ⟨u, hu⟩ : ∃ u : ByteArray, (⟨(Lib.trimRightB t1.data.toList 48).toArray⟩ : ByteArray) = u := ⟨_, rfl⟩
    have hul : u.data.toList = D.strip (D.dig 9 nano.toNat) := by rw [← hu, strip_trim, l1]
    have e : ⟨#[46]⟩ ++ u = t := bytes_eq (by rw [ht, cat_list, hul]; unfold D.frac; rw [if_pos hp]; rfl)
    have hus : u.size ≤ 9 := by
      have := strip_size (D.dig 9 nano.toNat)
      rw [D.dig_length] at this
      rw [← list_len, hul]; exact this
    have n1 : t1.size ≤ 9 := by omega
    clear l1 z1 hul ht
    replace e := Lib.hid e
    replace hu := Lib.hid hu
    go_enter Tryz.func48, Tryz.ntmps48
    go_wp2_with fail
    (with_reducible refine (c1 _ _ hE (by omega)).mono ?_); rintro e w1 ⟨rfl, b1⟩
    clear c1
    go_wp2_with fail
    (with_reducible refine (Tryz.strings_TrimRight_one t1 48 (by decide) _ (by omega)).mono ?_); rintro e w2 ⟨rfl, rfl⟩
    rw [hu.out]
    go_wp2
    go_ret
    exact ⟨ret_str e.out, b1⟩
end Go.Proofs.YtdhondndidoniaaGreatDoor
