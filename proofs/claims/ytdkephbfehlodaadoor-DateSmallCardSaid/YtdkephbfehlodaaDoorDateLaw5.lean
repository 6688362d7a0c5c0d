/-
  The statements' walks: DateZones.
-/
import Derived.Test.YtdkephbfehlodaaDoorDateLaw4
namespace Go.Proofs.YtdkephbfehlodaaDoor
open Go.RowKit

theorem conv_cells (W : World) (g n cap : Nat) (l : List UInt8) (hn : l.length = n) (hW : ∀ j (h : j < l.length), W.cell? ⟨g, j, none⟩ = some (.int .u8 ((l[j]).toNat : Int))) : (convert 38 9 (.slice (some ⟨g, 0, none⟩) n cap)).run Tryd.prog W = .ok (.string ⟨l.toArray⟩) W := by
  subst hn
  exact run_convert_bytes_back (l := l) W 38 9 5 ⟨g, 0, none⟩ cap Tryd.underlying38 Tryd.underlying5 Tryd.underlying9 (fun j hj => by
    rw [show (⟨g, 0, none⟩ : Addr).add j = ⟨g, j, none⟩ by unfold Addr.add; split <;> simp_all]
    exact hW j hj)

/-- The cells of a row of bytes that has just been made. -/
theorem cells_new (w : World) (l : List UInt8) (T : TypeId) : ∀ j (h : j < l.length), (w.alloc (.cells (l.map fun b => .int .u8 (b.toNat : Int)).toArray T)).cell? ⟨w.heap.size, j, none⟩ = some (.int .u8 ((l[j]).toNat : Int)) := by
  intro j h
  unfold World.cell?
  rw [heap_alloc_new]
  simp [h]

theorem digit_nat {x : Nat} (h : x ≤ 9) : (UInt8.ofNat (48 + x)).toNat = 48 + x := by simp; omega

set_option maxHeartbeats 800000 in
theorem two_any (n : Nat) (w : World) (hn : n ≤ 255) : Calls Tryd.prog 17 #[.int .u8 (n : Int)] w fun e w' => e = .returned (.string ⟨(D.dig 2 n).toArray⟩) ∧ Below w.heap.size w w' := by
  obtain ⟨x, hx⟩ : ∃ x : Nat, (n : Int) / 10 % 10 = (x : Int) := ⟨n / 10 % 10, by omega⟩
  obtain ⟨y, hy⟩ : ∃ y : Nat, (n : Int) % 10 = (y : Int) := ⟨n % 10, by omega⟩
  have hx9 : x ≤ 9 := by omega
  have hy9 : y ≤ 9 := by omega
  obtain ⟨d, hd, hdx⟩ : ∃ d : UInt8, d.toNat = 48 + x ∧ UInt8.ofNat (48 + x) = d := ⟨_, digit_nat hx9, rfl⟩
  obtain ⟨e, he, hey⟩ : ∃ d : UInt8, d.toNat = 48 + y ∧ UInt8.ofNat (48 + y) = d := ⟨_, digit_nat hy9, rfl⟩
  have hde : D.dig 2 n = [d, e] := by
    rw [← hdx, ← hey, show x = n / 10 % 10 by omega, show y = n % 10 by omega]; rfl
  rw [hde]
  have hcv := conv_cells (w.alloc (.cells #[.int .u8 (48 + (x : Int)), .int .u8 (48 + (y : Int))] 5)) w.heap.size 2 2 [d, e] rfl (by
    have := cells_new w [d, e] 5
    simp only [List.map_cons, List.map_nil, hd, he, Int.natCast_add] at this
    exact this)
  clear hde hd he hdx hey
  go_enter Tryd.func17, Tryd.ntmps17
  go_wp2
  go_ret
  exact ⟨rfl, (Below.refl _ _).alloc (Nat.le_refl _) _⟩

namespace D
theorem z_plus {H M : Nat} (hH : H ≤ 23) (hM : M ≤ 59) : zone (43 :: (dig 2 H ++ 58 :: dig 2 M)) = some ((H : Int) * 3600 + (M : Int) * 60) := by
  have n1 : num (43 :: (dig 2 H ++ 58 :: dig 2 M)) 1 2 = (H : Int) := num_dig (k := 2) (n := H) [43] _ rfl (by omega)
  have n4 : num (43 :: (dig 2 H ++ 58 :: dig 2 M)) 4 2 = (M : Int) := by
    have := num_dig (43 :: (dig 2 H ++ [58])) [] (a := 4) (k := 2) (n := M) (by simp [dig_length]) (by omega)
    simpa using this
  unfold zone
  rw [if_neg (by simp), if_pos ⟨by simp [dig_length], by simp, by
    rw [show (43 :: (dig 2 H ++ 58 :: dig 2 M))[3]? = (dig 2 H ++ 58 :: dig 2 M)[2]? from rfl, List.getElem?_append_right (by rw [dig_length]; omega), dig_length]; rfl⟩, n1, n4, if_neg (by omega), if_neg (by simp)]
theorem z_minus {H M : Nat} (hH : H ≤ 23) (hM : M ≤ 59) : zone (45 :: (dig 2 H ++ 58 :: dig 2 M)) = some (-(H : Int) * 3600 - (M : Int) * 60) := by
  have n1 : num (45 :: (dig 2 H ++ 58 :: dig 2 M)) 1 2 = (H : Int) := num_dig (k := 2) (n := H) [45] _ rfl (by omega)
  have n4 : num (45 :: (dig 2 H ++ 58 :: dig 2 M)) 4 2 = (M : Int) := by
    have := num_dig (45 :: (dig 2 H ++ [58])) [] (a := 4) (k := 2) (n := M) (by simp [dig_length]) (by omega)
    simpa using this
  unfold zone
  rw [if_neg (by simp), if_pos ⟨by simp [dig_length], by simp, by
    rw [show (45 :: (dig 2 H ++ 58 :: dig 2 M))[3]? = (dig 2 H ++ 58 :: dig 2 M)[2]? from rfl, List.getElem?_append_right (by rw [dig_length]; omega), dig_length]; rfl⟩, n1, n4, if_neg (by omega), if_pos (by simp)]
/-- A text that is told, with another zone in the place of its own. -/
theorem zoned {a b : Int} (h : okB a b = true) (t u : ByteArray) (ht : t.data.toList = text a b) (c : UInt8) (z : List UInt8) (hu : u.data.toList = z) (hc : dg c = false) (hc2 : c ≠ 46) {q : Int} (hz : zone (c :: z) = some q) {K : Nat} (hK : t.size - 1 = K) :
    parse (t.extract 0 K ++ ⟨#[c]⟩ ++ u).data.toList = some (a - q, b) := by
  subst hK
  have hsz : t.size = (head a ++ frac b).length + 1 := by
    rw [← list_len, ht]
    unfold text
    rw [if_pos h]; simp; omega
  have e : (t.extract 0 (t.size - 1)).data.toList = head a ++ frac b := by
    rw [take_list, ht, hsz]
    unfold text
    rw [if_pos h, ← List.append_assoc, Nat.add_sub_cancel, List.take_left]
  rw [ByteArray.data_append, ByteArray.data_append, Array.toList_append, Array.toList_append, e, hu]
  have := parse_told a b z c q h hc hc2 hz
  simpa using this
end D

set_option maxRecDepth 100000 in
set_option maxHeartbeats 3200000 in
theorem zones_any (a b : Int) (h m : Nat) (w : World) (hh : h ≤ 255) (hm : m ≤ 255) (hE : Env w) : Calls Tryd.prog 8 #[.agg #[.int .i64 a, .int .i64 b], .int .u8 (h : Int), .int .u8 (m : Int)] w fun e w' => e = .returned (.bool true) ∧ Below w.heap.size w w' := by
  have x0 := (Below.refl w.heap.size w).alloc (Nat.le_refl _) (.cells #[.int .i64 a, .int .i64 b] 24)
  have p0 := pair_new w (.int .i64 a) (.int .i64 b) 24
  go_enter Tryd.func8, Tryd.ntmps8
  go_wp2_with fail
  (with_reducible refine (awake_any _ (hE.on x0)).mono ?_); rintro e w1 ⟨rfl, b1⟩
  have x1 := x0.trans (b1.mono x0.size)
  obtain ⟨c0, c1⟩ := p0.on b1
  clear p0 b1
  go_wp2_with fail
  (with_reducible refine (dPrint_any a b _ (hE.on x1)).mono ?_); rintro e w2 ⟨rfl, b2⟩
  have x2 := x1.trans (b2.mono x1.size)
  have p2 := (PairIn.mk c0 c1).on b2
  clear c0 c1 b2 x0 x1
  rcases Bool.eq_false_or_eq_true (D.okB a b) with ok | ok
  · obtain ⟨r1, r2, -, -⟩ := D.ok_iff.1 ok
    have hte := (D.told_back ok).1
    obtain ⟨t, ht⟩ : ∃ t : ByteArray, (⟨(D.text a b).toArray⟩ : ByteArray) = t := ⟨_, rfl⟩
    have htl : t.data.toList = D.text a b := by rw [← ht]
    have hlen : 20 ≤ t.size ∧ t.size ≤ 30 := by
      rw [← list_len, htl]
      refine ⟨?_, D.text_length a b⟩
      unfold D.text
      rw [if_pos ok, List.length_append, D.head_length]; simp; omega
    obtain ⟨K, hK⟩ : ∃ K, t.size - 1 = K := ⟨_, rfl⟩
    have hK1 : (t.size : Int) - 1 = (K : Int) := by omega
    have hK2 : K ≤ t.size := by omega
    have hK3 : K ≤ 29 := by omega
    obtain ⟨H, hH⟩ : ∃ H : Nat, (h : Int) % 24 = (H : Int) := ⟨h % 24, by omega⟩
    obtain ⟨M, hM⟩ : ∃ M : Nat, (m : Int) % 60 = (M : Int) := ⟨m % 60, by omega⟩
    have hH2 : H ≤ 23 := by omega
    have hM2 : M ≤ 59 := by omega
    obtain ⟨H1, hH1⟩ : ∃ x : Nat, (H : Int) / 10 = (x : Int) := ⟨H / 10, by omega⟩
    obtain ⟨H0, hH0⟩ : ∃ x : Nat, (H : Int) % 10 = (x : Int) := ⟨H % 10, by omega⟩
    obtain ⟨M1, hM1⟩ : ∃ x : Nat, (M : Int) / 10 = (x : Int) := ⟨M / 10, by omega⟩
    obtain ⟨M0, hM0⟩ : ∃ x : Nat, (M : Int) % 10 = (x : Int) := ⟨M % 10, by omega⟩
    have l1 : H1 ≤ 9 := by omega
    have l2 : H0 ≤ 9 := by omega
    have l3 : M1 ≤ 9 := by omega
    have l4 : M0 ≤ 9 := by omega
    obtain ⟨d1, n1, hd1⟩ : ∃ d : UInt8, d.toNat = 48 + H1 ∧ UInt8.ofNat (48 + H1) = d := ⟨_, digit_nat l1, rfl⟩
    obtain ⟨d2, n2, hd2⟩ : ∃ d : UInt8, d.toNat = 48 + H0 ∧ UInt8.ofNat (48 + H0) = d := ⟨_, digit_nat l2, rfl⟩
    obtain ⟨d3, n3, hd3⟩ : ∃ d : UInt8, d.toNat = 48 + M1 ∧ UInt8.ofNat (48 + M1) = d := ⟨_, digit_nat l3, rfl⟩
    obtain ⟨d4, n4, hd4⟩ : ∃ d : UInt8, d.toNat = 48 + M0 ∧ UInt8.ofNat (48 + M0) = d := ⟨_, digit_nat l4, rfl⟩
    have hz : [d1, d2, 58, d3, d4] = D.dig 2 H ++ 58 :: D.dig 2 M := by
      rw [← hd1, ← hd2, ← hd3, ← hd4, show H1 = H / 10 % 10 by omega, show H0 = H % 10 by omega, show M1 = M / 10 % 10 by omega, show M0 = M % 10 by omega]; rfl
    have hcv := conv_cells (w2.alloc (.cells #[.int .u8 (48 + (H1 : Int)), .int .u8 (48 + (H0 : Int)), .int .u8 58, .int .u8 (48 + (M1 : Int)), .int .u8 (48 + (M0 : Int))] 5)) w2.heap.size 5 5 [d1, d2, 58, d3, d4] rfl (by
      have := cells_new w2 [d1, d2, 58, d3, d4] 5
      simp only [List.map_cons, List.map_nil, n1, n2, n3, n4, Int.natCast_add] at this
      exact this)
    obtain ⟨X, hX⟩ : ∃ X, a - (H : Int) * 3600 - (M : Int) * 60 = X := ⟨_, rfl⟩
    obtain ⟨Y, hY⟩ : ∃ X, a + (H : Int) * 3600 + (M : Int) * 60 = X := ⟨_, rfl⟩
    obtain ⟨k1, k2, k3⟩ := D.pa_some (D.zoned ok t ⟨#[d1, d2, 58, d3, d4]⟩ htl 43 _ hz (by decide) (by decide) (D.z_plus hH2 hM2) hK)
    obtain ⟨k4, k5, k6⟩ := D.pa_some (D.zoned ok t ⟨#[d1, d2, 58, d3, d4]⟩ htl 45 _ hz (by decide) (by decide) (D.z_minus hH2 hM2) hK)
    rw [show a - ((H : Int) * 3600 + (M : Int) * 60) = X by omega] at k1
    rw [show a - (-(H : Int) * 3600 - (M : Int) * 60) = Y by omega] at k4
    replace k1 := Lib.hid k1
    replace k2 := Lib.hid k2
    replace k3 := Lib.hid k3
    replace k4 := Lib.hid k4
    replace k5 := Lib.hid k5
    replace k6 := Lib.hid k6
    rw [ht, hte]
    clear ht hte htl hK n1 n2 n3 n4 hd1 hd2 hd3 hd4 hz ok
    have x3 := x2.alloc x2.size (.cells #[.int .u8 (48 + (H1 : Int)), .int .u8 (48 + (H0 : Int)), .int .u8 58, .int .u8 (48 + (M1 : Int)), .int .u8 (48 + (M0 : Int))] 5)
    have p3 := p2.on ((Below.refl _ w2).alloc (Nat.le_refl _) (.cells #[.int .u8 (48 + (H1 : Int)), .int .u8 (48 + (H0 : Int)), .int .u8 58, .int .u8 (48 + (M1 : Int)), .int .u8 (48 + (M0 : Int))] 5))
    replace x3 := Lib.hid x3
    replace p3 := Lib.hid p3
    clear x2 p2
    go_wp2_with fail
    (with_reducible refine (dParse_any _ _ (by rw [ByteArray.size_append, ByteArray.size_append, ByteArray.size_extract, show (⟨#[43]⟩ : ByteArray).size = 1 from rfl, show (⟨#[d1, d2, 58, d3, d4]⟩ : ByteArray).size = 5 from rfl]; omega) (hE.on x3.out)).mono ?_); rintro e w4 ⟨rfl, b4⟩
    rw [k1.out, k2.out, k3.out]
    have x4 := Lib.hid (x3.out.trans (b4.mono x3.out.size))
    have p4 := Lib.hid (p3.out.on b4)
    clear b4 p3 x3 k1 k2 k3 hcv
    have x5 := Lib.hid (x4.out.alloc x4.out.size (.cells #[.int .i64 X, .int .i64 b] 24))
    have p5 := Lib.hid (p4.out.on ((Below.refl _ w4).alloc (Nat.le_refl _) (.cells #[.int .i64 X, .int .i64 b] 24)))
    have q5 := Lib.hid (pair_new w4 (.int .i64 X) (.int .i64 b) 24)
    clear x4 p4
    go_wp2_with fail
    (with_reducible refine (dParse_any _ _ (by rw [ByteArray.size_append, ByteArray.size_append, ByteArray.size_extract, show (⟨#[45]⟩ : ByteArray).size = 1 from rfl, show (⟨#[d1, d2, 58, d3, d4]⟩ : ByteArray).size = 5 from rfl]; omega) (hE.on x5.out)).mono ?_); rintro e w6 ⟨rfl, b6⟩
    rw [k4.out, k5.out, k6.out]
    have x6 := Lib.hid (x5.out.trans (b6.mono x5.out.size))
    have p6 := Lib.hid (p5.out.on b6)
    have q6 := Lib.hid (q5.out.on b6)
    clear b6 p5 q5 x5 k4 k5 k6
    have x7 := Lib.hid (x6.out.alloc x6.out.size (.cells #[.int .i64 Y, .int .i64 b] 24))
    obtain ⟨c0, c1⟩ := p6.out.on ((Below.refl _ w6).alloc (Nat.le_refl _) (.cells #[.int .i64 Y, .int .i64 b] 24))
    obtain ⟨d0, d1⟩ := q6.out.on ((Below.refl _ w6).alloc (Nat.le_refl _) (.cells #[.int .i64 Y, .int .i64 b] 24))
    obtain ⟨e0, e1⟩ := pair_new w6 (.int .i64 Y) (.int .i64 b) 24
    clear p6 q6 x6
    go_wp2
    go_ret
    exact ⟨rfl, x7.out⟩
  · obtain ⟨k1, k2⟩ := D.told_no ok
    rw [k1, k2]
    go_wp2
    go_ret
    exact ⟨rfl, x2⟩
end Go.Proofs.YtdkephbfehlodaaDoor
