/-
  The statements' walks: DateBack, DateOrder.
-/
import Derived.Test.YtdkephbfehlodaaDoorDateLaw
namespace Go.Proofs.YtdkephbfehlodaaDoor
open Go.RowKit

namespace D
theorem strip_length (l : List UInt8) : (strip l).length ≤ l.length := by
  obtain ⟨j, h, -⟩ := strip_spec l
  have := congrArg List.length h
  rw [List.length_append] at this; omega
theorem text_length (a b : Int) : (text a b).length ≤ 30 := by
  unfold text
  split
  · rw [List.length_append, head_length, List.length_append]
    have : (frac b).length ≤ 10 := by
      unfold frac
      split
      · have := strip_length (dig 9 b.toNat)
        rw [dig_length] at this
        rw [List.length_cons]; omega
      · simp
    simp; omega
  · simp
/-- What a text that is told reads as. -/
theorem told_back {a b : Int} (h : okB a b = true) : textE a b = 0 ∧ paS (text a b) = a ∧ paN (text a b) = b ∧ paE (text a b) = 0 := by
  refine ⟨?_, pa_some (text_back h)⟩
  unfold textE; rw [if_pos h]
theorem told_no {a b : Int} (h : okB a b = false) : textE a b = 110 ∧ text a b = [] := by
  unfold textE text; rw [h]; exact ⟨rfl, rfl⟩
end D

theorem text_size (a b : Int) : (⟨(D.text a b).toArray⟩ : ByteArray).size ≤ 1000 := by
  rw [size_mk]; have := D.text_length a b; omega

set_option maxRecDepth 100000 in
set_option maxHeartbeats 3200000 in
theorem back_any (a b : Int) (s : ByteArray) (w : World) (_ : s.size ≤ maxLen) (hE : Env w) : Calls Tryd.prog 6 #[.agg #[.int .i64 a, .int .i64 b], .string s] w fun e w' => e = .returned (.bool true) ∧ Below w.heap.size w w' := by
  have x0 := (Below.refl w.heap.size w).alloc (Nat.le_refl _) (.cells #[.int .i64 a, .int .i64 b] 24)
  have p0 := pair_new w (.int .i64 a) (.int .i64 b) 24
  go_enter Tryd.func6, Tryd.ntmps6
  go_wp2_with fail
  (with_reducible refine (awake_any _ (hE.on x0)).mono ?_); rintro e w1 ⟨rfl, b1⟩
  have x1 := x0.trans (b1.mono x0.size)
  obtain ⟨c0, c1⟩ := p0.on b1
  clear p0 b1
  go_wp2_with fail
  (with_reducible refine (dPrint_any a b _ (hE.on x1)).mono ?_); rintro e w2 ⟨rfl, b2⟩
  have x2 := x1.trans (b2.mono x1.size)
  have p2 := (PairIn.mk c0 c1).on b2
  clear c0 c1 b2 x0 x1
  have hz1 := text_size a b
  by_cases ok : D.okB a b = true
  case' pos =>
    obtain ⟨k1, k2, k3, k4⟩ := D.told_back ok
    rw [k1]
    clear k1 ok
    go_wp2_with fail
    (with_reducible refine (dParse_any _ _ hz1 (hE.on x2)).mono ?_); rintro e w3 ⟨rfl, b3⟩
    rw [k2, k3, k4]
    clear k2 k3 k4
    have x3 := x2.trans (b3.mono x2.size)
    have p3 := p2.on b3
    have hlt : w.heap.size < w3.heap.size := World.block_lt_of_cell? w3 _ p3.c0
    clear p2 b3 x2 w2
    have x4 := x3.alloc x3.size (.cells #[.int .i64 a, .int .i64 b] 24)
    obtain ⟨d0, d1⟩ := pair_new w3 (.int .i64 a) (.int .i64 b) 24
    obtain ⟨c0, c1⟩ := p3.on ((Below.refl _ w3).alloc (Nat.le_refl _) (.cells #[.int .i64 a, .int .i64 b] 24))
    clear x3 p3
  case' neg =>
    obtain ⟨k1, k2⟩ := D.told_no (by simpa using ok)
    rw [k1]
    obtain ⟨c0, c1⟩ := p2
    have x4 := x2
    clear k1 k2 ok x2
  all_goals
    by_cases hl : 300 < s.size
    · go_wp2
      go_ret
      exact ⟨rfl, x4⟩
    · go_wp2_with fail
      (with_reducible refine (dParse_any s _ (by omega) (hE.on x4)).mono ?_); rintro e w5 ⟨rfl, b5⟩
      generalize D.paS s.data.toList = x at *
      generalize D.paN s.data.toList = y at *
      generalize D.paE s.data.toList = z at *
      have x5 := x4.trans (b5.mono x4.size)
      clear b5 x4 c0 c1
      have x6 := x5.alloc x5.size (.cells #[.int .i64 x, .int .i64 y] 24)
      have p6 := pair_new w5 (.int .i64 x) (.int .i64 y) 24
      go_wp2_with fail
      (with_reducible refine (dPrint_any x y _ (hE.on x6)).mono ?_); rintro e w7 ⟨rfl, b7⟩
      have x7 := x6.trans (b7.mono x6.size)
      have p7 := p6.on b7
      clear b7 p6 x6 x5
      have hz2 := text_size x y
      go_wp2_with fail
      (with_reducible refine (dParse_any _ _ hz2 (hE.on x7)).mono ?_); rintro e w8 ⟨rfl, b8⟩
      have x8 := x7.trans (b8.mono x7.size)
      have p8 := p7.on b8
      have hlt : w5.heap.size < w8.heap.size := World.block_lt_of_cell? w8 _ p8.c0
      clear b8 p7 x7 hz2 hz1
      by_cases ok2 : D.okB x y = true
      · obtain ⟨k1, k2, k3, k4⟩ := D.told_back ok2
        rw [k1]
        simp only [k2, k3, k4]
        clear k1 k2 k3 k4 ok2
        have x9 := x8.alloc x8.size (.cells #[.int .i64 x, .int .i64 y] 24)
        obtain ⟨d0, d1⟩ := pair_new w8 (.int .i64 x) (.int .i64 y) 24
        obtain ⟨c0, c1⟩ := p8.on ((Below.refl _ w8).alloc (Nat.le_refl _) (.cells #[.int .i64 x, .int .i64 y] 24))
        clear p8
        by_cases hz : z = 0
        · subst hz
          go_wp2
          go_ret
          exact ⟨rfl, x9⟩
        · go_wp2
          go_ret
          exact ⟨rfl, x9⟩
      · obtain ⟨k1, k2⟩ := D.told_no (by simpa using ok2)
        rw [k1]
        clear k1 k2 ok2
        by_cases hz : z = 0
        · subst hz
          go_wp2
          go_ret
          exact ⟨rfl, x8.alloc x8.size _⟩
        · go_wp2
          go_ret
          exact ⟨rfl, x8.alloc x8.size _⟩
end Go.Proofs.YtdkephbfehlodaaDoor
