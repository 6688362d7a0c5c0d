/-
  The statements' walks: DateSmall.
-/
import Derived.Test.YtdkephbfehlodaaDoorDateLaw5
namespace Go.Proofs.YtdkephbfehlodaaDoor
open Go.RowKit

theorem two_keep {f : FuncId} {args : Array Value} {v : Value} {W w0 : World} {b1 o1 b2 o2 : Nat} {x1 x2 : Value} (hC : ∀ W, Calls Tryd.prog f args W fun e w' => e = .returned v ∧ Below W.heap.size W w')
    (h : W.cell? ⟨b1, o1, none⟩ = some x1 ∧ W.cell? ⟨b2, o2, none⟩ = some x2 ∧ Below w0.heap.size w0 W) :
    Calls Tryd.prog f args W fun e w' => e = .returned v ∧ (w'.cell? ⟨b1, o1, none⟩ = some x1 ∧ w'.cell? ⟨b2, o2, none⟩ = some x2 ∧ Below w0.heap.size w0 w') := by
  obtain ⟨a, b, e⟩ := h
  refine (hC W).mono fun _ _ ⟨he, hb⟩ => ⟨he, (hb.cell (World.block_lt_of_cell? W _ a)).trans a, (hb.cell (World.block_lt_of_cell? W _ b)).trans b, e.trans (hb.mono e.size)⟩

theorem dig2_size (n : Nat) : (⟨(D.dig 2 n).toArray⟩ : ByteArray).size = 2 := by rw [size_mk, D.dig_length]

set_option maxRecDepth 100000 in
set_option maxHeartbeats 3200000 in
theorem small_any {ao : Option Addr} {cap n : Nat} (L : List UInt8) (y e : Nat) (w : World) (hL : BytesAt ao L w) (hn : L.length = n) (hl : n ≤ maxLen) (hy : y ≤ 65535) (he : e ≤ 255) (hE : Env w) :
    Calls Tryd.prog 9 #[.int .u16 (y : Int), .slice ao n cap, .int .u8 (e : Int)] w fun e w' => e = .returned (.bool true) ∧ Below w.heap.size w w' := by
  have hlm : n ≤ 9223372036854775807 := hl
  have hn := Lib.hid hn
  obtain ⟨q, hq⟩ : ∃ q : Nat, (y : Int) / 100 % 100 = (q : Int) := ⟨y / 100 % 100, by omega⟩
  obtain ⟨r, hr⟩ : ∃ q : Nat, (y : Int) % 100 = (q : Int) := ⟨y % 100, by omega⟩
  have q1 : q ≤ 99 := by omega
  have r1 : r ≤ 99 := by omega
  go_enter Tryd.func9, Tryd.ntmps9
  go_wp2_with fail
  (with_reducible refine (two_any q _ (by omega)).mono ?_); rintro e1 w1 ⟨rfl, b1⟩
  have z1 := dig2_size q
  generalize (⟨(D.dig 2 q).toArray⟩ : ByteArray) = s1 at *
  have z1 : s1.size ≤ 2 := by omega
  go_wp2_with fail
  (with_reducible refine (two_any r _ (by omega)).mono ?_); rintro e1 w2 ⟨rfl, b2⟩
  have z2 := dig2_size r
  generalize (⟨(D.dig 2 r).toArray⟩ : ByteArray) = s2 at *
  have z2 : s2.size ≤ 2 := by omega
  have x2 := b1.trans (b2.mono b1.size)
  clear hq hr b1 b2
  have x3 := x2.alloc x2.size (.cells #[.string ⟨#[45]⟩, .string ⟨#[45]⟩, .string ⟨#[84]⟩, .string ⟨#[58]⟩, .string ⟨#[58]⟩] 9)
  have hS : StrsAt w2.heap.size [⟨#[45]⟩, ⟨#[45]⟩, ⟨#[84]⟩, ⟨#[58]⟩, ⟨#[58]⟩] (w2.alloc (.cells #[.string ⟨#[45]⟩, .string ⟨#[45]⟩, .string ⟨#[84]⟩, .string ⟨#[58]⟩, .string ⟨#[58]⟩] 9)) := strsAt_cells (heap_alloc_new w2 _)
  have hS1 : ∀ p ∈ ([⟨#[45]⟩, ⟨#[45]⟩, ⟨#[84]⟩, ⟨#[58]⟩, ⟨#[58]⟩] : List ByteArray), p.size ≤ 1 := by decide
  generalize hP : ([⟨#[45]⟩, ⟨#[45]⟩, ⟨#[84]⟩, ⟨#[58]⟩, ⟨#[58]⟩] : List ByteArray) = P at hS hS1
  have hP5 : P.length = 5 := by rw [← hP]; rfl
  clear hP
  replace hP5 := Lib.hid hP5
  have hL3 := hL.below x3
  obtain ⟨w3, hw3⟩ : ∃ w3, w2.alloc (.cells #[.string ⟨#[45]⟩, .string ⟨#[45]⟩, .string ⟨#[84]⟩, .string ⟨#[58]⟩, .string ⟨#[58]⟩] 9) = w3 := ⟨_, rfl⟩
  rw [hw3] at x3 hS hL3
  obtain ⟨sb, hsb⟩ : ∃ sb, w2.heap.size = sb := ⟨_, rfl⟩
  rw [hsb] at hS
  clear hL
  go_wp2_with fail
  clear hw3 hsb
  go_loopw [7, 9] (fun v i wr => ∃ (k : Nat) (t : ByteArray), k ≤ n ∧ k ≤ 5 ∧ i = .int .i64 (k : Int) ∧ v = .string t ∧ t.size ≤ 4 + 3 * k ∧ Below w3.heap.size w3 wr) (fun _ i _ => 5 - (intOf i).toNat)
  case atStart => exact ⟨0, _, Nat.zero_le _, by omega, rfl, rfl, by simp; omega, Below.refl _ _⟩
  case round =>
    obtain ⟨k, t, hk, hk5, rfl, rfl, ht, bw⟩ := hrel
    by_cases hgo : k < n ∧ k < 5
    · obtain ⟨hlt, h5⟩ := hgo
      obtain ⟨b', off, rfl, c0⟩ := (hL3.below bw) k (by rw [hn.out]; exact hlt)
      generalize L[k]'(by rw [hn.out]; exact hlt) = x at c0
      have hx := x.toNat_lt
      obtain ⟨j, hj, hje⟩ : ∃ j : Nat, j ≤ 63 ∧ ((x.toNat : Int)).tmod 64 = (j : Int) := ⟨x.toNat % 64, by omega, by rw [show (64 : Int) = ((64 : Nat) : Int) from rfl, Int.ofNat_tmod]⟩
      have hje2 : (x.toNat : Int) % 64 = (j : Int) := by rw [← hje, Int.tmod_eq_emod_of_nonneg (by omega)]
      have c1 := (bw.cell (World.block_lt_of_cell? w3 _ (hS k (by rw [hP5.out]; exact h5)))).trans (hS k (by rw [hP5.out]; exact h5))
      have hz := hS1 (P[k]'(by rw [hP5.out]; exact h5)) (List.getElem_mem _)
      generalize P[k]'(by rw [hP5.out]; exact h5) = p at c1 hz
      have n1 : ¬ 9223372036854775807 < t.size + p.size := by omega
      have n2 : ¬ 9223372036854775807 < t.size + p.size + (D.dig 2 j).length := by rw [D.dig_length]; omega
      have g1 : (k : Int) < (n : Int) := by omega
      have g2 : (k : Int) < 5 := by omega
      clear hL3 hS hS1
      go_wp2_with fail
      go_region_held3 (fun w' => w'.cell? ⟨b', off + k, none⟩ = some (.int .u8 (x.toNat : Int)) ∧ w'.cell? ⟨sb, k, none⟩ = some (.string p) ∧ Below w3.heap.size w3 w') (first | exact ⟨c0, c1, bw.drew⟩ | assumption)
        (first
          | (go_at_call 17; refine (two_keep (w0 := w3) (b1 := b') (o1 := off + k) (b2 := sb) (o2 := k) (x1 := .int .u8 (x.toNat : Int)) (x2 := .string p) (fun W => two_any j W (by omega)) ?_).mono ?_; assumption; rintro e w' ⟨rfl, hcb⟩))
      go_wp2_with fail
      go_roundw
      case rel => exact ⟨k + 1, _, by omega, by omega, by go_num, rfl, by rw [ByteArray.size_append, ByteArray.size_append, dig2_size]; omega, hcb.2.2⟩
      case measure => simp [intOf]; omega
    · clear hL3 hS hS1
      obtain ⟨j, hj, hje⟩ : ∃ j : Nat, j < 10 ∧ (e : Int) % 10 = (j : Int) := ⟨e % 10, by omega, by omega⟩
      have hR : StrsAt wr.heap.size [⟨#[90]⟩, ⟨#[43, 48, 49, 58, 48, 48]⟩, ⟨#[45, 50, 51, 58, 53, 57]⟩, ⟨#[43, 50, 52, 58, 48, 48]⟩, ⟨#[46, 53, 90]⟩, ⟨#[46, 49, 50, 51, 52, 53, 54, 55, 56, 57, 90]⟩, ⟨#[46, 49, 50, 51, 52, 53, 54, 55, 56, 57, 48, 90]⟩, ⟨#[46]⟩, ⟨#[122]⟩, ⟨#[]⟩] (wr.alloc (.cells #[.string ⟨#[90]⟩, .string ⟨#[43, 48, 49, 58, 48, 48]⟩, .string ⟨#[45, 50, 51, 58, 53, 57]⟩, .string ⟨#[43, 50, 52, 58, 48, 48]⟩, .string ⟨#[46, 53, 90]⟩, .string ⟨#[46, 49, 50, 51, 52, 53, 54, 55, 56, 57, 90]⟩, .string ⟨#[46, 49, 50, 51, 52, 53, 54, 55, 56, 57, 48, 90]⟩, .string ⟨#[46]⟩, .string ⟨#[122]⟩, .string ⟨#[]⟩] 9)) := strsAt_cells (heap_alloc_new wr _)
      have hR1 : ∀ p ∈ ([⟨#[90]⟩, ⟨#[43, 48, 49, 58, 48, 48]⟩, ⟨#[45, 50, 51, 58, 53, 57]⟩, ⟨#[43, 50, 52, 58, 48, 48]⟩, ⟨#[46, 53, 90]⟩, ⟨#[46, 49, 50, 51, 52, 53, 54, 55, 56, 57, 90]⟩, ⟨#[46, 49, 50, 51, 52, 53, 54, 55, 56, 57, 48, 90]⟩, ⟨#[46]⟩, ⟨#[122]⟩, ⟨#[]⟩] : List ByteArray), p.size ≤ 12 := by decide
      have x4 := bw.alloc bw.size (.cells #[.string ⟨#[90]⟩, .string ⟨#[43, 48, 49, 58, 48, 48]⟩, .string ⟨#[45, 50, 51, 58, 53, 57]⟩, .string ⟨#[43, 50, 52, 58, 48, 48]⟩, .string ⟨#[46, 53, 90]⟩, .string ⟨#[46, 49, 50, 51, 52, 53, 54, 55, 56, 57, 90]⟩, .string ⟨#[46, 49, 50, 51, 52, 53, 54, 55, 56, 57, 48, 90]⟩, .string ⟨#[46]⟩, .string ⟨#[122]⟩, .string ⟨#[]⟩] 9)
      have x5 := Lib.hid (x3.trans (x4.mono x3.size))
      have c1 := hR j (by simpa using hj)
      have hz := hR1 _ (List.getElem_mem (n := j) (by simpa using hj))
      generalize (([⟨#[90]⟩, ⟨#[43, 48, 49, 58, 48, 48]⟩, ⟨#[45, 50, 51, 58, 53, 57]⟩, ⟨#[43, 50, 52, 58, 48, 48]⟩, ⟨#[46, 53, 90]⟩, ⟨#[46, 49, 50, 51, 52, 53, 54, 55, 56, 57, 90]⟩, ⟨#[46, 49, 50, 51, 52, 53, 54, 55, 56, 57, 48, 90]⟩, ⟨#[46]⟩, ⟨#[122]⟩, ⟨#[]⟩] : List ByteArray))[j]'_ = p at c1 hz
      have hsum : (t ++ p).size ≤ 1000 := by rw [ByteArray.size_append]; omega
      replace hsum := Lib.hid hsum
      clear hR hR1 x4
      by_cases hlt : k < n
      case' pos => have hk6 : ¬ k < 5 := fun h => hgo ⟨hlt, h⟩
      all_goals
        clear hgo
        go_wp2_with fail
        (with_reducible refine (dParse_any _ _ hsum.out (hE.on x5.out)).mono ?_); rintro e1 w6 ⟨rfl, b6⟩
        have hpar := refParse_any (t ++ p)
        generalize D.paS (t ++ p).data.toList = X at *
        generalize D.paN (t ++ p).data.toList = Y at *
        generalize D.paE (t ++ p).data.toList = Z at *
        have x6 := Lib.hid (x5.out.trans (b6.mono x5.out.size))
        clear b6 x5 c1
        have x7 := Lib.hid (x6.out.alloc x6.out.size (.cells #[.int .i64 X, .int .i64 Y] 24))
        have p7 := Lib.hid (pair_new w6 (.int .i64 X) (.int .i64 Y) 24)
        go_wp2_with fail
        (with_reducible refine (hpar _ hsum.out).mono ?_); rintro e1 w8 ⟨rfl, b8⟩
        have x8 := Lib.hid (x7.out.trans (b8.mono x7.out.size))
        have p8 := Lib.hid (p7.out.on b8)
        have hlt2 : w6.heap.size < w8.heap.size := World.block_lt_of_cell? w8 _ p8.out.c0
        clear b8 p7 x7 x6 hpar
        have x9 := Lib.hid (x8.out.alloc x8.out.size (.cells #[.int .i64 X, .int .i64 Y] 24))
        have q9 := Lib.hid (pair_new w8 (.int .i64 X) (.int .i64 Y) 24)
        have p9 := Lib.hid (p8.out.on ((Below.refl _ w8).alloc (Nat.le_refl _) (.cells #[.int .i64 X, .int .i64 Y] 24)))
        clear p8 x8
        go_wp2_with fail
        (with_reducible refine (awake_any _ (hE.on x9.out)).mono ?_); rintro e1 wf ⟨rfl, bf⟩
        have xf := Lib.hid (x9.out.trans (bf.mono x9.out.size))
        obtain ⟨c0, c1⟩ := p9.out.on bf
        obtain ⟨d0, d1⟩ := q9.out.on bf
        clear bf p9 q9 x9
        go_wp2
        go_ret
        exact ⟨rfl, xf.out⟩
end Go.Proofs.YtdkephbfehlodaaDoor
