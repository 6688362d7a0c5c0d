/-
  The statements' walks: awake, LocatorParses, LocatorBack.
-/
import Derived.Test.YtmfmgbjkbadndaaLocDone
namespace Go.Proofs.Ytmfmgbjkbadndaa
open Go.RowKit

namespace Lc
def u1 : U := parseU [104, 116, 116, 112, 58, 47, 47, 97, 47, 98, 47, 99, 47, 100, 59, 112, 63, 113]
def u2 : U := parseU [46, 46, 47, 103]
theorem u1_ok : parseE [104, 116, 116, 112, 58, 47, 47, 97, 47, 98, 47, 99, 47, 100, 59, 112, 63, 113] = 0 := by rfl
theorem u2_ok : parseE [46, 46, 47, 103] = 0 := by rfl
theorem u3_no : parseE [97, 32, 98] = 120 := by rfl
theorem u12 : print (resolve u1 u2) = [104, 116, 116, 112, 58, 47, 47, 97, 47, 98, 47, 103] := by rfl
theorem u1_small : Small u1 := by unfold Small; decide +kernel
theorem u2_small : Small u2 := by unfold Small; decide +kernel
theorem u12_small : Small (resolve u1 u2) := by unfold Small; decide +kernel
theorem d1 : dots [47, 97, 47, 98, 47, 46, 46, 47, 99, 47, 46, 47, 100] = [47, 97, 47, 99, 47, 100] := by rfl
end Lc

set_option maxRecDepth 100000 in
set_option maxHeartbeats 12800000 in
theorem awake_any (w : World) (hE : Env w) : Calls Try.prog 10 #[] w fun e w' => e = .returned (.bool true) ∧ Below w.heap.size w w' := by
  have s1 := Lc.u1_small
  have s2 := Lc.u2_small
  have s3 := Lc.u12_small
  have e12 := Lc.u12
  have c1 := fun W (h : Env W) => pParse_any ⟨#[104, 116, 116, 112, 58, 47, 47, 97, 47, 98, 47, 99, 47, 100, 59, 112, 63, 113]⟩ W (by decide) h
  have c2 := fun W (h : Env W) => pParse_any ⟨#[46, 46, 47, 103]⟩ W (by decide) h
  have c3 := fun W (h : Env W) => pParse_any ⟨#[97, 32, 98]⟩ W (by decide) h
  have c4 := fun W (h : Env W) => pDots_any ⟨#[47, 97, 47, 98, 47, 46, 46, 47, 99, 47, 46, 47, 100]⟩ W (by decide) h
  rw [show Lc.parseU (⟨#[104, 116, 116, 112, 58, 47, 47, 97, 47, 98, 47, 99, 47, 100, 59, 112, 63, 113]⟩ : ByteArray).data.toList = Lc.u1 from rfl, show Lc.parseE (⟨#[104, 116, 116, 112, 58, 47, 47, 97, 47, 98, 47, 99, 47, 100, 59, 112, 63, 113]⟩ : ByteArray).data.toList = 0 from Lc.u1_ok] at c1
  rw [show Lc.parseU (⟨#[46, 46, 47, 103]⟩ : ByteArray).data.toList = Lc.u2 from rfl, show Lc.parseE (⟨#[46, 46, 47, 103]⟩ : ByteArray).data.toList = 0 from Lc.u2_ok] at c2
  rw [show Lc.parseE (⟨#[97, 32, 98]⟩ : ByteArray).data.toList = 120 from Lc.u3_no] at c3
  rw [show Lc.dots (⟨#[47, 97, 47, 98, 47, 46, 46, 47, 99, 47, 46, 47, 100]⟩ : ByteArray).data.toList = [47, 97, 47, 99, 47, 100] from Lc.d1] at c4
  generalize Lc.u1 = u1 at *
  generalize Lc.u2 = u2 at *
  generalize Lc.parseU (⟨#[97, 32, 98]⟩ : ByteArray).data.toList = u3 at *
  have c5 := fun W (h : Env W) => pResolve_any u1 u2 W s1 s2 h
  have c6 := fun W (h : Env W) => pPrint_any (Lc.resolve u1 u2) W s3 h
  rw [e12] at c6
  have l1 : ((Lc.str [104, 116, 116, 112, 58, 47, 47, 97, 47, 98, 47, 103]).toList == [104, 116, 116, 112, 58, 47, 47, 97, 47, 98, 47, 103]) = true := by rw [ByteArray.toList_eq, Lc.str_list]; rfl
  have l2 : ((Lc.str [47, 97, 47, 99, 47, 100]).toList == [47, 97, 47, 99, 47, 100]) = true := by rw [ByteArray.toList_eq, Lc.str_list]; rfl
  have l3 : (Lc.str [104, 116, 116, 112, 58, 47, 47, 97, 47, 98, 47, 103]).toList = [104, 116, 116, 112, 58, 47, 47, 97, 47, 98, 47, 103] := by rw [ByteArray.toList_eq, Lc.str_list]
  have l4 : (Lc.str [47, 97, 47, 99, 47, 100]).toList = [47, 97, 47, 99, 47, 100] := by rw [ByteArray.toList_eq, Lc.str_list]
  generalize Lc.str [104, 116, 116, 112, 58, 47, 47, 97, 47, 98, 47, 103] = t1 at *
  generalize Lc.str [47, 97, 47, 99, 47, 100] = t2 at *
  replace c1 := Lib.hid c1
  replace c2 := Lib.hid c2
  replace c3 := Lib.hid c3
  replace c4 := Lib.hid c4
  replace c5 := Lib.hid c5
  replace c6 := Lib.hid c6
  clear s1 s2 s3 e12
  go_enter Try.func10, Try.ntmps10
  go_wp2_with fail
  (refine (c1.out _ hE).mono ?_); rintro e w1 ⟨rfl, b1⟩
  have k1 := uri_alloc w1 u1
  have q1 := (Below.refl w1.heap.size w1).alloc (Nat.le_refl _) (.cells (uArr u1) 24)
  have g1 := b1.trans (q1.mono b1.size)
  unfold uArr at k1 g1 ⊢
  clear q1 b1
  go_wp2_with fail
  (refine (c2.out _ (hE.on g1)).mono ?_); rintro e w2 ⟨rfl, b2⟩
  have k1' := Lib.hid (Cells.on k1 b2)
  have g2 := g1.trans (b2.mono g1.size)
  have k2 := uri_alloc w2 u2
  have q2 := (Below.refl w2.heap.size w2).alloc (Nat.le_refl _) (.cells (uArr u2) 24)
  have k3 := Lib.hid (k1'.out.on q2)
  have g3 := g2.trans (q2.mono g2.size)
  unfold uArr at k2 g3 k3 ⊢
  clear q2 b2 k1 k1' g1 g2
  go_wp2_with fail
  (refine (c3.out _ (hE.on g3)).mono ?_); rintro e w3 ⟨rfl, b3⟩
  have k4 := Lib.hid (k3.out.on b3)
  have k5 := Lib.hid (k2.on b3)
  have g4 := g3.trans (b3.mono g3.size)
  have q3 := (Below.refl w3.heap.size w3).alloc (Nat.le_refl _) (.cells (uArr u3) 24)
  have k6 := k4.out.on q3
  have k7 := k5.out.on q3
  have g5 := g4.trans (q3.mono g4.size)
  clear q3 b3 k2 k3 k4 k5 g3 g4
  obtain ⟨x0, x1, x2, x3, x4, x5, x6, x7, x8⟩ := uri_open (u := u1) k6
  obtain ⟨y0, y1, y2, y3, y4, y5, y6, y7, y8⟩ := uri_open (u := u2) k7
  clear k6 k7
  unfold uArr at x0 x1 x2 x3 x4 x5 x6 x7 x8 y0 y1 y2 y3 y4 y5 y6 y7 y8 g5 ⊢
  have c5' := c5.out _ (hE.on g5)
  conv at c5' => arg 3; unfold uArr
  replace c5' := Lib.hid c5'
  go_wp2_with fail
  (refine c5'.out.mono ?_); rintro e w4 ⟨rfl, b4⟩
  have g6 := g5.trans (b4.mono g5.size)
  go_wp2_with fail
  (refine (c6.out _ (hE.on g6)).mono ?_); rintro e w5 ⟨rfl, b5⟩
  have g7 := g6.trans (b5.mono g6.size)
  go_wp2_with fail
  (refine (c4.out _ (hE.on g7)).mono ?_); rintro e w6 ⟨rfl, b6⟩
  have g8 := g7.trans (b6.mono g7.size)
  go_wp2_with fail
  go_ret
  exact ⟨rfl, g8⟩

set_option maxRecDepth 100000 in
set_option maxHeartbeats 12800000 in
theorem parses_any (s : ByteArray) (w : World) (hs : s.size ≤ maxLen) (hE : Env w) : Calls Try.prog 3 #[.string s] w fun e w' => e = .returned (.bool true) ∧ Below w.heap.size w w' := by
  unfold maxLen at hs
  go_enter Try.func3, Try.ntmps3
  by_cases h : 2000 < s.size
  · have hi : (2000 : Int) < (s.size : Int) := by omega
    go_wp2_with fail
    (refine (awake_any _ hE).mono ?_); rintro e w1 ⟨rfl, b1⟩
    go_wp2_with fail
    go_ret
    exact ⟨rfl, b1⟩
  have hi : ¬ (2000 : Int) < (s.size : Int) := by omega
  have hib : decide ((2000 : Int) < (s.size : Int)) = false := by simpa using hi
  have c1 := Lib.hid (fun W (h : Env W) => pParse_any s W (by omega) h)
  have c2 := Lib.hid (fun W => lParse_any s W (by omega))
  generalize Lc.parseU s.data.toList = u at *
  generalize Lc.parseE s.data.toList = pe at *
  go_wp2_with fail
  (refine (c1.out _ hE).mono ?_); rintro e w1 ⟨rfl, b1⟩
  have k1 := uri_alloc w1 u
  have q1 := (Below.refl w1.heap.size w1).alloc (Nat.le_refl _) (.cells (uArr u) 24)
  have g1 := b1.trans (q1.mono b1.size)
  unfold uArr at k1 g1 ⊢
  clear q1 b1
  go_wp2_with fail
  (refine (c2.out _).mono ?_); rintro e w2 ⟨rfl, b2⟩
  have k1' := Lib.hid (Cells.on k1 b2)
  have g2 := g1.trans (b2.mono g1.size)
  have k2 := uri_alloc w2 u
  have q2 := (Below.refl w2.heap.size w2).alloc (Nat.le_refl _) (.cells (uArr u) 24)
  have k3 := Lib.hid (k1'.out.on q2)
  have g3 := g2.trans (q2.mono g2.size)
  unfold uArr at k2 g3 k3 ⊢
  clear q2 b2 k1 k1' g1 g2
  go_wp2_with fail
  (refine (awake_any _ (hE.on g3)).mono ?_); rintro e w3 ⟨rfl, b3⟩
  have k4 := k3.out.on b3
  have k5 := k2.on b3
  have g4 := g3.trans (b3.mono g3.size)
  obtain ⟨x0, x1, x2, x3, x4, x5, x6, x7, x8⟩ := uri_open (u := u) k4
  obtain ⟨y0, y1, y2, y3, y4, y5, y6, y7, y8⟩ := uri_open (u := u) k5
  clear k4 k5 k2 k3 b3 c1 c2
  go_wp2_with fail
  go_ret
  exact ⟨rfl, g4⟩
end Go.Proofs.Ytmfmgbjkbadndaa
