/-
  The statements' walks: LocatorBack.
-/
import Derived.Test.YtmfmgbjkbadndaaLocLaw
namespace Go.Proofs.Ytmfmgbjkbadndaa
open Go.RowKit

namespace Lc
theorem small_split {s : ByteArray} (h : s.size ≤ 100000) : Small (split s.data.toList) := by
  obtain ⟨h1, h2, h3, h4, h5⟩ := split_len s.data.toList
  rw [list_len] at h1 h2 h3 h4 h5
  exact ⟨by omega, by omega, by omega, by omega, by omega⟩
end Lc

set_option maxRecDepth 100000 in
set_option maxHeartbeats 12800000 in
theorem back_any (s : ByteArray) (w : World) (hs : s.size ≤ maxLen) (hE : Env w) : Calls Try.prog 6 #[.string s] w fun e w' => e = .returned (.bool true) ∧ Below w.heap.size w w' := by
  unfold maxLen at hs
  go_enter Try.func6, Try.ntmps6
  go_wp2_with fail
  (refine (awake_any _ hE).mono ?_); rintro e w1 ⟨rfl, b1⟩
  by_cases h : 2000 < s.size
  · have hi : (2000 : Int) < (s.size : Int) := by omega
    go_wp2_with fail
    go_ret
    exact ⟨rfl, b1⟩
  have hi : ¬ (2000 : Int) < (s.size : Int) := by omega
  have hib : decide ((2000 : Int) < (s.size : Int)) = false := by simpa using hi
  have c1 := pParse_any s w1 (by omega) (hE.on b1)
  cases hf : Lc.fine s.data.toList
  case false =>
    rw [show Lc.parseU s.data.toList = Lc.none by rw [Lc.parseU, hf]; rfl, show Lc.parseE s.data.toList = 120 by rw [Lc.parseE, hf]; rfl] at c1
    replace c1 : Calls Try.prog 11 #[.string s] w1 fun e w' => e = .returned (.tuple #[.agg #[.string ⟨#[]⟩, .string ⟨#[]⟩, .string ⟨#[]⟩, .string ⟨#[]⟩, .string ⟨#[]⟩, .bool false, .bool false, .bool false, .bool false], .int .i64 120]) ∧ Below w1.heap.size w1 w' := c1
    replace c1 := Lib.hid c1
    clear hf
    go_wp2_with fail
    (refine c1.out.mono ?_); rintro e w2 ⟨rfl, b2⟩
    have g2 := b1.trans (b2.mono b1.size)
    have k2 : Cells (w2.alloc (.cells #[.string ⟨#[]⟩, .string ⟨#[]⟩, .string ⟨#[]⟩, .string ⟨#[]⟩, .string ⟨#[]⟩, .bool false, .bool false, .bool false, .bool false] 24)) w2.heap.size 24 (uArr Lc.none) := uri_alloc w2 Lc.none
    have q2 := (Below.refl w2.heap.size w2).alloc (Nat.le_refl _) (.cells #[.string ⟨#[]⟩, .string ⟨#[]⟩, .string ⟨#[]⟩, .string ⟨#[]⟩, .string ⟨#[]⟩, .bool false, .bool false, .bool false, .bool false] 24)
    have g3 := g2.trans (q2.mono g2.size)
    obtain ⟨x0, x1, x2, x3, x4, x5, x6, x7, x8⟩ := zero_open k2
    clear k2 q2 g2 b2 c1
    go_wp2_with fail
    go_ret
    exact ⟨rfl, g3⟩
  case true =>
    rw [show Lc.parseU s.data.toList = Lc.split s.data.toList by rw [Lc.parseU, hf]; rfl, show Lc.parseE s.data.toList = 0 by rw [Lc.parseE, hf]; rfl] at c1
    have c2 := fun W (h : Env W) => pPrint_any (Lc.split s.data.toList) W (Lc.small_split (by omega)) h
    rw [Lc.print_split, ← Lc.str_of rfl] at c2
    generalize Lc.split s.data.toList = u at *
    replace c1 := Lib.hid c1
    replace c2 := Lib.hid c2
    clear hf
    go_wp2_with fail
    (refine c1.out.mono ?_); rintro e w2 ⟨rfl, b2⟩
    have g2 := b1.trans (b2.mono b1.size)
    have k2 := uri_alloc w2 u
    have q2 := (Below.refl w2.heap.size w2).alloc (Nat.le_refl _) (.cells (uArr u) 24)
    have g3 := g2.trans (q2.mono g2.size)
    have hE3 := Lib.hid (hE.on g3)
    obtain ⟨x0, x1, x2, x3, x4, x5, x6, x7, x8⟩ := uri_open k2
    have c3 := c2.out _ hE3.out
    clear k2 q2 g2 b2 c1 c2
    unfold uArr at c3 g3 ⊢
    replace c3 := Lib.hid c3
    clear hE3
    go_wp2_with fail
    (refine c3.out.mono ?_); rintro e w3 ⟨rfl, b3⟩
    have g4 := g3.trans (b3.mono g3.size)
    go_wp2_with fail
    go_ret
    exact ⟨rfl, g4⟩
end Go.Proofs.Ytmfmgbjkbadndaa
