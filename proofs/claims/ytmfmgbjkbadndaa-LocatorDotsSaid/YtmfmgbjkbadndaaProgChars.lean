/-
  What the program's words of code points come to: contracts of isWithin, Char, Start, Part.
-/
import Derived.Test.YtmfmgbjkbadndaaGlyphEnv
import Derived.Lib.OthersKept
namespace Go.Proofs.Ytmfmgbjkbadndaa
open Go.RowKit

set_option maxRecDepth 100000 in
set_option maxHeartbeats 800000 in
theorem isWithin_any (c : Int) (L : List (Int × Int)) (b n cap : Nat) (w : World) (hL : PairsAt b L w) (hn : L.length ≤ 1000) (hln : L.length = n) :
    Calls Try.prog 65 #[.int .i64 c, .slice (some ⟨b, 0, none⟩) n cap] w fun e w' => e = .returned (.bool (G.any c L)) ∧ Below w.heap.size w w' := by
  have hln := Lib.hid hln
  go_enter Try.func65, Try.ntmps65
  go_wp2_with fail
  go_loopw [9] (fun i wr => ∃ k : Nat, k ≤ n ∧ i = .int .i64 (k : Int) ∧ Hid (G.any c (L.take k) = false) ∧ Below w.heap.size w wr) (fun i _ => n - (intOf i).toNat)
  case atStart => exact ⟨0, Nat.zero_le _, rfl, Lib.hid rfl, Below.refl _ _⟩
  case round =>
    obtain ⟨k, hk, rfl, hall, bw⟩ := hrel
    by_cases hlt : k < n
    · obtain ⟨c0, c1⟩ := hL k (by rw [hln.out]; exact hlt)
      have d0 := (bw.cell (World.block_lt_of_cell? w _ c0)).trans c0
      have d1 := (bw.cell (World.block_lt_of_cell? w _ c1)).trans c1
      have hkl : k < L.length := by rw [hln.out]; exact hlt
      have hst := Lib.hid (G.any_take c L k hkl)
      have hat := Lib.hid (G.any_at c L k hkl)
      generalize L[k].1 = x at c0 d0 hst hat
      generalize L[k].2 = y at c1 d1 hst hat
      rw [Nat.mul_comm] at d0 d1
      clear c0 c1 hL
      by_cases hx : x ≤ c
      · by_cases hy : c ≤ y
        · have hr := Lib.hid (hat.out (by simp [G.inR, hx, hy]))
          go_wp2
          go_ret
          exact ⟨ret_bool hr.out.symm, bw.alloc bw.size _⟩
        · have hr := Lib.hid (show G.any c (L.take (k + 1)) = false by rw [hst.out, hall.out]; simp [G.inR, hx, hy])
          go_wp2
          go_roundw
          case rel => exact ⟨k + 1, by omega, by go_num, hr, bw.alloc bw.size _⟩
          case measure => simp [intOf]; omega
      · have hr := Lib.hid (show G.any c (L.take (k + 1)) = false by rw [hst.out, hall.out]; simp [G.inR, hx])
        go_wp2
        go_roundw
        case rel => exact ⟨k + 1, by omega, by go_num, hr, bw.alloc bw.size _⟩
        case measure => simp [intOf]; omega
    · have hfull : L.take k = L := List.take_of_length_le (by rw [hln.out]; omega)
      rw [hfull] at hall
      clear hfull
      go_wp2
      go_ret
      exact ⟨ret_bool hall.out.symm, bw⟩

set_option maxRecDepth 100000 in
set_option maxHeartbeats 1600000 in
theorem gChar_at (c : Int) (w : World) :
    Calls Try.prog 44 #[.int .i64 c] w fun e w' => e = .returned (.bool (G.char c)) ∧ Below w.heap.size w w' := by
  have hm : G.char c = G.any c [(9, 10), (13, 13), (32, 55295), (57344, 65533), (65536, 1114111)] := by simp [G.any, G.char, Bool.or_assoc]
  rw [hm]
  clear hm
  go_enter Try.func44, Try.ntmps44
  go_wp2_with fail
  (with_reducible refine (isWithin_any c [(9, 10), (13, 13), (32, 55295), (57344, 65533), (65536, 1114111)] w.heap.size 5 _ _ ?_ (by decide) rfl).mono ?_)
  · exact pairsAt_cells (heap_alloc_new w _)
  rintro e w1 ⟨rfl, b1⟩
  have b0 := (Below.refl w.heap.size w).alloc (Nat.le_refl _)
  go_wp2
  go_ret
  exact ⟨rfl, (b0 _).trans (b1.mono (b0 _).size)⟩

theorem gChar_any (c : Int) (w : World) (_ : Env w) : Calls Try.prog 44 #[.int .i64 c] w fun e w' => e = .returned (.bool (G.char c)) ∧ Below w.heap.size w w' := gChar_at c w
end Go.Proofs.Ytmfmgbjkbadndaa
