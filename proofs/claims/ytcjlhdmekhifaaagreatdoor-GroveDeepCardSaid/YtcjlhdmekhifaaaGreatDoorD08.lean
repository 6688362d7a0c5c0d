/-
  What the document's own words of code points come to: contracts of Start, Part.
-/
import Derived.Test.YtcjlhdmekhifaaaGreatDoorD03
namespace Go.Proofs.YtcjlhdmekhifaaaGreatDoor
open Go.RowKit

set_option maxRecDepth 100000 in
set_option maxHeartbeats 1600000 in
theorem refStart_any (c : Int) (w : World) :
    Calls Tryz.prog 57 #[.int .i64 c] w fun e w' => e = .returned (.bool (G.start c)) ∧ Below w.heap.size w w' := by
  have hm : G.start c = G.any c [(58, 58), (65, 90), (95, 95), (97, 122), (192, 214), (216, 246), (248, 767), (880, 893), (895, 8191), (8204, 8205), (8304, 8591), (11264, 12271), (12289, 55295), (63744, 64975), (65008, 65533), (65536, 983039)] := by simp [G.any, G.start, Bool.or_assoc]
  rw [hm]
  clear hm
  go_enter Tryz.func57, Tryz.ntmps57
  go_wp2_with fail
  (with_reducible refine (refIn_any c [(58, 58), (65, 90), (95, 95), (97, 122), (192, 214), (216, 246), (248, 767), (880, 893), (895, 8191), (8204, 8205), (8304, 8591), (11264, 12271), (12289, 55295), (63744, 64975), (65008, 65533), (65536, 983039)] w.heap.size 32 _ _ ?_ (by decide) rfl).mono ?_)
  · exact pairsAt_cells (heap_alloc_new w _)
  rintro e w1 ⟨rfl, rfl⟩
  go_wp2
  go_ret
  exact ⟨rfl, (Below.refl _ _).alloc (Nat.le_refl _) _⟩

set_option maxRecDepth 100000 in
set_option maxHeartbeats 1600000 in
theorem refPart_any (c : Int) (w : World) :
    Calls Tryz.prog 56 #[.int .i64 c] w fun e w' => e = .returned (.bool (G.part c)) ∧ Below w.heap.size w w' := by
  have hm : G.part c = (G.start c || G.any c [(45, 46), (48, 57), (183, 183), (768, 879), (8255, 8256)]) := by simp [G.any, G.part, Bool.or_assoc]
  rw [hm]
  clear hm
  go_enter Tryz.func56, Tryz.ntmps56
  go_wp2_with fail
  (with_reducible refine (refStart_any c _).mono ?_); rintro e w1 ⟨rfl, b1⟩
  cases hs : G.start c
  · have hs := Lib.hid hs
    go_wp2_with fail
    (with_reducible refine (refIn_any c [(45, 46), (48, 57), (183, 183), (768, 879), (8255, 8256)] w1.heap.size 10 _ _ ?_ (by decide) rfl).mono ?_)
    · exact pairsAt_cells (heap_alloc_new w1 _)
    rintro e w2 ⟨rfl, rfl⟩
    go_wp2
    go_ret
    exact ⟨ret_bool (by rw [hs.out]; rfl), b1.alloc b1.size _⟩
  · have hs := Lib.hid hs
    go_wp2
    go_ret
    exact ⟨ret_bool (by rw [hs.out]; rfl), b1⟩
end Go.Proofs.YtcjlhdmekhifaaaGreatDoor
