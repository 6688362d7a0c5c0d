/-
  What the parser's own words of its stack come to: top.
-/
import Derived.Test.YtcoeijjmahneeaaGreatDoorG22
import Derived.BigQuiet
namespace Go.Proofs.YtcoeijjmahneeaaGreatDoor
open Go.RowKit

set_option maxRecDepth 100000 in
set_option maxHeartbeats 1600000 in
theorem top_nil {pb : Nat} {ao : Option Addr} {cap : Nat} (w : World) (h0 : w.cell? ⟨pb, 0, none⟩ = some (.slice ao 0 cap)) :
    Calls Tryz.prog 43 #[.pointer (some ⟨pb, 0, none⟩)] w fun x w' => x = .returned (.pointer none) ∧ w' = w := by
  go_enter Tryz.func43, Tryz.ntmps43
  go_wp2_with fail
  go_ret
  exact ⟨rfl, rfl⟩
set_option maxRecDepth 100000 in
set_option maxHeartbeats 1600000 in
theorem top_cons {pb g q cap : Nat} (w : World) (h0 : w.cell? ⟨pb, 0, none⟩ = some (.slice (some ⟨g, 0, none⟩) (q + 1) cap)) (hq : q ≤ 100) :
    Calls Tryz.prog 43 #[.pointer (some ⟨pb, 0, none⟩)] w fun x w' => x = .returned (.pointer (some ⟨g, q * 8, none⟩)) ∧ ∃ n, w' = w.drewN n := by
  have h1 : ¬ ((q : Int) + 1 = 0) := by omega
  have h2 : IntKind.i64.wrap ((q : Int) + 1 - 1) = (q : Int) := by rw [IntWalk.i64_in _ (by omega)]; omega
  have h3 : (q : Int) < (q : Int) + 1 := by omega
  go_enter Tryz.func43, Tryz.ntmps43
  go_wp2_with fail
  go_quiet (fail)
  go_wp2_with fail
  go_ret
  exact ⟨by simp, _, rfl⟩
end Go.Proofs.YtcoeijjmahneeaaGreatDoor
