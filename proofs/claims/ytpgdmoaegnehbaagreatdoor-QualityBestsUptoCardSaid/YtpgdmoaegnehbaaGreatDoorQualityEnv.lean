/-
  What the packages' variables hold that the library's functions read: a bound of a search; an error of a number's text.
-/
import Derived.Test.YtpgdmoaegnehbaaGreatDoorRefBest
import Derived.Test.YtpgdmoaegnehbaaGreatDoorSameTexts
namespace Go.Proofs.YtpgdmoaegnehbaaGreatDoor
open Go.RowKit

/-- WHAT THE PACKAGES' VARIABLES HOLD that the library's functions read. -/
def EnvAt (w : World) : Prop :=
  (∃ m, w.cell? ⟨1, 0, none⟩ = some (.int .i64 m)) ∧
  (∃ v, w.cell? ⟨2, 0, none⟩ = some v ∧ (v = .nilIface ∨ ∃ t p, v = .iface t p))
/-- .. and go on holding, whatever is made. -/
def Env (w : World) : Prop := ∀ w', Below w.heap.size w w' → EnvAt w'
theorem Env.at {w : World} (h : Env w) : EnvAt w := h w (Below.refl _ _)
theorem Env.most {w : World} (h : Env w) : ∃ m, w.cell? ⟨1, 0, none⟩ = some (.int .i64 m) := h.at.1
theorem Env.text {w : World} (h : Env w) : ∃ v, w.cell? ⟨2, 0, none⟩ = some v ∧ (v = .nilIface ∨ ∃ t p, v = .iface t p) := h.at.2
theorem Env.on {w w1 : World} (h : Env w) (b : Below w.heap.size w w1) : Env w1 := fun w' h' => h w' (b.trans (h'.mono b.size))
theorem env_of {W : World} (h : EnvAt W) : Env W := by
  intro w' hb
  obtain ⟨⟨m, hm⟩, ⟨v, hv, hk⟩⟩ := h
  exact ⟨⟨m, (hb.cell (World.block_lt_of_cell? W _ hm)).trans hm⟩, ⟨v, (hb.cell (World.block_lt_of_cell? W _ hv)).trans hv, hk⟩⟩
end Go.Proofs.YtpgdmoaegnehbaaGreatDoor
