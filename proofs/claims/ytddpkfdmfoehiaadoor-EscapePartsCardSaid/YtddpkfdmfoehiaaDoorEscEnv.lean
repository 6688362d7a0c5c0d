/-
  What the packages' variables hold that the library's functions and the program read: a bound of a search; three errors of errors.New's make.
-/
import Derived.Test.YtddpkfdmfoehiaaDoorRefExpand
namespace Go.Proofs.YtddpkfdmfoehiaaDoor
open Go.RowKit

/-- WHAT THE PACKAGES' VARIABLES HOLD that is read. -/
def EnvAt (w : World) : Prop :=
  (∃ m, w.cell? ⟨1, 0, none⟩ = some (.int .i64 m)) ∧
  (∃ a, w.cell? ⟨0, 0, none⟩ = some (.iface 108 (.pointer (some a)))) ∧
  (∃ t p, w.cell? ⟨2, 0, none⟩ = some (.iface t p)) ∧
  (∃ t p, w.cell? ⟨3, 0, none⟩ = some (.iface t p))
/-- .. and go on holding, whatever is made. -/
def Env (w : World) : Prop := ∀ w', Below w.heap.size w w' → EnvAt w'
theorem Env.at {w : World} (h : Env w) : EnvAt w := h w (Below.refl _ _)
theorem Env.on {w w1 : World} (h : Env w) (b : Below w.heap.size w w1) : Env w1 := fun w' h' => h w' (b.trans (h'.mono b.size))
theorem env_of {W : World} (h : EnvAt W) : Env W := by
  intro w' hb
  obtain ⟨⟨m, hm⟩, ⟨a, ha⟩, ⟨t, p, hs⟩, ⟨t', p', hr⟩⟩ := h
  exact ⟨⟨m, (hb.cell (World.block_lt_of_cell? W _ hm)).trans hm⟩, ⟨a, (hb.cell (World.block_lt_of_cell? W _ ha)).trans ha⟩, ⟨t, p, (hb.cell (World.block_lt_of_cell? W _ hs)).trans hs⟩, ⟨t', p', (hb.cell (World.block_lt_of_cell? W _ hr)).trans hr⟩⟩
end Go.Proofs.YtddpkfdmfoehiaaDoor
