/-
  What the packages' variables hold that the library's functions and the program read: a bound of a search; three errors of errors.New's make; a table of letters.
-/
import Derived.Test.YtmeliljioagipaaGreatDoorRefLines
import Derived.Test.YtmeliljioagipaaGreatDoorRefExpand
namespace Go.Proofs.YtmeliljioagipaaGreatDoor
open Go.RowKit

/-- the other case of an ASCII letter; any other is its own. -/
def other (n : Nat) : Nat := if 65 ≤ n ∧ n ≤ 90 then n + 32 else if n = 107 then 8490 else if n = 115 then 383 else if 97 ≤ n ∧ n ≤ 122 then n - 32 else n

/-- WHAT THE PACKAGES' VARIABLES HOLD that is read. -/
def EnvAt (w : World) : Prop :=
  (∃ m, w.cell? ⟨3, 0, none⟩ = some (.int .i64 m)) ∧
  (∃ a, w.cell? ⟨6, 0, none⟩ = some (.iface 161 (.pointer (some a)))) ∧
  (∃ t p, w.cell? ⟨7, 0, none⟩ = some (.iface t p)) ∧
  (∃ t p, w.cell? ⟨8, 0, none⟩ = some (.iface t p)) ∧
  (∀ n, n < 128 → w.cell? ⟨0, n, none⟩ = some (.int .u16 (other n : Nat)))
/-- .. and go on holding, whatever is made. -/
def Env (w : World) : Prop := ∀ w', Below w.heap.size w w' → EnvAt w'
theorem Env.at {w : World} (h : Env w) : EnvAt w := h w (Below.refl _ _)
theorem Env.most {w : World} (h : Env w) : ∃ m, w.cell? ⟨3, 0, none⟩ = some (.int .i64 m) := h.at.1
theorem Env.texts {w : World} (h : Env w) : (∃ t p, w.cell? ⟨7, 0, none⟩ = some (.iface t p)) ∧ (∃ t p, w.cell? ⟨8, 0, none⟩ = some (.iface t p)) := ⟨h.at.2.2.1, h.at.2.2.2.1⟩
theorem Env.on {w w1 : World} (h : Env w) (b : Below w.heap.size w w1) : Env w1 := fun w' h' => h w' (b.trans (h'.mono b.size))
theorem env_of {W : World} (h : EnvAt W) : Env W := by
  intro w' hb
  obtain ⟨⟨m, hm⟩, ⟨a, ha⟩, ⟨t, p, hs⟩, ⟨t', p', hr⟩, hf⟩ := h
  exact ⟨⟨m, (hb.cell (World.block_lt_of_cell? W _ hm)).trans hm⟩, ⟨a, (hb.cell (World.block_lt_of_cell? W _ ha)).trans ha⟩, ⟨t, p, (hb.cell (World.block_lt_of_cell? W _ hs)).trans hs⟩, ⟨t', p', (hb.cell (World.block_lt_of_cell? W _ hr)).trans hr⟩, fun n hn => (hb.cell (World.block_lt_of_cell? W _ (hf n hn))).trans (hf n hn)⟩
end Go.Proofs.YtmeliljioagipaaGreatDoor
