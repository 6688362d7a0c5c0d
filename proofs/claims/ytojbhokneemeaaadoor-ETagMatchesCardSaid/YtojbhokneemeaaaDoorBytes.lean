/-
  A row of bytes that a call owns.
-/
import Derived.Test.YtojbhokneemeaaaDoorTexts
import Derived.Lib.AppendStr
import Derived.Lib.OthersKept
import Derived.Maps.AppendAt
namespace Go.Proofs.YtojbhokneemeaaaDoor
open Go.RowKit

theorem grown_of_below {w w' : World} (h : Below w.heap.size w w') (row : Option Nat) : w.grownBy w' row := ⟨h.os, h.tape, h.output, h.size, fun k hk _ => h.block k hk⟩

theorem infoByte : (Tryd.prog.info? 5).map (fun i => (i.zero, i.size, i.bytes)) = some (some (.int .u8 0), 1, 1) := by kernel_rfl

/-- The call owns a row of these bytes. -/
def Owns (B : Nat) (v : Value) (l : List UInt8) (w : World) : Prop := w.ownsRow B 5 1 v l.length (Lib.byteCells l)

theorem Owns.below {B : Nat} {v : Value} {l : List UInt8} {w w' : World} (h : Owns B v l w) (hg : w.grownBy w' v.ownBlock) (hB : B ≤ w.heap.size) : Below B w w' :=
  (Below.refl _ _).grown hg hB (fun j e => (World.ownsRow.lt h j e).1)

theorem owns_of {B n : Nat} {v : Value} {l : List UInt8} {xs : List Value} {w : World} (h : w.ownsRow B 5 1 v n xs) (hn : n = l.length) (hx : xs = Lib.byteCells l) : Owns B v l w := by
  subst hn; subst hx; exact h

theorem row_form {w : World} {B : Nat} {e : TypeId} {size n : Nat} {v : Value} {xs : List Value} (h : w.ownsRow B e size v n xs) (hn : 0 < n) :
    ∃ g cap, v = .slice (some ⟨g, 0, none⟩) n cap ∧ B ≤ g := by
  obtain ⟨_, ⟨_, rfl⟩ | ⟨g, cap, cur, rfl, hb, _⟩⟩ := h
  · omega
  · exact ⟨g, cap, rfl, hb⟩

/-- A row of the call's own that is not empty, as text. -/
theorem text_of {B : Nat} {v : Value} {l : List UInt8} {w : World} (h : Owns B v l w) (hl : 0 < l.length) : ∃ g cap, v = .slice (some ⟨g, 0, none⟩) l.length cap ∧ ∀ j (hj : j < l.length), w.cell? ((⟨g, 0, none⟩ : Addr).add j) = some (.int .u8 (l[j].toNat : Int)) := by
  obtain ⟨g, cap, rfl, hb⟩ := row_form h hl
  exact ⟨g, cap, rfl, fun j hj => World.ownsRow.cells h (g := g) rfl j _ (by simp [Lib.byteCells, hj])⟩

theorem owns_nil (B : Nat) (w : World) : Owns B (.slice none 0 0) [] w := World.ownsRow_nil _ _ _ _
theorem owns_alloc {B : Nat} {v : Value} {l : List UInt8} {w : World} (h : Owns B v l w) (o : Obj) : Owns B v l (w.alloc o) := World.ownsRow.alloc h o
theorem owns_below {B : Nat} {v : Value} {l : List UInt8} {w w' : World} (h : Owns B v l w) (hb : Below w.heap.size w w') : Owns B v l w' := World.ownsRow.kept h (grown_of_below hb none) (by
  obtain ⟨_, ⟨rfl, _⟩ | ⟨g, cap, cur, rfl, _⟩⟩ := h
  · exact .inl rfl
  · right; simp [Value.ownBlock])

set_option maxRecDepth 100000 in
/-- Converted to a string. -/
theorem owns_string {B : Nat} {v : Value} {l : List UInt8} {w : World} (h : Owns B v l w) (h0 : l = [] → v = .slice none 0 0) : (convert 38 9 v).run Tryd.prog w = .ok (.string ⟨l.toArray⟩) w := by
  by_cases hl : l = []
  · rw [h0 hl, hl]
    rfl
  · obtain ⟨g, cap, rfl, hc⟩ := text_of h (List.length_pos_iff.2 hl)
    exact run_convert_bytes_back (l := l) w 38 9 5 ⟨g, 0, none⟩ cap Tryd.underlying38 Tryd.underlying5 Tryd.underlying9 hc
end Go.Proofs.YtojbhokneemeaaaDoor
