/-
  Ranges: in plain Lean, and in memory, as rows that a call owns.
-/
import Derived.Test.YtpgdmoaegnehbaaDoorRefSplit
import Derived.Test.YtpgdmoaegnehbaaDoorRefWeight
import Derived.Test.YtpgdmoaegnehbaaDoorRefMParse
import Derived.Test.YtpgdmoaegnehbaaDoorRefFits
namespace Go.Proofs.YtpgdmoaegnehbaaDoor
open Go.RowKit

namespace Ql
/-- The name of a weight. -/
def qn : ByteArray := ⟨#[113]⟩
/-- A range, its weight, and how narrow it is. -/
structure Rg where
  m : Md.Med
  w : Option Nat
  narrow : Nat
def weigh (ps : List Pair) : Option Nat := match Md.param ps qn with
  | some v => weight v.data.toList
  | none => some 1000
def rest (ps : List Pair) : Nat := (ps.filter fun p => decide (p.name ≠ qn)).length
def rg (m : Md.Med) : Rg := ⟨m, weigh m.params, rest m.params + (if m.ty = Md.star then 0 else 100) + (if m.sub = Md.star then 0 else 100)⟩
def ranges (l : List UInt8) : List Rg := (split l).filterMap fun p => (Md.parse p).map rg
end Ql
def rgCells (r : Ql.Rg) (x : Nat) (v : Value) : List Value := [.string r.m.ty, .string r.m.sub, v, .float .f64 x, .int .i64 r.narrow]
def RgIn (B : Nat) (w : World) (c : List Value) (r : Ql.Rg) : Prop := ∃ x v, c = rgCells r x v ∧ OwnsPairs B v r.m.params w ∧ Ql.IsW r.w x
theorem row_apart {B n sz : Nat} {t : TypeId} {v : Value} {xs : List Value} {w : World} {k : Nat} {c : Array Value} {t2 : TypeId} {fr : Nat × Nat} (h : w.ownsRow B t sz v n xs) (hk : w.heap[k]? = some (.cells c t2 fr)) (hne : t2 ≠ t) : v.ownBlock = none ∨ v.ownBlock ≠ some k := by
  obtain ⟨_, ⟨rfl, _⟩ | ⟨g, cap, cur, rfl, hb, hh, _⟩⟩ := h
  · exact .inl rfl
  · right
    simp only [Value.ownBlock, ne_eq, Option.some.injEq]
    rintro rfl
    rw [hk] at hh
    cases hh
    exact hne rfl
theorem row_kind {B n sz : Nat} {t : TypeId} {v : Value} {xs : List Value} {w : World} (h : w.ownsRow B t sz v n xs) {k : Nat} (hk : v.ownBlock = some k) : ∃ c fr, w.heap[k]? = some (.cells c t fr) := by
  obtain ⟨_, ⟨rfl, _⟩ | ⟨g, cap, cur, rfl, hb, hh, _⟩⟩ := h
  · cases hk
  · injection hk with hk
    subst hk
    exact ⟨_, _, hh⟩
theorem OwnsPairs.on {B : Nat} {v : Value} {l : List Pair} {w w' : World} (h : OwnsPairs B v l w) (hb : Below w.heap.size w w') : OwnsPairs B v l w' :=
  World.ownsRow.kept h (grown_of_below hb none) (by cases v.ownBlock <;> simp)
theorem OwnsPairs.base {B B' : Nat} {v : Value} {l : List Pair} {w : World} (h : OwnsPairs B v l w) (hB : B' ≤ B) : OwnsPairs B' v l w := by
  refine ⟨h.1, ?_⟩
  rcases h.2 with hn | ⟨g, cap, cur, rfl, hb, hgg, r⟩
  · exact .inl hn
  · exact .inr ⟨g, cap, cur, rfl, Nat.le_trans hB hb, hgg, r⟩
theorem RgIn.on {B : Nat} {w w' : World} {c : List Value} {r : Ql.Rg} (h : RgIn B w c r) (hb : Below w.heap.size w w') : RgIn B w' c r := by
  obtain ⟨x, v, h1, h2, h3⟩ := h
  exact ⟨x, v, h1, h2.on hb, h3⟩
/-- Ranges lie in memory. -/
def RgsIn (w : World) (ao : Option Addr) (L : List Ql.Rg) : Prop := ∀ j (h : j < L.length), ∃ b off x po pc, ao = some ⟨b, off, none⟩ ∧
  w.cell? ⟨b, off + j * 5, none⟩ = some (.string L[j].m.ty) ∧ w.cell? ⟨b, off + j * 5 + 1, none⟩ = some (.string L[j].m.sub) ∧ w.cell? ⟨b, off + j * 5 + 2, none⟩ = some (.slice po L[j].m.params.length pc) ∧
  w.cell? ⟨b, off + j * 5 + 3, none⟩ = some (.float .f64 x) ∧ w.cell? ⟨b, off + j * 5 + 4, none⟩ = some (.int .i64 L[j].narrow) ∧ PairsIn w po L[j].m.params ∧ Ql.IsW L[j].w x
theorem RgsIn.below {w w' : World} {ao : Option Addr} {L : List Ql.Rg} (h : RgsIn w ao L) (hb : Below w.heap.size w w') : RgsIn w' ao L := by
  intro j hj
  obtain ⟨b, off, x, po, pc, e, c0, c1, c2, c3, c4, hp, hw⟩ := h j hj
  have hlt : b < w.heap.size := World.block_lt_of_cell? w _ c0
  exact ⟨b, off, x, po, pc, e, (hb.cell hlt).trans c0, (hb.cell hlt).trans c1, (hb.cell hlt).trans c2, (hb.cell hlt).trans c3, (hb.cell hlt).trans c4, hp.below hb, hw⟩
theorem flat_five : ∀ (css : List (List Value)) (_ : ∀ c ∈ css, c.length = 5) (j i : Nat) (h : j < css.length), i < 5 → css.flatten[j * 5 + i]? = (css[j])[i]?
  | [], _, j, i, h, _ => by simp at h
  | c :: css, hc, 0, i, _, hi => by
    have := hc c (by simp)
    simp only [List.flatten_cons, Nat.zero_mul, Nat.zero_add, List.getElem_cons_zero]
    rw [List.getElem?_append_left (by omega)]
  | c :: css, hc, j + 1, i, h, hi => by
    have h5 := hc c (by simp)
    simp only [List.flatten_cons, List.getElem_cons_succ]
    rw [List.getElem?_append_right (by omega)]
    have := flat_five css (fun c hc' => hc c (by simp [hc'])) j i (by simpa using h) hi
    rw [← this]
    congr 1
    omega
theorem cells_row (w : World) (xs : List Value) (t : TypeId) : ∀ j u, xs[j]? = some u → (w.alloc (.cells xs.toArray t)).cell? ((⟨w.heap.size, 0, none⟩ : Addr).add j) = some u := by
  intro j u hu
  rw [add_at, Nat.zero_add]
  simp only [World.cell?, heap_alloc_new]
  simpa using hu
end Go.Proofs.YtpgdmoaegnehbaaDoor
