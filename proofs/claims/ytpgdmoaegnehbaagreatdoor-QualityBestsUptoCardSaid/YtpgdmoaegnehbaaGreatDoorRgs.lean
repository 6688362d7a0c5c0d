/-
  Ranges: in plain Lean, and in memory, as rows that a call owns.
-/
import Derived.Test.YtpgdmoaegnehbaaGreatDoorRefSplit
import Derived.Test.YtpgdmoaegnehbaaGreatDoorRefWeight
import Derived.Test.YtpgdmoaegnehbaaGreatDoorRefMParse
import Derived.Test.YtpgdmoaegnehbaaGreatDoorRefFits
namespace Go.Proofs.YtpgdmoaegnehbaaGreatDoor
open Go.RowKit

namespace Ql
/-- The name of a weight. -/
def qn : ByteArray := ⟨#[113]⟩
/-- A range, its weight, and how narrow it is. -/
structure Rg where
  m : Md.Med
  w : Option Nat
  narrow : Nat
def weigh (ps : List Pair) : Option Nat := match Md.param ps qn with
  | some v => weight v.data.toList
  | none => some 1000
def rest (ps : List Pair) : Nat := (ps.filter fun p => decide (p.name ≠ qn)).length
def rg (m : Md.Med) : Rg := ⟨m, weigh m.params, rest m.params + (if m.ty = Md.star then 0 else 100) + (if m.sub = Md.star then 0 else 100)⟩
def ranges (l : List UInt8) : List Rg := (split l).filterMap fun p => (Md.parse p).map rg
end Ql
def rgCells (r : Ql.Rg) (x : Nat) (v : Value) : List Value := [.string r.m.ty, .string r.m.sub, v, .float .f64 x, .int .i64 r.narrow]
def RgIn (B : Nat) (w : World) (c : List Value) (r : Ql.Rg) : Prop := ∃ x v, c = rgCells r x v ∧ OwnsPairs B v r.m.params w ∧ Ql.IsW r.w x
def OwnsRgs (B : Nat) (v : Value) (L : List Ql.Rg) (w : World) : Prop := ∃ css : List (List Value), css.length = L.length ∧ w.ownsRow B 70 5 v L.length css.flatten ∧ ∀ j (h1 : j < css.length) (h2 : j < L.length), RgIn B w css[j] L[j]
theorem row_apart {B n sz : Nat} {t : TypeId} {v : Value} {xs : List Value} {w : World} {k : Nat} {c : Array Value} {t2 : TypeId} {fr : Nat × Nat} (h : w.ownsRow B t sz v n xs) (hk : w.heap[k]? = some (.cells c t2 fr)) (hne : t2 ≠ t) : v.ownBlock = none ∨ v.ownBlock ≠ some k := by
  obtain ⟨_, ⟨rfl, _⟩ | ⟨g, cap, cur, rfl, hb, hh, _⟩⟩ := h
  · exact .inl rfl
  · right
    simp only [Value.ownBlock, ne_eq, Option.some.injEq]
    rintro rfl
    rw [hk] at hh
    cases hh
    exact hne rfl
theorem row_kind {B n sz : Nat} {t : TypeId} {v : Value} {xs : List Value} {w : World} (h : w.ownsRow B t sz v n xs) {k : Nat} (hk : v.ownBlock = some k) : ∃ c fr, w.heap[k]? = some (.cells c t fr) := by
  obtain ⟨_, ⟨rfl, _⟩ | ⟨g, cap, cur, rfl, hb, hh, _⟩⟩ := h
  · cases hk
  · injection hk with hk
    subst hk
    exact ⟨_, _, hh⟩
theorem OwnsPairs.on {B : Nat} {v : Value} {l : List Pair} {w w' : World} (h : OwnsPairs B v l w) (hb : Below w.heap.size w w') : OwnsPairs B v l w' :=
  World.ownsRow.kept h (grown_of_below hb none) (by cases v.ownBlock <;> simp)
theorem OwnsPairs.base {B B' : Nat} {v : Value} {l : List Pair} {w : World} (h : OwnsPairs B v l w) (hB : B' ≤ B) : OwnsPairs B' v l w := by
  refine ⟨h.1, ?_⟩
  rcases h.2 with hn | ⟨g, cap, cur, rfl, hb, hgg, r⟩
  · exact .inl hn
  · exact .inr ⟨g, cap, cur, rfl, Nat.le_trans hB hb, hgg, r⟩
theorem RgIn.on {B : Nat} {w w' : World} {c : List Value} {r : Ql.Rg} (h : RgIn B w c r) (hb : Below w.heap.size w w') : RgIn B w' c r := by
  obtain ⟨x, v, h1, h2, h3⟩ := h
  exact ⟨x, v, h1, h2.on hb, h3⟩
theorem OwnsRgs.nil (B : Nat) (w : World) : OwnsRgs B (.slice none 0 0) [] w := ⟨[], rfl, World.ownsRow_nil _ _ _ _, fun j h1 _ => absurd h1 (by simp)⟩
theorem OwnsRgs.on {B : Nat} {v : Value} {L : List Ql.Rg} {w w' : World} (h : OwnsRgs B v L w) (hb : Below w.heap.size w w') : OwnsRgs B v L w' := by
  obtain ⟨css, h1, h2, h3⟩ := h
  exact ⟨css, h1, World.ownsRow.kept h2 (grown_of_below hb none) (by cases v.ownBlock <;> simp), fun j a b => (h3 j a b).on hb⟩
theorem OwnsRgs.pushed {B : Nat} {v v5 : Value} {L : List Ql.Rg} {w w5 : World} {c : List Value} {r : Ql.Rg} {css : List (List Value)} (hl : css.length = L.length) (ho : w.ownsRow B 70 5 v L.length css.flatten)
    (hi : ∀ j (h1 : j < css.length) (h2 : j < L.length), RgIn B w css[j] L[j]) (hc : RgIn B w c r) (hg : w.grownBy w5 v.ownBlock) (h5 : w5.ownsRow B 70 5 v5 (L.length + 1) (css.flatten ++ c)) : OwnsRgs B v5 (L ++ [r]) w5 := by
  have keep : ∀ {c r}, RgIn B w c r → RgIn B w5 c r := by
    rintro c r ⟨x, pv, h1, h2, h3⟩
    refine ⟨x, pv, h1, World.ownsRow.kept h2 hg ?_, h3⟩
    cases hv : v.ownBlock with
    | none => cases pv.ownBlock <;> simp
    | some k =>
      obtain ⟨cc, fr, hh⟩ := row_kind ho hv
      exact row_apart h2 hh (by decide)
  refine ⟨css ++ [c], by simp [hl], by rw [List.length_append]; simpa using h5, fun j h1 h2 => ?_⟩
  by_cases hj : j < css.length
  · rw [List.getElem_append_left hj, List.getElem_append_left (by omega)]
    exact keep (hi j hj (by omega))
  · simp only [List.length_append, List.length_cons, List.length_nil] at h1 h2
    have e1 : (css ++ [c])[j]'(by simp; omega) = c := by
      rw [List.getElem_append_right (by omega)]; simp
    have e2 : (L ++ [r])[j]'(by simp; omega) = r := by
      rw [List.getElem_append_right (by omega)]; simp
    rw [e1, e2]
    exact keep hc
/-- Ranges lie in memory. -/
def RgsIn (w : World) (ao : Option Addr) (L : List Ql.Rg) : Prop := ∀ j (h : j < L.length), ∃ b off x po pc, ao = some ⟨b, off, none⟩ ∧
  w.cell? ⟨b, off + j * 5, none⟩ = some (.string L[j].m.ty) ∧ w.cell? ⟨b, off + j * 5 + 1, none⟩ = some (.string L[j].m.sub) ∧ w.cell? ⟨b, off + j * 5 + 2, none⟩ = some (.slice po L[j].m.params.length pc) ∧
  w.cell? ⟨b, off + j * 5 + 3, none⟩ = some (.float .f64 x) ∧ w.cell? ⟨b, off + j * 5 + 4, none⟩ = some (.int .i64 L[j].narrow) ∧ PairsIn w po L[j].m.params ∧ Ql.IsW L[j].w x
theorem RgsIn.below {w w' : World} {ao : Option Addr} {L : List Ql.Rg} (h : RgsIn w ao L) (hb : Below w.heap.size w w') : RgsIn w' ao L := by
  intro j hj
  obtain ⟨b, off, x, po, pc, e, c0, c1, c2, c3, c4, hp, hw⟩ := h j hj
  have hlt : b < w.heap.size := World.block_lt_of_cell? w _ c0
  exact ⟨b, off, x, po, pc, e, (hb.cell hlt).trans c0, (hb.cell hlt).trans c1, (hb.cell hlt).trans c2, (hb.cell hlt).trans c3, (hb.cell hlt).trans c4, hp.below hb, hw⟩
theorem flat_five : ∀ (css : List (List Value)) (_ : ∀ c ∈ css, c.length = 5) (j i : Nat) (h : j < css.length), i < 5 → css.flatten[j * 5 + i]? = (css[j])[i]?
  | [], _, j, i, h, _ => by simp at h
  | c :: css, hc, 0, i, _, hi => by
    have := hc c (by simp)
    simp only [List.flatten_cons, Nat.zero_mul, Nat.zero_add, List.getElem_cons_zero]
    rw [List.getElem?_append_left (by omega)]
  | c :: css, hc, j + 1, i, h, hi => by
    have h5 := hc c (by simp)
    simp only [List.flatten_cons, List.getElem_cons_succ]
    rw [List.getElem?_append_right (by omega)]
    have := flat_five css (fun c hc' => hc c (by simp [hc'])) j i (by simpa using h) hi
    rw [← this]
    congr 1
    omega
theorem OwnsRgs.form {B : Nat} {v : Value} {L : List Ql.Rg} {w : World} (h : OwnsRgs B v L w) : ∃ ao cap, v = .slice ao L.length cap ∧ L.length ≤ cap ∧ RgsIn w ao L := by
  obtain ⟨css, h1, h2, h3⟩ := h
  have hc := fun g hg => World.ownsRow.cells h2 (g := g) hg
  have h5 : ∀ c ∈ css, c.length = 5 := fun c hm => by
    obtain ⟨j, hj, rfl⟩ := List.mem_iff_getElem.1 hm
    obtain ⟨x, pv, e, _, _⟩ := h3 j hj (by omega)
    rw [e]; rfl
  obtain ⟨_, ⟨rfl, h0⟩ | ⟨g, cap, cur, rfl, _, _, hcp, _⟩⟩ := h2
  · have hL : L = [] := List.eq_nil_of_length_eq_zero h0
    subst hL
    exact ⟨none, 0, rfl, Nat.le_refl _, fun j hj => by simp at hj⟩
  · refine ⟨_, _, rfl, hcp, fun j hj => ?_⟩
    obtain ⟨x, pv, e, hp, hw⟩ := h3 j (by omega) hj
    obtain ⟨po, pc, rfl, hpi⟩ := pairs_of_owns hp
    have k := fun (i : Nat) (hi : i < 5) u (hu : (rgCells L[j] x (.slice po L[j].m.params.length pc))[i]? = some u) => hc g rfl (j * 5 + i) u (by rw [flat_five css h5 j i (by omega) hi, e]; exact hu)
    refine ⟨g, 0, x, po, pc, rfl, ?_, ?_, ?_, ?_, ?_, hpi, hw⟩
    · have := k 0 (by decide) _ rfl; rwa [add_at] at this
    · have := k 1 (by decide) _ rfl; rwa [add_at] at this
    · have := k 2 (by decide) _ rfl; rwa [add_at] at this
    · have := k 3 (by decide) _ rfl; rwa [add_at] at this
    · have := k 4 (by decide) _ rfl; rwa [add_at] at this
theorem infoRange : (Tryz.prog.info? 70).map (fun i => (i.zero, i.size, i.bytes)) = some (some (.agg #[.string ByteArray.empty, .string ByteArray.empty, .slice none 0 0, .float .f64 0, .int .i64 0]), 5, 72) := by kernel_rfl
theorem cells_row (w : World) (xs : List Value) (t : TypeId) : ∀ j u, xs[j]? = some u → (w.alloc (.cells xs.toArray t)).cell? ((⟨w.heap.size, 0, none⟩ : Addr).add j) = some u := by
  intro j u hu
  rw [add_at, Nat.zero_add]
  simp only [World.cell?, heap_alloc_new]
  simpa using hu
end Go.Proofs.YtpgdmoaegnehbaaGreatDoor
