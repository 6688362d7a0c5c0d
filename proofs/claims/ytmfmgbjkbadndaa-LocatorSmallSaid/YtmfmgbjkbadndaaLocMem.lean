/-
  A reference in memory: its nine cells; how a call ends that hands one back.
-/
import Derived.Test.YtmfmgbjkbadndaaRefLoc3
import Derived.Test.YtmfmgbjkbadndaaCells
namespace Go.Proofs.Ytmfmgbjkbadndaa
open Go.RowKit

def uArr (u : Lc.U) : Array Value := #[.string (Lc.str u.scheme), .string (Lc.str u.host), .string (Lc.str u.path), .string (Lc.str u.query), .string (Lc.str u.frag), .bool u.hasS, .bool u.hasH, .bool u.hasQ, .bool u.hasF]
namespace Lc
def none : U := ⟨[], [], [], [], [], false, false, false, false⟩
/-- Its parts are short. -/
def Small (u : U) : Prop := u.scheme.length ≤ 100000 ∧ u.host.length ≤ 100000 ∧ u.path.length ≤ 100000 ∧ u.query.length ≤ 100000 ∧ u.frag.length ≤ 100000
theorem str_app (a b : List UInt8) : str a ++ str b = str (a ++ b) := bytes_eq (by rw [ByteArray.data_append, Array.toList_append, str_list, str_list, str_list])
end Lc
theorem uri_open {w : World} {b : Nat} {u : Lc.U} (h : Cells w b 24 (uArr u)) :
    w.cell? ⟨b, 0, none⟩ = some (.string (Lc.str u.scheme)) ∧ w.cell? ⟨b, 1, none⟩ = some (.string (Lc.str u.host)) ∧ w.cell? ⟨b, 2, none⟩ = some (.string (Lc.str u.path)) ∧ w.cell? ⟨b, 3, none⟩ = some (.string (Lc.str u.query)) ∧ w.cell? ⟨b, 4, none⟩ = some (.string (Lc.str u.frag)) ∧ w.cell? ⟨b, 5, none⟩ = some (.bool u.hasS) ∧ w.cell? ⟨b, 6, none⟩ = some (.bool u.hasH) ∧ w.cell? ⟨b, 7, none⟩ = some (.bool u.hasQ) ∧ w.cell? ⟨b, 8, none⟩ = some (.bool u.hasF) :=
  ⟨h.cell rfl, h.cell rfl, h.cell rfl, h.cell rfl, h.cell rfl, h.cell rfl, h.cell rfl, h.cell rfl, h.cell rfl⟩
theorem zero_open {w : World} {b : Nat} (h : Cells w b 24 (uArr Lc.none)) :
    w.cell? ⟨b, 0, none⟩ = some (.string ⟨#[]⟩) ∧ w.cell? ⟨b, 1, none⟩ = some (.string ⟨#[]⟩) ∧ w.cell? ⟨b, 2, none⟩ = some (.string ⟨#[]⟩) ∧ w.cell? ⟨b, 3, none⟩ = some (.string ⟨#[]⟩) ∧ w.cell? ⟨b, 4, none⟩ = some (.string ⟨#[]⟩) ∧ w.cell? ⟨b, 5, none⟩ = some (.bool false) ∧ w.cell? ⟨b, 6, none⟩ = some (.bool false) ∧ w.cell? ⟨b, 7, none⟩ = some (.bool false) ∧ w.cell? ⟨b, 8, none⟩ = some (.bool false) :=
  ⟨h.cell rfl, h.cell rfl, h.cell rfl, h.cell rfl, h.cell rfl, h.cell rfl, h.cell rfl, h.cell rfl, h.cell rfl⟩
def nineSet (w : World) (b : Nat) (x0 x1 x2 x3 x4 x5 x6 x7 x8 : Value) : World := ((((((((w.setCell ⟨b, 0, none⟩ x0).setCell ⟨b, 1, none⟩ x1).setCell ⟨b, 2, none⟩ x2).setCell ⟨b, 3, none⟩ x3).setCell ⟨b, 4, none⟩ x4).setCell ⟨b, 5, none⟩ x5).setCell ⟨b, 6, none⟩ x6).setCell ⟨b, 7, none⟩ x7).setCell ⟨b, 8, none⟩ x8
theorem list_nine {c : List Value} (h : c.length = 9) : ∃ a0 a1 a2 a3 a4 a5 a6 a7 a8, c = [a0, a1, a2, a3, a4, a5, a6, a7, a8] := by
  match c, h with
  | [a0, a1, a2, a3, a4, a5, a6, a7, a8], _ => exact ⟨a0, a1, a2, a3, a4, a5, a6, a7, a8, rfl⟩
theorem nine_cells {w : World} {b : Nat} {A : Array Value} (hA : A.size = 9) (h : Cells w b 24 A) (x0 x1 x2 x3 x4 x5 x6 x7 x8 : Value) : Cells (nineSet w b x0 x1 x2 x3 x4 x5 x6 x7 x8) b 24 #[x0, x1, x2, x3, x4, x5, x6, x7, x8] := by
  obtain ⟨l⟩ := A
  obtain ⟨a0, a1, a2, a3, a4, a5, a6, a7, a8, rfl⟩ := list_nine (c := l) hA
  have h0 := h.set 0 x0
  rw [show (#[a0, a1, a2, a3, a4, a5, a6, a7, a8] : Array Value).setIfInBounds 0 x0 = #[x0, a1, a2, a3, a4, a5, a6, a7, a8] from rfl] at h0
  have h1 := h0.set 1 x1
  rw [show (#[x0, a1, a2, a3, a4, a5, a6, a7, a8] : Array Value).setIfInBounds 1 x1 = #[x0, x1, a2, a3, a4, a5, a6, a7, a8] from rfl] at h1
  have h2 := h1.set 2 x2
  rw [show (#[x0, x1, a2, a3, a4, a5, a6, a7, a8] : Array Value).setIfInBounds 2 x2 = #[x0, x1, x2, a3, a4, a5, a6, a7, a8] from rfl] at h2
  have h3 := h2.set 3 x3
  rw [show (#[x0, x1, x2, a3, a4, a5, a6, a7, a8] : Array Value).setIfInBounds 3 x3 = #[x0, x1, x2, x3, a4, a5, a6, a7, a8] from rfl] at h3
  have h4 := h3.set 4 x4
  rw [show (#[x0, x1, x2, x3, a4, a5, a6, a7, a8] : Array Value).setIfInBounds 4 x4 = #[x0, x1, x2, x3, x4, a5, a6, a7, a8] from rfl] at h4
  have h5 := h4.set 5 x5
  rw [show (#[x0, x1, x2, x3, x4, a5, a6, a7, a8] : Array Value).setIfInBounds 5 x5 = #[x0, x1, x2, x3, x4, x5, a6, a7, a8] from rfl] at h5
  have h6 := h5.set 6 x6
  rw [show (#[x0, x1, x2, x3, x4, x5, a6, a7, a8] : Array Value).setIfInBounds 6 x6 = #[x0, x1, x2, x3, x4, x5, x6, a7, a8] from rfl] at h6
  have h7 := h6.set 7 x7
  rw [show (#[x0, x1, x2, x3, x4, x5, x6, a7, a8] : Array Value).setIfInBounds 7 x7 = #[x0, x1, x2, x3, x4, x5, x6, x7, a8] from rfl] at h7
  have h8 := h7.set 8 x8
  rw [show (#[x0, x1, x2, x3, x4, x5, x6, x7, a8] : Array Value).setIfInBounds 8 x8 = #[x0, x1, x2, x3, x4, x5, x6, x7, x8] from rfl] at h8
  exact h8
theorem nine_below {B : Nat} {w0 w : World} {b : Nat} (h : Below B w0 w) (hb : B ≤ b) (x0 x1 x2 x3 x4 x5 x6 x7 x8 : Value) : Below B w0 (nineSet w b x0 x1 x2 x3 x4 x5 x6 x7 x8) := ((((((((h.setCell (p := ⟨b, 0, none⟩) hb x0).setCell (p := ⟨b, 1, none⟩) hb x1).setCell (p := ⟨b, 2, none⟩) hb x2).setCell (p := ⟨b, 3, none⟩) hb x3).setCell (p := ⟨b, 4, none⟩) hb x4).setCell (p := ⟨b, 5, none⟩) hb x5).setCell (p := ⟨b, 6, none⟩) hb x6).setCell (p := ⟨b, 7, none⟩) hb x7).setCell (p := ⟨b, 8, none⟩) hb x8
theorem nine_other {w : World} {b c : Nat} {t : TypeId} {A : Array Value} (h : Cells w b t A) (hne : b ≠ c) (x0 x1 x2 x3 x4 x5 x6 x7 x8 : Value) : Cells (nineSet w c x0 x1 x2 x3 x4 x5 x6 x7 x8) b t A := ((((((((h.other 0 x0 hne).other 1 x1 hne).other 2 x2 hne).other 3 x3 hne).other 4 x4 hne).other 5 x5 hne).other 6 x6 hne).other 7 x7 hne).other 8 x8 hne
theorem uri_end {F : Func} {R : Ending → World → Prop} {tmps : Array Value} {w : World} {rb i : Nat} {u : Lc.U} (hres : F.results = #[ResultVar.cell i 24])
    (h2 : tmps[i]? = some (.pointer (some ⟨rb, 0, none⟩))) (hc : Cells w rb 24 (uArr u)) (hR : R (.returned (.agg (uArr u))) w) : bodyPost Try.prog F R .ret { tmps := tmps, defers := [] } w := by
  refine ⟨rfl, _, ?_, hR⟩
  have l2 : i < tmps.size := (Array.getElem?_eq_some_iff.1 h2).1
  have g2 : tmps[i] = .pointer (some ⟨rb, 0, none⟩) := (Array.getElem?_eq_some_iff.1 h2).2
  obtain ⟨x0, x1, x2, x3, x4, x5, x6, x7, x8⟩ := uri_open hc
  simp [results, hres, go_sem, l2, g2, x0, x1, x2, x3, x4, x5, x6, x7, x8]
  rfl
theorem uri_end2 {F : Func} {R : Ending → World → Prop} {tmps : Array Value} {w : World} {rb i k : Nat} {u : Lc.U} {y : Int} (hres : F.results = #[ResultVar.cell i 24, ResultVar.tmp k])
    (h2 : tmps[i]? = some (.pointer (some ⟨rb, 0, none⟩))) (h4 : tmps[k]? = some (.int .i64 y)) (hc : Cells w rb 24 (uArr u)) (hR : R (.returned (.tuple #[.agg (uArr u), .int .i64 y])) w) : bodyPost Try.prog F R .ret { tmps := tmps, defers := [] } w := by
  refine ⟨rfl, _, ?_, hR⟩
  have l2 : i < tmps.size := (Array.getElem?_eq_some_iff.1 h2).1
  have g2 : tmps[i] = .pointer (some ⟨rb, 0, none⟩) := (Array.getElem?_eq_some_iff.1 h2).2
  have l4 : k < tmps.size := (Array.getElem?_eq_some_iff.1 h4).1
  have g4 : tmps[k] = .int .i64 y := (Array.getElem?_eq_some_iff.1 h4).2
  obtain ⟨x0, x1, x2, x3, x4, x5, x6, x7, x8⟩ := uri_open hc
  simp [results, hres, go_sem, l2, g2, l4, g4, x0, x1, x2, x3, x4, x5, x6, x7, x8]
  rfl

/-- A reference that is being laid: the result's cells are as they were, the variable's hold this. -/
structure SP (w w' : World) (u : Lc.U) : Prop where
  low : Below w.heap.size w w'
  r : Cells w' w.heap.size 24 (uArr Lc.none)
  c : Cells w' (w.heap.size + 1) 24 (uArr u)
theorem SP.first (w : World) : SP w ((w.alloc (.cells (uArr Lc.none) 24)).alloc (.cells (uArr Lc.none) 24)) Lc.none := by
  refine ⟨((Below.refl _ _).alloc (Nat.le_refl _) _).alloc (by simp) _, (Cells.new w 24 (uArr Lc.none)).alloc _, ?_⟩
  have := Cells.new (w.alloc (.cells (uArr Lc.none) 24)) 24 (uArr Lc.none)
  rwa [World.size_alloc] at this
theorem SP.set {w w' : World} {u u' : Lc.U} (h : SP w w' u) (i : Nat) (v : Value) (hA : (uArr u).setIfInBounds i v = uArr u') : SP w (w'.setCell ⟨w.heap.size + 1, i, none⟩ v) u' :=
  ⟨h.low.setCell (p := ⟨w.heap.size + 1, i, none⟩) (by show w.heap.size ≤ w.heap.size + 1; omega) _, h.r.other i v (by omega), by have := h.c.set i v; rwa [hA] at this⟩
theorem SP.set2 {w w' : World} {u u' : Lc.U} (h : SP w w' u) (i j : Nat) (v x : Value) (hA : ((uArr u).setIfInBounds i v).setIfInBounds j x = uArr u') : SP w ((w'.setCell ⟨w.heap.size + 1, i, none⟩ v).setCell ⟨w.heap.size + 1, j, none⟩ x) u' :=
  ⟨(h.low.setCell (p := ⟨w.heap.size + 1, i, none⟩) (by show w.heap.size ≤ w.heap.size + 1; omega) _).setCell (p := ⟨w.heap.size + 1, j, none⟩) (by show w.heap.size ≤ w.heap.size + 1; omega) _, (h.r.other i v (by omega)).other j x (by omega), by have := (h.c.set i v).set j x; rwa [hA] at this⟩
end Go.Proofs.Ytmfmgbjkbadndaa
