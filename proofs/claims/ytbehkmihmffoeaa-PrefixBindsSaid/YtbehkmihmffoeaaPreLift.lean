/-
  From a reading of the arguments to what the walks of stage 8 ask: pairs in memory; the environment's facts.
-/
import Derived.Test.YtbehkmihmffoeaaPreLaw3
import Derived.Test.YtbehkmihmffoeaaShaped
namespace Go.Proofs.Ytbehkmihmffoeaa
open Go.ChangeShapes Go.WideShapes Go.ChangeAt Go.RowKit Go.Deep

set_option maxRecDepth 100000 in
theorem pair_reads {H : Type} {enc : TypeId × Value → H} {W : World} {spare : Nat → Bool} {held : Bool} {n : Nat} {a : Addr} {cs : List Value} {x : DataW H × List MemPlace} (hc : W.cells? 0 a (Try.prog.cellsOf 30) = some cs)
    (h : DataW.trod enc Try.prog W 0 spare held n 30 cs = some x) : ∃ r : Pair, W.cell? a = some (.string r.name) ∧ W.cell? (a.add 1) = some (.string r.value) ∧ r.name.size ≤ maxLen ∧ r.value.size ≤ maxLen := by
  obtain ⟨y0, y1, m, _, hlen, h0, h1⟩ := ChangeShapes.trod_struct2 Try.underlying30 h
  obtain ⟨_, _, hat⟩ := World.cells?_some hc
  have c35 : Try.prog.cellsOf 30 = 2 := by kernel_rfl
  have c9 : Try.prog.cellsOf 9 = 1 := by kernel_rfl
  rw [c35] at hlen hat
  match cs, hlen with
  | [x0, x1], _ =>
    simp only [c9] at h0 h1
    obtain ⟨s0, e0, _, z0⟩ := DataW.trod_string Try.underlying9 h0
    obtain ⟨s1, e1, _, z1⟩ := DataW.trod_string Try.underlying9 h1
    simp at e0 e1
    subst e0; subst e1
    exact ⟨⟨s0, s1⟩, by simpa [Addr.add] using hat 0 (by decide), by simpa using hat 1 (by decide), z0, z1⟩

set_option maxRecDepth 100000 in
theorem pairs_open {H : Type} {enc : TypeId × Value → H} {W : World} {spare : Nat → Bool} {held : Bool} {v : Value} {d : DataW H} {p : List MemPlace} (hv : ∃ a len cap, v = .slice a len cap) (h : DataW.Trod enc Try.prog W 0 spare held 22 v d p) :
    ∃ (ao : Option Addr) (cap : Nat) (l : List Pair), v = .slice ao l.length cap ∧ PairsIn W ao l ∧ l.length ≤ maxLen ∧ (∀ a ∈ l, a.name.size ≤ maxLen) ∧ (ao = none → cap = 0 ∧ l.length = 0) := by
  obtain ⟨a, len, cap, rfl⟩ := hv
  obtain ⟨fuel, hf⟩ := h
  rcases open_slice Try.underlying22 hf with ⟨hcs, _⟩ | ⟨a', len', cap', m, n, D, Pl, hcs, _, hl, hm, hmm, _, hall⟩
  · simp [Value.cells] at hcs
    obtain ⟨rfl, rfl, rfl⟩ := hcs
    exact ⟨none, 0, [], rfl, fun j hj => (by simp at hj), by unfold maxLen; simp, fun r hr => (by cases hr), fun _ => ⟨rfl, rfl⟩⟩
  · simp [Value.cells] at hcs
    obtain ⟨rfl, rfl, rfl⟩ := hcs
    have hlm : len ≤ m := by rw [hmm]; split <;> omega
    have c2 : Try.prog.cellsOf 30 = 2 := by kernel_rfl
    have hrow : ∀ i, i < len → ∃ r : Pair, W.cell? (a'.add (i * 2)) = some (.string r.name) ∧ W.cell? ((a'.add (i * 2)).add 1) = some (.string r.value) ∧ r.name.size ≤ maxLen ∧ r.value.size ≤ maxLen := fun i hi => by
      obtain ⟨cs, hc, ht⟩ := hall i (by omega)
      rw [show a'.add (i * Try.prog.cellsOf 30) = a'.add (i * 2) by rw [c2]] at hc
      exact pair_reads hc ht
    obtain ⟨R, hR⟩ := choose_lt hrow
    refine ⟨some a', cap, (List.range len).map R, by simp, fun j hj => ?_, by simp; omega, fun r hr => ?_, fun e => by cases e⟩
    · have hj' : j < len := by simpa using hj
      have h0 := (hR 0 (by omega)).1
      obtain ⟨b, off, sp⟩ := a'
      have hsp : sp = none := by
        cases sp with
        | none => rfl
        | some q =>
          simp only [Nat.zero_mul, Addr.add, if_true] at h0
          unfold World.cell? at h0
          split at h0 <;> simp at h0
      subst hsp
      obtain ⟨q0, q1, _, _⟩ := hR j hj'
      simp only [WideShapes.add_plain] at q0 q1
      simp only [List.getElem_map, List.getElem_range]
      exact ⟨b, off, rfl, q0, q1⟩
    · obtain ⟨i, hi, rfl⟩ := List.mem_map.1 hr
      exact (hR i (List.mem_range.1 hi)).2.2.1

theorem mostCell {w : World} (h : w.ShapedOpen Try.prog) : ∃ m, w.cell? ⟨0, 0, none⟩ = some (.int .i64 m) :=
  cell_of_shapedOpen_int (zero := #[.int .i64 0]) (t := 3) h (of_decide_eq_true (by kernel_rfl)) (by kernel_rfl) (by kernel_rfl) (by kernel_rfl) (by kernel_rfl) (by kernel_rfl)
theorem envAt_of {W : World} (h : W.ShapedOpen Try.prog) : EnvAt W := mostCell h
theorem env_of {W : World} (h : EnvAt W) : Env W := by
  intro w' hb
  obtain ⟨m, hm⟩ := h
  exact ⟨m, (hb.cell (World.block_lt_of_cell? W _ hm)).trans hm⟩
end Go.Proofs.Ytbehkmihmffoeaa
