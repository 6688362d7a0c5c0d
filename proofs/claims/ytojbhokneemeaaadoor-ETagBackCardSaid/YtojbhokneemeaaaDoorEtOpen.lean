/-
  From a reading of a tag, and of tags, handed over to what the walks ask; no environment is asked for.
-/
import Derived.Test.YtojbhokneemeaaaDoorEtLaw2
import Derived.Test.YtojbhokneemeaaaDoorEtLaw3
import Derived.Test.YtojbhokneemeaaaDoorLift
namespace Go.Proofs.YtojbhokneemeaaaDoor
open Go.ChangeShapes Go.WideShapes Go.ChangeAt Go.RowKit Go.Deep

def Env (_ : World) : Prop := True
theorem env_of {W : World} (h : Env W) : Env W := h
theorem envAt_of {L : List (String × DataW Unit)} {W : World} (_ : laidMetH Tryd.prog L W) (_ : W.ShapedOpen Tryd.prog) : Env W := trivial

theorem tweights_all {H : Type} {P : Program} {e : TypeId} {d : DataW H} {k : Nat} (hk : k ∈ d.weights P e) : ∀ {l : List (DataW H)}, d ∈ l → k ∈ DataW.weightsAll P e l
  | [], h => by cases h
  | c :: l, h => by
    unfold DataW.weightsAll
    rw [List.mem_append]
    rcases List.mem_cons.1 h with rfl | h
    · exact .inl hk
    · exact .inr (tweights_all hk h)

set_option maxRecDepth 100000 in
theorem tag_sized {H : Type} {enc : TypeId × Value → H} {W : World} {spare : Nat → Bool} {held : Bool} {n : Nat} {a : Addr} {cs : List Value} {x : DataW H × List MemPlace} (hc : W.cells? 0 a (Tryd.prog.cellsOf 23) = some cs)
    (h : DataW.trod enc Tryd.prog W 0 spare held n 23 cs = some x) :
    ∃ r : Tag, W.cell? a = some (.bool r.weak) ∧ W.cell? (a.add 1) = some (.string r.value) ∧ x.1 = .agg [.lit (.bool r.weak), .lit (.string r.value.data.toList)] := by
  obtain ⟨y0, y1, m, hx, hlen, h0, h1⟩ := ChangeShapes.trod_struct2 Tryd.underlying23 h
  obtain ⟨_, _, hat⟩ := World.cells?_some hc
  have c35 : Tryd.prog.cellsOf 23 = 2 := by kernel_rfl
  have cb : Tryd.prog.cellsOf 4 = 1 := by kernel_rfl
  have c9 : Tryd.prog.cellsOf 9 = 1 := by kernel_rfl
  rw [c35] at hlen hat
  match cs, hlen with
  | [x0, x1], _ =>
    simp only [c9, cb] at h0 h1
    obtain ⟨b0, e0, f0⟩ := DataW.trod_bool Tryd.underlying4 h0
    obtain ⟨s1, e1, f1, _⟩ := DataW.trod_string Tryd.underlying9 h1
    simp at e0 e1
    subst e0; subst e1
    refine ⟨⟨b0, s1⟩, by simpa [Addr.add] using hat 0 (by decide), by simpa using hat 1 (by decide), ?_⟩
    rw [hx, f0, f1]

set_option maxRecDepth 100000 in
theorem tags_sized {H : Type} {enc : TypeId × Value → H} {W : World} {spare : Nat → Bool} {held : Bool} {v : Value} {n : Nat} {x : DataW H × List MemPlace} (h : DataW.trod enc Tryd.prog W 0 spare held n 25 [v] = some x)
    (hw : ∀ k ∈ x.1.weights Tryd.prog 25, k ≤ reachBytes) :
    ∃ (ao : Option Addr) (cap : Nat) (l : List Tag), v = .slice ao l.length cap ∧ TagsIn W ao l ∧ l.length ≤ maxLen ∧ ∀ a ∈ l, a.value.size ≤ 140737488355328 := by
  rcases open_slice Tryd.underlying25 h with ⟨hcs, _⟩ | ⟨a', len', cap', m, n, D, Pl, hcs, _, hl, hm, hmm, hx, hall⟩
  · simp at hcs
    subst hcs
    exact ⟨none, 0, [], rfl, fun j hj => (by simp at hj), by unfold maxLen; simp, fun r hr => (by cases hr)⟩
  · simp at hcs
    subst hcs
    have hlm : len' ≤ m := by rw [hmm]; split <;> omega
    have c2 : Tryd.prog.cellsOf 23 = 2 := by kernel_rfl
    have hrow : ∀ i, i < len' → ∃ r : Tag, W.cell? (a'.add (i * 2)) = some (.bool r.weak) ∧ W.cell? ((a'.add (i * 2)).add 1) = some (.string r.value) ∧ D i = .agg [.lit (.bool r.weak), .lit (.string r.value.data.toList)] := fun i hi => by
      obtain ⟨cs, hc, ht⟩ := hall i (by omega)
      rw [show a'.add (i * Tryd.prog.cellsOf 23) = a'.add (i * 2) by rw [c2]] at hc
      exact tag_sized hc ht
    obtain ⟨R, hR⟩ := choose_lt hrow
    refine ⟨some a', cap', (List.range len').map R, by simp, fun j hj => ?_, by simp; omega, fun r hr => ?_⟩
    · have hj' : j < len' := by simpa using hj
      have h0 := (hR 0 (by omega)).1
      obtain ⟨b, off, sp⟩ := a'
      have hsp : sp = none := by
        cases sp with
        | none => rfl
        | some q =>
          simp only [Nat.zero_mul, Addr.add, if_true] at h0
          unfold World.cell? at h0
          split at h0 <;> simp at h0
      subst hsp
      obtain ⟨q0, q1, _⟩ := hR j hj'
      simp only [WideShapes.add_plain] at q0 q1
      simp only [List.getElem_map, List.getElem_range]
      exact ⟨b, off, rfl, q0, q1⟩
    · obtain ⟨i, hi, rfl⟩ := List.mem_map.1 hr
      have hil := List.mem_range.1 hi
      have hD := (hR i hil).2.2
      have hmem : ∀ k ∈ (D i).weights Tryd.prog 23, k ≤ reachBytes := fun k hk => hw k (by
        rw [hx]
        simp only [DataW.weights, Tryd.underlying25]
        rw [List.mem_cons, List.mem_append]
        exact .inr (.inl (tweights_all hk (List.mem_map.2 ⟨i, hi, rfl⟩))))
      rw [hD] at hmem
      simp only [DataW.weights, Tryd.underlying23] at hmem
      have hlt := reachBytes_lt
      have a1 := hmem (R i).value.data.toList.length (by simp [DataW.weightsEach, DataW.weights])
      rw [list_len] at a1
      omega
theorem tags_read {H : Type} {enc : TypeId × Value → H} {W : World} {spare : Nat → Bool} {held : Bool} {base : Nat} {v : Value} {d : DataW H} {p : List MemPlace} (hv : Value.okWide Tryd.prog W .any base 25 v) (h : DataW.Trod enc Tryd.prog W 0 spare held 25 v d p)
    (hw : ∀ k ∈ d.weights Tryd.prog 25, k ≤ reachBytes) :
    ∃ (ao : Option Addr) (cap : Nat) (l : List Tag), v = .slice ao l.length cap ∧ TagsIn W ao l ∧ l.length ≤ maxLen ∧ ∀ a ∈ l, a.value.size ≤ 140737488355328 := by
  obtain ⟨a, len, cap, rfl⟩ := okWide_slice Tryd.underlying25 hv
  obtain ⟨fuel, hf⟩ := h
  exact tags_sized (n := fuel) (x := (d, p)) (by simpa [Value.cells] using hf) hw

set_option maxRecDepth 100000 in
theorem tag_open {H : Type} {enc : TypeId × Value → H} {W : World} {spare : Nat → Bool} {held : Bool} {base : Nat} {v : Value} {d : DataW H} {p : List MemPlace} (hv : Value.okWide Tryd.prog W .any base 23 v) (h : DataW.Trod enc Tryd.prog W 0 spare held 23 v d p) :
    ∃ t : Tag, v = .agg #[.bool t.weak, .string t.value] := by
  obtain ⟨v0, v1, y0, y1, n, rfl, hd, _, h0, h1⟩ := Joins.open_agg2 Tryd.underlying23 (by kernel_rfl) (show Tryd.prog.cellsOf 23 = 2 by kernel_rfl) hv h
  obtain ⟨b0, e0, f0⟩ := DataW.trod_bool Tryd.underlying4 h0
  obtain ⟨s1, e1, f1, _⟩ := DataW.trod_string Tryd.underlying9 h1
  simp at e0 e1
  subst e0; subst e1
  exact ⟨⟨b0, s1⟩, rfl⟩
end Go.Proofs.YtojbhokneemeaaaDoor
