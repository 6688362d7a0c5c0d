/-
  From a reading of a media type handed over to what the walks ask: two texts and pairs in memory, none of them longer than memory reaches.
-/
import Derived.Test.YtbaodnmgggdcjaaDoorMediaLaw5
import Derived.Test.YtbaodnmgggdcjaaDoorLift
namespace Go.Proofs.YtbaodnmgggdcjaaDoor
open Go.ChangeShapes Go.WideShapes Go.ChangeAt Go.RowKit Go.Deep

theorem weights_all {H : Type} {P : Program} {e : TypeId} {d : DataW H} {k : Nat} (hk : k ∈ d.weights P e) : ∀ {l : List (DataW H)}, d ∈ l → k ∈ DataW.weightsAll P e l
  | [], h => by cases h
  | c :: l, h => by
    unfold DataW.weightsAll
    rw [List.mem_append]
    rcases List.mem_cons.1 h with rfl | h
    · exact .inl hk
    · exact .inr (weights_all hk h)

set_option maxRecDepth 100000 in
theorem pair_sized {H : Type} {enc : TypeId × Value → H} {W : World} {spare : Nat → Bool} {held : Bool} {n : Nat} {a : Addr} {cs : List Value} {x : DataW H × List MemPlace} (hc : W.cells? 0 a (Tryd.prog.cellsOf 38) = some cs)
    (h : DataW.trod enc Tryd.prog W 0 spare held n 38 cs = some x) :
    ∃ r : Pair, W.cell? a = some (.string r.name) ∧ W.cell? (a.add 1) = some (.string r.value) ∧ x.1 = .agg [.lit (.string r.name.data.toList), .lit (.string r.value.data.toList)] := by
  obtain ⟨y0, y1, m, hx, hlen, h0, h1⟩ := ChangeShapes.trod_struct2 Tryd.underlying38 h
  obtain ⟨_, _, hat⟩ := World.cells?_some hc
  have c35 : Tryd.prog.cellsOf 38 = 2 := by kernel_rfl
  have c9 : Tryd.prog.cellsOf 9 = 1 := by kernel_rfl
  rw [c35] at hlen hat
  match cs, hlen with
  | [x0, x1], _ =>
    simp only [c9] at h0 h1
    obtain ⟨s0, e0, f0, _⟩ := DataW.trod_string Tryd.underlying9 h0
    obtain ⟨s1, e1, f1, _⟩ := DataW.trod_string Tryd.underlying9 h1
    simp at e0 e1
    subst e0; subst e1
    refine ⟨⟨s0, s1⟩, by simpa [Addr.add] using hat 0 (by decide), by simpa using hat 1 (by decide), ?_⟩
    rw [hx, f0, f1]

set_option maxRecDepth 100000 in
theorem pairs_sized {H : Type} {enc : TypeId × Value → H} {W : World} {spare : Nat → Bool} {held : Bool} {v : Value} {n : Nat} {x : DataW H × List MemPlace} (h : DataW.trod enc Tryd.prog W 0 spare held n 23 [v] = some x)
    (hw : ∀ k ∈ x.1.weights Tryd.prog 23, k ≤ reachBytes) :
    ∃ (ao : Option Addr) (cap : Nat) (l : List Pair), v = .slice ao l.length cap ∧ PairsIn W ao l ∧ l.length ≤ maxLen ∧ ∀ a ∈ l, a.name.size ≤ 140737488355328 ∧ a.value.size ≤ 140737488355328 := by
  rcases open_slice Tryd.underlying23 h with ⟨hcs, _⟩ | ⟨a', len', cap', m, n, D, Pl, hcs, _, hl, hm, hmm, hx, hall⟩
  · simp at hcs
    subst hcs
    exact ⟨none, 0, [], rfl, fun j hj => (by simp at hj), by unfold maxLen; simp, fun r hr => (by cases hr)⟩
  · simp at hcs
    subst hcs
    have hlm : len' ≤ m := by rw [hmm]; split <;> omega
    have c2 : Tryd.prog.cellsOf 38 = 2 := by kernel_rfl
    have hrow : ∀ i, i < len' → ∃ r : Pair, W.cell? (a'.add (i * 2)) = some (.string r.name) ∧ W.cell? ((a'.add (i * 2)).add 1) = some (.string r.value) ∧ D i = .agg [.lit (.string r.name.data.toList), .lit (.string r.value.data.toList)] := fun i hi => by
      obtain ⟨cs, hc, ht⟩ := hall i (by omega)
      rw [show a'.add (i * Tryd.prog.cellsOf 38) = a'.add (i * 2) by rw [c2]] at hc
      exact pair_sized hc ht
    obtain ⟨R, hR⟩ := choose_lt hrow
    refine ⟨some a', cap', (List.range len').map R, by simp, fun j hj => ?_, by simp; omega, fun r hr => ?_⟩
    · have hj' : j < len' := by simpa using hj
      have h0 := (hR 0 (by omega)).1
      obtain ⟨b, off, sp⟩ := a'
      have hsp : sp = none := by
        cases sp with
        | none => rfl
        | some q =>
          simp only [Nat.zero_mul, Addr.add, if_true] at h0
          unfold World.cell? at h0
          split at h0 <;> simp at h0
      subst hsp
      obtain ⟨q0, q1, _⟩ := hR j hj'
      simp only [WideShapes.add_plain] at q0 q1
      simp only [List.getElem_map, List.getElem_range]
      exact ⟨b, off, rfl, q0, q1⟩
    · obtain ⟨i, hi, rfl⟩ := List.mem_map.1 hr
      have hil := List.mem_range.1 hi
      have hD := (hR i hil).2.2
      have hmem : ∀ k ∈ (D i).weights Tryd.prog 38, k ≤ reachBytes := fun k hk => hw k (by
        rw [hx]
        simp only [DataW.weights, Tryd.underlying23]
        rw [List.mem_cons, List.mem_append]
        exact .inr (.inl (weights_all hk (List.mem_map.2 ⟨i, hi, rfl⟩))))
      rw [hD] at hmem
      simp only [DataW.weights, Tryd.underlying38] at hmem
      have hlt := reachBytes_lt
      have a0 := hmem _ (List.mem_append.2 (.inl (List.mem_singleton.2 rfl)))
      have a1 := hmem (R i).value.data.toList.length (by simp [DataW.weightsEach, DataW.weights])
      rw [list_len] at a0 a1
      omega

set_option maxRecDepth 100000 in
theorem media_open {H : Type} {enc : TypeId × Value → H} {W : World} {spare : Nat → Bool} {held : Bool} {base : Nat} {v : Value} {d : DataW H} {p : List MemPlace} (hv : Value.okWide Tryd.prog W .any base 25 v) (h : DataW.Trod enc Tryd.prog W 0 spare held 25 v d p)
    (hw : ∀ k ∈ d.weights Tryd.prog 25, k ≤ reachBytes) :
    ∃ (ty sub : ByteArray) (ao : Option Addr) (cap : Nat) (l : List Pair), v = .agg #[.string ty, .string sub, .slice ao l.length cap] ∧ PairsIn W ao l ∧ l.length ≤ maxLen ∧ (∀ a ∈ l, a.name.size ≤ 140737488355328 ∧ a.value.size ≤ 140737488355328) ∧
      ty.size ≤ 140737488355328 ∧ sub.size ≤ 140737488355328 := by
  obtain ⟨v0, v1, v2, y0, y1, y2, n, rfl, hd, _, h0, h1, h2⟩ := Joins.open_agg3 Tryd.underlying25 (by kernel_rfl) (show Tryd.prog.cellsOf 25 = 3 by kernel_rfl) hv h
  obtain ⟨s0, e0, f0, _⟩ := DataW.trod_string Tryd.underlying9 h0
  obtain ⟨s1, e1, f1, _⟩ := DataW.trod_string Tryd.underlying9 h1
  simp at e0 e1
  subst e0; subst e1
  subst hd
  simp only [DataW.weights, Tryd.underlying25] at hw
  have hlt := reachBytes_lt
  have a0 := hw s0.data.toList.length (by rw [f0]; simp [DataW.weightsEach, DataW.weights])
  have a1 := hw s1.data.toList.length (by rw [f1]; simp [DataW.weightsEach, DataW.weights])
  rw [list_len] at a0 a1
  obtain ⟨ao, cap, l, rfl, hp, hl, hz⟩ := pairs_sized h2 (fun k hk => hw k (by
    simp only [List.map_cons, List.map_nil, DataW.weightsEach, List.mem_append]
    exact .inr (.inr (.inl hk))))
  exact ⟨s0, s1, ao, cap, l, rfl, hp, hl, hz, by omega, by omega⟩

/-- How much the arguments are is handed to the contract. -/
theorem sized_on {H : Type} {enc : TypeId × Value → H} {a : Assume} {C : Checked} {os : Os} {f : FuncId} {fn : Func} {s : ChangeSpec} {conds : List PathCond} {apart fresh handsOn again : Bool}
    (ownK : ownKnob C.prog.godebug = none) (started : os.Started) (noInit : C.prog.inits.idxOf? f = none) (hfn : C.prog.funcs[f]? = some fn)
    (witness : ∃ (w : World) (tape : Tape) (i : Input), w.os = os ∧ (w.forCall tape i).Shaped C.prog ∧ i.vars = [] ∧ Input.okWide C.prog (w.forCall tape i) .any w.heap.size f i ∧
      s.pre6 enc C.prog fn conds apart (w.forCall tape i).memory i.args ∧ a.holds C.prog (lone (Frame.enter C.prog f i.args .normal) [] (w.forCall tape i)))
    (contract : ∀ (W : World) (base : Nat) (args : Array Value) (ds gs : List (DataW H)) (before : List MemPlace),
      (∀ (j : Nat) t v, fn.params[j]? = some t → args[j]? = some v → Value.okWide C.prog W .any base t v) →
      DataW.Whole enc C.prog fn.params.toList s.vars apart W args.toList ds gs before →
      (DataW.weightsEach C.prog (fn.params.toList ++ s.plain.varTypes C.prog) (ds ++ gs)).all (· ≤ reachBytes) = true →
      Calls C.prog f args W fun e W' => ∃ v, e = .returned v ∧ s.post enc C.prog fn apart fresh handsOn again W args v W') :
    ReturnsInHanded a C os f .any (s.pre6 enc C.prog fn conds apart) (s.post enc C.prog fn apart fresh handsOn again) := by
  refine returnsInHanded_of_calls ownK started noInit witness ?_
  intro w tape i _ _ _ hok hpre _
  obtain ⟨_, _, _, fn', hfn', _, _, _, _, hval⟩ := hok
  obtain rfl : fn' = fn := Option.some.inj (hfn'.symm.trans hfn)
  obtain ⟨⟨ds, gs, before, hw, _⟩, hz⟩ := hpre
  refine (contract (w.forCall tape i) w.heap.size i.args ds gs before hval (DataW.Whole.of_heap (w' := w.forCall tape i) (by rfl) hw) (hz.weights hw)).mono fun e W' ⟨v, he, hp⟩ => ?_
  subst he
  exact ChangeSpec.post_blind hp
end Go.Proofs.YtbaodnmgggdcjaaDoor
