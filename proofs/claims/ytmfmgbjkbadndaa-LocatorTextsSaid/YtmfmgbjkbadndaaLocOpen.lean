/-
  From a reading of a reference handed over to what the walks ask: its parts, no longer than memory reaches.
-/
import Derived.Test.YtmfmgbjkbadndaaLocLaw7
import Derived.Test.YtmfmgbjkbadndaaLift
namespace Go.Proofs.Ytmfmgbjkbadndaa
open Go.ChangeShapes Go.WideShapes Go.ChangeAt Go.RowKit Go.Deep

theorem trod_struct9 {H : Type} {enc : TypeId × Value → H} {P : Program} {w : World} {base : Nat} {spare : Nat → Bool} {held : Bool} {t : TypeId} {f0 f1 f2 f3 f4 f5 f6 f7 f8 : Field} {fuel : Nat} {cs : List Value} {x : DataW H × List MemPlace} (ht : P.underlying t = some (.struct #[f0, f1, f2, f3, f4, f5, f6, f7, f8])) (h : DataW.trod enc P w base spare held fuel t cs = some x) :
    ∃ y0 y1 y2 y3 y4 y5 y6 y7 y8 n, fuel = n + 1 ∧ x.1 = .agg [y0.1, y1.1, y2.1, y3.1, y4.1, y5.1, y6.1, y7.1, y8.1] ∧ cs.length = P.cellsOf t ∧ DataW.trod enc P w base spare held n f0.type ((cs.drop f0.offset).take (P.cellsOf f0.type)) = some y0 ∧ DataW.trod enc P w base spare held n f1.type ((cs.drop f1.offset).take (P.cellsOf f1.type)) = some y1 ∧ DataW.trod enc P w base spare held n f2.type ((cs.drop f2.offset).take (P.cellsOf f2.type)) = some y2 ∧ DataW.trod enc P w base spare held n f3.type ((cs.drop f3.offset).take (P.cellsOf f3.type)) = some y3 ∧ DataW.trod enc P w base spare held n f4.type ((cs.drop f4.offset).take (P.cellsOf f4.type)) = some y4 ∧ DataW.trod enc P w base spare held n f5.type ((cs.drop f5.offset).take (P.cellsOf f5.type)) = some y5 ∧ DataW.trod enc P w base spare held n f6.type ((cs.drop f6.offset).take (P.cellsOf f6.type)) = some y6 ∧ DataW.trod enc P w base spare held n f7.type ((cs.drop f7.offset).take (P.cellsOf f7.type)) = some y7 ∧ DataW.trod enc P w base spare held n f8.type ((cs.drop f8.offset).take (P.cellsOf f8.type)) = some y8 := by
  obtain ⟨xs, n, hn, rfl, hl, hlen, hf⟩ := DataW.trod_struct ht h
  match xs, hlen with
  | [y0, y1, y2, y3, y4, y5, y6, y7, y8], _ => exact ⟨y0, y1, y2, y3, y4, y5, y6, y7, y8, n, hn, by simp, hl, by simpa using hf 0 f0 rfl, by simpa using hf 1 f1 rfl, by simpa using hf 2 f2 rfl, by simpa using hf 3 f3 rfl, by simpa using hf 4 f4 rfl, by simpa using hf 5 f5 rfl, by simpa using hf 6 f6 rfl, by simpa using hf 7 f7 rfl, by simpa using hf 8 f8 rfl⟩

set_option maxRecDepth 100000 in
set_option maxHeartbeats 1600000 in
theorem uri_trod {H : Type} {enc : TypeId × Value → H} {W : World} {spare : Nat → Bool} {held : Bool} {n : Nat} {cs : List Value} {x : DataW H × List MemPlace} (h : DataW.trod enc Try.prog W 0 spare held n 24 cs = some x) (hw : ∀ k ∈ x.1.weights Try.prog 24, k ≤ reachBytes) :
    ∃ u : Lc.U, cs = (uArr u).toList ∧ Lc.total u ≤ 1125899906842624 := by
  obtain ⟨y0, y1, y2, y3, y4, y5, y6, y7, y8, m, rfl, hx, hlen, h0, h1, h2, h3, h4, h5, h6, h7, h8⟩ := trod_struct9 Try.underlying24 h
  have cu : Try.prog.cellsOf 24 = 9 := by kernel_rfl
  have c9 : Try.prog.cellsOf 9 = 1 := by kernel_rfl
  have cb : Try.prog.cellsOf 4 = 1 := by kernel_rfl
  rw [cu] at hlen
  match cs, hlen with
  | [x0, x1, x2, x3, x4, x5, x6, x7, x8], _ =>
    simp only [c9, cb] at h0 h1 h2 h3 h4 h5 h6 h7 h8
    obtain ⟨s0, e0, f0, _⟩ := DataW.trod_string Try.underlying9 h0
    obtain ⟨s1, e1, f1, _⟩ := DataW.trod_string Try.underlying9 h1
    obtain ⟨s2, e2, f2, _⟩ := DataW.trod_string Try.underlying9 h2
    obtain ⟨s3, e3, f3, _⟩ := DataW.trod_string Try.underlying9 h3
    obtain ⟨s4, e4, f4, _⟩ := DataW.trod_string Try.underlying9 h4
    obtain ⟨b5, e5, f5⟩ := DataW.trod_bool Try.underlying4 h5
    obtain ⟨b6, e6, f6⟩ := DataW.trod_bool Try.underlying4 h6
    obtain ⟨b7, e7, f7⟩ := DataW.trod_bool Try.underlying4 h7
    obtain ⟨b8, e8, f8⟩ := DataW.trod_bool Try.underlying4 h8
    simp at e0 e1 e2 e3 e4 e5 e6 e7 e8
    subst e0; subst e1; subst e2; subst e3; subst e4; subst e5; subst e6; subst e7; subst e8
    rw [hx] at hw
    simp only [DataW.weights, Try.underlying24] at hw
    have hlt := reachBytes_lt
    have a0 := hw s0.data.toList.length (by rw [f0]; simp [DataW.weightsEach, DataW.weights])
    have a1 := hw s1.data.toList.length (by rw [f1]; simp [DataW.weightsEach, DataW.weights])
    have a2 := hw s2.data.toList.length (by rw [f2]; simp [DataW.weightsEach, DataW.weights])
    have a3 := hw s3.data.toList.length (by rw [f3]; simp [DataW.weightsEach, DataW.weights])
    have a4 := hw s4.data.toList.length (by rw [f4]; simp [DataW.weightsEach, DataW.weights])
    refine ⟨⟨s0.data.toList, s1.data.toList, s2.data.toList, s3.data.toList, s4.data.toList, b5, b6, b7, b8⟩, ?_, ?_⟩
    · unfold uArr
      dsimp only
      rw [← Lc.str_of (s := s0) rfl, ← Lc.str_of (s := s1) rfl, ← Lc.str_of (s := s2) rfl, ← Lc.str_of (s := s3) rfl, ← Lc.str_of (s := s4) rfl]
    · unfold Lc.total
      dsimp only
      omega
theorem uri_read {H : Type} {enc : TypeId × Value → H} {W : World} {spare : Nat → Bool} {held : Bool} {base : Nat} {v : Value} {d : DataW H} {p : List MemPlace} (hv : Value.okWide Try.prog W .any base 24 v) (h : DataW.Trod enc Try.prog W 0 spare held 24 v d p)
    (hw : ∀ k ∈ d.weights Try.prog 24, k ≤ reachBytes) : ∃ u : Lc.U, v = .agg (uArr u) ∧ Lc.total u ≤ 1125899906842624 := by
  obtain ⟨cs, rfl, hsz⟩ := okWide_struct Try.underlying24 hv
  obtain ⟨fuel, hf⟩ := h
  obtain ⟨u, h1, h2⟩ := uri_trod (n := fuel) (cs := cs.toList) (x := (d, p)) (by simpa [Value.cells] using hf) hw
  exact ⟨u, by rw [show cs = uArr u from Array.toList_inj.1 h1], h2⟩
theorem sized_on {H : Type} {enc : TypeId × Value → H} {a : Assume} {C : Checked} {os : Os} {f : FuncId} {fn : Func} {s : ChangeSpec} {conds : List PathCond} {apart fresh handsOn again : Bool}
    (ownK : ownKnob C.prog.godebug = none) (started : os.Started) (noInit : C.prog.inits.idxOf? f = none) (hfn : C.prog.funcs[f]? = some fn)
    (witness : ∃ (w : World) (tape : Tape) (i : Input), w.os = os ∧ (w.forCall tape i).Shaped C.prog ∧ i.vars = [] ∧ Input.okWide C.prog (w.forCall tape i) .any w.heap.size f i ∧
      s.pre6 enc C.prog fn conds apart (w.forCall tape i).memory i.args ∧ a.holds C.prog (lone (Frame.enter C.prog f i.args .normal) [] (w.forCall tape i)))
    (contract : ∀ (W : World) (base : Nat) (args : Array Value) (ds gs : List (DataW H)) (before : List MemPlace),
      (∀ (j : Nat) t v, fn.params[j]? = some t → args[j]? = some v → Value.okWide C.prog W .any base t v) →
      DataW.Whole enc C.prog fn.params.toList s.vars apart W args.toList ds gs before →
      (DataW.weightsEach C.prog (fn.params.toList ++ s.plain.varTypes C.prog) (ds ++ gs)).all (· ≤ reachBytes) = true →
      Calls C.prog f args W fun e W' => ∃ v, e = .returned v ∧ s.post enc C.prog fn apart fresh handsOn again W args v W') :
    ReturnsInHanded a C os f .any (s.pre6 enc C.prog fn conds apart) (s.post enc C.prog fn apart fresh handsOn again) := by
  refine returnsInHanded_of_calls ownK started noInit witness ?_
  intro w tape i _ _ _ hok hpre _
  obtain ⟨_, _, _, fn', hfn', _, _, _, _, hval⟩ := hok
  obtain rfl : fn' = fn := Option.some.inj (hfn'.symm.trans hfn)
  obtain ⟨⟨ds, gs, before, hw, _⟩, hz⟩ := hpre
  refine (contract (w.forCall tape i) w.heap.size i.args ds gs before hval (DataW.Whole.of_heap (w' := w.forCall tape i) (by rfl) hw) (hz.weights hw)).mono fun e W' ⟨v, he, hp⟩ => ?_
  subst he
  exact ChangeSpec.post_blind hp
end Go.Proofs.Ytmfmgbjkbadndaa
