/-
  PROVED: broadsheetlaw17.ETagLists answers true and leaves its arguments alone, for every input. Its conditions: the package-level variables that the row lists hold what the program's initialisers lay, which the tied card takes from the program's text (the pruned copy of the project).
-/
import Derived.Test.YtojbhokneemeaaaDoorEtOpen
import Derived.Test.YtojbhokneemeaaaDoorTie
import Derived.Test.YtojbhokneemeaaaDoorCards
import Derived.SevenTiedAt
namespace Go.Proofs.YtojbhokneemeaaaDoor
open Go.ChangeShapes Go.WideShapes Go.ChangeAt Go.RowKit Go.ChangeMaps
set_option linter.unusedVariables false

set_option maxRecDepth 100000 in
theorem eTagLists_lifted (os : Os) (started : os.Started) (H : Type) (enc : TypeId × Value → H) :
    ReturnsInHanded {} Tryd.checked os 3 .any (fun w args => (Rows.eTagListsSpec.pre enc Tryd.prog Tryd.f3 Rows.eTagListsRow.domain false w args ∧ laidMetH Tryd.prog Rows.eTagListsRow.laid w) ∧ sizedMet enc Tryd.prog Tryd.f3 (OpenSpec.ofChange Rows.eTagListsSpec) false w args)
      (Rows.eTagListsSpec.post enc Tryd.prog Tryd.f3 false true false false) := by
  refine handed_on (C := Tryd.checked) (X := fun w _ => laidMetH Tryd.prog Rows.eTagListsRow.laid w) (fun _ _ _ hh h => h.of_heap hh) own started (by kernel_rfl) Tryd.func3
    (ChangeSpec.witness_shaped (enc := enc) (C := Tryd.checked) (os := os) (X := fun w _ => laidMetH Tryd.prog Rows.eTagListsRow.laid w) false (World.laidAll Tryd.prog os Rows.eTagListsRow.laid) #[.string ByteArray.empty, .agg #[.bool false, .string ByteArray.empty]] 8 (World.laidAll_os _ _ _)
      (World.shaped_of_ZipB (by kernel_rfl) (by kernel_rfl)) (by kernel_rfl) (by kernel_rfl) (by kernel_rfl)
      (by rw [MakeChecks.laidMetH_plain _ _ _ (by kernel_rfl)]; exact laidMet_laidAll _ (by kernel_rfl) (by kernel_rfl))) ?_
  intro W base args ds gs before hval0 hW hsz hL hsh
  have hval : ∀ (j : Nat) t v, Tryd.f3.params[j]? = some t → args[j]? = some v → Value.okWide Tryd.prog W .any base t v := hval0
  have hW' := hW
  obtain ⟨p, q, hA0, hV, rfl, _, _⟩ := hW
  have hA : DataW.TrodAll enc Tryd.prog W 0 (fun _ => true) true Tryd.f3.params.toList args.toList ds p := hA0
  rw [Tryd.params3] at hA hval
  obtain ⟨v0, vs0, d0, ds0, p0, q0, hargs, rfl, rfl, h0, r0⟩ := trodAll_cons hA
  obtain ⟨v1, vs1, d1, ds1, p1, q1, rfl, rfl, rfl, h1, r1⟩ := trodAll_cons r0
  obtain ⟨rfl, rfl, rfl⟩ := trodAll_nil r1
  obtain rfl : args = #[v0, v1] := by cases args; simp_all
  obtain ⟨rfl, rfl⟩ := trodVars_none hV
  have k0 := h0
  have k1 := h1
  obtain ⟨s0, rfl, _, _, hs0⟩ := open_string Tryd.underlying9 (hval 0 9 v0 rfl rfl) h0
  obtain ⟨t1, rfl⟩ := tag_open (hval 1 23 v1 rfl rfl) h1
  have hE := env_of (envAt_of hL hsh)
  clear hA0 hval0 hval hA
  simp only [List.append_nil] at hW'
  have hlt : ∀ x ∈ (p0 ++ p1), x.block < W.heap.size := fun x hx => by simpa using hW'.lt x (by simpa using hx)
  have stays : ∀ {t : TypeId} {v : Value} {d : DataW H} {ps : List MemPlace} (W' : World), Tryd.prog.readableRec t = true → t < Tryd.prog.types.size → DataW.Trod enc Tryd.prog W 0 (fun _ => true) true t v d ps → (∀ x ∈ ps, x ∈ (p0 ++ p1)) → Below W.heap.size W W' →
      DataW.Trod enc Tryd.prog W' 0 (fun b => decide (b < W.heap.size)) true t v d ps := fun W' hr ht h hp hb =>
    Below.trod laidOut hr ht h hb (fun x hx => hlt x (hp x hx))
  refine (lists_any s0 t1 W hs0).mono fun e W' ⟨he, hb⟩ => ?_
  subst he
  refine ⟨_, rfl, _, _, _, [], (p0 ++ p1), [], hW', ?_, ?_, rfl, hb.frame _, fun h => by cases h⟩
  · exact trodAll_mk1 (shut_bool Tryd.underlying4 _)
  · exact trodAll_cons_mk (stays W' (by kernel_rfl) (of_decide_eq_true (by kernel_rfl)) k0 (fun x hx => by simp [hx]) hb) (trodAll_mk1 (stays W' (by kernel_rfl) (of_decide_eq_true (by kernel_rfl)) k1 (fun x hx => by simp [hx]) hb))

theorem eTagLists_row : Rows.ETagListsSaid :=
  OpenClaim.holds_of_wide 3 Tryd.f3 rfl rfl rfl rfl rfl rfl rfl ⟨rfl, rfl, rfl, rfl, rfl⟩ rfl rfl rfl rfl rfl (by kernel_rfl) Tryd.func3 (by kernel_rfl)
    (of_decide_eq_true (by kernel_rfl)) (by unfold Func.isWrapper; first | (rw [if_pos (by decide +kernel)]; kernel_rfl) | (rw [if_neg (by decide +kernel)]; exact ⟨rfl, rfl⟩))
    (fun os started H enc _ => eTagLists_lifted os started H enc)

theorem eTagLists_holds : Rows.ETagListsCardSaid :=
  Claim7.holds_tied_plain_at .later [] [.data, .pinned] true (true, "f971017c3162804d4a5c3c13834be046fa39a76c91a99e45551b30a9ccb810e3") false eTagLists_row (fun _ h => by cases h) (by kernel_rfl) (fun _ h => by cases h) eTagLists_row_tie rfl ⟨rfl, rfl⟩ (by kernel_rfl) rfl
    (fun f fn hf hfn => by
      obtain rfl : f = 3 := Option.some.inj ((show Tryd.prog.funcNamed "broadsheet/broadsheetlaw17.ETagLists" = some 3 by kernel_rfl).symm.trans hf) |>.symm
      obtain rfl : fn = Tryd.f3 := (Option.some.inj (Tryd.func3.symm.trans hfn)).symm
      exact ⟨by kernel_rfl, fun j t ht => by
        rw [Tryd.params3] at ht
        have hm : t ∈ [9, 23] := by simpa using Array.mem_of_getElem? ht
        have hall : ([9, 23].all fun u => !Tryd.prog.wantsStandIn u) = true := by kernel_rfl
        exact (show Tryd.prog.wantsStandIn t = false by simpa using List.all_eq_true.1 hall t hm)⟩)
    (by kernel_rfl)
#print axioms eTagLists_holds
end Go.Proofs.YtojbhokneemeaaaDoor
