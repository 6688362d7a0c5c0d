/-
  PROVED: broadsheetlaw14.QualitySmall answers true and leaves its arguments alone, for every input. Its conditions: the package-level variables that the row lists hold what the program's initialisers lay, which the tied card takes from the program's text (the pruned copy of the project).
-/
import Derived.Test.YtpgdmoaegnehbaaGreatDoorT04
import Derived.Test.YtpgdmoaegnehbaaGreatDoorTie
import Derived.Test.YtpgdmoaegnehbaaGreatDoorCards
import Derived.SevenTiedAt
namespace Go.Proofs.YtpgdmoaegnehbaaGreatDoor
open Go.ChangeShapes Go.WideShapes Go.ChangeAt Go.RowKit Go.ChangeMaps
set_option linter.unusedVariables false

set_option maxRecDepth 100000 in
theorem qualitySmall_lifted (os : Os) (started : os.Started) (H : Type) (enc : TypeId × Value → H) :
    ReturnsInHanded {} Tryz.checked os 4 .any (fun w args => (Rows.qualitySmallSpec.pre enc Tryz.prog Tryz.f4 Rows.qualitySmallRow.domain false w args ∧ laidMetH Tryz.prog Rows.qualitySmallRow.laid w) ∧ sizedMet enc Tryz.prog Tryz.f4 (OpenSpec.ofChange Rows.qualitySmallSpec) false w args)
      (Rows.qualitySmallSpec.post enc Tryz.prog Tryz.f4 false true false false) := by
  refine handed_on (C := Tryz.checked) (X := fun w _ => laidMetH Tryz.prog Rows.qualitySmallRow.laid w) (fun _ _ _ hh h => h.of_heap hh) own started (by kernel_rfl) Tryz.func4
    (ChangeSpec.witness_shaped (enc := enc) (C := Tryz.checked) (os := os) (X := fun w _ => laidMetH Tryz.prog Rows.qualitySmallRow.laid w) false (World.laidAll Tryz.prog os Rows.qualitySmallRow.laid) #[.slice none 0 0] 8 (World.laidAll_os _ _ _)
      (World.shaped_of_ZipB (by kernel_rfl) (by kernel_rfl)) (by kernel_rfl) (by kernel_rfl) (by kernel_rfl)
      (by rw [MakeChecks.laidMetH_plain _ _ _ (by kernel_rfl)]; exact laidMet_laidAll _ (by kernel_rfl) (by kernel_rfl))) ?_
  intro W base args ds gs before hval0 hW hsz hL hsh
  have hval : ∀ (j : Nat) t v, Tryz.f4.params[j]? = some t → args[j]? = some v → Value.okWide Tryz.prog W .any base t v := hval0
  have hW' := hW
  obtain ⟨p, q, hA0, hV, rfl, _, _⟩ := hW
  have hA : DataW.TrodAll enc Tryz.prog W 0 (fun _ => true) true Tryz.f4.params.toList args.toList ds p := hA0
  rw [Tryz.params4] at hA hval
  obtain ⟨v0, vs0, d0, ds0, p0, q0, hargs, rfl, rfl, h0, r0⟩ := trodAll_cons hA
  obtain ⟨rfl, rfl, rfl⟩ := trodAll_nil r0
  obtain rfl : args = #[v0] := by cases args; simp_all
  obtain ⟨rfl, rfl⟩ := trodVars_none hV
  have k0 := h0
  obtain ⟨ao0, cap0, L0, rfl, hL0, hz0⟩ := bytes_open (okWide_slice Tryz.underlying31 (hval 0 31 v0 rfl rfl)) h0
  have hE := env_of (envAt_of hL hsh)
  clear hA0 hval0 hval hA
  simp only [List.append_nil] at hW'
  have hlt : ∀ x ∈ p0, x.block < W.heap.size := fun x hx => by simpa using hW'.lt x (by simpa using hx)
  have stays : ∀ {t : TypeId} {v : Value} {d : DataW H} {ps : List MemPlace} (W' : World), Tryz.prog.readableRec t = true → t < Tryz.prog.types.size → DataW.Trod enc Tryz.prog W 0 (fun _ => true) true t v d ps → (∀ x ∈ ps, x ∈ p0) → Below W.heap.size W W' →
      DataW.Trod enc Tryz.prog W' 0 (fun b => decide (b < W.heap.size)) true t v d ps := fun W' hr ht h hp hb =>
    Below.trod laidOut hr ht h hb (fun x hx => hlt x (hp x hx))
  refine (small_any L0 W hL0 rfl hz0 hE).mono fun e W' ⟨he, hb⟩ => ?_
  subst he
  refine ⟨_, rfl, _, _, _, [], p0, [], hW', ?_, ?_, rfl, hb.frame _, fun h => by cases h⟩
  · exact trodAll_mk1 (shut_bool Tryz.underlying4 _)
  · exact trodAll_mk1 (stays W' (by kernel_rfl) (of_decide_eq_true (by kernel_rfl)) k0 (fun x hx => by simp [hx]) hb)

theorem qualitySmall_row : Rows.QualitySmallSaid :=
  OpenClaim.holds_of_wide 4 Tryz.f4 rfl rfl rfl rfl rfl rfl rfl ⟨rfl, rfl, rfl, rfl, rfl⟩ rfl rfl rfl rfl rfl (by kernel_rfl) Tryz.func4 (by kernel_rfl)
    (of_decide_eq_true (by kernel_rfl)) (by unfold Func.isWrapper; first | (rw [if_pos (by decide +kernel)]; kernel_rfl) | (rw [if_neg (by decide +kernel)]; exact ⟨rfl, rfl⟩))
    (fun os started H enc _ => qualitySmall_lifted os started H enc)

theorem qualitySmall_holds : Rows.QualitySmallCardSaid :=
  Claim7.holds_tied_plain_at .later [] [.data, .data, .data, .data, .sentinel, .sentinel, .pinned] true (true, "1a043d69f490f8a9108015ec3ee15bb6ff57c0492f79ca4521f7c09a9393d9b5") true qualitySmall_row (fun _ h => by cases h) (by kernel_rfl) (fun _ h => by cases h) qualitySmall_row_tie rfl ⟨rfl, rfl⟩ (by kernel_rfl) rfl
    (fun f fn hf hfn => by
      obtain rfl : f = 4 := Option.some.inj ((show Tryz.prog.funcNamed "broadsheet/broadsheetlaw14.QualitySmall" = some 4 by kernel_rfl).symm.trans hf) |>.symm
      obtain rfl : fn = Tryz.f4 := (Option.some.inj (Tryz.func4.symm.trans hfn)).symm
      exact ⟨by kernel_rfl, fun j t ht => by
        rw [Tryz.params4] at ht
        have hm : t ∈ [31] := by simpa using Array.mem_of_getElem? ht
        have hall : ([31].all fun u => !Tryz.prog.wantsStandIn u) = true := by kernel_rfl
        exact (show Tryz.prog.wantsStandIn t = false by simpa using List.all_eq_true.1 hall t hm)⟩)
    (by kernel_rfl)
#print axioms qualitySmall_holds
end Go.Proofs.YtpgdmoaegnehbaaGreatDoor
