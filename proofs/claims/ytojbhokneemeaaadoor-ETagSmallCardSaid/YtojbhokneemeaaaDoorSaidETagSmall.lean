/-
  PROVED: broadsheetlaw17.ETagSmall answers true and leaves its arguments alone, for every input. Its conditions: the package-level variables that the row lists hold what the program's initialisers lay, which the tied card takes from the program's text (the pruned copy of the project).
-/
import Derived.Test.YtojbhokneemeaaaDoorEtOpen
import Derived.Test.YtojbhokneemeaaaDoorTie
import Derived.Test.YtojbhokneemeaaaDoorCards
import Derived.SevenTiedAt
namespace Go.Proofs.YtojbhokneemeaaaDoor
open Go.ChangeShapes Go.WideShapes Go.ChangeAt Go.RowKit Go.ChangeMaps
set_option linter.unusedVariables false

set_option maxRecDepth 100000 in
theorem eTagSmall_lifted (os : Os) (started : os.Started) (H : Type) (enc : TypeId × Value → H) :
    ReturnsInHanded {} Tryd.checked os 7 .any (fun w args => (Rows.eTagSmallSpec.pre enc Tryd.prog Tryd.f7 Rows.eTagSmallRow.domain false w args ∧ laidMetH Tryd.prog Rows.eTagSmallRow.laid w) ∧ sizedMet enc Tryd.prog Tryd.f7 (OpenSpec.ofChange Rows.eTagSmallSpec) false w args)
      (Rows.eTagSmallSpec.post enc Tryd.prog Tryd.f7 false true false false) := by
  refine handed_on (C := Tryd.checked) (X := fun w _ => laidMetH Tryd.prog Rows.eTagSmallRow.laid w) (fun _ _ _ hh h => h.of_heap hh) own started (by kernel_rfl) Tryd.func7
    (ChangeSpec.witness_shaped (enc := enc) (C := Tryd.checked) (os := os) (X := fun w _ => laidMetH Tryd.prog Rows.eTagSmallRow.laid w) false (World.laidAll Tryd.prog os Rows.eTagSmallRow.laid) #[.slice none 0 0, .slice none 0 0, .agg #[.bool false, .string ByteArray.empty], .bool false, .bool false] 8 (World.laidAll_os _ _ _)
      (World.shaped_of_ZipB (by kernel_rfl) (by kernel_rfl)) (by kernel_rfl) (by kernel_rfl) (by kernel_rfl)
      (by rw [MakeChecks.laidMetH_plain _ _ _ (by kernel_rfl)]; exact laidMet_laidAll _ (by kernel_rfl) (by kernel_rfl))) ?_
  intro W base args ds gs before hval0 hW hsz hL hsh
  have hval : ∀ (j : Nat) t v, Tryd.f7.params[j]? = some t → args[j]? = some v → Value.okWide Tryd.prog W .any base t v := hval0
  have hW' := hW
  obtain ⟨p, q, hA0, hV, rfl, _, _⟩ := hW
  have hA : DataW.TrodAll enc Tryd.prog W 0 (fun _ => true) true Tryd.f7.params.toList args.toList ds p := hA0
  rw [Tryd.params7] at hA hval
  obtain ⟨v0, vs0, d0, ds0, p0, q0, hargs, rfl, rfl, h0, r0⟩ := trodAll_cons hA
  obtain ⟨v1, vs1, d1, ds1, p1, q1, rfl, rfl, rfl, h1, r1⟩ := trodAll_cons r0
  obtain ⟨v2, vs2, d2, ds2, p2, q2, rfl, rfl, rfl, h2, r2⟩ := trodAll_cons r1
  obtain ⟨v3, vs3, d3, ds3, p3, q3, rfl, rfl, rfl, h3, r3⟩ := trodAll_cons r2
  obtain ⟨v4, vs4, d4, ds4, p4, q4, rfl, rfl, rfl, h4, r4⟩ := trodAll_cons r3
  obtain ⟨rfl, rfl, rfl⟩ := trodAll_nil r4
  obtain rfl : args = #[v0, v1, v2, v3, v4] := by cases args; simp_all
  obtain ⟨rfl, rfl⟩ := trodVars_none hV
  have k0 := h0
  have k1 := h1
  have k2 := h2
  have k3 := h3
  have k4 := h4
  obtain ⟨ao0, cap0, L0, rfl, hL0, hz0⟩ := bytes_open (okWide_slice Tryd.underlying38 (hval 0 38 v0 rfl rfl)) h0
  obtain ⟨ao1, cap1, L1, rfl, hL1, hz1⟩ := bytes_open (okWide_slice Tryd.underlying38 (hval 1 38 v1 rfl rfl)) h1
  obtain ⟨t2, rfl⟩ := tag_open (hval 2 23 v2 rfl rfl) h2
  obtain ⟨b3, rfl, _⟩ := open_bool Tryd.underlying4 (hval 3 4 v3 rfl rfl) h3
  obtain ⟨b4, rfl, _⟩ := open_bool Tryd.underlying4 (hval 4 4 v4 rfl rfl) h4
  have hE := env_of (envAt_of hL hsh)
  clear hA0 hval0 hval hA
  simp only [List.append_nil] at hW'
  have hlt : ∀ x ∈ (p0 ++ (p1 ++ (p2 ++ (p3 ++ p4)))), x.block < W.heap.size := fun x hx => by simpa using hW'.lt x (by simpa using hx)
  have stays : ∀ {t : TypeId} {v : Value} {d : DataW H} {ps : List MemPlace} (W' : World), Tryd.prog.readableRec t = true → t < Tryd.prog.types.size → DataW.Trod enc Tryd.prog W 0 (fun _ => true) true t v d ps → (∀ x ∈ ps, x ∈ (p0 ++ (p1 ++ (p2 ++ (p3 ++ p4))))) → Below W.heap.size W W' →
      DataW.Trod enc Tryd.prog W' 0 (fun b => decide (b < W.heap.size)) true t v d ps := fun W' hr ht h hp hb =>
    Below.trod laidOut hr ht h hb (fun x hx => hlt x (hp x hx))
  refine (small_any L0 L1 t2 b3 b4 W hL0 rfl hz0 hL1 rfl hz1).mono fun e W' ⟨he, hb⟩ => ?_
  subst he
  refine ⟨_, rfl, _, _, _, [], (p0 ++ (p1 ++ (p2 ++ (p3 ++ p4)))), [], hW', ?_, ?_, rfl, hb.frame _, fun h => by cases h⟩
  · exact trodAll_mk1 (shut_bool Tryd.underlying4 _)
  · exact trodAll_cons_mk (stays W' (by kernel_rfl) (of_decide_eq_true (by kernel_rfl)) k0 (fun x hx => by simp [hx]) hb) (trodAll_cons_mk (stays W' (by kernel_rfl) (of_decide_eq_true (by kernel_rfl)) k1 (fun x hx => by simp [hx]) hb) (trodAll_cons_mk (stays W' (by kernel_rfl) (of_decide_eq_true (by kernel_rfl)) k2 (fun x hx => by simp [hx]) hb) (trodAll_cons_mk (stays W' (by kernel_rfl) (of_decide_eq_true (by kernel_rfl)) k3 (fun x hx => by simp [hx]) hb) (trodAll_mk1 (stays W' (by kernel_rfl) (of_decide_eq_true (by kernel_rfl)) k4 (fun x hx => by simp [hx]) hb)))))

theorem eTagSmall_row : Rows.ETagSmallSaid :=
  OpenClaim.holds_of_wide 7 Tryd.f7 rfl rfl rfl rfl rfl rfl rfl ⟨rfl, rfl, rfl, rfl, rfl⟩ rfl rfl rfl rfl rfl (by kernel_rfl) Tryd.func7 (by kernel_rfl)
    (of_decide_eq_true (by kernel_rfl)) (by unfold Func.isWrapper; first | (rw [if_pos (by decide +kernel)]; kernel_rfl) | (rw [if_neg (by decide +kernel)]; exact ⟨rfl, rfl⟩))
    (fun os started H enc _ => eTagSmall_lifted os started H enc)

theorem eTagSmall_holds : Rows.ETagSmallCardSaid :=
  Claim7.holds_tied_plain_at .later [] [.data, .pinned] true (true, "f971017c3162804d4a5c3c13834be046fa39a76c91a99e45551b30a9ccb810e3") false eTagSmall_row (fun _ h => by cases h) (by kernel_rfl) (fun _ h => by cases h) eTagSmall_row_tie rfl ⟨rfl, rfl⟩ (by kernel_rfl) rfl
    (fun f fn hf hfn => by
      obtain rfl : f = 7 := Option.some.inj ((show Tryd.prog.funcNamed "broadsheet/broadsheetlaw17.ETagSmall" = some 7 by kernel_rfl).symm.trans hf) |>.symm
      obtain rfl : fn = Tryd.f7 := (Option.some.inj (Tryd.func7.symm.trans hfn)).symm
      exact ⟨by kernel_rfl, fun j t ht => by
        rw [Tryd.params7] at ht
        have hm : t ∈ [38, 38, 23, 4, 4] := by simpa using Array.mem_of_getElem? ht
        have hall : ([38, 38, 23, 4, 4].all fun u => !Tryd.prog.wantsStandIn u) = true := by kernel_rfl
        exact (show Tryd.prog.wantsStandIn t = false by simpa using List.all_eq_true.1 hall t hm)⟩)
    (by kernel_rfl)
#print axioms eTagSmall_holds
end Go.Proofs.YtojbhokneemeaaaDoor
