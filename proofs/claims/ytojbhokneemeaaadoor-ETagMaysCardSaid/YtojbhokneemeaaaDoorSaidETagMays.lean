/-
  PROVED: broadsheetlaw17.ETagMays answers true and leaves its arguments alone, for every input. Its conditions: the package-level variables that the row lists hold what the program's initialisers lay, which the tied card takes from the program's text (the pruned copy of the project).
-/
import Derived.Test.YtojbhokneemeaaaDoorEtOpen
import Derived.Test.YtojbhokneemeaaaDoorTie
import Derived.Test.YtojbhokneemeaaaDoorCards
import Derived.SevenTiedAt
namespace Go.Proofs.YtojbhokneemeaaaDoor
open Go.ChangeShapes Go.WideShapes Go.ChangeAt Go.RowKit Go.ChangeMaps
set_option linter.unusedVariables false

set_option maxRecDepth 100000 in
theorem eTagMays_lifted (os : Os) (started : os.Started) (H : Type) (enc : TypeId × Value → H) :
    ReturnsInHanded {} Tryd.checked os 4 .any (fun w args => (Rows.eTagMaysSpec.pre enc Tryd.prog Tryd.f4 Rows.eTagMaysRow.domain false w args ∧ laidMetH Tryd.prog Rows.eTagMaysRow.laid w) ∧ sizedMet enc Tryd.prog Tryd.f4 (OpenSpec.ofChange Rows.eTagMaysSpec) false w args)
      (Rows.eTagMaysSpec.post enc Tryd.prog Tryd.f4 false true false false) := by
  refine handed_on (C := Tryd.checked) (X := fun w _ => laidMetH Tryd.prog Rows.eTagMaysRow.laid w) (fun _ _ _ hh h => h.of_heap hh) own started (by kernel_rfl) Tryd.func4
    (ChangeSpec.witness_shaped (enc := enc) (C := Tryd.checked) (os := os) (X := fun w _ => laidMetH Tryd.prog Rows.eTagMaysRow.laid w) false (World.laidAll Tryd.prog os Rows.eTagMaysRow.laid) #[.slice none 0 0, .bool false, .agg #[.bool false, .string ByteArray.empty], .string ByteArray.empty, .string ByteArray.empty, .int .u8 0] 8 (World.laidAll_os _ _ _)
      (World.shaped_of_ZipB (by kernel_rfl) (by kernel_rfl)) (by kernel_rfl) (by kernel_rfl) (by kernel_rfl)
      (by rw [MakeChecks.laidMetH_plain _ _ _ (by kernel_rfl)]; exact laidMet_laidAll _ (by kernel_rfl) (by kernel_rfl))) ?_
  intro W base args ds gs before hval0 hW hsz hL hsh
  have hval : ∀ (j : Nat) t v, Tryd.f4.params[j]? = some t → args[j]? = some v → Value.okWide Tryd.prog W .any base t v := hval0
  have hW' := hW
  obtain ⟨p, q, hA0, hV, rfl, _, _⟩ := hW
  have hA : DataW.TrodAll enc Tryd.prog W 0 (fun _ => true) true Tryd.f4.params.toList args.toList ds p := hA0
  rw [Tryd.params4] at hA hval hsz
  obtain ⟨v0, vs0, d0, ds0, p0, q0, hargs, rfl, rfl, h0, r0⟩ := trodAll_cons hA
  obtain ⟨v1, vs1, d1, ds1, p1, q1, rfl, rfl, rfl, h1, r1⟩ := trodAll_cons r0
  obtain ⟨v2, vs2, d2, ds2, p2, q2, rfl, rfl, rfl, h2, r2⟩ := trodAll_cons r1
  obtain ⟨v3, vs3, d3, ds3, p3, q3, rfl, rfl, rfl, h3, r3⟩ := trodAll_cons r2
  obtain ⟨v4, vs4, d4, ds4, p4, q4, rfl, rfl, rfl, h4, r4⟩ := trodAll_cons r3
  obtain ⟨v5, vs5, d5, ds5, p5, q5, rfl, rfl, rfl, h5, r5⟩ := trodAll_cons r4
  obtain ⟨rfl, rfl, rfl⟩ := trodAll_nil r5
  obtain rfl : args = #[v0, v1, v2, v3, v4, v5] := by cases args; simp_all
  obtain ⟨rfl, rfl⟩ := trodVars_none hV
  have k0 := h0
  have k1 := h1
  have k2 := h2
  have k3 := h3
  have k4 := h4
  have k5 := h5
  obtain ⟨ao0, cap0, G0, rfl, hG0, hl0, hz0⟩ := tags_read (hval 0 25 v0 rfl rfl) h0 (fun k hk => of_decide_eq_true (List.all_eq_true.1 hsz _ (DataW.weights_mem_each (j := 0) rfl rfl k hk)))
  obtain ⟨b1, rfl, _⟩ := open_bool Tryd.underlying4 (hval 1 4 v1 rfl rfl) h1
  obtain ⟨t2, rfl⟩ := tag_open (hval 2 23 v2 rfl rfl) h2
  obtain ⟨s3, rfl, _, _, hs3⟩ := open_string Tryd.underlying9 (hval 3 9 v3 rfl rfl) h3
  obtain ⟨s4, rfl, _, _, hs4⟩ := open_string Tryd.underlying9 (hval 4 9 v4 rfl rfl) h4
  obtain ⟨n5, rfl, _, _, z5⟩ := open_int Tryd.underlying5 (hval 5 5 v5 rfl rfl) h5
  obtain ⟨m5, rfl⟩ := Int.eq_ofNat_of_zero_le (bounds_u8 z5).1
  have hE := env_of (envAt_of hL hsh)
  clear hA0 hval0 hval hA
  simp only [List.append_nil] at hW'
  have hlt : ∀ x ∈ (p0 ++ (p1 ++ (p2 ++ (p3 ++ (p4 ++ p5))))), x.block < W.heap.size := fun x hx => by simpa using hW'.lt x (by simpa using hx)
  have stays : ∀ {t : TypeId} {v : Value} {d : DataW H} {ps : List MemPlace} (W' : World), Tryd.prog.readableRec t = true → t < Tryd.prog.types.size → DataW.Trod enc Tryd.prog W 0 (fun _ => true) true t v d ps → (∀ x ∈ ps, x ∈ (p0 ++ (p1 ++ (p2 ++ (p3 ++ (p4 ++ p5)))))) → Below W.heap.size W W' →
      DataW.Trod enc Tryd.prog W' 0 (fun b => decide (b < W.heap.size)) true t v d ps := fun W' hr ht h hp hb =>
    Below.trod laidOut hr ht h hb (fun x hx => hlt x (hp x hx))
  refine (mays_any G0 b1 t2 s3 s4 (m5 : Int) W hG0 rfl hl0 hs3 hs4).mono fun e W' ⟨he, hb⟩ => ?_
  subst he
  refine ⟨_, rfl, _, _, _, [], (p0 ++ (p1 ++ (p2 ++ (p3 ++ (p4 ++ p5))))), [], hW', ?_, ?_, rfl, hb.frame _, fun h => by cases h⟩
  · exact trodAll_mk1 (shut_bool Tryd.underlying4 _)
  · exact trodAll_cons_mk (stays W' (by kernel_rfl) (of_decide_eq_true (by kernel_rfl)) k0 (fun x hx => by simp [hx]) hb) (trodAll_cons_mk (stays W' (by kernel_rfl) (of_decide_eq_true (by kernel_rfl)) k1 (fun x hx => by simp [hx]) hb) (trodAll_cons_mk (stays W' (by kernel_rfl) (of_decide_eq_true (by kernel_rfl)) k2 (fun x hx => by simp [hx]) hb) (trodAll_cons_mk (stays W' (by kernel_rfl) (of_decide_eq_true (by kernel_rfl)) k3 (fun x hx => by simp [hx]) hb) (trodAll_cons_mk (stays W' (by kernel_rfl) (of_decide_eq_true (by kernel_rfl)) k4 (fun x hx => by simp [hx]) hb) (trodAll_mk1 (stays W' (by kernel_rfl) (of_decide_eq_true (by kernel_rfl)) k5 (fun x hx => by simp [hx]) hb))))))

theorem eTagMays_row : Rows.ETagMaysSaid :=
  OpenClaim.holds_of_wide 4 Tryd.f4 rfl rfl rfl rfl rfl rfl rfl ⟨rfl, rfl, rfl, rfl, rfl⟩ rfl rfl rfl rfl rfl (by kernel_rfl) Tryd.func4 (by kernel_rfl)
    (of_decide_eq_true (by kernel_rfl)) (by unfold Func.isWrapper; first | (rw [if_pos (by decide +kernel)]; kernel_rfl) | (rw [if_neg (by decide +kernel)]; exact ⟨rfl, rfl⟩))
    (fun os started H enc _ => eTagMays_lifted os started H enc)

theorem eTagMays_holds : Rows.ETagMaysCardSaid :=
  Claim7.holds_tied_plain_at .later [] [.data, .pinned] true (true, "f971017c3162804d4a5c3c13834be046fa39a76c91a99e45551b30a9ccb810e3") false eTagMays_row (fun _ h => by cases h) (by kernel_rfl) (fun _ h => by cases h) eTagMays_row_tie rfl ⟨rfl, rfl⟩ (by kernel_rfl) rfl
    (fun f fn hf hfn => by
      obtain rfl : f = 4 := Option.some.inj ((show Tryd.prog.funcNamed "broadsheet/broadsheetlaw17.ETagMays" = some 4 by kernel_rfl).symm.trans hf) |>.symm
      obtain rfl : fn = Tryd.f4 := (Option.some.inj (Tryd.func4.symm.trans hfn)).symm
      exact ⟨by kernel_rfl, fun j t ht => by
        rw [Tryd.params4] at ht
        have hm : t ∈ [25, 4, 23, 9, 9, 5] := by simpa using Array.mem_of_getElem? ht
        have hall : ([25, 4, 23, 9, 9, 5].all fun u => !Tryd.prog.wantsStandIn u) = true := by kernel_rfl
        exact (show Tryd.prog.wantsStandIn t = false by simpa using List.all_eq_true.1 hall t hm)⟩)
    (by kernel_rfl)
#print axioms eTagMays_holds
end Go.Proofs.YtojbhokneemeaaaDoor
