/-
  PROVED: broadsheetlaw12.LocatorSmall answers true and leaves its arguments alone, for every input. Its conditions: none.
-/
import Derived.Test.YtmfmgbjkbadndaaLocEnvOf
namespace Go.Proofs.Ytmfmgbjkbadndaa
open Go.ChangeShapes Go.WideShapes Go.ChangeAt Go.RowKit Go.ChangeMaps
set_option linter.unusedVariables false

set_option maxRecDepth 100000 in
theorem locatorSmall_lifted (os : Os) (started : os.Started) (H : Type) (enc : TypeId × Value → H) :
    ReturnsInHanded {} Try.checked os 9 .any (Rows.locatorSmallSpec.pre6 enc Try.prog Try.f9 Rows.locatorSmallRow.domain false) (Rows.locatorSmallSpec.post enc Try.prog Try.f9 false true false false) := by
  refine shaped_on (C := Try.checked) own started (by kernel_rfl) Try.func9
    (ChangeSpec.witness6 (enc := enc) (C := Try.checked) false ⟨#[], #[.slice none 0 0, .slice none 0 0], []⟩ 8 (by kernel_rfl) (by kernel_rfl) (by kernel_rfl) (by kernel_rfl)) ?_
  intro W base args ds gs before hval0 hW hsz hsh
  have hval : ∀ (j : Nat) t v, Try.f9.params[j]? = some t → args[j]? = some v → Value.okWide Try.prog W .any base t v := hval0
  have hW' := hW
  obtain ⟨p, q, hA0, hV, rfl, _, _⟩ := hW
  have hA : DataW.TrodAll enc Try.prog W 0 (fun _ => true) true Try.f9.params.toList args.toList ds p := hA0
  rw [Try.params9] at hA hval
  obtain ⟨v0, vs0, d0, ds0, p0, q0, hargs, rfl, rfl, h0, r0⟩ := trodAll_cons hA
  obtain ⟨v1, vs1, d1, ds1, p1, q1, rfl, rfl, rfl, h1, r1⟩ := trodAll_cons r0
  obtain ⟨rfl, rfl, rfl⟩ := trodAll_nil r1
  obtain rfl : args = #[v0, v1] := by cases args; simp_all
  obtain ⟨rfl, rfl⟩ := trodVars_none hV
  have k0 := h0
  have k1 := h1
  obtain ⟨ao0, cap0, L0, rfl, hL0, hz0⟩ := bytes_open (okWide_slice Try.underlying36 (hval 0 36 v0 rfl rfl)) h0
  obtain ⟨ao1, cap1, L1, rfl, hL1, hz1⟩ := bytes_open (okWide_slice Try.underlying36 (hval 1 36 v1 rfl rfl)) h1
  have hE := env_of (envAt_of hsh)
  clear hA0 hval0 hval hA
  simp only [List.append_nil] at hW'
  have hlt : ∀ x ∈ (p0 ++ p1), x.block < W.heap.size := fun x hx => by simpa using hW'.lt x (by simpa using hx)
  have stays : ∀ {t : TypeId} {v : Value} {d : DataW H} {ps : List MemPlace} (W' : World), Try.prog.readableRec t = true → t < Try.prog.types.size → DataW.Trod enc Try.prog W 0 (fun _ => true) true t v d ps → (∀ x ∈ ps, x ∈ (p0 ++ p1)) → Below W.heap.size W W' →
      DataW.Trod enc Try.prog W' 0 (fun b => decide (b < W.heap.size)) true t v d ps := fun W' hr ht h hp hb =>
    Below.trod laidOut hr ht h hb (fun x hx => hlt x (hp x hx))
  refine (small_any L0 L1 W hL0 rfl hz0 hL1 rfl hz1 hE).mono fun e W' ⟨he, hb⟩ => ?_
  subst he
  refine ⟨_, rfl, _, _, _, [], (p0 ++ p1), [], hW', ?_, ?_, rfl, hb.frame _, fun h => by cases h⟩
  · exact trodAll_mk1 (shut_bool Try.underlying4 _)
  · exact trodAll_cons_mk (stays W' (by kernel_rfl) (of_decide_eq_true (by kernel_rfl)) k0 (fun x hx => by simp [hx]) hb) (trodAll_mk1 (stays W' (by kernel_rfl) (of_decide_eq_true (by kernel_rfl)) k1 (fun x hx => by simp [hx]) hb))

theorem locatorSmall_row : Rows.LocatorSmallSaid :=
  OpenClaim.holds_of_wide 9 Try.f9 rfl rfl rfl rfl rfl rfl rfl ⟨rfl, rfl, rfl, rfl, rfl⟩ rfl rfl rfl rfl rfl (by kernel_rfl) Try.func9 (by kernel_rfl)
    (of_decide_eq_true (by kernel_rfl)) (by unfold Func.isWrapper; first | (rw [if_pos (by decide +kernel)]; kernel_rfl) | (rw [if_neg (by decide +kernel)]; exact ⟨rfl, rfl⟩))
    (fun os started H enc _ => locatorSmall_lifted os started H enc)
#print axioms locatorSmall_row
end Go.Proofs.Ytmfmgbjkbadndaa
