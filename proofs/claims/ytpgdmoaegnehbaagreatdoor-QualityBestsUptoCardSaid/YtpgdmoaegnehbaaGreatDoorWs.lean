/-
  The program's own wishes, as rows that a call owns.
-/
import Derived.Test.YtpgdmoaegnehbaaGreatDoorRgs
namespace Go.Proofs.YtpgdmoaegnehbaaGreatDoor
open Go.RowKit

def OwnsWs (B : Nat) (v : Value) (L : List Ql.Rg) (w : World) : Prop := ∃ css : List (List Value), css.length = L.length ∧ w.ownsRow B 67 5 v L.length css.flatten ∧ ∀ j (h1 : j < css.length) (h2 : j < L.length), RgIn B w css[j] L[j]
theorem OwnsWs.nil (B : Nat) (w : World) : OwnsWs B (.slice none 0 0) [] w := ⟨[], rfl, World.ownsRow_nil _ _ _ _, fun j h1 _ => absurd h1 (by simp)⟩
theorem OwnsWs.on {B : Nat} {v : Value} {L : List Ql.Rg} {w w' : World} (h : OwnsWs B v L w) (hb : Below w.heap.size w w') : OwnsWs B v L w' := by
  obtain ⟨css, h1, h2, h3⟩ := h
  exact ⟨css, h1, World.ownsRow.kept h2 (grown_of_below hb none) (by cases v.ownBlock <;> simp), fun j a b => (h3 j a b).on hb⟩
theorem OwnsWs.pushed {B : Nat} {v v5 : Value} {L : List Ql.Rg} {w w5 : World} {c : List Value} {r : Ql.Rg} {css : List (List Value)} (hl : css.length = L.length) (ho : w.ownsRow B 67 5 v L.length css.flatten)
    (hi : ∀ j (h1 : j < css.length) (h2 : j < L.length), RgIn B w css[j] L[j]) (hc : RgIn B w c r) (hg : w.grownBy w5 v.ownBlock) (h5 : w5.ownsRow B 67 5 v5 (L.length + 1) (css.flatten ++ c)) : OwnsWs B v5 (L ++ [r]) w5 := by
  have keep : ∀ {c r}, RgIn B w c r → RgIn B w5 c r := by
    rintro c r ⟨x, pv, h1, h2, h3⟩
    refine ⟨x, pv, h1, World.ownsRow.kept h2 hg ?_, h3⟩
    cases hv : v.ownBlock with
    | none => cases pv.ownBlock <;> simp
    | some k =>
      obtain ⟨cc, fr, hh⟩ := row_kind ho hv
      exact row_apart h2 hh (by decide)
  refine ⟨css ++ [c], by simp [hl], by rw [List.length_append]; simpa using h5, fun j h1 h2 => ?_⟩
  by_cases hj : j < css.length
  · rw [List.getElem_append_left hj, List.getElem_append_left (by omega)]
    exact keep (hi j hj (by omega))
  · simp only [List.length_append, List.length_cons, List.length_nil] at h1 h2
    have e1 : (css ++ [c])[j]'(by simp; omega) = c := by
      rw [List.getElem_append_right (by omega)]; simp
    have e2 : (L ++ [r])[j]'(by simp; omega) = r := by
      rw [List.getElem_append_right (by omega)]; simp
    rw [e1, e2]
    exact keep hc
theorem OwnsWs.form {B : Nat} {v : Value} {L : List Ql.Rg} {w : World} (h : OwnsWs B v L w) : ∃ ao cap, v = .slice ao L.length cap ∧ L.length ≤ cap ∧ RgsIn w ao L := by
  obtain ⟨css, h1, h2, h3⟩ := h
  have hc := fun g hg => World.ownsRow.cells h2 (g := g) hg
  have h5 : ∀ c ∈ css, c.length = 5 := fun c hm => by
    obtain ⟨j, hj, rfl⟩ := List.mem_iff_getElem.1 hm
    obtain ⟨x, pv, e, _, _⟩ := h3 j hj (by omega)
    rw [e]; rfl
  obtain ⟨_, ⟨rfl, h0⟩ | ⟨g, cap, cur, rfl, _, _, hcp, _⟩⟩ := h2
  · have hL : L = [] := List.eq_nil_of_length_eq_zero h0
    subst hL
    exact ⟨none, 0, rfl, Nat.le_refl _, fun j hj => by simp at hj⟩
  · refine ⟨_, _, rfl, hcp, fun j hj => ?_⟩
    obtain ⟨x, pv, e, hp, hw⟩ := h3 j (by omega) hj
    obtain ⟨po, pc, rfl, hpi⟩ := pairs_of_owns hp
    have k := fun (i : Nat) (hi : i < 5) u (hu : (rgCells L[j] x (.slice po L[j].m.params.length pc))[i]? = some u) => hc g rfl (j * 5 + i) u (by rw [flat_five css h5 j i (by omega) hi, e]; exact hu)
    refine ⟨g, 0, x, po, pc, rfl, ?_, ?_, ?_, ?_, ?_, hpi, hw⟩
    · have := k 0 (by decide) _ rfl; rwa [add_at] at this
    · have := k 1 (by decide) _ rfl; rwa [add_at] at this
    · have := k 2 (by decide) _ rfl; rwa [add_at] at this
    · have := k 3 (by decide) _ rfl; rwa [add_at] at this
    · have := k 4 (by decide) _ rfl; rwa [add_at] at this
theorem infoWish : (Tryz.prog.info? 67).map (fun i => (i.zero, i.size, i.bytes)) = some (some (.agg #[.string ByteArray.empty, .string ByteArray.empty, .slice none 0 0, .float .f64 0, .int .i64 0]), 5, 72) := by kernel_rfl
end Go.Proofs.YtpgdmoaegnehbaaGreatDoor
