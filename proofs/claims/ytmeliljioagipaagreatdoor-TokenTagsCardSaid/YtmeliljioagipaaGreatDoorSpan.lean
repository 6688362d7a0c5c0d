/-
  Heads of texts that go on: code points, spans, names of a text behind which another one stands.
-/
import Derived.Test.YtmeliljioagipaaGreatDoorGlyph
import Derived.Test.YtmeliljioagipaaGreatDoorFirst
namespace Go.Proofs.YtmeliljioagipaaGreatDoor
namespace G

theorem getD_append (a x : List UInt8) (k : Nat) (h : k < a.length) : (a ++ x).getD k 0 = a.getD k 0 := by
  simp [List.getD, List.getElem?_append_left h]

/-- A code point at the head stays, whatever stands behind the text. -/
theorem first_append (a x : List UInt8) (h : (first a).2 ≠ 0) : first (a ++ x) = first a := by
  have ha := (first_pos a h).2
  have hl : 0 < a.length := List.length_pos_iff.2 ha
  have hax : a ++ x ≠ [] := by simp [ha]
  rw [first_N a ha] at h ⊢
  rw [first_N (a ++ x) hax, getD_append a x 0 hl]
  have g1 := getD_append a x 1
  have g2 := getD_append a x 2
  have g3 := getD_append a x 3
  have hlen : a.length ≤ (a ++ x).length := by simp
  have b0 := (a.getD 0 0).toNat_lt
  have b1 := (a.getD 1 0).toNat_lt
  have b2 := (a.getD 2 0).toNat_lt
  have b3 := (a.getD 3 0).toNat_lt
  have c1 := ((a ++ x).getD 1 0).toNat_lt
  have c2 := ((a ++ x).getD 2 0).toNat_lt
  have c3 := ((a ++ x).getD 3 0).toNat_lt
  generalize (a ++ x).length = m at *
  generalize a.length = n at *
  generalize (a ++ x).getD 1 0 = d1 at *
  generalize (a ++ x).getD 2 0 = d2 at *
  generalize (a ++ x).getD 3 0 = d3 at *
  generalize a.getD 0 0 = e0 at *
  generalize a.getD 1 0 = e1 at *
  generalize a.getD 2 0 = e2 at *
  generalize a.getD 3 0 = e3 at *
  by_cases r0 : e0.toNat < 128
  · rw [firstN_ascii r0, firstN_ascii r0]
  by_cases r1 : e0.toNat < 192 ∨ 248 ≤ e0.toNat
  · rw [firstN_bad (by omega) r1 b0] at h; exact absurd rfl h
  by_cases r2 : e0.toNat < 224
  · rw [firstN_two (by omega) r2 b1] at h ⊢
    rw [firstN_two (by omega) r2 c1]
    by_cases hc : 2 ≤ n ∧ (128 ≤ e1.toNat ∧ e1.toNat ≤ 191) ∧ 128 ≤ (e0.toNat - 192) * 64 + (e1.toNat - 128)
    · rw [if_pos hc, g1 (by omega), if_pos ⟨by omega, hc.2⟩]
    · rw [if_neg hc] at h; exact absurd rfl h
  by_cases r3 : e0.toNat < 240
  · rw [firstN_three (by omega) r3 b1 b2] at h ⊢
    rw [firstN_three (by omega) r3 c1 c2]
    by_cases hc : 3 ≤ n
    · rw [g1 (by omega), g2 (by omega)]
      by_cases hd : (128 ≤ e1.toNat ∧ e1.toNat ≤ 191) ∧ (128 ≤ e2.toNat ∧ e2.toNat ≤ 191) ∧ 2048 ≤ ((e0.toNat - 224) * 64 + (e1.toNat - 128)) * 64 + (e2.toNat - 128) ∧ (((e0.toNat - 224) * 64 + (e1.toNat - 128)) * 64 + (e2.toNat - 128) < 55296 ∨ 57344 ≤ ((e0.toNat - 224) * 64 + (e1.toNat - 128)) * 64 + (e2.toNat - 128))
      · rw [if_pos ⟨by omega, hd⟩, if_pos ⟨by omega, hd⟩]
      · rw [if_neg (fun x => hd x.2), if_neg (fun x => hd x.2)]
    · rw [if_neg (fun x => hc x.1)] at h; exact absurd rfl h
  · rw [firstN_four (by omega) (by omega) b1 b2 b3] at h ⊢
    rw [firstN_four (by omega) (by omega) c1 c2 c3]
    by_cases hc : 4 ≤ n
    · rw [g1 (by omega), g2 (by omega), g3 (by omega)]
      by_cases hd : (128 ≤ e1.toNat ∧ e1.toNat ≤ 191) ∧ (128 ≤ e2.toNat ∧ e2.toNat ≤ 191) ∧ (128 ≤ e3.toNat ∧ e3.toNat ≤ 191) ∧ 65536 ≤ (((e0.toNat - 240) * 64 + (e1.toNat - 128)) * 64 + (e2.toNat - 128)) * 64 + (e3.toNat - 128) ∧ (((e0.toNat - 240) * 64 + (e1.toNat - 128)) * 64 + (e2.toNat - 128)) * 64 + (e3.toNat - 128) ≤ 1114111
      · rw [if_pos ⟨by omega, hd⟩, if_pos ⟨by omega, hd⟩]
      · rw [if_neg (fun x => hd x.2), if_neg (fun x => hd x.2)]
    · rw [if_neg (fun x => hc x.1)] at h; exact absurd rfl h

/-- What is all of a kind goes on with what stands behind. -/
theorem span_append (p : Int → Bool) (y : List UInt8) : ∀ a : List UInt8, span p a = a.length → span p (a ++ y) = a.length + span p y := by
  intro a
  induction a using along p with
  | stop l h =>
    intro e
    rw [span_stop p l h] at e
    have : l = [] := List.length_eq_zero_iff.1 e.symm
    subst this
    simp
  | step l h0 hp ih =>
    intro e
    have hle := first_le l
    have hs := span_step p l h0 hp
    have fa := first_append l y h0
    rw [span_step p (l ++ y) (by rw [fa]; exact h0) (by rw [fa]; exact hp), fa, List.drop_append_of_le_length hle, ih (by rw [List.length_drop]; omega), List.length_drop]
    omega

theorem first_ascii (c : UInt8) (t : List UInt8) (h : c.toNat < 128) : first (c :: t) = (c.toNat, 1) := by
  rw [first_N (c :: t) (by simp)]
  exact firstN_ascii h

/-- A name stays, whatever stands behind it, if that does not go on with it. -/
theorem name_append {l : List UInt8} (h : name l ≠ 0) (y : List UInt8) (hy : (first y).2 = 0 ∨ part (first y).1 = false) : name (l.take (name l) ++ y) = name l := by
  have hle := name_le l
  have hlen : (l.take (name l)).length = name l := by rw [List.length_take]; omega
  have ht := name_take l h
  have h2 : name (l.take (name l)) ≠ 0 := by rw [ht]; exact h
  obtain ⟨h0, hs⟩ := name_head _ h2
  have hsp := name_span _ h2
  rw [ht] at hsp
  have fa := first_append _ y h0
  have hne : name (l.take (name l) ++ y) ≠ 0 := by
    have e : name (l.take (name l) ++ y) = if (first (l.take (name l) ++ y)).2 ≠ 0 ∧ start (first (l.take (name l) ++ y)).1 = true then (first (l.take (name l) ++ y)).2 + span part ((l.take (name l) ++ y).drop (first (l.take (name l) ++ y)).2) else 0 := rfl
    rw [e, fa, if_pos ⟨h0, hs⟩]
    omega
  rw [name_span _ hne, span_append part y _ (by rw [← hsp, hlen]), hlen, span_stop part y hy, Nat.add_zero]

theorem check_append {s t : List UInt8} (hs : check s = true) (ht : check t = true) : check (s ++ t) = true := by
  simp only [check, decide_eq_true_eq] at *
  rw [span_append char t s hs, ht, List.length_append]
end G
end Go.Proofs.YtmeliljioagipaaGreatDoor
