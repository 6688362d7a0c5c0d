/-
  References in plain Lean, as the program goes about them: parts taken from the end on, signs byte by byte, pieces of a path on a stack.
-/
import Derived.Test.YtmfmgbjkbadndaaLocMem
namespace Go.Proofs.Ytmfmgbjkbadndaa
open Go.RowKit
namespace Lc

/-! Parts, from the end on. -/
theorem cut_one {l : List UInt8} {c : UInt8} {b : UInt8} (h : b ∈ cut l [c]) : b ≠ c := by
  have := cut_not h
  simpa using this
theorem rest_one (l : List UInt8) (c : UInt8) : rest l [c] = [] ∨ ∃ r, rest l [c] = c :: r := by
  cases h : rest l [c] with
  | nil => exact .inl rfl
  | cons b t =>
    have := rest_head h
    have : b = c := by simpa using this
    exact .inr ⟨t, by rw [this]⟩
theorem split_end (s : List UInt8) :
    hoB s = hoB (cut (cut s [35]) [63]) ∧
    hoA s = (if hoB (cut (cut s [35]) [63]) then cut ((cut (cut s [35]) [63]).drop 2) [47] else []) ∧
    paA (hoR s) = (if hoB (cut (cut s [35]) [63]) then rest ((cut (cut s [35]) [63]).drop 2) [47] else cut (cut s [35]) [63]) ∧
    quB (paR (hoR s)) = !(rest (cut s [35]) [63]).isEmpty ∧ quA (paR (hoR s)) = (rest (cut s [35]) [63]).drop 1 ∧
    frB (quR (paR (hoR s))) = !(rest s [35]).isEmpty ∧ frA (quR (paR (hoR s))) = (rest s [35]).drop 1 := by
  have e1 := cut_rest s [35]
  have e2 := cut_rest (cut s [35]) [63]
  have f1 : ∀ x ∈ cut s [35], x ≠ 35 := fun x h => cut_one h
  have f2 : ∀ x ∈ cut (cut s [35]) [63], x ≠ 63 := fun x h => cut_one h
  have r1 := rest_one s 35
  have r2 := rest_one (cut s [35]) 63
  generalize cut s [35] = a at *
  generalize rest s [35] = ra at *
  generalize cut a [63] = b at *
  generalize rest a [63] = rb at *
  have fb : ∀ x ∈ b, x ≠ 35 := fun x h => f1 x (by rw [← e2]; simp [h])
  have fr : ∀ x ∈ rb, x ≠ 35 := fun x h => f1 x (by rw [← e2]; simp [h])
  subst e2
  subst e1
  clear f1
  rw [List.append_assoc]
  have hT : rb ++ ra = [] ∨ ∃ x r', rb ++ ra = x :: r' ∧ ([63, 35] : List UInt8).contains x = true := by
    rcases r2 with rfl | ⟨q, rfl⟩
    · rcases r1 with rfl | ⟨q, rfl⟩
      · exact .inl rfl
      · exact .inr ⟨35, q, rfl, rfl⟩
    · exact .inr ⟨63, q ++ ra, rfl, rfl⟩
  have hq : quB (rb ++ ra) = !rb.isEmpty ∧ quA (rb ++ ra) = rb.drop 1 ∧ quR (rb ++ ra) = ra := by
    unfold quA quR
    rcases r2 with rfl | ⟨q, rfl⟩
    · have : quB ([] ++ ra) = false := by
        rcases r1 with rfl | ⟨q, rfl⟩
        · rfl
        · rfl
      rw [this]
      exact ⟨rfl, rfl, rfl⟩
    · have hc := cut_full (t := 63 :: q) (r := ra) (m := [35]) (fun x hx => by have := fr x hx; simpa using this) (by
        rcases r1 with rfl | ⟨q', rfl⟩
        · exact .inl rfl
        · exact .inr ⟨35, q', rfl, rfl⟩)
      have : quB (63 :: q ++ ra) = true := by simp [quB]
      rw [this, if_pos rfl, if_pos rfl, hc.1, hc.2]
      exact ⟨rfl, rfl, rfl⟩
  have key : ∀ p : List UInt8, (∀ x ∈ p, x ≠ 63 ∧ x ≠ 35) → paA (p ++ (rb ++ ra)) = p ∧ paR (p ++ (rb ++ ra)) = rb ++ ra := fun p hp =>
    cut_full (fun x hx => by have := hp x hx; simp [this.1, this.2]) hT
  have hb : hoB (b ++ (rb ++ ra)) = hoB b := by
    have n47 : ∀ x r', rb ++ ra = x :: r' → x ≠ 47 := by
      intro x r' e
      rcases hT with h | ⟨y, r2', h, hy⟩
      · rw [h] at e; cases e
      · rw [h] at e
        injection e with e _
        subst e
        rintro rfl
        simp at hy
    unfold hoB
    match b with
    | [] =>
      cases hh : rb ++ ra with
      | nil => rfl
      | cons x r' =>
        have := n47 x r' hh
        cases r' <;> simp [this]
    | [x] =>
      cases hh : rb ++ ra with
      | nil => rfl
      | cons y r' =>
        have := n47 y r' hh
        simp [this]
    | x :: y :: r => simp
  have hfree : ∀ x ∈ b, x ≠ 63 ∧ x ≠ 35 := fun x h => ⟨f2 x h, fb x h⟩
  rw [hb]
  unfold hoA hoR
  rw [hb]
  cases hh : hoB b with
  | false =>
    obtain ⟨k1, k2⟩ := key b hfree
    simp only [Bool.false_eq_true, if_false]
    rw [k1, k2, hq.1, hq.2.1, hq.2.2]
    refine ⟨?_, ?_, ?_, ?_, ?_, ?_, ?_⟩ <;> first | trivial | rfl
  | true =>
    obtain ⟨h, rfl⟩ : ∃ h, b = 47 :: 47 :: h := by
      unfold hoB at hh
      match b, hh with
      | [], hh => simp at hh
      | [x], hh => simp at hh
      | x :: y :: h, hh =>
        simp at hh
        exact ⟨h, by rw [hh.1, hh.2]⟩
    simp only [if_true, List.cons_append, List.drop_succ_cons, List.drop_zero]
    have e3 := cut_rest h [47]
    have hin : ∀ x ∈ h, x ≠ 63 ∧ x ≠ 35 := fun x hx => hfree x (by simp [hx])
    have g1 : ∀ x ∈ cut h [47], x ≠ 47 := fun x hx => cut_one hx
    have g2 : ∀ x ∈ cut h [47], x ≠ 63 ∧ x ≠ 35 := fun x hx => hin x (by rw [← e3]; simp [hx])
    have g3 : ∀ x ∈ rest h [47], x ≠ 63 ∧ x ≠ 35 := fun x hx => hin x (by rw [← e3]; simp [hx])
    have hc := cut_full (t := cut h [47]) (r := rest h [47] ++ (rb ++ ra)) (m := [47, 63, 35]) (fun x hx => by
      have a1 := g1 x hx
      have a2 := g2 x hx
      simp [a1, a2.1, a2.2]) (by
      rcases rest_one h 47 with e | ⟨q, e⟩
      · rw [e, List.nil_append]
        rcases hT with h0 | ⟨x, r', h0, hx⟩
        · exact .inl h0
        · refine .inr ⟨x, r', h0, ?_⟩
          simp at hx ⊢
          exact .inr hx
      · exact .inr ⟨47, q ++ (rb ++ ra), by rw [e]; rfl, rfl⟩)
    rw [← List.append_assoc, e3] at hc
    rw [hc.1, hc.2]
    obtain ⟨k1, k2⟩ := key _ g3
    rw [k1, k2, hq.1, hq.2.1, hq.2.2]
    refine ⟨?_, ?_, ?_, ?_, ?_, ?_, ?_⟩ <;> first | trivial | rfl

/-! Signs, byte by byte. -/
def hexPair (l : List UInt8) : Bool := match l with
  | c :: d :: _ => hexB c && hexB d
  | _ => false
theorem hex_plain (more : List UInt8) {b : UInt8} (h : hexB b = true) : plainB more b = true := by
  unfold hexB at h
  have h := of_decide_eq_true h
  unfold plainB alphaB digitB
  by_cases h1 : 48 ≤ b.toNat ∧ b.toNat ≤ 57
  · simp [h1]
  · have h2 : (65 ≤ b.toNat ∧ b.toNat ≤ 90) ∨ (97 ≤ b.toNat ∧ b.toNat ≤ 122) := by omega
    rw [decide_eq_true h2]
    simp
theorem percent_plain {more : List UInt8} (h : more.contains 37 = false) : plainB more 37 = false := by
  unfold plainB has
  rw [h]
  rfl
/-- How signs go on. -/
theorem signs_step {more : List UInt8} (hm : more.contains 37 = false) (b : UInt8) (t : List UInt8) :
    signs more (b :: t) = ((if b = 37 then hexPair t else plainB more b) && signs more t) := by
  by_cases h : b = 37
  · subst h
    rw [if_pos rfl]
    have hp := percent_plain hm
    match t with
    | [] => rw [signs_short hp (by simp)]; rfl
    | [c] => rw [signs_short hp (by simp)]; rfl
    | c :: d :: u =>
      unfold hexPair
      cases h1 : hexB c with
      | false => rw [signs_no hp (by rw [h1]; simp)]; simp [h1]
      | true => cases h2 : hexB d with
        | false => rw [signs_no hp (by rw [h2]; simp)]; simp [h2]
        | true =>
          rw [signs_hex hp rfl h1 h2, signs_plain (hex_plain more h1), signs_plain (hex_plain more h2)]
          simp [h1, h2]
  · rw [if_neg h]
    cases hp : plainB more b with
    | true => rw [signs_plain hp]; rfl
    | false => rw [signs_other hp h]; rfl

/-! Pieces on a stack. -/
/-- Each piece but the first begins with the one sign between that it has; what is left begins with one, if a piece is there. -/
structure Pcs (P : List (List UInt8)) (s : List UInt8) : Prop where
  rows : ∀ p ∈ P.drop 1, ∃ t, p = 47 :: t ∧ (47 : UInt8) ∉ t
  all : ∀ p ∈ P, ∃ b t, p = b :: t ∧ (47 : UInt8) ∉ t
  next : P ≠ [] → s = [] ∨ ∃ t, s = 47 :: t
theorem Pcs.none (s : List UInt8) : Pcs [] s := ⟨by simp, by simp, by simp⟩
theorem Pcs.keep {P : List (List UInt8)} {s s' : List UInt8} (h : Pcs P s) (hs : s' = [] ∨ ∃ t, s' = 47 :: t) : Pcs P s' := ⟨h.rows, h.all, fun _ => hs⟩
theorem Pcs.pop {P : List (List UInt8)} {s s' : List UInt8} (h : Pcs P s) (hs : s' = [] ∨ ∃ t, s' = 47 :: t) : Pcs P.dropLast s' := by
  refine ⟨fun p hp => h.rows p ?_, fun p hp => h.all p (List.dropLast_subset P hp), fun _ => hs⟩
  match P, hp with
  | [q], hp => simp at hp
  | q :: q2 :: P, hp =>
    rw [List.dropLast_cons_of_ne_nil (by simp), List.drop_succ_cons, List.drop_zero] at hp
    exact List.dropLast_subset _ hp
theorem Pcs.first {P : List (List UInt8)} {b : UInt8} {t : List UInt8} (h : Pcs P (b :: t)) (hb : b ≠ 47) : P = [] := by
  by_cases hP : P = []
  · exact hP
  · rcases h.next hP with e | ⟨q, e⟩
    · cases e
    · injection e with e _
      exact absurd e hb
theorem Pcs.up {P : List (List UInt8)} {s : List UInt8} (h : Pcs P s) : up P.flatten = P.dropLast.flatten := by
  rcases List.eq_nil_or_concat P with rfl | ⟨Q, p, rfl⟩
  · rfl
  · rw [List.concat_eq_append, List.dropLast_concat, List.flatten_append]
    simp only [List.flatten_cons, List.flatten_nil, List.append_nil]
    rw [List.concat_eq_append] at h
    obtain ⟨b, t, e, ht⟩ := h.all p (by simp)
    by_cases hb : b = 47
    · rw [e, hb, up_piece ht]
    · cases Q with
      | nil =>
        rw [List.flatten_nil, List.nil_append, up_free]
        rw [e, List.mem_cons]
        rintro (e1 | e1)
        · exact hb e1.symm
        · exact ht e1
      | cons q Q =>
        obtain ⟨t', e', _⟩ := h.rows p (by simp)
        rw [e] at e'
        injection e' with e' _
        exact absurd e' hb
theorem Pcs.push {P : List (List UInt8)} {s : List UInt8} (h : Pcs P s) (hs : s ≠ []) : Pcs (P ++ [s.take (1 + (cut (s.drop 1) [47]).length)]) (s.drop (1 + (cut (s.drop 1) [47]).length)) := by
  cases s with
  | nil => exact absurd rfl hs
  | cons b t =>
    simp only [List.drop_succ_cons, List.drop_zero]
    have e1 : (b :: t).take (1 + (cut t [47]).length) = b :: cut t [47] := by rw [Nat.add_comm, List.take_succ_cons, take_cut]
    have e2 : (b :: t).drop (1 + (cut t [47]).length) = rest t [47] := by rw [Nat.add_comm, List.drop_succ_cons, drop_cut]
    rw [e1, e2]
    have hf : (47 : UInt8) ∉ cut t [47] := fun hm => cut_one hm rfl
    refine ⟨fun p hp => ?_, fun p hp => ?_, fun _ => rest_one t 47⟩
    · cases P with
      | nil => simp at hp
      | cons q P =>
        simp only [List.cons_append, List.drop_succ_cons, List.drop_zero, List.mem_append, List.mem_singleton] at hp
        rcases hp with hp | rfl
        · exact h.rows p (by simpa using hp)
        · rcases h.next (by simp) with e | ⟨q', e⟩
          · cases e
          · injection e with e _
            exact ⟨_, by rw [e], hf⟩
    · rcases List.mem_append.1 hp with hp | hp
      · exact h.all p hp
      · simp only [List.mem_singleton] at hp
        exact ⟨_, _, hp, hf⟩
theorem Pcs.len {P : List (List UInt8)} {s : List UInt8} (h : Pcs P s) : P.length ≤ P.flatten.length := by
  have key : ∀ Q : List (List UInt8), (∀ p ∈ Q, p ≠ []) → Q.length ≤ Q.flatten.length := by
    intro Q
    induction Q with
    | nil => simp
    | cons q Q ih =>
      intro hq
      have := ih fun p hp => hq p (by simp [hp])
      have h0 := List.length_pos_iff.2 (hq q (by simp))
      simp only [List.length_cons, List.flatten_cons, List.length_append]
      omega
  refine key P fun p hp => ?_
  obtain ⟨b, t, rfl, _⟩ := h.all p hp
  simp
end Lc
end Go.Proofs.Ytmfmgbjkbadndaa
