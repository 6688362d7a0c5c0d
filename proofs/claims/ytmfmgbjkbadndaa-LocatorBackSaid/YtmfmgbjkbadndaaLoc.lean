/-
  References in plain Lean: the parts of a text, what is told of them, paths without dots, what is resolved.
-/
import Derived.Test.YtmfmgbjkbadndaaTexts
namespace Go.Proofs.Ytmfmgbjkbadndaa
namespace Lc

/-- Ahead of the first of some bytes; from there on. -/
def cut (l m : List UInt8) : List UInt8 := l.takeWhile fun b => !m.contains b
def rest (l m : List UInt8) : List UInt8 := l.dropWhile fun b => !m.contains b
theorem cut_rest (l m : List UInt8) : cut l m ++ rest l m = l := List.takeWhile_append_dropWhile
theorem cut_len (l m : List UInt8) : (cut l m).length ≤ l.length := (List.takeWhile_sublist _).length_le
theorem rest_len (l m : List UInt8) : (rest l m).length ≤ l.length := (List.dropWhile_sublist _).length_le
theorem take_cut (l m : List UInt8) : l.take (cut l m).length = cut l m := by
  have h := cut_rest l m
  have : (cut l m ++ rest l m).take (cut l m).length = cut l m := by simp
  rwa [h] at this
theorem drop_cut (l m : List UInt8) : l.drop (cut l m).length = rest l m := by
  have h := cut_rest l m
  have : (cut l m ++ rest l m).drop (cut l m).length = rest l m := by simp
  rwa [h] at this
theorem rest_head {l m : List UInt8} {b : UInt8} {t : List UInt8} (h : rest l m = b :: t) : m.contains b = true := by
  induction l with
  | nil => simp [rest] at h
  | cons c l ih =>
    unfold rest at h
    rw [List.dropWhile_cons] at h
    split at h
    · exact ih h
    · rename_i hc
      injection h with h1 h2
      subst h1
      simpa using hc
theorem cut_not {l m : List UInt8} {b : UInt8} (h : b ∈ cut l m) : m.contains b = false := by
  induction l with
  | nil => simp [cut] at h
  | cons c l ih =>
    unfold cut at h
    rw [List.takeWhile_cons] at h
    split at h
    · rename_i hc
      rcases List.mem_cons.1 h with rfl | h
      · simpa using hc
      · exact ih h
    · cases h
theorem cut_full {t r m : List UInt8} (h : ∀ b ∈ t, m.contains b = false) (hr : r = [] ∨ ∃ b r', r = b :: r' ∧ m.contains b = true) : cut (t ++ r) m = t ∧ rest (t ++ r) m = r := by
  induction t with
  | nil =>
    rcases hr with rfl | ⟨b, r', rfl, hb⟩
    · exact ⟨rfl, rfl⟩
    · unfold cut rest
      rw [List.nil_append, List.takeWhile_cons, List.dropWhile_cons, hb]
      exact ⟨rfl, rfl⟩
  | cons c t ih =>
    have hc := h c (by simp)
    have := ih (fun b hb => h b (by simp [hb]))
    unfold cut rest at *
    rw [List.cons_append, List.takeWhile_cons, List.dropWhile_cons]
    simp only [hc, Bool.not_false, if_true]
    exact ⟨by rw [this.1], this.2⟩

/-- A REFERENCE's PARTS. -/
structure U where
  scheme : List UInt8
  host : List UInt8
  path : List UInt8
  query : List UInt8
  frag : List UInt8
  hasS : Bool
  hasH : Bool
  hasQ : Bool
  hasF : Bool

def scB (s : List UInt8) : Bool := (rest s [58, 47, 63, 35]).head? == some 58
def scA (s : List UInt8) : List UInt8 := if scB s then cut s [58, 47, 63, 35] else []
def scR (s : List UInt8) : List UInt8 := if scB s then (rest s [58, 47, 63, 35]).drop 1 else s
def hoB (s : List UInt8) : Bool := s.take 2 == [47, 47]
def hoA (s : List UInt8) : List UInt8 := if hoB s then cut (s.drop 2) [47, 63, 35] else []
def hoR (s : List UInt8) : List UInt8 := if hoB s then rest (s.drop 2) [47, 63, 35] else s
def paA (s : List UInt8) : List UInt8 := cut s [63, 35]
def paR (s : List UInt8) : List UInt8 := rest s [63, 35]
def quB (s : List UInt8) : Bool := s.head? == some 63
def quA (s : List UInt8) : List UInt8 := if quB s then (cut s [35]).drop 1 else []
def quR (s : List UInt8) : List UInt8 := if quB s then rest s [35] else s
def frB (s : List UInt8) : Bool := !s.isEmpty
def frA (s : List UInt8) : List UInt8 := s.drop 1
def split (s : List UInt8) : U :=
  ⟨scA s, hoA (scR s), paA (hoR (scR s)), quA (paR (hoR (scR s))), frA (quR (paR (hoR (scR s)))), scB s, hoB (scR s), quB (paR (hoR (scR s))), frB (quR (paR (hoR (scR s))))⟩

def pS (u : U) : List UInt8 := if u.hasS then u.scheme ++ [58] else []
def pH (u : U) : List UInt8 := if u.hasH then pS u ++ [47, 47] ++ u.host else pS u
def pP (u : U) : List UInt8 := pH u ++ u.path
def pQ (u : U) : List UInt8 := if u.hasQ then pP u ++ [63] ++ u.query else pP u
def print (u : U) : List UInt8 := if u.hasF then pQ u ++ [35] ++ u.frag else pQ u

theorem sc_back (s : List UInt8) : (if scB s then scA s ++ [58] else []) ++ scR s = s := by
  unfold scA scR
  cases h : scB s with
  | false => simp
  | true =>
    unfold scB at h
    have := cut_rest s [58, 47, 63, 35]
    cases hr : rest s [58, 47, 63, 35] with
    | nil => rw [hr] at h; simp at h
    | cons b t =>
      rw [hr] at h this
      simp at h
      subst h
      simpa using this
theorem ho_back (s : List UInt8) : (if hoB s then [47, 47] ++ hoA s else []) ++ hoR s = s := by
  unfold hoA hoR
  cases h : hoB s with
  | false => simp
  | true =>
    unfold hoB at h
    have h1 := cut_rest (s.drop 2) [47, 63, 35]
    have h2 := List.take_append_drop 2 s
    have h3 : s.take 2 = [47, 47] := by simpa using h
    simp only [if_true, List.append_assoc]
    rw [h1, ← h3, h2]
theorem pa_back (s : List UInt8) : paA s ++ paR s = s := cut_rest _ _
theorem qu_back (s : List UInt8) : (if quB s then [63] ++ quA s else []) ++ quR s = s := by
  unfold quA quR
  cases h : quB s with
  | false => simp
  | true =>
    unfold quB at h
    cases s with
    | nil => simp at h
    | cons b t =>
      simp at h
      subst h
      have h1 := cut_rest (63 :: t) [35]
      have h2 : cut (63 :: t) [35] = 63 :: cut t [35] := by simp [cut]
      rw [h2] at h1 ⊢
      simpa using h1
theorem fr_back {s : List UInt8} (h : ∀ b t, s = b :: t → b = 35) : (if frB s then [35] ++ frA s else []) = s := by
  unfold frB frA
  cases s with
  | nil => rfl
  | cons b t => obtain rfl := h b t rfl; simp
theorem qu_head (s : List UInt8) : ∀ b t, quR (paR s) = b :: t → b = 35 := by
  intro b t h
  unfold quR at h
  cases hq : quB (paR s) with
  | true =>
    rw [hq] at h
    have := rest_head (show rest (paR s) [35] = b :: t by simpa using h)
    simpa using this
  | false =>
    rw [hq] at h
    have h' : paR s = b :: t := by simpa using h
    have := rest_head (show rest s [63, 35] = b :: t from h')
    unfold quB at hq
    rw [h'] at hq
    simp at hq this
    rcases this with h1 | h1
    · exact absurd h1 hq
    · exact h1
/-- WHAT IS PARSED IS TOLD AS IT WAS. -/
theorem print_split (s : List UInt8) : print (split s) = s := by
  have h1 := sc_back s
  have h2 := ho_back (scR s)
  have h3 := pa_back (hoR (scR s))
  have h4 := qu_back (paR (hoR (scR s)))
  have h5 := fr_back (qu_head (hoR (scR s)))
  unfold print pQ pP pH pS split
  dsimp only
  generalize scR s = s1 at *
  generalize hoR s1 = s2 at *
  generalize paR s2 = s3 at *
  generalize quR s3 = s4 at *
  have h : (if scB s then scA s ++ [58] else []) ++ ((if hoB s1 then [47, 47] ++ hoA s1 else []) ++ (paA s2 ++ ((if quB s3 then [63] ++ quA s3 else []) ++ (if frB s4 then [35] ++ frA s4 else [])))) = s := by
    rw [h5, h4, h3, h2, h1]
  refine Eq.trans ?_ h
  cases scB s <;> cases hoB s1 <;> cases quB s3 <;> cases frB s4 <;> simp

/-! Dots. -/
def begins (t s : List UInt8) : Bool := s.take t.length == t
def up (l : List UInt8) : List UInt8 := ((l.reverse.dropWhile fun b => b != 47).drop 1).reverse
def step (s out : List UInt8) : List UInt8 × List UInt8 :=
  if begins [46, 46, 47] s then (s.drop 3, out)
  else if begins [46, 47] s then (s.drop 2, out)
  else if begins [47, 46, 47] s then (s.drop 2, out)
  else if s = [47, 46] then ([47], out)
  else if begins [47, 46, 46, 47] s then (s.drop 3, up out)
  else if s = [47, 46, 46] then ([47], up out)
  else if s = [46] ∨ s = [46, 46] then ([], out)
  else (rest (s.drop 1) [47], out ++ s.take (1 + (cut (s.drop 1) [47]).length))
def go : Nat → List UInt8 → List UInt8 → List UInt8
  | 0, _, out => out
  | n + 1, s, out => if s = [] then out else go n (step s out).1 (step s out).2
def dots (s : List UInt8) : List UInt8 := go s.length s []
theorem up_len (l : List UInt8) : (up l).length ≤ l.length := by
  unfold up
  rw [List.length_reverse, List.length_drop]
  have := (List.dropWhile_sublist (fun b => b != 47) (l := l.reverse)).length_le
  rw [List.length_reverse] at this
  omega
theorem begins_len {t s : List UInt8} (h : begins t s = true) : t.length ≤ s.length := by
  unfold begins at h
  have := congrArg List.length (beq_iff_eq.1 h)
  rw [List.length_take] at this
  omega
theorem step_len {s out : List UInt8} (h : s ≠ []) : (step s out).1.length < s.length ∧ (step s out).1.length + (step s out).2.length ≤ s.length + out.length := by
  have hs : 0 < s.length := List.length_pos_iff.2 h
  have hu := up_len out
  unfold step
  split
  · rename_i h1; have := begins_len h1; simp at this ⊢; omega
  split
  · rename_i h1; have := begins_len h1; simp at this ⊢; omega
  split
  · rename_i h1; have := begins_len h1; simp at this ⊢; omega
  split
  · rename_i h1; subst h1; simp at *; try omega
  split
  · rename_i h1; have := begins_len h1; simp at this ⊢; omega
  split
  · rename_i h1; subst h1; simp at *; try omega
  split
  · rename_i h1
    rcases h1 with rfl | rfl <;> simp
  · have h2 := congrArg List.length (cut_rest (s.drop 1) [47])
    rw [List.length_append, List.length_drop] at h2
    simp only [List.length_append, List.length_take]
    omega
theorem go_fuel : ∀ (n m : Nat) (s out : List UInt8), s.length ≤ n → s.length ≤ m → go n s out = go m s out
  | 0, m, s, out, h1, _ => by
    have : s = [] := List.length_eq_zero_iff.1 (by omega)
    subst this
    cases m <;> simp [go]
  | n + 1, 0, s, out, _, h2 => by
    have : s = [] := List.length_eq_zero_iff.1 (by omega)
    subst this
    simp [go]
  | n + 1, m + 1, s, out, h1, h2 => by
    unfold go
    split
    · rfl
    · rename_i hs
      have := (step_len (out := out) hs).1
      exact go_fuel n m _ _ (by omega) (by omega)
theorem go_step {s out : List UInt8} (h : s ≠ []) : go s.length s out = go (step s out).1.length (step s out).1 (step s out).2 := by
  have hs : 0 < s.length := List.length_pos_iff.2 h
  have hl := (step_len (out := out) h).1
  obtain ⟨n, hn⟩ : ∃ n, s.length = n + 1 := ⟨s.length - 1, by omega⟩
  rw [hn]
  conv => lhs; unfold go
  rw [if_neg h]
  exact go_fuel _ _ _ _ (by omega) (Nat.le_refl _)
theorem go_nil (out : List UInt8) : go 0 [] out = out := rfl
theorem go_len : ∀ (n : Nat) (s out : List UInt8), (go n s out).length ≤ s.length + out.length
  | 0, s, out => by simp [go]
  | n + 1, s, out => by
    unfold go
    split
    · omega
    · rename_i hs
      have := go_len n (step s out).1 (step s out).2
      have := (step_len (out := out) hs).2
      omega
theorem dots_len (s : List UInt8) : (dots s).length ≤ s.length := by
  have := go_len s.length s []
  unfold dots
  simpa using this

/-- A dot's piece stands at the head. -/
def bad : List UInt8 → Bool
  | 47 :: 46 :: r => r.isEmpty || r.head? == some 47 || (r.head? == some 46 && ((r.drop 1).isEmpty || (r.drop 1).head? == some 47))
  | _ => false
/-- A piece with a sign between ahead of it; the first piece without one. -/
def Pc (p : List UInt8) : Prop := ∃ t, p = 47 :: t ∧ (47 : UInt8) ∉ t ∧ t ≠ [46] ∧ t ≠ [46, 46]
def Hd (p : List UInt8) : Prop := p = [] ∨ ((47 : UInt8) ∉ p ∧ p ≠ [46] ∧ p ≠ [46, 46])
theorem flat_head {P : List (List UInt8)} (h : ∀ p ∈ P, Pc p) : P.flatten = [] ∨ ∃ r, P.flatten = 47 :: r := by
  cases P with
  | nil => exact .inl rfl
  | cons p P =>
    obtain ⟨t, rfl, _⟩ := h p (by simp)
    exact .inr ⟨t ++ P.flatten, by simp⟩
theorem bad_piece {t r : List UInt8} (h1 : (47 : UInt8) ∉ t) (h2 : t ≠ [46]) (h3 : t ≠ [46, 46]) (hr : r = [] ∨ ∃ q, r = 47 :: q) : bad (47 :: (t ++ r)) = false := by
  cases t with
  | nil => rcases hr with rfl | ⟨q, rfl⟩ <;> simp [bad]
  | cons a t =>
    by_cases ha : a = 46
    · subst ha
      cases t with
      | nil => exact absurd rfl h2
      | cons b t =>
        simp only [List.mem_cons, not_or] at h1
        by_cases hb : b = 46
        · subst hb
          cases t with
          | nil => exact absurd rfl h3
          | cons c t =>
            simp only [List.mem_cons, not_or] at h1
            simp [bad]
            exact fun e => h1.2.2.1 e.symm
        · simp [bad, hb]
          exact fun e => h1.2.1 e.symm
    · simp [bad, ha]
theorem bad_head {l : List UInt8} (h : ∀ t, l ≠ 47 :: t) : bad l = false := by
  cases l with
  | nil => rfl
  | cons b t =>
    have : b ≠ 47 := fun e => h t (by rw [e])
    unfold bad
    split
    · rename_i e; injection e with e1 _; exact absurd e1 this
    · rfl
theorem drop_free {t r : List UInt8} (h1 : (47 : UInt8) ∉ t) (hr : ∀ i, bad (r.drop i) = false) : ∀ i, bad ((t ++ r).drop i) = false := by
  intro i
  rw [List.drop_append]
  by_cases h : i < t.length
  · have : i - t.length = 0 := by omega
    rw [this, List.drop_zero, List.drop_eq_getElem_cons h, List.cons_append]
    refine bad_head fun q e => ?_
    injection e with e _
    exact h1 (e ▸ List.getElem_mem h)
  · rw [List.drop_of_length_le (by omega), List.nil_append]
    exact hr _
theorem flat_bad : ∀ {P : List (List UInt8)}, (∀ p ∈ P, Pc p) → ∀ i, bad (P.flatten.drop i) = false
  | [], _, i => by simp [bad]
  | p :: P, h, i => by
    obtain ⟨t, rfl, ht, h2, h3⟩ := h p (by simp)
    have ih := flat_bad (P := P) fun q hq => h q (by simp [hq])
    rw [List.flatten_cons, List.cons_append]
    cases i with
    | zero => exact bad_piece ht h2 h3 (flat_head fun q hq => h q (by simp [hq]))
    | succ i =>
      rw [List.drop_succ_cons]
      exact drop_free ht ih i
theorem all_bad {h : List UInt8} {P : List (List UInt8)} (hh : Hd h) (hP : ∀ p ∈ P, Pc p) (i : Nat) : bad ((h ++ P.flatten).drop i) = false := by
  refine drop_free ?_ (flat_bad hP) i
  rcases hh with rfl | hh
  · simp
  · exact hh.1

theorem begins_iff {t s : List UInt8} : begins t s = true ↔ ∃ r, s = t ++ r := by
  unfold begins
  rw [beq_iff_eq]
  constructor
  · intro h
    have := List.take_append_drop t.length s
    rw [h] at this
    exact ⟨s.drop t.length, this.symm⟩
  · rintro ⟨r, rfl⟩
    simp
theorem begins_no {t s : List UInt8} (h : ∀ r, s ≠ t ++ r) : begins t s = false := by
  cases hb : begins t s with
  | false => rfl
  | true => obtain ⟨r, hr⟩ := begins_iff.1 hb; exact absurd hr (h r)
/-- The step over a piece that is no dots'. -/
theorem step_plain {p r out : List UInt8} (h : (47 : UInt8) ∉ p.drop 1) (hp : p ≠ []) (hr : r = [] ∨ ∃ q, r = 47 :: q) (hb : bad (p ++ r) = false) (hn : p ≠ [46] ∧ p ≠ [46, 46]) : step (p ++ r) out = (r, out ++ p) := by
  obtain ⟨a, t, rfl⟩ : ∃ a t, p = a :: t := by cases p with
    | nil => exact absurd rfl hp
    | cons a t => exact ⟨a, t, rfl⟩
  simp only [List.drop_succ_cons, List.drop_zero] at h
  have hc := cut_full (t := t) (r := r) (m := [47]) (fun b hb => by
    simp
    rintro rfl
    exact h hb) (by
    rcases hr with rfl | ⟨q, rfl⟩
    · exact .inl rfl
    · exact .inr ⟨47, q, rfl, rfl⟩)
  have n1 : begins [46, 46, 47] (a :: t ++ r) = false := begins_no fun q e => by
    simp at e
    obtain ⟨rfl, e⟩ := e
    cases t with
    | nil =>
      rcases hr with rfl | ⟨q', rfl⟩ <;> simp at e
    | cons b t =>
      simp at e
      obtain ⟨rfl, e⟩ := e
      cases t with
      | nil => exact hn.2 rfl
      | cons c t => simp at e; simp [e.1] at h
  have n2 : begins [46, 47] (a :: t ++ r) = false := begins_no fun q e => by
    simp at e
    obtain ⟨rfl, e⟩ := e
    cases t with
    | nil => exact hn.1 rfl
    | cons b t => simp at e; simp [e.1] at h
  have n3 : begins [47, 46, 47] (a :: t ++ r) = false := begins_no fun q e => by
    rw [e] at hb; simp [bad] at hb
  have n4 : ¬ (a :: t ++ r) = [47, 46] := fun e => by rw [e] at hb; simp [bad] at hb
  have n5 : begins [47, 46, 46, 47] (a :: t ++ r) = false := begins_no fun q e => by
    rw [e] at hb; simp [bad] at hb
  have n6 : ¬ (a :: t ++ r) = [47, 46, 46] := fun e => by rw [e] at hb; simp [bad] at hb
  have n7 : ¬ ((a :: t ++ r) = [46] ∨ (a :: t ++ r) = [46, 46]) := by
    rintro (e | e)
    · simp at e
      obtain ⟨rfl, rfl, rfl⟩ := e
      exact hn.1 rfl
    · simp at e
      obtain ⟨rfl, e⟩ := e
      rcases hr with rfl | ⟨q, rfl⟩
      · simp at e; subst e; exact hn.2 rfl
      · have := congrArg (fun l => (47 : UInt8) ∈ l) e
        simp at this
  unfold step
  rw [n1, n2, n3, n5]
  simp only [n4, n6, n7, if_false, Bool.false_eq_true]
  simp only [List.cons_append, List.drop_succ_cons, List.drop_zero]
  rw [hc.1, hc.2]
  rw [Nat.add_comm, List.take_succ_cons]
  simp
theorem go_pieces : ∀ (P : List (List UInt8)) (out : List UInt8), (∀ p ∈ P, Pc p) → go P.flatten.length P.flatten out = out ++ P.flatten
  | [], out, _ => by simp [go]
  | p :: P, out, h => by
    have hb := flat_bad h 0
    have hP : ∀ q ∈ P, Pc q := fun q hq => h q (by simp [hq])
    obtain ⟨t, rfl, ht, h2, h3⟩ := h p (by simp)
    have hs := step_plain (p := 47 :: t) (r := P.flatten) (out := out) (by simpa using ht) (by simp) (flat_head hP) (by simpa using hb) ⟨by simp, by simp⟩
    have ih := go_pieces P (out ++ 47 :: t) hP
    rw [List.flatten_cons, go_step (by simp), hs]
    simp only
    rw [ih, List.append_assoc]
theorem go_all {h : List UInt8} {P : List (List UInt8)} (hh : Hd h) (hP : ∀ p ∈ P, Pc p) : dots (h ++ P.flatten) = h ++ P.flatten := by
  unfold dots
  rcases hh with rfl | ⟨h1, h2, h3⟩
  · rw [List.nil_append, go_pieces P [] hP, List.nil_append]
  · by_cases h0 : h = []
    · subst h0
      rw [List.nil_append, go_pieces P [] hP, List.nil_append]
    · have hb := all_bad (.inr ⟨h1, h2, h3⟩) hP 0
      have hs := step_plain (p := h) (r := P.flatten) (out := []) (fun e => h1 (List.mem_of_mem_drop e)) h0 (flat_head hP) (by simpa using hb) ⟨h2, h3⟩
      rw [go_step (by simp [h0]), hs]
      simp only
      rw [go_pieces P _ hP, List.nil_append]
theorem drop_all {p : UInt8 → Bool} : ∀ {l : List UInt8}, (∀ b ∈ l, p b = true) → l.dropWhile p = []
  | [], _ => rfl
  | b :: l, h => by
    rw [List.dropWhile_cons, h b (by simp), if_pos rfl]
    exact drop_all fun c hc => h c (by simp [hc])
theorem up_free {l : List UInt8} (h : (47 : UInt8) ∉ l) : up l = [] := by
  unfold up
  have : l.reverse.dropWhile (fun b => b != 47) = [] := by
    refine drop_all fun b hb => ?_
    rw [bne_iff_ne]
    rintro rfl
    exact h (by simpa using hb)
  rw [this]
  rfl
theorem up_piece {l t : List UInt8} (h : (47 : UInt8) ∉ t) : up (l ++ 47 :: t) = l := by
  unfold up
  have : (l ++ 47 :: t).reverse.dropWhile (fun b => b != 47) = 47 :: l.reverse := by
    rw [List.reverse_append, List.reverse_cons, List.append_assoc, List.dropWhile_append_of_pos]
    · simp
    · intro b hb
      rw [bne_iff_ne]
      rintro rfl
      exact h (by simpa using hb)
  rw [this]
  simp
/-- What has been told so far is of pieces. -/
def Inv (s out : List UInt8) : Prop := ∃ h P, out = h ++ P.flatten ∧ Hd h ∧ (∀ p ∈ P, Pc p) ∧ (out ≠ [] ∨ P ≠ [] → s = [] ∨ ∃ q, s = 47 :: q)
theorem Inv.up {s s' out : List UInt8} (h : Inv s out) (hs : ∃ q, s' = 47 :: q) : Inv s' (up out) := by
  obtain ⟨h, P, rfl, hh, hP, _⟩ := h
  rcases P.eq_nil_or_concat with rfl | ⟨P', p, rfl⟩
  · refine ⟨[], [], ?_, .inl rfl, by simp, fun _ => .inr hs⟩
    rw [List.flatten_nil, List.append_nil]
    refine up_free ?_
    rcases hh with rfl | hh
    · simp
    · exact hh.1
  · obtain ⟨t, rfl, ht, _⟩ := hP p (by simp)
    refine ⟨h, P', ?_, hh, fun q hq => hP q (by simp [hq]), fun _ => .inr hs⟩
    rw [List.concat_eq_append, List.flatten_append, List.flatten_cons, List.flatten_nil, List.append_nil, ← List.append_assoc]
    exact up_piece ht
theorem inv_step {s out : List UInt8} (h : Inv s out) (h0 : s ≠ []) : Inv (step s out).1 (step s out).2 := by
  have stay : ∀ {s'}, (s' = [] ∨ ∃ q, s' = 47 :: q) → Inv s' out := fun hs => by
    obtain ⟨h, P, e, hh, hP, _⟩ := h
    exact ⟨h, P, e, hh, hP, fun _ => hs⟩
  have free : ∀ {s'}, (∀ q, s ≠ 47 :: q) → Inv s' out := fun hs => by
    obtain ⟨h, P, e, hh, hP, hq⟩ := h
    exact ⟨h, P, e, hh, hP, fun x => by
      rcases hq x with e | ⟨q, e⟩
      · exact absurd e h0
      · exact absurd e (hs q)⟩
  unfold step
  split
  · rename_i h1
    obtain ⟨r, rfl⟩ := begins_iff.1 h1
    exact free fun q e => by simp at e
  split
  · rename_i h1
    obtain ⟨r, rfl⟩ := begins_iff.1 h1
    exact free fun q e => by simp at e
  split
  · rename_i h1
    obtain ⟨r, rfl⟩ := begins_iff.1 h1
    exact stay (.inr ⟨r, by simp⟩)
  split
  · exact stay (.inr ⟨[], rfl⟩)
  split
  · rename_i h1
    obtain ⟨r, rfl⟩ := begins_iff.1 h1
    exact h.up ⟨r, by simp⟩
  split
  · exact h.up ⟨[], rfl⟩
  split
  · exact stay (.inl rfl)
  · rename_i n1 n2 n3 n4 n5 n6 n7
    obtain ⟨a, t, rfl⟩ : ∃ a t, s = a :: t := by cases s with
      | nil => exact absurd rfl h0
      | cons a t => exact ⟨a, t, rfl⟩
    simp only [List.drop_succ_cons, List.drop_zero]
    rw [Nat.add_comm, List.take_succ_cons, take_cut]
    have hcr := cut_rest t [47]
    have hct : (47 : UInt8) ∉ cut t [47] := fun e => by simpa using cut_not e
    have hr : rest t [47] = [] ∨ ∃ q, rest t [47] = 47 :: q := by
      cases hq : rest t [47] with
      | nil => exact .inl rfl
      | cons b q =>
        have := rest_head hq
        simp at this
        subst this
        exact .inr ⟨q, rfl⟩
    by_cases ha : a = 47
    · subst ha
      obtain ⟨h, P, rfl, hh, hP, hq⟩ := h
      refine ⟨h, P ++ [47 :: cut t [47]], by simp, hh, fun p hp => ?_, fun _ => hr⟩
      rcases List.mem_append.1 hp with hp | hp
      · exact hP p hp
      · simp at hp
        subst hp
        refine ⟨_, rfl, hct, fun e => ?_, fun e => ?_⟩
        · rw [e] at hcr
          rcases hr with e2 | ⟨q, e2⟩
          · rw [e2] at hcr; exact n4 (by rw [← hcr]; rfl)
          · rw [e2] at hcr; exact n3 (begins_iff.2 ⟨q, by rw [← hcr]; rfl⟩)
        · rw [e] at hcr
          rcases hr with e2 | ⟨q, e2⟩
          · rw [e2] at hcr; exact n6 (by rw [← hcr]; rfl)
          · rw [e2] at hcr; exact n5 (begins_iff.2 ⟨q, by rw [← hcr]; rfl⟩)
    · obtain ⟨h, P, rfl, hh, hP, hq⟩ := h
      have hnil : h ++ P.flatten = [] ∧ P = [] := by
        by_cases hx : h ++ P.flatten ≠ [] ∨ P ≠ []
        · rcases hq hx with e | ⟨q, e⟩
          · cases e
          · injection e with e _; exact absurd e ha
        · simp only [not_or, Classical.not_not] at hx
          exact hx
      rw [hnil.1]
      refine ⟨a :: cut t [47], [], by simp, .inr ⟨?_, fun e => ?_, fun e => ?_⟩, by simp, fun _ => hr⟩
      · simp only [List.mem_cons, not_or]
        exact ⟨fun e => ha e.symm, hct⟩
      · injection e with e1 e
        rw [e] at hcr
        subst e1
        rcases hr with e2 | ⟨q, e2⟩
        · rw [e2] at hcr; exact n7 (.inl (by rw [← hcr]; rfl))
        · rw [e2] at hcr; exact n2 (begins_iff.2 ⟨q, by rw [← hcr]; rfl⟩)
      · injection e with e1 e
        rw [e] at hcr
        subst e1
        rcases hr with e2 | ⟨q, e2⟩
        · rw [e2] at hcr; exact n7 (.inr (by rw [← hcr]; rfl))
        · rw [e2] at hcr; exact n1 (begins_iff.2 ⟨q, by rw [← hcr]; rfl⟩)
theorem inv_go : ∀ (n : Nat) (s out : List UInt8), s.length ≤ n → Inv s out → ∃ h P, go n s out = h ++ List.flatten P ∧ Hd h ∧ ∀ p ∈ P, Pc p
  | 0, s, out, _, h => by
    obtain ⟨h, P, e, hh, hP, _⟩ := h
    exact ⟨h, P, e, hh, hP⟩
  | n + 1, s, out, hl, h => by
    unfold go
    split
    · obtain ⟨h, P, e, hh, hP, _⟩ := h
      exact ⟨h, P, e, hh, hP⟩
    · rename_i hs
      have := (step_len (out := out) hs).1
      exact inv_go n _ _ (by omega) (inv_step h hs)
theorem dots_pieces (s : List UInt8) : ∃ h P, dots s = h ++ List.flatten P ∧ Hd h ∧ ∀ p ∈ P, Pc p :=
  inv_go s.length s [] (Nat.le_refl _) ⟨[], [], rfl, .inl rfl, by simp, fun h => by simp at h⟩
/-- DOTS THAT ARE GONE ARE GONE. -/
theorem dots_bad (s : List UInt8) (i : Nat) : bad ((dots s).drop i) = false := by
  obtain ⟨h, P, e, hh, hP⟩ := dots_pieces s
  rw [e]
  exact all_bad hh hP i
theorem dots_dots (s : List UInt8) : dots (dots s) = dots s := by
  obtain ⟨h, P, e, hh, hP⟩ := dots_pieces s
  rw [e]
  exact go_all hh hP

/-! Resolve. -/
def lead (p : List UInt8) : List UInt8 := (p.reverse.dropWhile fun b => b != 47).reverse
def resolve (b r : U) : U :=
  if r.hasS then { r with path := dots r.path }
  else if r.hasH then { scheme := b.scheme, hasS := b.hasS, host := r.host, hasH := true, path := dots r.path, query := r.query, hasQ := r.hasQ, frag := r.frag, hasF := r.hasF }
  else if r.path = [] then { scheme := b.scheme, hasS := b.hasS, host := b.host, hasH := b.hasH, path := b.path, query := if r.hasQ then r.query else b.query, hasQ := if r.hasQ then true else b.hasQ, frag := r.frag, hasF := r.hasF }
  else { scheme := b.scheme, hasS := b.hasS, host := b.host, hasH := b.hasH, query := r.query, hasQ := r.hasQ, frag := r.frag, hasF := r.hasF, path :=
    if begins [47] r.path then dots r.path else if b.hasH ∧ b.path = [] then dots (47 :: r.path) else dots (lead b.path ++ r.path) }
end Lc
end Go.Proofs.Ytmfmgbjkbadndaa
