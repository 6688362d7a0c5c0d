/-
  Trees as documents, in plain Lean: WHAT IS TOLD IS PARSED AS THAT TREE; unlike trees are told unlike.
  Trees as documents, in plain Lean: a teller that stops where the text is too long tells the same.
-/
import Derived.Test.YtegaidfmkfnbnaaGreatDoorP04
namespace Go.Proofs.YtegaidfmkfnbnaaGreatDoor
namespace Sc
open Gv (Att str)
open T (Tok)

/-! ### what a start-tag's attributes declare and are -/
def mkp (p : List UInt8 × List UInt8) : Pair := ⟨str p.1, str p.2⟩
def decls : Nat → List Att → List Pair
  | _, [] => []
  | i, a :: l => (rawDecl i a).map (fun p => ⟨str (nI i), str p.2⟩) ++ decls (i + 1) l
def rests : Nat → List Att → List Pair
  | _, [] => []
  | i, a :: l => ⟨str (rawName i a), a.value⟩ :: rests (i + 1) l
theorem declGo_rest {sc re t : List Pair} {a : Pair} {p n : ByteArray} (hs : P.split a.name = some (p, n)) (h : p ≠ P.xmlns ∧ (p ≠ ByteArray.empty ∨ n ≠ P.xmlns)) : P.declGo sc re (a :: t) = P.declGo sc (re ++ [a]) t := by
  rw [P.declGo, hs]
  simp only
  rw [if_pos h]
theorem declGo_decl {sc re t : List Pair} {a : Pair} {n : ByteArray} (hs : P.split a.name = some (P.xmlns, n)) (h : P.bound n a.value = true) : P.declGo sc re (a :: t) = P.declGo (sc ++ [⟨n, a.value⟩]) re t := by
  have hk : P.key P.xmlns n = n := by unfold P.key; rw [if_neg (by decide)]
  rw [P.declGo, hs]
  simp only
  rw [if_neg (by rintro ⟨c, _⟩; exact c rfl), hk, if_pos h]
theorem declGo_bare {sc re t : List Pair} {a : Pair} (hs : P.split a.name = some (ByteArray.empty, P.xmlns)) (h : P.bound ByteArray.empty a.value = true) : P.declGo sc re (a :: t) = P.declGo (sc ++ [⟨ByteArray.empty, a.value⟩]) re t := by
  have hk : P.key ByteArray.empty P.xmlns = ByteArray.empty := by unfold P.key; rw [if_pos rfl]
  rw [P.declGo, hs]
  simp only
  rw [if_neg (by simp), hk, if_pos h]
theorem declGo_from : ∀ (l : List Att) (i : Nat) (sc re : List Pair), (∀ a ∈ l, Fit a) → i + l.length ≤ 24 → P.declGo sc re ((rawsFrom i l).map mkp) = some (sc ++ decls i l, re ++ rests i l)
  | [], i, sc, re, _, _ => by simp [rawsFrom, P.declGo, decls, rests]
  | a :: l, i, sc, re, hf, hi => by
    rw [List.length_cons] at hi
    have ha := hf a (by simp)
    have ih := fun sc re => declGo_from l (i + 1) sc re (fun x hx => hf x (by simp [hx])) (by omega)
    obtain ⟨i1, i2, i3⟩ := nI_str (i := i) (by omega)
    unfold rawsFrom rawAtt
    rcases sort3 i a with ⟨h1, d, n⟩ | ⟨h1, h2, d, n⟩ | ⟨h1, h2, d, n⟩
    · rw [d, decls, d, rests]
      have hs : P.split (str (rawName i a)) = some (P.xml, a.name) := by rw [n]; exact split_xml ha
      refine (declGo_rest (a := mkp (rawName i a, a.value.data.toList)) hs ⟨by decide, .inl (by decide)⟩).trans ?_
      refine (ih _ _).trans ?_
      simp [mkp, str_lst]
    · rw [d, decls, d, rests]
      have hs : P.split (str (rawName i a)) = some (str (nI i), a.name) := by rw [n]; exact split_own (by omega) ha
      refine (declGo_decl (a := mkp ([120, 109, 108, 110, 115] ++ 58 :: nI i, a.space.data.toList)) (split_decl (by omega)) (by
        show P.bound _ (str a.space.data.toList) = true
        rw [str_lst, Gv.bound_plain i2 i1 i3]; simp [h1, h2, ha.xmlns])).trans ?_
      refine (declGo_rest (a := mkp (rawName i a, a.value.data.toList)) hs ⟨i2, .inl i3⟩).trans ?_
      refine (ih _ _).trans ?_
      simp [mkp, str_lst]
    · rw [d, decls, d, rests]
      have hs : P.split (str (rawName i a)) = some (ByteArray.empty, a.name) := by rw [n]; exact split_bare ha
      refine (declGo_rest (a := mkp (rawName i a, a.value.data.toList)) hs ⟨by decide, .inr (ha.decl h1)⟩).trans ?_
      refine (ih _ _).trans ?_
      simp [mkp, str_lst]
/-- what the prefixes are bound to. -/
theorem last_decls : ∀ (l : List Att) (i k : Nat), i + l.length ≤ 24 → k < 24 → k < i → P.last (str (nI k)) (decls i l) = none
  | [], _, _, _, _, _ => rfl
  | a :: l, i, k, hi, hk, h => by
    rw [List.length_cons] at hi
    unfold decls
    rw [P.last_append, last_decls l (i + 1) k (by omega) hk (by omega)]
    simp only
    refine P.last_none _ _ fun x hx => ?_
    obtain ⟨p, _, rfl⟩ := List.mem_map.1 hx
    exact fun e => by have := nI_apart i (by omega) k hk (str_inj e); omega
theorem last_mine : ∀ (l : List Att) (i j : Nat) (h : j < l.length), i + l.length ≤ 24 → l[j].space ≠ P.xmlS → l[j].space ≠ ByteArray.empty → P.last (str (nI (i + j))) (decls i l) = some l[j].space
  | [], _, _, h, _, _, _ => by simp at h
  | a :: l, i, 0, h, hi, h1, h2 => by
    rw [List.length_cons] at hi
    have d : rawDecl i a = [([120, 109, 108, 110, 115] ++ 58 :: nI i, a.space.data.toList)] := by
      rw [List.getElem_cons_zero] at h1 h2
      unfold rawDecl
      rw [if_neg h1, if_pos h2]
    unfold decls
    rw [P.last_append, Nat.add_zero, last_decls l (i + 1) i (by omega) (by omega) (by omega), d]
    simp [P.last, str_lst]
  | a :: l, i, j + 1, h, hi, h1, h2 => by
    rw [List.length_cons] at hi
    unfold decls
    rw [P.last_append, show i + (j + 1) = i + 1 + j by omega, last_mine l (i + 1) j (by simpa using h) (by omega) h1 h2]
    rfl
theorem last_bare : ∀ (l : List Att) (i : Nat), i + l.length ≤ 24 → P.last ByteArray.empty (decls i l) = none
  | [], _, _ => rfl
  | a :: l, i, hi => by
    rw [List.length_cons] at hi
    unfold decls
    rw [P.last_append, last_bare l (i + 1) (by omega)]
    simp only
    refine P.last_none _ _ fun x hx => ?_
    obtain ⟨p, _, rfl⟩ := List.mem_map.1 hx
    exact (nI_str (by omega)).2.2
theorem last_front {p : ByteArray} {a b : List Pair} {v : ByteArray} (h : P.last p b = some v) : P.last p (a ++ b) = some v := by rw [P.last_append, h]
theorem attrsGo_from (scope : List Pair) : ∀ (l : List Att) (i : Nat) (acc : List Att), (∀ a ∈ l, Fit a) → i + l.length ≤ 24 → (∀ a ∈ l, ∀ x ∈ acc, ¬ (x.space = a.space ∧ x.name = a.name)) → l.Pairwise (fun x a => ¬ (x.space = a.space ∧ x.name = a.name)) →
    (∀ j (h : j < l.length), l[j].space ≠ P.xmlS → l[j].space ≠ ByteArray.empty → P.last (str (nI (i + j))) scope = some l[j].space) → Gv.attrsGo scope acc (rests i l) = .ok (acc ++ l)
  | [], _, acc, _, _, _, _, _ => by simp [rests, Gv.attrsGo]
  | a :: l, i, acc, hf, hi, hacc, hpw, hs => by
    rw [List.length_cons] at hi
    have ha := hf a (by simp)
    obtain ⟨i1, i2, i3⟩ := nI_str (i := i) (by omega)
    cases hpw with
    | cons p1 p2 =>
      have hr : P.resolve scope (str (rawName i a)) true = some (a.space, a.name) := by
        unfold P.resolve
        rcases sort3 i a with ⟨h1, d, n⟩ | ⟨h1, h2, d, n⟩ | ⟨h1, h2, d, n⟩
        · rw [n, split_xml ha]
          simp only
          rw [if_pos trivial, h1]
        · rw [n, split_own (by omega) ha]
          simp only
          have hs0 : P.last (str (nI i)) scope = some a.space := hs 0 (by simp) h1 h2
          rw [if_neg i1, if_neg i2, if_neg (fun c => i3 c.1), hs0]
          simp only
          rw [if_neg (fun c => h2 c.2)]
        · rw [n, split_bare ha]
          simp only
          rw [if_neg (by decide), if_neg (by decide), if_pos ⟨trivial, trivial⟩, h1]
      unfold rests Gv.attrsGo
      simp only
      rw [hr]
      simp only
      rw [if_neg (by
        rw [List.any_eq_true]
        rintro ⟨x, hx, e⟩
        exact hacc a (by simp) x hx (by simpa using e))]
      refine (attrsGo_from scope l (i + 1) (acc ++ [⟨a.space, a.name, a.value⟩]) (fun x hx => hf x (by simp [hx])) (by omega) (fun x hx y hy => by
        rcases List.mem_append.1 hy with hy | hy
        · exact hacc x (by simp [hx]) y hy
        · obtain rfl := List.mem_singleton.1 hy
          exact p1 x hx) p2 (fun j hj k1 k2 => by
          have := hs (j + 1) (by simpa using hj) k1 k2
          rwa [show i + (j + 1) = i + 1 + j by omega] at this)).trans ?_
      simp

/-- The space of names without a prefix. -/
def dflt (sc : List Pair) : ByteArray := (P.last ByteArray.empty sc).getD ByteArray.empty
theorem rawsFrom_len : ∀ (l : List Att) (i : Nat), (rawsFrom i l).length ≤ 2 * l.length
  | [], _ => Nat.le_refl _
  | a :: l, i => by
    have := rawsFrom_len l (i + 1)
    have h2 : (rawAtt i a).length ≤ 2 := by
      unfold rawAtt
      rcases sort3 i a with ⟨_, d, _⟩ | ⟨_, _, d, _⟩ | ⟨_, _, d, _⟩ <;> rw [d] <;> simp
    unfold rawsFrom
    rw [List.length_append, List.length_cons]
    omega
theorem raws_len (up sp : ByteArray) {l : List Att} (h : l.length ≤ 24) : (raws up sp l).length ≤ 49 := by
  have := rawsFrom_len l 0
  unfold raws
  rw [List.length_append]
  split <;> simp only [List.length_cons, List.length_nil] <;> omega
/-- WHAT A START-TAG BEGINS. -/
theorem element_of {n : Gv.Node} (h : Elem n) {up : ByteArray} {alone : Bool} {scope : List Pair} (hd : dflt scope = up) :
    ∃ sc, Gv.element (startTok up n alone) scope = .ok ((n.space, n.name, n.attrs), sc) ∧ dflt sc = n.space := by
  obtain ⟨q1, _, q3⟩ := atts_of h.atts
  have hz : 0 + n.attrs.length ≤ 24 := by have := h.many; omega
  have hsp : P.split (str [120, 109, 108, 110, 115]) = some (ByteArray.empty, P.xmlns) := by decide +kernel
  have hdec : P.declare ((raws up n.space n.attrs).map mkp) = some ((if n.space ≠ up then [⟨ByteArray.empty, n.space⟩] else []) ++ decls 0 n.attrs, rests 0 n.attrs) := by
    unfold raws P.declare
    by_cases hu : n.space ≠ up
    · rw [if_pos hu, if_pos hu]
      refine (declGo_bare (a := mkp ([120, 109, 108, 110, 115], n.space.data.toList)) hsp (by
        show P.bound _ (str n.space.data.toList) = true
        rw [str_lst, Gv.bound_empty]; simp [h.xml, h.xmlns])).trans ?_
      refine (declGo_from _ _ _ _ q1 hz).trans ?_
      simp [mkp, str_lst]
    · rw [if_neg hu, if_neg hu]
      rw [List.nil_append, declGo_from _ _ _ _ q1 hz]
      rfl
  refine ⟨scope ++ ((if n.space ≠ up then [⟨ByteArray.empty, n.space⟩] else []) ++ decls 0 n.attrs), ?_, ?_⟩
  · have hlast : (P.last ByteArray.empty (scope ++ ((if n.space ≠ up then [⟨ByteArray.empty, n.space⟩] else []) ++ decls 0 n.attrs))).getD ByteArray.empty = n.space := by
      rw [P.last_append, P.last_append, last_bare _ _ hz]
      by_cases hu : n.space ≠ up
      · rw [if_pos hu]; simp [P.last]
      · rw [if_neg hu]
        simp only [P.last]
        rw [← Classical.not_not.1 hu] at hd
        exact hd
    unfold Gv.element startTok
    rw [if_neg (by have := raws_len up n.space h.many; simp only; omega)]
    simp only
    rw [show ((raws up n.space n.attrs).map fun p => (⟨str p.1, str p.2⟩ : Pair)) = (raws up n.space n.attrs).map mkp from rfl, hdec]
    simp only
    have hr : P.resolve (scope ++ ((if n.space ≠ up then [⟨ByteArray.empty, n.space⟩] else []) ++ decls 0 n.attrs)) (str n.name.data.toList) false = some (n.space, n.name) := by
      unfold P.resolve
      rw [split_lone h.plain, str_lst]
      simp only
      rw [if_neg (by decide), if_neg (by decide), if_neg (by simp)]
      cases hl : P.last ByteArray.empty (scope ++ ((if n.space ≠ up then [⟨ByteArray.empty, n.space⟩] else []) ++ decls 0 n.attrs)) with
      | some v =>
        rw [hl] at hlast
        simp only
        rw [if_neg (by simp), ← hlast]
        rfl
      | none =>
        rw [hl] at hlast
        simp only
        rw [if_neg (by simp), ← hlast]
        rfl
    rw [hr]
    simp only
    rw [attrsGo_from _ n.attrs 0 [] q1 hz (fun _ _ x hx => by cases hx) q3 (fun j hj k1 k2 => last_front (last_front (last_mine n.attrs 0 j hj hz k1 k2))), List.nil_append]
  · unfold dflt
    rw [P.last_append, P.last_append, last_bare _ _ hz]
    by_cases hu : n.space ≠ up
    · rw [if_pos hu]; simp [P.last]
    · rw [if_neg hu]
      simp only [P.last]
      rw [← Classical.not_not.1 hu] at hd
      exact hd

/-! ### THE TREE of a node's tokens -/
theorem node_eta (n : Gv.Node) : n = .mk n.kind n.space n.name n.attrs n.kids n.data := by cases n; rfl
theorem leaf_back {n : Gv.Node} (h : leafOk n = true) : Gv.leaf (leafTok n) = n ∧ (leafTok n).kind ≠ 0 ∧ (leafTok n).kind ≠ 1 ∧ ((leafTok n).kind = 4 → G.plain (leafTok n).name = true) ∧ (n.kind = 1 → n.data ≠ ByteArray.empty) := by
  unfold leafOk leafData at h
  simp only [Bool.and_eq_true, decide_eq_true_eq] at h
  obtain ⟨⟨⟨h1, h2⟩, _⟩, h⟩ := h
  have ha : n.attrs = [] := List.length_eq_zero_iff.1 (by omega)
  have hk : n.kids = [] := List.length_eq_zero_iff.1 (by omega)
  have he := node_eta n
  by_cases k1 : n.kind = 1
  · rw [if_pos k1] at h
    simp only [Bool.and_eq_true, decide_eq_true_eq] at h
    have ht : leafTok n = ⟨2, [], [], decide (38 ∈ E.escape false n.data.data.toList), n.data.data.toList⟩ := by unfold leafTok; rw [if_pos k1]
    rw [ht]
    refine ⟨?_, by simp, by simp, by simp, fun _ => h.2⟩
    rw [he, k1, h1, h.1, ha, hk]
    simp only [Gv.leaf, Gv.text, Gv.Node.data, str_lst]
    rfl
  · rw [if_neg k1] at h
    by_cases k2 : n.kind = 2
    · rw [if_pos k2] at h
      simp only [Bool.and_eq_true, decide_eq_true_eq, Bool.not_eq_true'] at h
      have ht : leafTok n = ⟨3, [], [], false, n.data.data.toList⟩ := by unfold leafTok; rw [if_neg k1, if_pos k2]
      rw [ht]
      refine ⟨?_, by simp, by simp, by simp, fun c => absurd c k1⟩
      rw [he, k2, h1, h.1.1.1, ha, hk]
      simp only [Gv.leaf, Gv.Node.data, str_lst]
      rfl
    · rw [if_neg k2] at h
      by_cases k3 : n.kind = 3
      · rw [if_pos k3] at h
        simp only [Bool.and_eq_true, decide_eq_true_eq, Bool.not_eq_true'] at h
        have ht : leafTok n = ⟨4, n.name.data.toList, [], false, n.data.data.toList⟩ := by unfold leafTok; rw [if_neg k1, if_neg k2]
        rw [ht]
        refine ⟨?_, by simp, by simp, fun _ => h.1.1.1.1, fun c => absurd c k1⟩
        rw [he, k3, h1, ha, hk]
        simp only [Gv.leaf, Gv.Node.data, Gv.Node.name, str_lst]
        rfl
      · rw [if_neg k3] at h; cases h
theorem grown_one {l : List Gv.Node} {n : Gv.Node} (h1 : n.kind = 1 → n.data ≠ ByteArray.empty) (h2 : n.kind = 1 → ∀ m, l.getLast? = some m → m.kind ≠ 1) : Gv.grown l n = l ++ [n] := by
  unfold Gv.grown
  rw [if_neg (fun c => h1 c.1 c.2)]
  cases hl : l.getLast? with
  | none =>
    rw [List.getLast?_eq_none_iff] at hl
    subst hl; rfl
  | some m =>
    simp only
    rw [if_neg (fun c => h2 c.1 m hl c.2)]
theorem step_leaf {n : Gv.Node} (h : leafOk n = true) {o : Gv.Open} {os : List Gv.Open} {r : Option Gv.Node} (h2 : n.kind = 1 → ∀ m, o.kids.getLast? = some m → m.kind ≠ 1) : Gv.step ⟨o :: os, r⟩ (leafTok n) = .ok ⟨{ o with kids := o.kids ++ [n] } :: os, r⟩ := by
  obtain ⟨q1, q2, q3, q4, q5⟩ := leaf_back h
  unfold Gv.step
  simp only
  rw [if_neg q3, if_neg q2, if_neg (fun c => by rw [q4 c.1] at c; cases c.2), q1, grown_one q5 h2]
theorem last_kind {l : List Gv.Node} {n : Gv.Node} : ∀ m, (l ++ [n]).getLast? = some m → m = n := by
  intro m hm
  rw [List.getLast?_append] at hm
  simpa using hm.symm
/-- kids, one behind the other. -/
theorem steps_kids {m : Gv.Node → Bool} {tk : Gv.Node → List Tok} {os : List Gv.Open} {r : Option Gv.Node} {sc : List Pair}
    (hone : ∀ n, m n = true → ∀ o : Gv.Open, o.scope = sc → (n.kind = 1 → ∀ x, o.kids.getLast? = some x → x.kind ≠ 1) → Gv.steps ⟨o :: os, r⟩ (tk n) = .ok ⟨{ o with kids := o.kids ++ [n] } :: os, r⟩) :
    ∀ (l : List Gv.Node) (p : Option Int) (o : Gv.Open), o.scope = sc → kidsGo m p l = true → (p ≠ some 1 → ∀ x, o.kids.getLast? = some x → x.kind ≠ 1) → Gv.steps ⟨o :: os, r⟩ (l.flatMap tk) = .ok ⟨{ o with kids := o.kids ++ l } :: os, r⟩
  | [], _, o, _, _, _ => by simp [Gv.steps]
  | n :: l, p, o, hsc, h, hp => by
    unfold kidsGo at h
    simp only [Bool.and_eq_true, Bool.not_eq_true', Bool.and_eq_false_iff, decide_eq_false_iff_not] at h
    obtain ⟨⟨h1, h2⟩, h3⟩ := h
    rw [List.flatMap_cons, Gv.steps_append, hone n h1 o hsc (fun k => hp (h2.resolve_left (fun c => c k)))]
    simp only
    rw [steps_kids hone l (some n.kind) { o with kids := o.kids ++ [n] } hsc h3 (fun c x hx => by
      rw [last_kind x hx]
      exact fun k => c (by rw [k]))]
    simp
theorem ended_kid (o : Gv.Open) (os : List Gv.Open) (r : Option Gv.Node) (n : Gv.Node) : Gv.ended (o :: os) r n = ⟨{ o with kids := o.kids ++ [n] } :: os, r⟩ := rfl
theorem step_start {s : List Gv.Open} {r : Option Gv.Node} {t : Tok} (h0 : t.kind = 0) (hr : s = [] → r = none) : Gv.step ⟨s, r⟩ t = Gv.opened ⟨s, r⟩ t := by
  cases s with
  | nil => rw [hr rfl]; exact Gv.step_root h0
  | cons o os => exact Gv.step_kid h0
theorem steps_one (s : Gv.St) (t : Tok) (l : List Tok) : Gv.steps s (t :: l) = match Gv.step s t with | .error e => .error e | .ok s' => Gv.steps s' l := rfl
theorem steps_node : ∀ (f : Nat) (up : ByteArray) (n : Gv.Node), may f n = true → n.kind = 0 → ∀ (s : List Gv.Open) (r : Option Gv.Node), s.length + f ≤ 30 → dflt (Gv.scopeOf s) = up → (s = [] → r = none) → Gv.steps ⟨s, r⟩ (toks f up n) = .ok (Gv.ended s r n) := by
  intro f
  induction f with
  | zero => intro up n h h0; obtain ⟨g, e, _⟩ := may_elem h h0; cases e
  | succ g ih =>
    intro up n h h0 s r hd hsc hr
    obtain ⟨g', e, he, hk⟩ := may_elem h h0
    cases e
    have hnode : n = .mk 0 n.space n.name n.attrs n.kids ByteArray.empty := by rw [← he.data, ← h0]; exact node_eta n
    by_cases hz : n.kids.length = 0
    · have e2 : toks (g + 1) up n = [startTok up n true] := by unfold toks; rw [if_pos h0, if_pos hz]
      obtain ⟨sc, e1, _⟩ := element_of he (alone := true) hsc
      rw [e2, steps_one, step_start rfl hr, Gv.opened_whole (by simp only; omega) rfl e1]
      rw [List.length_eq_zero_iff.1 hz] at hnode
      rw [← hnode]
      rfl
    · have e2 : toks (g + 1) up n = startTok up n false :: (n.kids.flatMap (toks g n.space) ++ [⟨1, n.name.data.toList, [], false, []⟩]) := by unfold toks; rw [if_pos h0, if_neg hz]
      obtain ⟨sc, e1, e3⟩ := element_of he (alone := false) hsc
      rw [e2, steps_one, step_start rfl hr, Gv.opened_goes (by simp only; omega) rfl e1]
      simp only
      rw [Gv.steps_append, steps_kids (m := may g) (tk := toks g n.space) (sc := sc) (fun x hx o ho hl => by
        by_cases x0 : x.kind = 0
        · rw [ih n.space x hx x0 (o :: s) r (by simp only [List.length_cons]; omega) (by show dflt o.scope = _; rw [ho]; exact e3) (fun c => by cases c), ended_kid]
        · obtain ⟨q1, _, q3⟩ := may_leaf hx x0
          rw [q3, steps_one, step_leaf q1 hl]
          rfl) n.kids none _ rfl hk (fun _ x hx => by simp at hx)]
      simp only [List.nil_append]
      rw [steps_one, Gv.step_shut rfl rfl]
      simp only [Gv.Open.node]
      rw [← hnode]
      rfl

/-! ### the text: no 13, and it passes Check -/
theorem check_cons {c : UInt8} {l : List UInt8} (h1 : G.check [c] = true) (h2 : G.check l = true) : G.check (c :: l) = true := G.check_append (s := [c]) h1 h2
theorem check_flat {α : Type} (f : α → List UInt8) : ∀ (l : List α), (∀ x ∈ l, G.check (f x) = true) → G.check (l.flatMap f) = true
  | [], _ => rfl
  | x :: l, h => by
    rw [List.flatMap_cons]
    exact G.check_append (h x (by simp)) (check_flat f l fun y hy => h y (by simp [hy]))
theorem no13_part : ∀ l : List UInt8, G.span G.part l = l.length → 13 ∉ l := by
  intro l
  induction l using G.along G.part with
  | stop l h =>
    intro e
    rw [G.span_stop G.part l h] at e
    have : l = [] := List.length_eq_zero_iff.1 e.symm
    subst this; simp
  | step l h0 hp ih =>
    intro e
    have hle := G.first_le l
    rw [G.span_step G.part l h0 hp] at e
    have hd := ih (by rw [List.length_drop]; omega)
    have ht : 13 ∉ l.take (G.first l).2 := by
      rcases first_bytes l h0 with ⟨b, t, rfl, hb⟩ | hb
      · rw [G.first_ascii b t hb] at hp ⊢
        simp only [List.take_succ_cons, List.take_zero, List.mem_singleton]
        rintro rfl
        revert hp
        decide
      · intro hm
        have := hb 13 hm
        revert this
        decide
    intro hm
    rw [← List.take_append_drop (G.first l).2 l] at hm
    rcases List.mem_append.1 hm with hm | hm
    · exact ht hm
    · exact hd hm
theorem NameOk.no13 {l : List UInt8} (h : NameOk l) : 13 ∉ l := no13_part l h.span
theorem hasIn_13 : ∀ {l : List UInt8}, hasIn [13] l = false → 13 ∉ l
  | [], _ => by simp
  | b :: t, h => by
    obtain ⟨h1, h2⟩ := hasIn_cons h
    have hb : b ≠ 13 := by
      rintro rfl
      exact absurd h1 (by simp [T.begins, List.isPrefixOf])
    intro hm
    rcases List.mem_cons.1 hm with e | hm
    · exact hb e.symm
    · exact hasIn_13 h2 hm
/-- A text that may stand, and has no 13. -/
def Clean (l : List UInt8) : Prop := G.check l = true ∧ 13 ∉ l
theorem Clean.append {a b : List UInt8} (ha : Clean a) (hb : Clean b) : Clean (a ++ b) := ⟨G.check_append ha.1 hb.1, fun h => (List.mem_append.1 h).elim ha.2 hb.2⟩
theorem Clean.cons {c : UInt8} {l : List UInt8} (hc : Clean [c]) (hl : Clean l) : Clean (c :: l) := Clean.append (a := [c]) hc hl
theorem Clean.flat {α : Type} (f : α → List UInt8) {l : List α} (h : ∀ x ∈ l, Clean (f x)) : Clean (l.flatMap f) := ⟨check_flat f l fun x hx => (h x hx).1, fun hm => by
  obtain ⟨x, hx, hb⟩ := List.mem_flatMap.1 hm
  exact (h x hx).2 hb⟩
theorem NameOk.clean {l : List UInt8} (h : NameOk l) : Clean l := ⟨h.check, h.no13⟩
theorem clean_escape (attr : Bool) {l : List UInt8} (h : G.check l = true) : Clean (E.escape attr l) := ⟨check_escape attr l h, fun hm => (E.escape_bytes attr l 13 hm).2.2.1 rfl⟩
theorem clean_nil : Clean [] := ⟨rfl, by simp⟩
theorem clean_one {nm v : List UInt8} (hn : NameOk nm) (hv : G.check v = true) : Clean (one (nm, v)) := by
  unfold one
  exact .cons ⟨by decide +kernel, by decide⟩ (.append hn.clean (.cons ⟨by decide +kernel, by decide⟩ (.cons ⟨by decide +kernel, by decide⟩ (.append (clean_escape true hv) ⟨by decide +kernel, by decide⟩))))
theorem raw_value {i : Nat} {a : Att} (h : Fit a) : ∀ p ∈ rawAtt i a, G.check p.2 = true := by
  intro p hp
  unfold rawAtt at hp
  rcases sort3 i a with ⟨h1, d, n⟩ | ⟨h1, h2, d, n⟩ | ⟨h1, h2, d, n⟩
  · rw [d] at hp
    obtain rfl := List.mem_singleton.1 hp
    exact h.value
  · rw [d] at hp
    rcases List.mem_cons.1 hp with rfl | hp
    · exact h.space
    · obtain rfl := List.mem_singleton.1 hp
      exact h.value
  · rw [d] at hp
    obtain rfl := List.mem_singleton.1 hp
    exact h.value
theorem raws_value {n : Gv.Node} (h : Elem n) (up : ByteArray) : ∀ p ∈ raws up n.space n.attrs, G.check p.2 = true := by
  obtain ⟨q1, _, _⟩ := atts_of h.atts
  intro p hp
  unfold raws at hp
  rcases List.mem_append.1 hp with hp | hp
  · split at hp
    · obtain rfl := List.mem_singleton.1 hp
      exact h.space
    · cases hp
  · obtain ⟨j, hj, hp⟩ := raws_from hp
    exact raw_value (q1 _ (List.getElem_mem hj)) p hp
theorem clean_head {n : Gv.Node} (h : Elem n) (up : ByteArray) : Clean (headText up n) := by
  obtain ⟨r1, _⟩ := raws_good (up := up) (sp := n.space) h.many h.atts
  unfold headText
  refine .cons ⟨by decide +kernel, by decide⟩ (.append (name_of_plain h.plain).clean (.flat one fun p hp => clean_one (r1 p hp) (raws_value h up p hp)))
theorem clean_leaf {n : Gv.Node} (h : leafOk n = true) : Clean (leafText n) := by
  unfold leafOk leafData at h
  simp only [Bool.and_eq_true, decide_eq_true_eq] at h
  obtain ⟨⟨_, hc⟩, h⟩ := h
  unfold leafText
  by_cases k1 : n.kind = 1
  · rw [if_pos k1]; exact clean_escape false hc
  · rw [if_neg k1] at h ⊢
    by_cases k2 : n.kind = 2
    · rw [if_pos k2] at h ⊢
      simp only [Bool.and_eq_true, decide_eq_true_eq, Bool.not_eq_true'] at h
      exact .append (a := [60, 33, 45, 45]) ⟨by decide +kernel, by decide⟩ (.append ⟨hc, hasIn_13 h.2⟩ ⟨by decide +kernel, by decide⟩)
    · rw [if_neg k2] at h ⊢
      by_cases k3 : n.kind = 3
      · rw [if_pos k3] at h
        simp only [Bool.and_eq_true, decide_eq_true_eq, Bool.not_eq_true'] at h
        refine .append (a := [60, 63]) ⟨by decide +kernel, by decide⟩ (.append (name_of_plain h.1.1.1.1).clean (.append ?_ ⟨by decide +kernel, by decide⟩))
        split
        · exact clean_nil
        · exact .cons ⟨by decide +kernel, by decide⟩ ⟨hc, hasIn_13 h.2⟩
      · rw [if_neg k3] at h; cases h
theorem kids_may {m : Gv.Node → Bool} : ∀ {l : List Gv.Node} {p : Option Int}, kidsGo m p l = true → ∀ n ∈ l, m n = true
  | [], _, _, n, h => by cases h
  | x :: l, p, h, n, hn => by
    unfold kidsGo at h
    simp only [Bool.and_eq_true] at h
    rcases List.mem_cons.1 hn with rfl | hn
    · exact h.1.1
    · exact kids_may h.2 n hn
theorem clean_spell : ∀ (f : Nat) (up : ByteArray) (n : Gv.Node), may f n = true → Clean (spell f up n) := by
  intro f
  induction f with
  | zero =>
    intro up n h
    by_cases h0 : n.kind = 0
    · obtain ⟨g, e, _⟩ := may_elem h h0; cases e
    · obtain ⟨q1, q2, _⟩ := may_leaf h h0
      rw [q2]; exact clean_leaf q1
  | succ g ih =>
    intro up n h
    by_cases h0 : n.kind = 0
    · obtain ⟨g', e, he, hk⟩ := may_elem h h0
      cases e
      unfold spell
      rw [if_pos h0]
      refine .append (clean_head he up) ?_
      split
      · exact ⟨by decide +kernel, by decide⟩
      · exact .cons ⟨by decide +kernel, by decide⟩ (.append (.flat _ fun x hx => ih n.space x (kids_may hk x hx)) (.cons ⟨by decide +kernel, by decide⟩ (.cons ⟨by decide +kernel, by decide⟩ (.append (name_of_plain he.plain).clean ⟨by decide +kernel, by decide⟩))))
    · obtain ⟨q1, q2, _⟩ := may_leaf h h0
      rw [q2]; exact clean_leaf q1

/-- The document of a tree. -/
def text (n : Gv.Node) : List UInt8 := spell 30 ByteArray.empty n
def right (n : Gv.Node) : Bool := decide (n.kind = 0) && may 30 n
/-- WHAT IS TOLD IS PARSED AS THAT TREE. -/
theorem parse_text {n : Gv.Node} (h : right n = true) (hl : (text n).length ≤ 100000) : Gv.parse (text n) = .ok n := by
  unfold right at h
  simp only [Bool.and_eq_true, decide_eq_true_eq] at h
  obtain ⟨h0, h⟩ := h
  obtain ⟨c1, c2⟩ := clean_spell 30 ByteArray.empty n h
  obtain ⟨g, e, he, hk⟩ := may_elem h h0
  cases e
  have hdec : T.declares (text n) = false := by
    have hn := name_of_plain he.plain
    obtain ⟨c, t, hc⟩ := name_cons hn
    obtain ⟨k1, k2, k3, k4, k5, k6, k7⟩ := name_byte (hc ▸ hn)
    have e : ∃ x, text n = 60 :: c :: x := by
      unfold text spell headText
      rw [if_pos h0, hc]
      exact ⟨_, rfl⟩
    obtain ⟨x, e⟩ := e
    rw [e]
    unfold T.declares
    have : T.begins [60, 63, 120, 109, 108] (60 :: c :: x) = false := by
      show ((60 : UInt8) == 60 && ((63 == c) && List.isPrefixOf [120, 109, 108] x)) = false
      rw [beq_eq_false_iff_ne.2 (Ne.symm k2), Bool.false_and, Bool.and_false]
    rw [this, Bool.false_and]
  have hr := run_spell 30 ByteArray.empty n h [] (fun k => by rw [h0] at k; cases k)
  rw [List.append_nil] at hr
  have hr2 : T.run false (text n) = .ok (toks 30 ByteArray.empty n) := by
    unfold text
    rw [hr, T.run_nil]
    simp
  have ht : T.tokens (text n) = .ok (toks 30 ByteArray.empty n) := by
    rw [T.tokens_mk hl c1, G.lines_of_no13 (text n) (fun b hb e => c2 (e ▸ hb)), T.run_first hdec, hr2]
  unfold Gv.parse
  rw [ht]
  simp only
  unfold Gv.tree
  rw [steps_node 30 ByteArray.empty n h h0 [] none (by simp) rfl (fun _ => rfl)]
  rfl
/-- UNLIKE TREES ARE TOLD UNLIKE. -/
theorem text_apart {n m : Gv.Node} (hn : right n = true) (hm : right m = true) (ln : (text n).length ≤ 100000) (lm : (text m).length ≤ 100000) : text n = text m ↔ n = m := by
  constructor
  · intro e
    have h1 := parse_text hn ln
    have h2 := parse_text hm lm
    rw [e, h2] at h1
    exact (Except.ok.inj h1).symm
  · rintro rfl; rfl
end Sc
end Go.Proofs.YtegaidfmkfnbnaaGreatDoor
namespace Go.Proofs.YtegaidfmkfnbnaaGreatDoor
namespace Sc
open Gv (Att str)

/-- What is told behind l: nothing more, once it is too long. -/
def told : Nat → ByteArray → Gv.Node → List UInt8 → List UInt8
  | 0, _, n, l => if 100000 < l.length then l else if n.kind = 0 then l else l ++ leafText n
  | f + 1, up, n, l => if 100000 < l.length then l else if n.kind = 0 then
      (if n.kids.length = 0 then l ++ headText up n ++ [47, 62] else (n.kids.foldl (fun acc k => told f n.space k acc) (l ++ headText up n ++ [62])) ++ 60 :: 47 :: (n.name.data.toList ++ [62]))
      else l ++ leafText n
theorem told_long {f : Nat} {up : ByteArray} {n : Gv.Node} {l : List UInt8} (h : 100000 < l.length) : told f up n l = l := by
  cases f <;> (unfold told; rw [if_pos h])
/-- The same text, or both too long. -/
def Alike (a x : List UInt8) : Prop := a.length ≤ 100000 ∧ x = a ∨ 100000 < a.length ∧ 100000 < x.length
theorem Alike.refl (a : List UInt8) : Alike a a := by
  by_cases h : a.length ≤ 100000
  · exact .inl ⟨h, rfl⟩
  · exact .inr ⟨by omega, by omega⟩
theorem Alike.append {a x : List UInt8} (h : Alike a x) (t : List UInt8) : Alike (a ++ t) (x ++ t) := by
  rcases h with ⟨_, rfl⟩ | ⟨h1, h2⟩
  · exact .refl _
  · exact .inr ⟨by rw [List.length_append]; omega, by rw [List.length_append]; omega⟩
theorem fold_long {f : Nat} {up : ByteArray} : ∀ {l : List Gv.Node} {x : List UInt8}, 100000 < x.length → l.foldl (fun acc k => told f up k acc) x = x
  | [], _, _ => rfl
  | n :: l, x, h => by rw [List.foldl_cons, told_long h]; exact fold_long h
theorem fold_alike {f : Nat} {up : ByteArray} : ∀ {l : List Gv.Node} {x : List UInt8}, (∀ n ∈ l, ∀ y, Alike (y ++ spell f up n) (told f up n y)) → Alike (x ++ l.flatMap (spell f up)) (l.foldl (fun acc k => told f up k acc) x)
  | [], x, _ => by simpa using Alike.refl x
  | n :: l, x, h => by
    rw [List.foldl_cons, List.flatMap_cons, ← List.append_assoc]
    rcases h n (by simp) x with ⟨_, e⟩ | ⟨h1, h2⟩
    · rw [e]
      exact fold_alike fun m hm => h m (by simp [hm])
    · rw [fold_long h2]
      exact .inr ⟨by rw [List.length_append]; omega, h2⟩
/-- A TELLER THAT STOPS tells the text, or both are too long. -/
theorem told_alike : ∀ (f : Nat) (up : ByteArray) (n : Gv.Node), may f n = true → ∀ l, Alike (l ++ spell f up n) (told f up n l) := by
  intro f
  induction f with
  | zero =>
    intro up n h l
    by_cases hl : 100000 < l.length
    · rw [told_long hl]; exact .inr ⟨by rw [List.length_append]; omega, hl⟩
    · by_cases h0 : n.kind = 0
      · obtain ⟨g, e, _⟩ := may_elem h h0; cases e
      · rw [(may_leaf h h0).2.1]
        unfold told
        rw [if_neg hl, if_neg h0]
        exact .refl _
  | succ g ih =>
    intro up n h l
    by_cases hl : 100000 < l.length
    · rw [told_long hl]; exact .inr ⟨by rw [List.length_append]; omega, hl⟩
    · by_cases h0 : n.kind = 0
      · obtain ⟨g', e, he, hk⟩ := may_elem h h0
        cases e
        unfold told spell
        rw [if_neg hl, if_pos h0, if_pos h0]
        by_cases hz : n.kids.length = 0
        · rw [if_pos hz, if_pos hz, List.append_assoc]
          exact .refl _
        · rw [if_neg hz, if_neg hz]
          have := (fold_alike (f := g) (up := n.space) (l := n.kids) (x := l ++ headText up n ++ [62]) fun m hm y => ih n.space m (kids_may hk m hm) y).append (60 :: 47 :: (n.name.data.toList ++ [62]))
          simpa using this
      · rw [(may_leaf h h0).2.1]
        unfold told
        rw [if_neg hl, if_neg h0]
        exact .refl _

/-! ### how long it may be -/
/-- a tree whose texts are no longer than this. -/
theorem escape_six (attr : Bool) (l : List UInt8) : (E.escape attr l).length ≤ 6 * l.length := by
  induction l with
  | nil => exact Nat.le_refl _
  | cons b l ih =>
    have h6 : (E.esc attr b).length ≤ 6 := by unfold E.esc; (repeat' split) <;> simp
    unfold E.escape at ih ⊢
    rw [List.flatMap_cons, List.length_append, List.length_cons]
    omega
theorem one_le {nm v : List UInt8} (h1 : nm.length ≤ 1000100) (h2 : v.length ≤ 1000000) : (one (nm, v)).length ≤ 7100000 := by
  have := escape_six true v
  unfold one
  simp only [List.length_append, List.length_cons, List.length_nil]
  omega
theorem nI_len (i : Nat) : (nI i).length ≤ 3 := by
  unfold nI dig
  split <;> simp
theorem rawAtt_le {i : Nat} {a : Att} (h1 : a.space.size ≤ 1000000) (h2 : a.name.size ≤ 1000000) (h3 : a.value.size ≤ 1000000) : ((rawAtt i a).flatMap one).length ≤ 14200000 := by
  have hn := nI_len i
  unfold rawAtt
  rcases sort3 i a with ⟨_, d, n⟩ | ⟨_, _, d, n⟩ | ⟨_, _, d, n⟩
  · rw [d, n]
    have := one_le (nm := [120, 109, 108] ++ 58 :: a.name.data.toList) (v := a.value.data.toList) (by simp only [List.length_append, List.length_cons, List.length_nil, list_len]; omega) (by rw [list_len]; exact h3)
    simp only [List.nil_append, List.flatMap_cons, List.flatMap_nil, List.append_nil]
    omega
  · rw [d, n]
    have e1 := one_le (nm := [120, 109, 108, 110, 115] ++ 58 :: nI i) (v := a.space.data.toList) (by simp only [List.length_append, List.length_cons, List.length_nil]; omega) (by rw [list_len]; exact h1)
    have e2 := one_le (nm := nI i ++ 58 :: a.name.data.toList) (v := a.value.data.toList) (by simp only [List.length_append, List.length_cons, list_len]; omega) (by rw [list_len]; exact h3)
    simp only [List.cons_append, List.nil_append, List.flatMap_cons, List.flatMap_nil, List.append_nil, List.length_append] at *
    omega
  · rw [d, n]
    have := one_le (nm := a.name.data.toList) (v := a.value.data.toList) (by rw [list_len]; omega) (by rw [list_len]; exact h3)
    simp only [List.nil_append, List.flatMap_cons, List.flatMap_nil, List.append_nil]
    omega
theorem rawsFrom_append : ∀ (a b : List Att) (i : Nat), rawsFrom i (a ++ b) = rawsFrom i a ++ rawsFrom (i + a.length) b
  | [], b, i => by simp [rawsFrom]
  | x :: a, b, i => by
    rw [List.cons_append, rawsFrom, rawsFrom, rawsFrom_append a b (i + 1), List.append_assoc, List.length_cons, show i + 1 + a.length = i + (a.length + 1) by omega]
theorem rawsFrom_take (l : List Att) (k : Nat) (h : k < l.length) : rawsFrom 0 (l.take (k + 1)) = rawsFrom 0 (l.take k) ++ rawAtt k l[k] := by
  rw [List.take_succ_eq_append_getElem h, rawsFrom_append, List.length_take, Nat.min_eq_left (by omega), Nat.zero_add]
  simp [rawsFrom]
theorem rawsFrom_le : ∀ (l : List Att) (i : Nat), (∀ a ∈ l, a.space.size ≤ 1000000 ∧ a.name.size ≤ 1000000 ∧ a.value.size ≤ 1000000) → ((rawsFrom i l).flatMap one).length ≤ 14200000 * l.length
  | [], _, _ => by simp [rawsFrom]
  | a :: l, i, h => by
    obtain ⟨h1, h2, h3⟩ := h a (by simp)
    have e1 := rawAtt_le (i := i) h1 h2 h3
    have e2 := rawsFrom_le l (i + 1) fun x hx => h x (by simp [hx])
    unfold rawsFrom
    rw [List.flatMap_append, List.length_append, List.length_cons]
    omega
end Sc
end Go.Proofs.YtegaidfmkfnbnaaGreatDoor
