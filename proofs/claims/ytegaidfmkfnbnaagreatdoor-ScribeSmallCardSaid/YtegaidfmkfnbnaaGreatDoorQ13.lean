/-
  An element's tokens, in plain Lean: what the document's own body and Parse tell, by the stack of open elements.
  How long what tokens hold can be: no name is longer than the text, no data longer than four of it.
  An element's rows in memory, as one node; how heavy the last kid is.
  A parsed tree's sizes, in plain Lean: no text in it is long, when the text that is parsed is short.
-/
import Derived.Test.YtegaidfmkfnbnaaGreatDoorP03
import Derived.Test.YtegaidfmkfnbnaaGreatDoorP02
import Derived.Test.YtegaidfmkfnbnaaGreatDoorQ12
import Derived.Test.YtegaidfmkfnbnaaGreatDoorP16
namespace Go.Proofs.YtegaidfmkfnbnaaGreatDoor
namespace Gv
open T (Tok)

/-- The tree, from a state on. -/
def from' (s : St) (l : List Tok) : Except Nat Node := match steps s l with | .error e => .error e | .ok s' => final s'
theorem tree_from (l : List Tok) : tree l = from' ⟨[], none⟩ l := rfl
theorem from_append {s s' : St} {a b : List Tok} (h : steps s a = .ok s') : from' s (a ++ b) = from' s' b := by
  unfold from'; rw [steps_append, h]
theorem from_bad {s : St} {a b : List Tok} {e : Nat} (h : steps s a = .error e) : from' s (a ++ b) = .error e := by
  unfold from'; rw [steps_append, h]
theorem from_take {s s' : St} {l : List Tok} {i : Nat} (h : steps s (l.take i) = .ok s') : from' s l = from' s' (l.drop i) := by
  conv => lhs; rw [← List.take_append_drop i l]
  exact from_append h
theorem steps_more {s s' s2 : St} {l : List Tok} {i k : Nat} (h : steps s (l.take i) = .ok s') (h2 : steps s' ((l.drop i).take k) = .ok s2) : steps s (l.take (i + k)) = .ok s2 := by
  rw [List.take_add, steps_append, h]; exact h2
theorem steps_one {s s' : St} {t : Tok} (h : step s t = .ok s') : steps s [t] = .ok s' := by
  unfold steps; rw [h]; rfl
theorem from_head {s : St} {t : Tok} {l : List Tok} {e : Nat} (h : step s t = .error e) : from' s (t :: l) = .error e := by
  unfold from' steps; rw [h]
theorem take_one {l : List Tok} {i : Nat} (h : i < l.length) : (l.drop i).take 1 = [l[i]] := by
  rw [List.drop_eq_getElem_cons h]; rfl

/-- The element's tokens: so many, and its node. -/
def BodyOk (s : List Open) (r : Option Node) (l : List Tok) (n : Node) (k : Nat) : Prop := 1 ≤ k ∧ k ≤ l.length ∧ steps ⟨s, r⟩ (l.take k) = .ok (ended s r n)
/-- .. or there is no tree of what begins so. -/
def BodyBad (s : List Open) (r : Option Node) (l : List Tok) (e : Nat) : Prop := from' ⟨s, r⟩ l = .error e
/-- Within the element: so many tokens are read. -/
def Within (s : List Open) (r : Option Node) (l : List Tok) (o : Open) (i : Nat) : Prop := 1 ≤ i ∧ i ≤ l.length ∧ steps ⟨s, r⟩ (l.take i) = .ok ⟨o :: s, r⟩

theorem step_open {s : List Open} {r : Option Node} {t : Tok} (hr : s ≠ [] ∨ r = none) (ht : t.kind = 0) : step ⟨s, r⟩ t = opened ⟨s, r⟩ t := by
  unfold step
  cases s with
  | nil =>
    obtain rfl : r = none := hr.resolve_left (fun h => h rfl)
    simp only
    rw [if_neg (by rw [ht]; simp), if_neg (by rw [ht]; simp), if_neg (by rw [ht]; simp), if_pos ht]
  | cons o os =>
    simp only
    rw [if_neg (by rw [ht]; simp), if_pos ht]
theorem body_long {s : List Open} {r : Option Node} {t : Tok} {l : List Tok} (hr : s ≠ [] ∨ r = none) (ht : t.kind = 0) (h : 30 < s.length + 1) : BodyBad s r (t :: l) 2 :=
  from_head (by rw [step_open hr ht]; unfold opened; simp only; rw [if_pos h])
theorem body_bad {s : List Open} {r : Option Node} {t : Tok} {l : List Tok} {e : Nat} (hr : s ≠ [] ∨ r = none) (ht : t.kind = 0) (h : ¬ 30 < s.length + 1) (he : element t (scopeOf s) = .error e) : BodyBad s r (t :: l) e :=
  from_head (by rw [step_open hr ht]; unfold opened; simp only; rw [if_neg h, he])
theorem body_alone {s : List Open} {r : Option Node} {t : Tok} {l : List Tok} {sp nm : ByteArray} {as' : List Att} {sc : List Pair} (hr : s ≠ [] ∨ r = none) (ht : t.kind = 0) (h : ¬ 30 < s.length + 1)
    (he : element t (scopeOf s) = .ok ((sp, nm, as'), sc)) (ha : t.alone = true) : BodyOk s r (t :: l) (.mk 0 sp nm as' [] ByteArray.empty) 1 :=
  ⟨Nat.le_refl _, by simp, steps_one (by rw [step_open hr ht]; unfold opened; simp only; rw [if_neg h, he]; simp only; rw [if_pos ha])⟩
theorem body_in {s : List Open} {r : Option Node} {t : Tok} {l : List Tok} {sp nm : ByteArray} {as' : List Att} {sc : List Pair} (hr : s ≠ [] ∨ r = none) (ht : t.kind = 0) (h : ¬ 30 < s.length + 1)
    (he : element t (scopeOf s) = .ok ((sp, nm, as'), sc)) (ha : t.alone = false) : Within s r (t :: l) ⟨t.name, sp, nm, as', [], sc⟩ 1 :=
  ⟨Nat.le_refl _, by simp, steps_one (by rw [step_open hr ht]; unfold opened; simp only; rw [if_neg h, he]; simp only; rw [if_neg (by rw [ha]; simp)])⟩

theorem in_bad {s : List Open} {r : Option Node} {l : List Tok} {o : Open} {i e : Nat} (h : Within s r l o i) (hi : i < l.length) (he : step ⟨o :: s, r⟩ l[i] = .error e) : BodyBad s r l e := by
  unfold BodyBad
  rw [from_take h.2.2, List.drop_eq_getElem_cons hi]
  exact from_head he
theorem in_nest {s : List Open} {r : Option Node} {l : List Tok} {o : Open} {i : Nat} (h : Within s r l o i) (hi : i < l.length) (hk : l[i].kind = 1) (hn : l[i].name ≠ o.tag) : BodyBad s r l 90 :=
  in_bad h hi (by unfold step; simp only; rw [if_pos hk, if_neg hn])
theorem in_shut {s : List Open} {r : Option Node} {l : List Tok} {o : Open} {i : Nat} (h : Within s r l o i) (hi : i < l.length) (hk : l[i].kind = 1) (hn : l[i].name = o.tag) : BodyOk s r l o.node (i + 1) :=
  ⟨by omega, hi, steps_more h.2.2 (by rw [take_one hi]; exact steps_one (by unfold step; simp only; rw [if_pos hk, if_pos hn]))⟩
theorem in_prefix {s : List Open} {r : Option Node} {l : List Tok} {o : Open} {i : Nat} (h : Within s r l o i) (hi : i < l.length) (hk : l[i].kind = 4) (hn : G.plain l[i].name = false) : BodyBad s r l 80 :=
  in_bad h hi (by unfold step; simp only; rw [if_neg (by omega), if_neg (by omega), if_pos ⟨hk, hn⟩])
theorem in_leaf {s : List Open} {r : Option Node} {l : List Tok} {o : Open} {i : Nat} (h : Within s r l o i) (hi : i < l.length) (h1 : l[i].kind ≠ 1) (h0 : l[i].kind ≠ 0) (h4 : l[i].kind = 4 → G.plain l[i].name = true) :
    Within s r l { o with kids := grown o.kids (leaf l[i]) } (i + 1) :=
  ⟨by omega, hi, steps_more h.2.2 (by rw [take_one hi]; exact steps_one (by unfold step; simp only; rw [if_neg h1, if_neg h0, if_neg (by rintro ⟨a, b⟩; rw [h4 a] at b; cases b)]))⟩
theorem in_kid {s : List Open} {r : Option Node} {l : List Tok} {o : Open} {i k : Nat} {n : Node} (h : Within s r l o i) (hk : BodyOk (o :: s) r (l.drop i) n k) : Within s r l { o with kids := o.kids ++ [n] } (i + k) := by
  obtain ⟨h1, h2, h3⟩ := h
  obtain ⟨k1, k2, k3⟩ := hk
  rw [List.length_drop] at k2
  exact ⟨by omega, by omega, steps_more h3 k3⟩
theorem in_kid_bad {s : List Open} {r : Option Node} {l : List Tok} {o : Open} {i e : Nat} (h : Within s r l o i) (hk : BodyBad (o :: s) r (l.drop i) e) : BodyBad s r l e := by
  unfold BodyBad at *
  rw [from_take h.2.2]; exact hk
theorem in_end {s : List Open} {r : Option Node} {l : List Tok} {o : Open} {i : Nat} (h : Within s r l o i) (hi : ¬ i < l.length) : BodyBad s r l 90 := by
  unfold BodyBad
  rw [from_take h.2.2, List.drop_eq_nil_of_le (by omega)]
  rfl

/-! ### the whole text -/
/-- Outside any element: so many tokens are read. -/
def Outside (r : Option Node) (l : List Tok) (i : Nat) : Prop := i ≤ l.length ∧ steps ⟨[], none⟩ (l.take i) = .ok ⟨[], r⟩
theorem out_first (l : List Tok) : Outside none l 0 := ⟨Nat.zero_le _, rfl⟩
theorem out_bad {r : Option Node} {l : List Tok} {i e : Nat} (h : Outside r l i) (hi : i < l.length) (he : step ⟨[], r⟩ l[i] = .error e) : tree l = .error e := by
  rw [tree_from, from_take h.2, List.drop_eq_getElem_cons hi]
  exact from_head he
theorem out_text {r : Option Node} {l : List Tok} {i : Nat} (h : Outside r l i) (hi : i < l.length) (hk : l[i].kind = 2) (ht : l[i].alone = true ∨ blankText l[i].data = false) : tree l = .error 90 :=
  out_bad h hi (by unfold step; simp only; rw [if_pos ⟨hk, ht⟩])
theorem out_nest {r : Option Node} {l : List Tok} {i : Nat} (h : Outside r l i) (hi : i < l.length) (hk : l[i].kind = 1 ∨ (l[i].kind = 0 ∧ r.isSome = true)) : tree l = .error 90 :=
  out_bad h hi (by unfold step; simp only; rw [if_neg (by rintro ⟨a, _⟩; rcases hk with b | ⟨b, _⟩ <;> omega), if_pos hk])
theorem out_prefix {r : Option Node} {l : List Tok} {i : Nat} (h : Outside r l i) (hi : i < l.length) (hk : l[i].kind = 4) (hn : G.plain l[i].name = false) : tree l = .error 80 :=
  out_bad h hi (by unfold step; simp only; rw [if_neg (by rintro ⟨a, _⟩; omega), if_neg (by rintro (b | ⟨b, _⟩) <;> omega), if_pos ⟨hk, hn⟩])
theorem out_kid_bad {l : List Tok} {i e : Nat} (h : Outside none l i) (hk : BodyBad [] none (l.drop i) e) : tree l = .error e := by
  rw [tree_from, from_take h.2]; exact hk
theorem out_kid {l : List Tok} {i k : Nat} {n : Node} (h : Outside none l i) (hk : BodyOk [] none (l.drop i) n k) : Outside (some n) l (i + k) := by
  obtain ⟨k1, k2, k3⟩ := hk
  have h1 := h.1
  rw [List.length_drop] at k2
  exact ⟨by omega, steps_more h.2 k3⟩
theorem out_aside {r : Option Node} {l : List Tok} {i : Nat} (h : Outside r l i) (hi : i < l.length) (ha : Aside l[i]) : Outside r l (i + 1) :=
  ⟨hi, steps_more h.2 (by rw [take_one hi]; exact steps_one (step_aside ha r))⟩
theorem out_end {r : Option Node} {l : List Tok} {i : Nat} (h : Outside r l i) (hi : ¬ i < l.length) : tree l = match r with | some n => .ok n | none => .error 90 := by
  rw [tree_from, from_take h.2, List.drop_eq_nil_of_le (by omega)]
  cases r <;> rfl
end Gv
end Go.Proofs.YtegaidfmkfnbnaaGreatDoor
namespace Go.Proofs.YtegaidfmkfnbnaaGreatDoor
namespace E
theorem rune_four (n : Int) : (Lib.encodeRune n).length ≤ 4 := by
  unfold Lib.encodeRune Lib.encodeRuneZ
  repeat' split
  all_goals simp
theorem named_four {l u : List UInt8} (h : named l = some u) : u.length ≤ 4 := by
  unfold named at h
  repeat' split at h
  all_goals first
    | (cases h; done)
    | (cases h; simp; done)
    | (obtain ⟨n, _, e⟩ := Option.map_eq_some_iff.1 h; rw [← e]; exact rune_four _)
theorem expandGo_four (attr : Bool) : ∀ (f : Nat) (l r : List UInt8), expandGo attr f l = some r → r.length ≤ 4 * l.length
  | f, [], r, h => by
    unfold expandGo at h; cases h; simp
  | 0, _ :: _, r, h => by unfold expandGo at h; cases h
  | f + 1, b :: t, r, h => by
    unfold expandGo at h
    split at h
    · obtain ⟨x, hx, h⟩ := Option.bind_eq_some_iff.1 h
      obtain ⟨u, hu, h⟩ := Option.bind_eq_some_iff.1 h
      obtain ⟨y, hy, rfl⟩ := Option.map_eq_some_iff.1 h
      have h1 := expandGo_four attr f _ _ hy
      have h2 := named_four hu
      have h3 := congrArg List.length (semi_le (a := x.1) (r := x.2) hx).1
      simp only [List.length_append, List.length_cons] at h3 ⊢
      omega
    · obtain ⟨y, hy, rfl⟩ := Option.map_eq_some_iff.1 h
      have h1 := expandGo_four attr f _ _ hy
      simp only [List.length_cons]
      omega
theorem expand_four {attr : Bool} {l r : List UInt8} (h : expand attr l = some r) : r.length ≤ 4 * l.length := expandGo_four attr _ _ _ h
end E
namespace T
/-- What a token holds is no longer than this. -/
def Fit (N : Nat) (t : Tok) : Prop := t.name.length ≤ N ∧ t.data.length ≤ 4 * N ∧ ∀ p ∈ t.attrs, p.1.length ≤ N ∧ p.2.length ≤ 4 * N
theorem Fit.mono {N M : Nat} {t : Tok} (h : Fit N t) (hM : N ≤ M) : Fit M t := ⟨by have := h.1; omega, by have := h.2.1; omega, fun p hp => by have := h.2.2 p hp; omega⟩
theorem cut_fit {p l a r : List UInt8} (h : cutAt p l = some (a, r)) : a.length ≤ l.length ∧ r.length ≤ l.length := by
  have := congrArg List.length (cutAt_eq h)
  simp only [List.length_append] at this
  omega
theorem name_fit {l n r : List UInt8} (h : nameAt l = some (n, r)) : n.length ≤ l.length ∧ r.length ≤ l.length := by
  unfold nameAt at h
  split at h
  · cases h
  · cases h
    simp only [List.length_take, List.length_drop]
    omega
theorem comment_fit {l r : List UInt8} {t : Tok} (h : comment l = .ok (t, r)) : Fit l.length t := by
  unfold comment at h
  split at h
  · rename_i a r' hc
    cases h
    have := cut_fit hc
    exact ⟨by simp, by simp only; omega, by simp⟩
  · cases h
theorem cdata_fit {l r : List UInt8} {t : Tok} (h : cdata l = .ok (t, r)) : Fit l.length t := by
  unfold cdata at h
  split at h
  · rename_i a r' hc
    cases h
    have := cut_fit hc
    exact ⟨by simp, by simp only; omega, by simp⟩
  · cases h
theorem pi_fit {l r : List UInt8} {t : Tok} (h : pi l = .ok (t, r)) : Fit l.length t := by
  unfold pi at h
  split at h
  · cases h
  · rename_i n rest hn
    have h1 := name_fit hn
    split at h
    · cases h
    · split at h
      · cases h
      · rename_i a r' hc
        have h2 := cut_fit hc
        split at h
        · cases h
          have h3 := skip_le a
          exact ⟨by simp only; omega, by simp only; omega, by simp⟩
        · cases h
theorem quoted_fit {l a r : List UInt8} (h : quoted l = some (a, r)) : a.length ≤ l.length ∧ r.length ≤ l.length := by
  unfold quoted at h
  split at h
  · cases h
  · split at h
    · have := cut_fit h
      simp only [List.length_cons]
      omega
    · cases h
theorem attr_fit {l r : List UInt8} {a : List UInt8 × List UInt8} (h : attr l = .ok (a, r)) : a.1.length ≤ l.length ∧ a.2.length ≤ 4 * l.length ∧ r.length ≤ l.length := by
  unfold attr at h
  split at h
  · cases h
  · rename_i n rest hn
    have h1 := name_fit hn
    split at h
    · rename_i t hs
      have h2 := skip_le rest
      rw [hs, List.length_cons] at h2
      have h3 := skip_le t
      split at h
      · cases h
      · rename_i q r' hq
        have h4 := quoted_fit hq
        split at h
        · cases h
        · split at h
          · cases h
          · rename_i v hv
            cases h
            have h5 := E.expand_four hv
            simp only
            omega
    · cases h
theorem openGo_fit (N : Nat) : ∀ (f : Nat) (n : List UInt8) (ps : List (List UInt8 × List UInt8)) (l : List UInt8) (t : Tok) (r : List UInt8), l.length ≤ N → n.length ≤ N → (∀ p ∈ ps, p.1.length ≤ N ∧ p.2.length ≤ 4 * N) → openGo f n ps l = .ok (t, r) → Fit N t
  | 0, n, ps, l, t, r, _, _, _, h => by unfold openGo at h; cases h
  | f + 1, n, ps, l, t, r, hl, hn, hps, h => by
    have h1 := skip_le l
    unfold openGo at h
    split at h
    · cases h; exact ⟨hn, by simp, hps⟩
    · cases h; exact ⟨hn, by simp, hps⟩
    · split at h
      · cases h
      · split at h
        · cases h
        · rename_i a more ha
          have h2 := attr_fit ha
          split at h
          · cases h
          · refine openGo_fit N f _ _ _ _ _ (by omega) hn (fun p hp => ?_) h
            rcases List.mem_append.1 hp with hp | hp
            · exact hps p hp
            · rw [List.mem_singleton.1 hp]; omega
theorem opened_fit {l r : List UInt8} {t : Tok} (h : opened l = .ok (t, r)) : Fit l.length t := by
  unfold opened at h
  split at h
  · cases h
  · rename_i n rest hn
    have h1 := name_fit hn
    exact openGo_fit l.length _ _ _ _ _ _ h1.2 h1.1 (by simp) h
theorem shut_fit {l r : List UInt8} {t : Tok} (h : shut l = .ok (t, r)) : Fit l.length t := by
  unfold shut at h
  split at h
  · cases h
  · rename_i n rest hn
    have h1 := name_fit hn
    split at h
    · cases h; exact ⟨h1.1, by simp, by simp⟩
    · cases h
theorem text_fit {l r : List UInt8} {t : Tok} (h : text l = .ok (t, r)) : Fit l.length t := by
  unfold text at h
  split at h
  · cases h
  · split at h
    · cases h
    · rename_i d hd
      cases h
      have h1 := E.expand_four hd
      have h2 := (List.takeWhile_sublist (p := fun b : UInt8 => decide (b ≠ 60)) (l := l)).length_le
      exact ⟨by simp, by simp only; omega, by simp⟩
theorem decl_fit {l r : List UInt8} {t : Tok} (h : decl l = .ok (t, r)) : Fit l.length t := by
  unfold decl at h
  repeat' split at h
  all_goals first
    | (cases h; done)
    | (unfold declEnd at h; split at h
       · cases h; exact ⟨by simp, by simp, by simp⟩
       · cases h)
theorem next_fit {first : Bool} {l r : List UInt8} {t : Tok} (h : next first l = .ok (t, r)) : Fit l.length t := by
  unfold next at h
  repeat' split at h
  all_goals first
    | (cases h; done)
    | exact (decl_fit h).mono (by simp)
    | exact (comment_fit h).mono (by simp)
    | exact (cdata_fit h).mono (by simp)
    | exact (pi_fit h).mono (by simp)
    | exact (shut_fit h).mono (by simp)
    | exact (opened_fit h).mono (by simp)
    | exact (text_fit h).mono (by simp)
theorem run_fit (N : Nat) : ∀ (n : Nat) (first : Bool) (l : List UInt8) (ts : List Tok), l.length ≤ n → l.length ≤ N → run first l = .ok ts → ts.length ≤ l.length ∧ ∀ t ∈ ts, Fit N t
  | n, first, [], ts, _, _, h => by
    rw [run_nil] at h; cases h; simp
  | 0, first, b :: l, ts, hn, _, h => by simp at hn
  | n + 1, first, b :: l, ts, hn, hN, h => by
    rw [run_step (by simp)] at h
    cases hx : next first (b :: l) with
    | error e => rw [hx] at h; cases h
    | ok x =>
      obtain ⟨t, r⟩ := x
      rw [hx] at h
      simp only at h
      have h1 := next_less (by simp) hx
      cases hy : run false r with
      | error e => rw [hy] at h; cases h
      | ok ys =>
        rw [hy] at h
        cases h
        obtain ⟨h2, h3⟩ := run_fit N n false r ys (by omega) (by omega) hy
        refine ⟨by simp only [List.length_cons] at h1 ⊢; omega, fun z hz => ?_⟩
        rcases List.mem_cons.1 hz with rfl | hz
        · exact (next_fit hx).mono hN
        · exact h3 z hz
/-- TOKENS of a text: so many, and no longer than so. -/
theorem tokens_fit {l : List UInt8} {ts : List Tok} (h : tokens l = .ok ts) : ts.length ≤ 100000 ∧ ∀ t ∈ ts, Fit 100000 t := by
  obtain ⟨h1, _, h3⟩ := tokens_ok h
  have h4 := G.lines_length l
  obtain ⟨h5, h6⟩ := run_fit 100000 _ _ _ _ (Nat.le_refl _) (by omega) h3
  exact ⟨by omega, h6⟩
end T
end Go.Proofs.YtegaidfmkfnbnaaGreatDoor
namespace Go.Proofs.YtegaidfmkfnbnaaGreatDoor
open Go.RowKit

/-- Rows that the call owns are a node. -/
theorem node_of_rows {S : Nat → Prop} {B : Nat} {w : World} {va vk : Value} {as' : List Gv.Att} {kids : List Gv.Node} {k : Int} {sp nm d : ByteArray} (ha : OwnsAtts B va as' w) (hk : OwnsKids S B vk kids w) (hS : ∀ b, B ≤ b → b < w.heap.size → S b) :
    NodeAt S w [.int .i64 (k : Int), .string sp, .string nm, va, vk, .string d] (.mk k sp nm as' kids d) := by
  obtain ⟨bo, cb, cs, rfl, hr, hn, hm, _⟩ := hk.rows hS
  obtain ⟨ao, ca, rfl, hat⟩ := ha.at'
  have hma : as'.length ≤ maxLen := by
    obtain ⟨_, ⟨h0, h1⟩ | ⟨g, cap, cur, h0, _, _, hk, hm, _⟩⟩ := ha
    · rw [h1]; exact Nat.zero_le _
    · exact Nat.le_trans hk hm
  exact .mk cs ⟨hma, hm⟩ (hat.mono fun b hb hl => hS b hb.1 hl) hr hn

namespace Gv
/-- The last kid holds no more than this. -/
def Light (B : Nat) (kids : List Node) : Prop := ∀ m, kids.getLast? = some m → m.data.size ≤ B
theorem light_nil (B : Nat) : Light B [] := fun m h => by cases h
theorem light_more {B : Nat} {kids : List Node} {n : Node} (h : n.data.size ≤ B) : Light B (kids ++ [n]) := fun m hm => by
  rw [List.getLast?_concat] at hm; cases hm; exact h
theorem Light.mono {B B' : Nat} {kids : List Node} (h : Light B kids) (hB : B ≤ B') : Light B' kids := fun m hm => Nat.le_trans (h m hm) hB
theorem text_data (d : ByteArray) : (text d).data = d := rfl
theorem light_grown {B D : Nat} {kids : List Node} {n : Node} (h : Light B kids) (hn : n.data.size ≤ D) : Light (B + D) (grown kids n) := by
  by_cases h0 : n.kind = 1 ∧ n.data = ByteArray.empty
  · unfold grown; rw [if_pos h0]; exact h.mono (by omega)
  · cases hl : kids.getLast? with
    | none =>
      rw [grown_add h0 (.inr (.inl (List.getLast?_eq_none_iff.1 hl)))]
      exact light_more (by omega)
    | some m =>
      by_cases h1 : n.kind = 1 ∧ m.kind = 1
      · rw [grown_join h0 h1.1 hl h1.2]
        have := h m hl
        exact light_more (by rw [text_data, ByteArray.size_append]; omega)
      · rw [grown_add h0 (by
          by_cases h2 : n.kind = 1
          · exact .inr (.inr ⟨m, hl, fun e => h1 ⟨h2, e⟩⟩)
          · exact .inl h2)]
        exact light_more (by omega)
theorem grown_len (kids : List Node) (n : Node) : (grown kids n).length ≤ kids.length + 1 := by
  unfold grown
  split
  · omega
  · split
    · split
      · simp
      · simp
    · simp
theorem leaf_data (t : T.Tok) : (leaf t).data.size = t.data.length := by
  rw [leaf_of]
  show (str t.data).size = _
  unfold str
  simp [ByteArray.size]
end Gv
end Go.Proofs.YtegaidfmkfnbnaaGreatDoor
namespace Go.Proofs.YtegaidfmkfnbnaaGreatDoor

/-! ### the tokens' data, all together -/
namespace T
theorem cut_sum {p l a r : List UInt8} (h : cutAt p l = some (a, r)) : a.length + r.length ≤ l.length := by
  have := congrArg List.length (cutAt_eq h)
  simp only [List.length_append] at this
  omega
theorem openGo_data : ∀ (f : Nat) (n : List UInt8) (ps : List (List UInt8 × List UInt8)) (l : List UInt8) (t : Tok) (r : List UInt8), openGo f n ps l = .ok (t, r) → t.data = []
  | 0, n, ps, l, t, r, h => by unfold openGo at h; cases h
  | f + 1, n, ps, l, t, r, h => by
    unfold openGo at h
    split at h
    · cases h; rfl
    · cases h; rfl
    · split at h
      · cases h
      · split at h
        · cases h
        · split at h
          · cases h
          · exact openGo_data f _ _ _ _ _ h
theorem opened_data {l r : List UInt8} {t : Tok} (h : opened l = .ok (t, r)) : t.data = [] := by
  unfold opened at h
  split at h
  · cases h
  · exact openGo_data _ _ _ _ _ _ h
theorem shut_data {l r : List UInt8} {t : Tok} (h : shut l = .ok (t, r)) : t.data = [] := by
  unfold shut at h
  split at h
  · cases h
  · split at h
    · cases h; rfl
    · cases h
theorem decl_data {l r : List UInt8} {t : Tok} (h : decl l = .ok (t, r)) : t.data = [] := by
  unfold decl at h
  repeat' split at h
  all_goals first
    | (cases h; done)
    | (unfold declEnd at h; split at h
       · cases h; rfl
       · cases h)
theorem comment_data {l r : List UInt8} {t : Tok} (h : comment l = .ok (t, r)) : t.data.length + r.length ≤ l.length := by
  unfold comment at h
  split at h
  · rename_i hc
    have := cut_sum hc
    first
      | (cases h; simp only [List.length_cons] at this; simp only; omega)
      | (split at h
         · cases h; simp only [List.length_cons] at this; simp only; omega
         · cases h)
  · cases h
theorem cdata_data {l r : List UInt8} {t : Tok} (h : cdata l = .ok (t, r)) : t.data.length + r.length ≤ l.length := by
  unfold cdata at h
  split at h
  · rename_i a r' hc
    cases h
    exact cut_sum hc
  · cases h
theorem pi_data {l r : List UInt8} {t : Tok} (h : pi l = .ok (t, r)) : t.data.length + r.length ≤ l.length := by
  unfold pi at h
  split at h
  · cases h
  · rename_i n rest hn
    have h1 := name_fit hn
    split at h
    · cases h
    · split at h
      · cases h
      · rename_i a r' hc
        have h2 := cut_sum hc
        split at h
        · cases h
          have h3 := skip_le a
          simp only
          omega
        · cases h
theorem text_data {l r : List UInt8} {t : Tok} (h : text l = .ok (t, r)) : t.data.length + 4 * r.length ≤ 4 * l.length := by
  unfold text at h
  split at h
  · cases h
  · split at h
    · cases h
    · rename_i d hd
      cases h
      have h1 := E.expand_four hd
      have h2 := congrArg List.length (List.takeWhile_append_dropWhile (p := fun b : UInt8 => decide (b ≠ 60)) (l := l))
      rw [List.length_append] at h2
      simp only at *
      omega
theorem next_data {first : Bool} {l r : List UInt8} {t : Tok} (hl : l ≠ []) (h : next first l = .ok (t, r)) : t.data.length + 4 * r.length ≤ 4 * l.length := by
  have h0 := next_less hl h
  have dr : ∀ k, (l.drop k).length ≤ l.length := fun k => by simp
  unfold next at h
  repeat' split at h
  all_goals first
    | (cases h; done)
    | (rw [decl_data h]; simp only [List.length_nil]; omega)
    | (have := comment_data h; have := dr 4; omega)
    | (have := cdata_data h; have := dr 9; omega)
    | (have := pi_data h; have := dr 2; omega)
    | (rw [shut_data h]; simp only [List.length_nil]; omega)
    | (rw [opened_data h]; simp only [List.length_nil]; omega)
    | exact text_data h
def dataSum (ts : List Tok) : Nat := (ts.map fun t => t.data.length).sum
theorem run_data : ∀ (n : Nat) (first : Bool) (l : List UInt8) (ts : List Tok), l.length ≤ n → run first l = .ok ts → dataSum ts ≤ 4 * l.length
  | n, first, [], ts, _, h => by
    rw [run_nil] at h; cases h; simp [dataSum]
  | 0, first, b :: l, ts, hn, h => by simp at hn
  | n + 1, first, b :: l, ts, hn, h => by
    rw [run_step (by simp)] at h
    cases hx : next first (b :: l) with
    | error e => rw [hx] at h; cases h
    | ok x =>
      obtain ⟨t, r⟩ := x
      rw [hx] at h
      simp only at h
      have h1 := next_less (by simp) hx
      have hd := next_data (by simp) hx
      cases hy : run false r with
      | error e => rw [hy] at h; cases h
      | ok ys =>
        rw [hy] at h
        cases h
        have h2 := run_data n false r ys (by omega) hy
        unfold dataSum at *
        rw [List.map_cons, List.sum_cons]
        omega
theorem tokens_data {l : List UInt8} {ts : List Tok} (h : tokens l = .ok ts) : ts.length ≤ l.length ∧ dataSum ts ≤ 4 * l.length ∧ ∀ t ∈ ts, Fit l.length t := by
  obtain ⟨h1, _, h3⟩ := tokens_ok h
  have h4 := G.lines_length l
  obtain ⟨h5, h6⟩ := run_fit l.length _ _ _ _ (Nat.le_refl _) (by omega) h3
  have h7 := run_data _ _ _ _ (Nat.le_refl _) h3
  exact ⟨by omega, by omega, h6⟩
end T

/-! ### what a declaration keeps, what a name is resolved to -/
namespace P
theorem split_short {s p n : ByteArray} (h : split s = some (p, n)) : n.size ≤ s.size := by
  obtain ⟨_, ⟨_, rfl⟩ | ⟨_, rfl⟩⟩ := split_of h
  · exact Nat.le_refl _
  · simp only [ByteArray.size_append]; omega
theorem last_mem {p v : ByteArray} : ∀ {l : List Pair}, last p l = some v → ∃ a ∈ l, a.value = v
  | [], h => by cases h
  | a :: t, h => by
    unfold last at h
    split at h
    · rename_i w hw
      cases h
      obtain ⟨b, hb, e⟩ := last_mem hw
      exact ⟨b, by simp [hb], e⟩
    · split at h
      · cases h; exact ⟨a, by simp, rfl⟩
      · cases h
theorem resolve_short {B : Nat} (hB : 100 ≤ B) {scope : List Pair} {s sp nm : ByteArray} {attr : Bool} (hs : ∀ p ∈ scope, p.value.size ≤ B) (h : resolve scope s attr = some (sp, nm)) : sp.size ≤ B ∧ nm.size ≤ s.size := by
  have he : ByteArray.empty.size ≤ B := Nat.zero_le _
  have hx : xmlS.size ≤ B := Nat.le_trans (by decide) hB
  unfold resolve at h
  split at h
  · cases h
  · rename_i p n hsp
    have h1 := split_short hsp
    split at h
    · cases h; exact ⟨hx, h1⟩
    · split at h
      · cases h
      · split at h
        · cases h; exact ⟨he, h1⟩
        · split at h
          · rename_i v hv
            split at h
            · cases h
            · cases h
              obtain ⟨a, ha, rfl⟩ := last_mem hv
              exact ⟨hs a ha, h1⟩
          · split at h
            · cases h
            · cases h; exact ⟨he, h1⟩
theorem declGo_short : ∀ (l sc re more rest : List Pair), declGo sc re l = some (more, rest) → (∀ p ∈ more, p ∈ sc ∨ ∃ a ∈ l, p.value = a.value) ∧ (∀ p ∈ rest, p ∈ re ∨ p ∈ l) ∧ rest.length ≤ re.length + l.length
  | [], sc, re, more, rest, h => by
    unfold declGo at h
    cases h
    exact ⟨fun p hp => .inl hp, fun p hp => .inl hp, by simp⟩
  | a :: t, sc, re, more, rest, h => by
    unfold declGo at h
    split at h
    · cases h
    · rename_i p n hsp
      split at h
      · obtain ⟨h1, h2, h3⟩ := declGo_short t _ _ _ _ h
        refine ⟨fun q hq => ?_, fun q hq => ?_, by simp only [List.length_append, List.length_cons, List.length_nil] at h3 ⊢; omega⟩
        · rcases h1 q hq with h | ⟨b, hb, e⟩
          · exact .inl h
          · exact .inr ⟨b, by simp [hb], e⟩
        · rcases h2 q hq with h | h
          · rcases List.mem_append.1 h with h | h
            · exact .inl h
            · rw [List.mem_singleton.1 h]; exact .inr (by simp)
          · exact .inr (by simp [h])
      · split at h
        · obtain ⟨h1, h2, h3⟩ := declGo_short t _ _ _ _ h
          refine ⟨fun q hq => ?_, fun q hq => ?_, by simp only [List.length_cons]; omega⟩
          · rcases h1 q hq with h | ⟨b, hb, e⟩
            · rcases List.mem_append.1 h with h | h
              · exact .inl h
              · rw [List.mem_singleton.1 h]; exact .inr ⟨a, by simp, rfl⟩
            · exact .inr ⟨b, by simp [hb], e⟩
          · rcases h2 q hq with h | h
            · exact .inl h
            · exact .inr (by simp [h])
        · cases h
end P

/-! ### trees -/
namespace Gv
open T (Tok)
def AttsShort (l : List Att) : Prop := ∀ a ∈ l, a.space.size ≤ 1000000 ∧ a.name.size ≤ 1000000 ∧ a.value.size ≤ 1000000
/-- A tree: no text in it is long, no row wide. -/
inductive Trim (D M : Nat) : Node → Prop where
  | mk {k : Int} {sp nm d : ByteArray} {as' : List Att} {kids : List Node} (h1 : sp.size ≤ 1000000) (h2 : nm.size ≤ 1000000) (h3 : d.size ≤ D) (h4 : as'.length ≤ M) (h5 : kids.length ≤ M) (ha : AttsShort as') (hk : ∀ n ∈ kids, Trim D M n) : Trim D M (.mk k sp nm as' kids d)
theorem Trim.mono {D M D' M' : Nat} {n : Node} (h : Trim D M n) (hD : D ≤ D') (hM : M ≤ M') : Trim D' M' n := by
  induction h with
  | mk h1 h2 h3 h4 h5 ha hk ih => exact .mk h1 h2 (by omega) (by omega) (by omega) ha ih
theorem Trim.data {D M : Nat} {n : Node} (h : Trim D M n) : n.data.size ≤ D := by
  cases h with
  | mk h1 h2 h3 h4 h5 ha hk => exact h3
theorem trim_parts {D M : Nat} {k : Int} {sp nm d : ByteArray} {as' : List Att} {kids : List Node} (h : Trim D M (.mk k sp nm as' kids d)) : sp.size ≤ 1000000 ∧ nm.size ≤ 1000000 ∧ d.size ≤ D ∧ AttsShort as' ∧ (∀ n ∈ kids, Trim D M n) ∧ as'.length ≤ M ∧ kids.length ≤ M := by
  cases h with
  | mk h1 h2 h3 h4 h5 ha hk => exact ⟨h1, h2, h3, ha, hk, h4, h5⟩
structure OpenTrim (D M : Nat) (o : Open) : Prop where
  sp : o.space.size ≤ 1000000
  nm : o.name.size ≤ 1000000
  al : o.attrs.length ≤ M
  at' : AttsShort o.attrs
  kl : o.kids.length ≤ M
  kd : ∀ n ∈ o.kids, Trim D M n
  sc : ∀ p ∈ o.scope, p.value.size ≤ 1000000
theorem OpenTrim.mono {D M D' M' : Nat} {o : Open} (h : OpenTrim D M o) (hD : D ≤ D') (hM : M ≤ M') : OpenTrim D' M' o :=
  ⟨h.sp, h.nm, Nat.le_trans h.al hM, h.at', Nat.le_trans h.kl hM, fun n hn => (h.kd n hn).mono hD hM, h.sc⟩
structure StTrim (D M : Nat) (st : St) : Prop where
  stack : ∀ o ∈ st.stack, OpenTrim D M o
  root : ∀ n, st.root = some n → Trim D M n
theorem StTrim.mono {D M D' M' : Nat} {st : St} (h : StTrim D M st) (hD : D ≤ D') (hM : M ≤ M') : StTrim D' M' st :=
  ⟨fun o ho => (h.stack o ho).mono hD hM, fun n e => (h.root n e).mono hD hM⟩
theorem OpenTrim.node {D M : Nat} {o : Open} (h : OpenTrim D M o) : Trim D M o.node := .mk h.sp h.nm (Nat.zero_le _) h.al h.kl h.at' h.kd
theorem ended_trim {D M : Nat} {s : List Open} {r : Option Node} {n : Node} (h : StTrim D M ⟨s, r⟩) (hn : Trim D M n) : StTrim D (M + 1) (ended s r n) := by
  cases s with
  | nil => exact ⟨fun o ho => by simp [ended] at ho, fun m e => by
      simp only [ended, Option.some.injEq] at e
      subst e
      exact hn.mono (Nat.le_refl _) (by omega)⟩
  | cons o os =>
    refine ⟨fun p hp => ?_, fun m e => (h.root m e).mono (Nat.le_refl _) (by omega)⟩
    simp only [ended, List.mem_cons] at hp
    rcases hp with rfl | hp
    · have ho := h.stack o (by simp)
      exact ⟨ho.sp, ho.nm, Nat.le_trans ho.al (by omega), ho.at', by have := ho.kl; simp only [List.length_append, List.length_singleton]; omega, fun m hm => by
        rcases List.mem_append.1 hm with hm | hm
        · exact (ho.kd m hm).mono (Nat.le_refl _) (by omega)
        · rw [List.mem_singleton.1 hm]; exact hn.mono (Nat.le_refl _) (by omega), ho.sc⟩
    · exact (h.stack p (by simp [hp])).mono (Nat.le_refl _) (by omega)
theorem attrsGo_short {sc : List Pair} (hs : ∀ p ∈ sc, p.value.size ≤ 1000000) : ∀ (l : List Pair) (acc as' : List Att), (∀ p ∈ l, p.name.size ≤ 1000000 ∧ p.value.size ≤ 1000000) → AttsShort acc → attrsGo sc acc l = .ok as' → AttsShort as' ∧ as'.length = acc.length + l.length
  | [], acc, as', _, ha, h => by unfold attrsGo at h; cases h; exact ⟨ha, by simp⟩
  | p :: l, acc, as', hl, ha, h => by
    unfold attrsGo at h
    split at h
    · cases h
    · rename_i sp nm hr
      obtain ⟨h1, h2⟩ := P.resolve_short (B := 1000000) (by omega) hs hr
      have hp := hl p (by simp)
      split at h
      · cases h
      · obtain ⟨a, b⟩ := attrsGo_short hs l _ _ (fun q hq => hl q (by simp [hq])) (fun a hm => by
          rcases List.mem_append.1 hm with hm | hm
          · exact ha a hm
          · rw [List.mem_singleton.1 hm]; exact ⟨h1, by simp only; omega, hp.2⟩) h
        exact ⟨a, by rw [b]; simp only [List.length_append, List.length_cons, List.length_nil]; omega⟩
theorem str_size' (l : List UInt8) : (str l).size = l.length := by
  unfold str
  show (l.toArray).size = _
  simp
theorem element_short {t : Tok} {scope sc : List Pair} {sp nm : ByteArray} {as' : List Att} (hf : T.Fit 2000 t) (hs : ∀ p ∈ scope, p.value.size ≤ 1000000) (h : element t scope = .ok ((sp, nm, as'), sc)) :
    sp.size ≤ 1000000 ∧ nm.size ≤ 1000000 ∧ AttsShort as' ∧ as'.length ≤ 50 ∧ ∀ p ∈ sc, p.value.size ≤ 1000000 := by
  have hp : ∀ p ∈ t.attrs.map (fun p => (⟨str p.1, str p.2⟩ : Pair)), p.name.size ≤ 1000000 ∧ p.value.size ≤ 1000000 := fun p hp => by
    obtain ⟨q, hq, rfl⟩ := List.mem_map.1 hp
    have := hf.2.2 q hq
    simp only [str_size']
    omega
  unfold element at h
  split at h
  · cases h
  · rename_i h50
    split at h
    · cases h
    · rename_i more rest hd
      obtain ⟨d1, d2, d3⟩ := P.declGo_short _ _ _ _ _ hd
      have hs2 : ∀ p ∈ scope ++ more, p.value.size ≤ 1000000 := fun p hm => by
        rcases List.mem_append.1 hm with hm | hm
        · exact hs p hm
        · rcases d1 p hm with h | ⟨a, ha, e⟩
          · cases h
          · rw [e]; exact (hp a ha).2
      split at h
      · cases h
      · rename_i sp' nm' hr
        obtain ⟨r1, r2⟩ := P.resolve_short (B := 1000000) (by omega) hs2 hr
        rw [str_size'] at r2
        have hn := hf.1
        split at h
        · cases h
        · rename_i as2 hgo
          cases h
          obtain ⟨g1, g2⟩ := attrsGo_short hs2 _ _ _ (fun p hm => by
            rcases d2 p hm with h | h
            · cases h
            · exact hp p h) (fun a ha => by cases ha) hgo
          refine ⟨r1, by omega, g1, ?_, hs2⟩
          rw [g2]
          simp only [List.length_nil, List.length_map] at d3 ⊢
          omega
theorem scopeOf_short {D M : Nat} {s : List Open} (h : ∀ o ∈ s, OpenTrim D M o) : ∀ p ∈ scopeOf s, p.value.size ≤ 1000000 := by
  cases s with
  | nil => intro p hp; simp [scopeOf] at hp
  | cons o os => exact (h o (by simp)).sc
theorem opened_trim {D M : Nat} {st st' : St} {t : Tok} (hM : 50 ≤ M) (hf : T.Fit 2000 t) (h : StTrim D M st) (he : opened st t = .ok st') : StTrim D (M + 1) st' := by
  unfold opened at he
  split at he
  · cases he
  · split at he
    · cases he
    · rename_i sp nm as' sc hel
      obtain ⟨e1, e2, e3, e4, e5⟩ := element_short hf (scopeOf_short h.stack) hel
      split at he
      · cases he
        exact ended_trim h (.mk e1 e2 (Nat.zero_le _) (by omega) (Nat.zero_le _) e3 (fun n hn => by cases hn))
      · cases he
        refine ⟨fun o ho => ?_, fun n e => (h.root n e).mono (Nat.le_refl _) (by omega)⟩
        rcases List.mem_cons.1 ho with rfl | ho
        · exact ⟨e1, e2, by simp only; omega, e3, Nat.zero_le _, (fun n hn => by cases hn), e5⟩
        · exact (h.stack o ho).mono (Nat.le_refl _) (by omega)
theorem leaf_trim {D M : Nat} {t : Tok} (hf : T.Fit 2000 t) (hD : t.data.length ≤ D) : Trim D M (leaf t) := by
  rw [leaf_of]
  refine .mk (Nat.zero_le _) ?_ (by rw [str_size']; exact hD) (Nat.zero_le _) (Nat.zero_le _) (fun a ha => by cases ha) (fun n hn => by cases hn)
  have := hf.1
  unfold lname
  split
  · exact Nat.zero_le _
  · split
    · rw [str_size']; omega
    · exact Nat.zero_le _
theorem grown_trim {D E M : Nat} {kids : List Node} {n : Node} (hk : ∀ m ∈ kids, Trim D M m) (hn : Trim E M n) : ∀ m ∈ grown kids n, Trim (D + E) M m := by
  have up : ∀ m ∈ kids, Trim (D + E) M m := fun m hm => (hk m hm).mono (by omega) (Nat.le_refl _)
  have un : Trim (D + E) M n := hn.mono (by omega) (Nat.le_refl _)
  intro m hm
  unfold grown at hm
  split at hm
  · exact up m hm
  · split at hm
    · rename_i x hx
      have hxm : x ∈ kids := List.mem_of_getLast? hx
      split at hm
      · rcases List.mem_append.1 hm with hm | hm
        · exact up m ((List.dropLast_sublist kids).subset hm)
        · rw [List.mem_singleton.1 hm]
          have h1 := (hk x hxm).data
          have h2 := hn.data
          refine .mk (Nat.zero_le _) (Nat.zero_le _) (by rw [ByteArray.size_append]; omega) (Nat.zero_le _) (Nat.zero_le _) (fun a ha => by cases ha) (fun n hn => by cases hn)
      · rcases List.mem_append.1 hm with hm | hm
        · exact up m hm
        · rw [List.mem_singleton.1 hm]; exact un
    · rw [List.mem_singleton.1 hm]; exact un
theorem step_trim {D M : Nat} {st st' : St} {t : Tok} (hM : 50 ≤ M) (hf : T.Fit 2000 t) (h : StTrim D M st) (he : step st t = .ok st') : StTrim (D + t.data.length) (M + 1) st' := by
  obtain ⟨s, r⟩ := st
  unfold step at he
  cases s with
  | nil =>
    simp only at he
    split at he
    · cases he
    · split at he
      · cases he
      · split at he
        · cases he
        · split at he
          · exact (opened_trim hM hf h he).mono (by omega) (Nat.le_refl _)
          · cases he; exact h.mono (by omega) (by omega)
  | cons o os =>
    simp only at he
    have ho := h.stack o (by simp)
    have hos : StTrim D M ⟨os, r⟩ := ⟨fun p hp => h.stack p (by simp [hp]), h.root⟩
    split at he
    · split at he
      · cases he
        exact (ended_trim hos ho.node).mono (by omega) (Nat.le_refl _)
      · cases he
    · split at he
      · exact (opened_trim hM hf h he).mono (by omega) (Nat.le_refl _)
      · split at he
        · cases he
        · cases he
          refine ⟨fun p hp => ?_, fun n e => (h.root n e).mono (by omega) (by omega)⟩
          rcases List.mem_cons.1 hp with rfl | hp
          · refine ⟨ho.sp, ho.nm, Nat.le_trans ho.al (by omega), ho.at', ?_, fun n hn => ?_, ho.sc⟩
            · have := grown_len o.kids (leaf t)
              have := ho.kl
              simp only
              omega
            · exact (grown_trim ho.kd (leaf_trim hf (Nat.le_refl _)) n hn).mono (Nat.le_refl _) (by omega)
          · exact (h.stack p (by simp [hp])).mono (by omega) (by omega)
theorem steps_trim : ∀ (l : List Tok) (D M : Nat) (st st' : St), 50 ≤ M → (∀ t ∈ l, T.Fit 2000 t) → StTrim D M st → steps st l = .ok st' → StTrim (D + T.dataSum l) (M + l.length) st'
  | [], D, M, st, st', _, _, h, he => by
    unfold steps at he; cases he
    simpa [T.dataSum] using h
  | t :: l, D, M, st, st', hM, hf, h, he => by
    unfold steps at he
    split at he
    · cases he
    · rename_i s2 hs
      have h2 := step_trim hM (hf t (by simp)) h hs
      have h3 := steps_trim l _ _ s2 st' (by omega) (fun u hu => hf u (by simp [hu])) h2 he
      refine h3.mono ?_ (by simp only [List.length_cons]; omega)
      unfold T.dataSum
      rw [List.map_cons, List.sum_cons]
      omega
/-- A PARSED TREE's sizes. -/
theorem parse_trim {l : List UInt8} {n : Node} (h : parse l = .ok n) (hl : l.length ≤ 2000) : Trim 1000000 1000000 n := by
  unfold parse at h
  split at h
  · cases h
  · rename_i ts ht
    obtain ⟨h1, h2, h3⟩ := T.tokens_data ht
    unfold tree at h
    split at h
    · cases h
    · rename_i s hs
      have h4 := steps_trim ts 0 50 ⟨[], none⟩ s (by omega) (fun t ht => (h3 t ht).mono hl) ⟨(fun o ho => by cases ho), (fun n e => by cases e)⟩ hs
      have h5 : s.root = some n := by
        unfold final at h
        split at h
        · rename_i a b
          cases h
          assumption
        · cases h
      exact (h4.root n h5).mono (by omega) (by omega)
end Gv
theorem fits_of_trim {n : Gv.Node} (h : Gv.Trim 1000000 1000000 n) : Fits n := by
  induction h with
  | mk h1 h2 h3 h4 h5 ha hk ih => exact .mk h1 h2 h3 ha ih
end Go.Proofs.YtegaidfmkfnbnaaGreatDoor
