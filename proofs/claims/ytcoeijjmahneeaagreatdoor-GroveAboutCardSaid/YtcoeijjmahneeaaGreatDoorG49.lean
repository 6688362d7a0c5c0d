/-
  Documents as trees, in plain Lean: two elements put into another one, in texts.
  Documents as trees, in plain Lean: two elements put into another one are its kids.
  What the program's own Parse answers, in one form; awake.
  Documents as trees, in plain Lean: what the law of two kids asks of a text's bytes; a document has two bytes at least.
  Documents as trees, in plain Lean: unlike prefixes for the same spaces make the same tree.
-/
import Derived.Test.YtcoeijjmahneeaaGreatDoorG22
import Derived.Test.YtcoeijjmahneeaaGreatDoorG48
import Derived.Test.YtcoeijjmahneeaaGreatDoorG08
import Derived.Test.YtcoeijjmahneeaaGreatDoorG01
namespace Go.Proofs.YtcoeijjmahneeaaGreatDoor
namespace Gv
open T (Tok)

theorem no_neg {b : Bool} (h : b = false) : ¬ b = true := by rw [h]; decide
/-! ### what is left of a text is its end -/
theorem cut_sfx {p l a r : List UInt8} (h : T.cutAt p l = some (a, r)) : r <:+ l := ⟨a ++ p, (T.cutAt_eq h).symm⟩
theorem name_sfx {l n r : List UInt8} (h : T.nameAt l = some (n, r)) : r <:+ l := by
  unfold T.nameAt at h
  split at h
  · cases h
  · cases h; exact List.drop_suffix _ _
theorem skip_sfx (l : List UInt8) : T.skip l <:+ l := List.dropWhile_suffix _
theorem cons_sfx {c : UInt8} {t l : List UInt8} (h : c :: t <:+ l) : t <:+ l := (List.suffix_cons c t).trans h
theorem quoted_sfx {l a r : List UInt8} (h : T.quoted l = some (a, r)) : r <:+ l := by
  unfold T.quoted at h
  split at h
  · cases h
  · split at h
    · exact (cut_sfx h).trans (List.suffix_cons _ _)
    · cases h
theorem attr_sfx {l r : List UInt8} {a : List UInt8 × List UInt8} (h : T.attr l = .ok (a, r)) : r <:+ l := by
  unfold T.attr at h
  split at h
  · cases h
  · rename_i n rest hn
    split at h
    · rename_i t ht
      split at h
      · cases h
      · rename_i q r' hq
        split at h
        · cases h
        · split at h
          · cases h
          · cases h
            have h1 : t <:+ rest := cons_sfx (ht ▸ skip_sfx rest)
            exact (quoted_sfx hq).trans ((skip_sfx t).trans (h1.trans (name_sfx hn)))
    · cases h
theorem openGo_sfx : ∀ (f : Nat) (n : List UInt8) (ps : List (List UInt8 × List UInt8)) (l : List UInt8) (t : Tok) (r : List UInt8), T.openGo f n ps l = .ok (t, r) → r <:+ l
  | 0, _, _, _, _, _, h => by cases h
  | f + 1, n, ps, l, t, r, h => by
    unfold T.openGo at h
    split at h
    · rename_i r' hs
      cases h
      exact cons_sfx (hs ▸ skip_sfx l)
    · rename_i r' hs
      cases h
      exact cons_sfx (cons_sfx (hs ▸ skip_sfx l))
    · split at h
      · cases h
      · split at h
        · cases h
        · rename_i a more ha
          split at h
          · cases h
          · exact (openGo_sfx f n _ more t r h).trans ((attr_sfx ha).trans (skip_sfx l))
/-- THE REST OF A TEXT IS ITS END. -/
theorem next_sfx {l r : List UInt8} {k : Tok} (h : T.next false l = .ok (k, r)) : r <:+ l := by
  unfold T.next at h
  rw [if_neg (by simp)] at h
  split at h
  · unfold T.comment at h
    split at h
    · rename_i a r' hc
      cases h
      exact (cons_sfx (cut_sfx hc)).trans (List.drop_suffix _ _)
    · cases h
  · split at h
    · unfold T.cdata at h
      split at h
      · rename_i a r' hc
        cases h
        exact (cut_sfx hc).trans (List.drop_suffix _ _)
      · cases h
    · split at h
      · cases h
      · split at h
        · cases h
        · split at h
          · unfold T.pi at h
            split at h
            · cases h
            · rename_i n rest hn
              split at h
              · cases h
              · split at h
                · cases h
                · rename_i a r' hc
                  split at h
                  · cases h
                    exact (cut_sfx hc).trans ((name_sfx hn).trans (List.drop_suffix _ _))
                  · cases h
          · split at h
            · unfold T.shut at h
              split at h
              · cases h
              · rename_i n rest hn
                split at h
                · rename_i r' hs
                  cases h
                  have h1 : r <:+ rest := cons_sfx (hs ▸ skip_sfx rest)
                  exact h1.trans ((name_sfx hn).trans (List.drop_suffix _ _))
                · cases h
            · split at h
              · unfold T.opened at h
                split at h
                · cases h
                · rename_i n rest hn
                  exact (openGo_sfx _ _ _ _ _ _ h).trans ((name_sfx hn).trans (List.drop_suffix _ _))
              · unfold T.text at h
                split at h
                · cases h
                · split at h
                  · cases h
                  · cases h; exact List.dropWhile_suffix _

/-- The last token of a text. -/
theorem run_last : ∀ (n : Nat) (l : List UInt8) (ts : List Tok) (x : Tok), l.length ≤ n → T.run false l = .ok ts → ts.getLast? = some x → ∃ pre l', l = pre ++ l' ∧ l' ≠ [] ∧ T.next false l' = .ok (x, []) := by
  intro n
  induction n with
  | zero =>
    intro l ts x hn h hx
    obtain rfl : l = [] := List.length_eq_zero_iff.1 (by omega)
    cases h
    cases hx
  | succ n ih =>
    intro l ts x hn h hx
    by_cases hl : l = []
    · subst hl
      cases h
      cases hx
    · rw [T.run_step hl] at h
      cases hk : T.next false l with
      | error e => rw [hk] at h; cases h
      | ok z =>
        obtain ⟨k, r⟩ := z
        rw [hk] at h
        simp only at h
        cases hr : T.run false r with
        | error e => rw [hr] at h; cases h
        | ok us =>
          rw [hr] at h
          cases h
          have hlt := T.next_less hl hk
          cases us with
          | nil =>
            have hrn : r = [] := by
              by_cases hr0 : r = []
              · exact hr0
              · rw [T.run_step hr0] at hr
                split at hr
                · cases hr
                · split at hr
                  · cases hr
                  · cases hr
            cases hx
            subst hrn
            exact ⟨[], l, rfl, hl, hk⟩
          | cons u us =>
            rw [last_cons] at hx
            obtain ⟨pre, l', e1, e2, e3⟩ := ih r (u :: us) x (by omega) hr (by rw [← hx, List.getLast?_eq_some_getLast (by simp)])
            obtain ⟨q, hq⟩ := next_sfx hk
            exact ⟨q ++ pre, l', by rw [← hq, e1, List.append_assoc], e2, e3⟩

theorem expand_plain (l : List UInt8) (h : ¬ 38 ∈ l) : E.expand false l = some l := by
  induction l with
  | nil => rfl
  | cons b t ih =>
    rw [E.expand_byte false b t (by rintro rfl; exact h (by simp)), ih (fun e => h (by simp [e]))]
    simp [E.blank]
/-- How a text ends whose last token may stand about the element. -/
theorem aside_end {l : List UInt8} {x : Tok} (hl : l ≠ []) (h : T.next false l = .ok (x, [])) (hA : Aside x) : ∃ pre b, l = pre ++ [b] ∧ (b ≠ 62 ∨ ∃ p2 c, pre = p2 ++ [c] ∧ (c = 63 ∨ c = 45)) := by
  have two : ∀ {a m : List UInt8} {p q : UInt8}, a ++ [p, q] <:+ m → ∃ pre, m = pre ++ [p] ++ [q] := by
    rintro a m p q ⟨z, rfl⟩
    exact ⟨z ++ a, by simp⟩
  unfold T.next at h
  rw [if_neg (by simp)] at h
  split at h
  · unfold T.comment at h
    split at h
    · rename_i a r' hc
      cases h
      have he := T.cutAt_eq hc
      have h1 : (a ++ [45]) ++ [45, 62] <:+ l := by
        have h0 := List.drop_suffix 4 l
        rw [he] at h0
        simpa using h0
      obtain ⟨pre, e⟩ := two h1
      exact ⟨pre ++ [45], 62, by rw [e], .inr ⟨pre, 45, rfl, .inr rfl⟩⟩
    · cases h
  · split at h
    · unfold T.cdata at h
      split at h
      · cases h
        exact absurd (hA.2.2.1 rfl).1 (by simp)
      · cases h
    · split at h
      · cases h
      · split at h
        · cases h
        · split at h
          · unfold T.pi at h
            split at h
            · cases h
            · rename_i n rest hn
              split at h
              · cases h
              · split at h
                · cases h
                · rename_i a r' hc
                  split at h
                  · cases h
                    have he := T.cutAt_eq hc
                    have h1 : a ++ [63, 62] <:+ l := by
                      have h0 := (name_sfx hn).trans (List.drop_suffix 2 l)
                      rw [he] at h0
                      simpa using h0
                    obtain ⟨pre, e⟩ := two h1
                    exact ⟨pre ++ [63], 62, by rw [e], .inr ⟨pre, 63, rfl, .inl rfl⟩⟩
                  · cases h
          · split at h
            · have := T.shut_append h []
              exact absurd this.2.2 hA.2.1
            · split at h
              · have := T.opened_append h []
                exact absurd this.2.2 hA.1
              · unfold T.text at h
                split at h
                · cases h
                · split at h
                  · cases h
                  · rename_i d he
                    have h1 := congrArg (fun z => match z with | Except.ok y => y.2 | Except.error _ => []) h
                    have h2 := congrArg (fun z => match z with | Except.ok y => y.1 | Except.error _ => x) h
                    simp only at h1 h2
                    subst h2
                    obtain ⟨a1, a2⟩ := hA.2.2.1 rfl
                    simp only at a1 a2
                    have hall : l.takeWhile (· ≠ 60) = l := by
                      have := List.takeWhile_append_dropWhile (p := fun b : UInt8 => decide (b ≠ 60)) (l := l)
                      rw [h1, List.append_nil] at this
                      exact this
                    rw [hall] at he a1
                    have h38 : ¬ 38 ∈ l := by simpa using a1
                    have hd : d = l := by
                      have := expand_plain l h38
                      rw [this] at he
                      exact (Option.some.inj he).symm
                    subst hd
                    refine ⟨d.dropLast, d.getLast hl, (List.dropLast_concat_getLast hl).symm, .inl ?_⟩
                    intro e
                    have := List.all_eq_true.1 a2 _ (List.getLast_mem hl)
                    rw [e] at this
                    revert this
                    decide
end Gv
end Go.Proofs.YtcoeijjmahneeaaGreatDoor
namespace Go.Proofs.YtcoeijjmahneeaaGreatDoor
namespace Gv
open T (Tok)

/-- A text that is one element, as the law asks it: at its head a tag, at its end a tag. -/
structure Bare (l : List UInt8) : Prop where
  head : ∃ c r, l = 60 :: c :: r ∧ c ≠ 63 ∧ c ≠ 33
  tail : ∃ p d, l = p ++ [d] ++ [62] ∧ d ≠ 63 ∧ d ≠ 45

theorem lines_last (l : List UInt8) (d : UInt8) : ∃ p e, G.lines (l ++ [d]) = p ++ [e] ∧ (e = d ∨ e = 10) := by
  refine G.lines_induct (M := fun l => ∃ p e, G.lines (l ++ [d]) = p ++ [e] ∧ (e = d ∨ e = 10)) ?_ ?_ ?_ ?_ l
  · by_cases h : d = 13
    · subst h; exact ⟨[], 10, rfl, .inr rfl⟩
    · exact ⟨[], d, by rw [List.nil_append, G.lines_cons d [] h]; rfl, .inl rfl⟩
  · rintro b t hb ⟨p, e, h1, h2⟩
    exact ⟨b :: p, e, by rw [List.cons_append, G.lines_cons b _ hb, h1]; rfl, h2⟩
  · rintro t ht ⟨p, e, h1, h2⟩
    cases t with
    | nil =>
      by_cases hd : d = 10
      · subst hd; exact ⟨[], 10, rfl, .inl rfl⟩
      · have : G.lines (13 :: [d]) = 10 :: G.lines [d] := G.lines_cr [d] (by simpa using hd)
        simp only [List.nil_append] at h1
        exact ⟨10 :: p, e, by show G.lines (13 :: [d]) = _; rw [this, h1]; rfl, h2⟩
    | cons b t =>
      refine ⟨10 :: p, e, ?_, h2⟩
      rw [List.cons_append, G.lines_cr _ (by simpa using ht), h1]
      rfl
  · rintro t ⟨p, e, h1, h2⟩
    exact ⟨10 :: p, e, by rw [List.cons_append, List.cons_append, G.lines_crlf, h1]; rfl, h2⟩
theorem begins_second {p : List UInt8} {b c : UInt8} {r : List UInt8} (h : b ≠ c) : T.begins (60 :: b :: p) (60 :: c :: r) = false := by
  cases hb : T.begins (60 :: b :: p) (60 :: c :: r) with
  | false => rfl
  | true =>
    obtain ⟨x, hx⟩ := T.begins_iff.1 hb
    cases hx
    exact absurd rfl h
/-- What its tokens are. -/
theorem bare_toks {l : List UInt8} {a : Node} (hB : Bare l) (h : parse l = .ok a) : ∃ k rest, G.check l = true ∧ T.run false (G.lines l) = .ok (k :: rest) ∧ k.kind = 0 ∧ (G.lines l).head? = some 60 ∧ steps ⟨[], none⟩ (k :: rest) = .ok ⟨[], some a⟩ ∧ ∀ x, (k :: rest).getLast? = some x → ¬ Aside x := by
  obtain ⟨ts, h1, h2⟩ := parse_ok h
  obtain ⟨s1, s2, s3⟩ := T.tokens_ok h1
  obtain ⟨c, r, hl, hc1, hc2⟩ := hB.head
  obtain ⟨p, d, ht, hd1, hd2⟩ := hB.tail
  have hh : ∃ c' r', G.lines l = 60 :: c' :: r' ∧ c' ≠ 63 ∧ c' ≠ 33 := by
    rw [hl, G.lines_cons 60 _ (by decide)]
    by_cases h13 : c = 13
    · subst h13
      by_cases h10 : r.head? = some 10
      · cases r with
        | nil => cases h10
        | cons x y => cases h10; exact ⟨10, _, by rw [G.lines_crlf], by decide, by decide⟩
      · exact ⟨10, _, by rw [G.lines_cr r h10], by decide, by decide⟩
    · exact ⟨c, _, by rw [G.lines_cons c r h13], hc1, hc2⟩
  obtain ⟨c', r', hll, e1, e2⟩ := hh
  have hdec : T.declares (G.lines l) = false := by
    unfold T.declares
    rw [hll, begins_second (Ne.symm e1)]
    rfl
  have s4 := T.run_first hdec
  rw [s4] at s3
  have hts := toks_ne h2
  obtain ⟨k, rest, rfl⟩ : ∃ k rest, ts = k :: rest := by
    cases ts with
    | nil => exact absurd rfl hts
    | cons k rest => exact ⟨k, rest, rfl⟩
  obtain ⟨_, q, hk⟩ := T.run_cons s3
  have hst := tree_ok h2
  have hk0 : k.kind = 0 := by
    have h0 := hk
    rw [hll] at h0
    unfold T.next at h0
    rw [if_neg (by simp), if_neg (no_neg (begins_second (Ne.symm e2))), if_neg (no_neg (begins_second (Ne.symm e2))), if_neg (no_neg (begins_second (Ne.symm e2))), if_neg (no_neg (begins_second (Ne.symm e2))), if_neg (no_neg (begins_second (Ne.symm e1)))] at h0
    split at h0
    · exfalso
      have hk1 := (T.shut_append h0 []).2.2
      unfold steps step at hst
      simp only at hst
      rw [if_neg (by rw [hk1]; simp), if_pos (.inl hk1)] at hst
      cases hst
    · split at h0
      · exact (T.opened_append h0 []).2.2
      · rename_i hn
        exact absurd (T.begins_iff.2 ⟨_, rfl⟩) hn
  refine ⟨k, rest, s2, s3, hk0, by rw [hll]; rfl, hst, ?_⟩
  intro x hx hA
  obtain ⟨pre, l', m1, m2, m3⟩ := run_last _ _ _ x (Nat.le_refl _) s3 hx
  obtain ⟨pre2, b, n1, n2⟩ := aside_end m2 m3 hA
  -- how the text's lines end
  obtain ⟨p2, e, w1, w2⟩ := lines_last p d
  have hend : G.lines l = p2 ++ [e] ++ [62] := by
    rw [ht, G.lines_append (p ++ [d]) [62] (by simp), w1]
    rfl
  rw [m1, n1, ← List.append_assoc] at hend
  have hb : b = 62 := by
    have := congrArg List.getLast? hend
    simpa using this
  rcases n2 with n2 | ⟨p3, c3, n3, n4⟩
  · exact n2 hb
  · subst hb
    have hpre := List.append_cancel_right hend
    rw [n3, ← List.append_assoc] at hpre
    have hce : c3 = e := by
      have := congrArg List.getLast? hpre
      simpa using this
    rw [hce] at n4
    rcases w2 with rfl | rfl
    · rcases n4 with n4 | n4
      · exact hd1 n4
      · exact hd2 n4
    · rcases n4 with n4 | n4 <;> cases n4

def top1 : List UInt8 := [60, 116, 111, 112, 62]
def top2 : List UInt8 := [60, 47, 116, 111, 112, 62]
def topTok : Tok := ⟨0, [116, 111, 112], [], false, []⟩
def topEnd : Tok := ⟨1, [116, 111, 112], [], false, []⟩
def topOpen (kids : List Node) : Open := ⟨[116, 111, 112], ByteArray.empty, str [116, 111, 112], [], kids, []⟩
theorem run_top1 : T.run true top1 = .ok [topTok] := by rfl
theorem run_top2 : T.run false top2 = .ok [topEnd] := by rfl
theorem step_top1 : step ⟨[], none⟩ topTok = .ok ⟨[topOpen []], none⟩ := by
  have he : element topTok [] = .ok ((ByteArray.empty, str [116, 111, 112], []), []) := by
    unfold element
    rw [if_neg (by decide)]
    have h1 : P.declare (topTok.attrs.map fun p => ⟨str p.1, str p.2⟩) = some ([], []) := rfl
    rw [h1]
    have h2 : P.resolve ([] ++ []) (str topTok.name) false = some (ByteArray.empty, str [116, 111, 112]) := by decide +kernel
    simp only
    rw [h2]
    rfl
  unfold step
  simp only
  rw [if_neg (by decide), if_neg (by decide), if_neg (by decide), if_pos (show topTok.kind = 0 from rfl)]
  unfold opened
  rw [if_neg (by decide)]
  have hsc : scopeOf ([] : List Open) = [] := rfl
  rw [hsc, he]
  rfl

/-- AN ELEMENT PUT INTO ANOTHER ONE IS ITS KID, AS IT WAS; two of them are its kids. -/
theorem kids {s t : List UInt8} {a b : Node} (hs : Bare s) (ht : Bare t) (ha : parse s = .ok a) (hb : parse t = .ok b) (hl : s.length + t.length + 11 ≤ 100000) :
    parse (top1 ++ (s ++ (t ++ top2))) = .error 2 ∨ parse (top1 ++ (s ++ (t ++ top2))) = .ok (.mk 0 ByteArray.empty (str [116, 111, 112]) [] [a, b] ByteArray.empty) := by
  obtain ⟨k, ks, u1, u2, u3, u4, u5, u6⟩ := bare_toks hs ha
  obtain ⟨m, ms, v1, v2, v3, v4, v5, v6⟩ := bare_toks ht hb
  have hhead : ∀ {l : List UInt8}, Bare l → ∀ x, l ++ x ≠ [] ∧ (l ++ x).head? = some 60 := by
    rintro l ⟨⟨c, r, rfl, _⟩, _⟩ x
    exact ⟨by simp, rfl⟩
  have htok : T.tokens (top1 ++ (s ++ (t ++ top2))) = .ok ([topTok] ++ ((k :: ks) ++ ((m :: ms) ++ [topEnd]))) := by
    have c2 : G.check top2 = true := by decide +kernel
    have c1 : G.check top1 = true := by decide +kernel
    have l1 : G.lines top1 = top1 := by decide +kernel
    have l2 : G.lines top2 = top2 := by decide +kernel
    have e1 : G.lines (t ++ top2) = G.lines t ++ top2 := by rw [T.lines_two rfl, l2]
    have e2 : G.lines (s ++ (t ++ top2)) = G.lines s ++ (G.lines t ++ top2) := by rw [T.lines_two (hhead ht top2).2, e1]
    have e3 : G.lines (top1 ++ (s ++ (t ++ top2))) = top1 ++ (G.lines s ++ (G.lines t ++ top2)) := by rw [T.lines_two (hhead hs _).2, l1, e2]
    have f1 : T.run false (G.lines t ++ top2) = .ok ((m :: ms) ++ [topEnd]) := by
      rw [T.run_append rfl _ false (G.lines t) (m :: ms) (Nat.le_refl _) (by intro e; rw [e] at v4; cases v4) v2, run_top2]
    have hh1 : (G.lines t ++ top2).head? = some 60 := by
      cases hlt : G.lines t with
      | nil => rw [hlt] at v4; cases v4
      | cons x y => rw [hlt] at v4; simpa using v4
    have f2 : T.run false (G.lines s ++ (G.lines t ++ top2)) = .ok ((k :: ks) ++ ((m :: ms) ++ [topEnd])) := by
      rw [T.run_append hh1 _ false (G.lines s) (k :: ks) (Nat.le_refl _) (by intro e; rw [e] at u4; cases u4) u2, f1]
    have hh2 : (G.lines s ++ (G.lines t ++ top2)).head? = some 60 := by
      cases hlt : G.lines s with
      | nil => rw [hlt] at u4; cases u4
      | cons x y => rw [hlt] at u4; simpa using u4
    rw [T.tokens_mk (by simp only [List.length_append, show top1.length = 5 from rfl, show top2.length = 6 from rfl]; omega) (G.check_append c1 (G.check_append u1 (G.check_append v1 c2))), e3, T.run_append hh2 _ true top1 [topTok] (Nat.le_refl _) (by decide) run_top1, f2]
  unfold parse
  rw [htok]
  simp only
  unfold tree
  have g1 := element_base (base := [topOpen []]) (r2 := none) u3 rfl (by decide) u5 u6 (by simp)
  have g2 := element_base (base := [topOpen [a]]) (r2 := none) v3 rfl (by simp) v5 v6 (by simp)
  rw [steps_append]
  have h0 : steps ⟨[], none⟩ [topTok] = .ok ⟨[topOpen []], none⟩ := by
    unfold steps
    rw [step_top1]
    rfl
  rw [h0]
  simp only
  rw [steps_append]
  rcases g1 with g1 | g1
  · left; rw [g1]
  rw [g1]
  have hend1 : ended [topOpen []] none a = ⟨[topOpen [a]], none⟩ := rfl
  rw [hend1]
  simp only
  rw [steps_append]
  rcases g2 with g2 | g2
  · left; rw [g2]
  rw [g2]
  right
  rfl
end Gv
end Go.Proofs.YtcoeijjmahneeaaGreatDoor
namespace Go.Proofs.YtcoeijjmahneeaaGreatDoor
open Go.RowKit

namespace Gv
def zero : Node := .mk 0 ⟨#[]⟩ ⟨#[]⟩ [] [] ⟨#[]⟩
def nodeOf (l : List UInt8) : Node := match parse l with | .ok n => n | .error _ => zero
def errOf (l : List UInt8) : Int := match parse l with | .ok _ => 0 | .error e => (e : Int)
theorem of_ok {l : List UInt8} {n : Node} (h : parse l = .ok n) : nodeOf l = n ∧ errOf l = 0 := by unfold nodeOf errOf; rw [h]; exact ⟨rfl, rfl⟩
theorem of_err {l : List UInt8} {e : Nat} (h : parse l = .error e) : nodeOf l = zero ∧ errOf l = (e : Int) := by unfold nodeOf errOf; rw [h]; exact ⟨rfl, rfl⟩
theorem steps_err {e : Nat} : ∀ (l : List T.Tok) (st : St), steps st l = .error e → e ≠ 0
  | [], st, h => by unfold steps at h; cases h
  | t :: l, st, h => by
    unfold steps at h
    cases hs : step st t with
    | error e2 => rw [hs] at h; cases h; exact step_err hs
    | ok st' => rw [hs] at h; exact steps_err l st' h
theorem parse_ne {l : List UInt8} {e : Nat} (h : parse l = .error e) : e ≠ 0 := by
  unfold parse at h
  split at h
  · rename_i h2; cases h; exact T.tokens_err h2
  · unfold tree at h
    split at h
    · rename_i h2; cases h; exact steps_err _ _ h2
    · unfold final at h
      split at h
      · cases h
      · cases h; omega
theorem awake_parse : parse [60, 97, 32, 120, 109, 108, 110, 115, 61, 39, 117, 39, 32, 98, 61, 39, 49, 39, 62, 120, 60, 33, 45, 45, 99, 45, 45, 62, 60, 47, 97, 62] = .ok (.mk 0 ⟨#[117]⟩ ⟨#[97]⟩ [⟨⟨#[]⟩, ⟨#[98]⟩, ⟨#[49]⟩⟩] [.mk 1 ⟨#[]⟩ ⟨#[]⟩ [] [] ⟨#[120]⟩, .mk 2 ⟨#[]⟩ ⟨#[]⟩ [] [] ⟨#[99]⟩] ⟨#[]⟩) := by rfl
theorem awake_nest : parse [60, 97, 62, 60, 98, 62, 60, 47, 97, 62, 60, 47, 98, 62] = .error 90 := by rfl
end Gv

theorem gParse_form (s : ByteArray) (w : World) (hs : s.size ≤ 1000000) (hE : Env w) : Calls Tryz.prog 8 #[.string s] w fun x w' => ∃ (k : Int) (sp nm d : ByteArray) (ao bo : Option Addr) (n1 c1 n2 c2 : Nat),
    x = .returned (.tuple #[.agg #[.int .i64 k, .string sp, .string nm, .slice ao n1 c1, .slice bo n2 c2, .string d], .int .i64 (Gv.errOf s.data.toList)]) ∧ NodeAt (fun _ => True) w' [.int .i64 k, .string sp, .string nm, .slice ao n1 c1, .slice bo n2 c2, .string d] (Gv.nodeOf s.data.toList) ∧ Below w.heap.size w w' := by
  refine (gParse_any s w hs hE).mono ?_
  rintro x w' ⟨b, h⟩
  cases hp : Gv.parse s.data.toList with
  | error e =>
    rw [hp] at h
    obtain ⟨e1, e2⟩ := Gv.of_err hp
    rw [e1, e2]
    exact ⟨0, ⟨#[]⟩, ⟨#[]⟩, ⟨#[]⟩, none, none, 0, 0, 0, 0, h, node_plain _ _ 0 ⟨#[]⟩ ⟨#[]⟩ ⟨#[]⟩, b⟩
  | ok n =>
    rw [hp] at h
    obtain ⟨e1, e2⟩ := Gv.of_ok hp
    rw [e1, e2]
    obtain ⟨k, sp, nm, d, va, vk, rfl, hN⟩ := h
    obtain ⟨k', sp', nm', d', as', kids', ao', bo', ca', cb', cs', -, e3, -⟩ := hN.open'
    simp only [List.cons.injEq, and_true] at e3
    obtain ⟨-, -, -, e6, e7, -⟩ := e3
    subst e6 e7
    exact ⟨k, sp, nm, d, ao', bo', _, ca', _, cb', rfl, hN, b⟩

/-- the tree that awake writes down. -/
theorem lit_awake (w : World) : NodeAt (fun _ => True) ((w.alloc (.cells #[.string ⟨#[]⟩, .string ⟨#[98]⟩, .string ⟨#[49]⟩] 50)).alloc (.cells #[.int .i64 1, .string ⟨#[]⟩, .string ⟨#[]⟩, .slice none 0 0, .slice none 0 0, .string ⟨#[120]⟩, .int .i64 2, .string ⟨#[]⟩, .string ⟨#[]⟩, .slice none 0 0, .slice none 0 0, .string ⟨#[99]⟩] 26))
    [.int .i64 ((0 : Nat) : Int), .string ⟨#[117]⟩, .string ⟨#[97]⟩, .slice (some ⟨w.heap.size, 0, none⟩) 1 1, .slice (some ⟨w.heap.size + 1, 0, none⟩) 2 2, .string ⟨#[]⟩] (.mk 0 ⟨#[117]⟩ ⟨#[97]⟩ [⟨⟨#[]⟩, ⟨#[98]⟩, ⟨#[49]⟩⟩] [.mk 1 ⟨#[]⟩ ⟨#[]⟩ [] [] ⟨#[120]⟩, .mk 2 ⟨#[]⟩ ⟨#[]⟩ [] [] ⟨#[99]⟩] ⟨#[]⟩) := by
  have k1 := (Cells.new w 50 #[.string ⟨#[]⟩, .string ⟨#[98]⟩, .string ⟨#[49]⟩]).alloc (.cells #[.int .i64 1, .string ⟨#[]⟩, .string ⟨#[]⟩, .slice none 0 0, .slice none 0 0, .string ⟨#[120]⟩, .int .i64 2, .string ⟨#[]⟩, .string ⟨#[]⟩, .slice none 0 0, .slice none 0 0, .string ⟨#[99]⟩] 26)
  have k2 := Cells.new (w.alloc (.cells #[.string ⟨#[]⟩, .string ⟨#[98]⟩, .string ⟨#[49]⟩] 50)) 26 #[.int .i64 1, .string ⟨#[]⟩, .string ⟨#[]⟩, .slice none 0 0, .slice none 0 0, .string ⟨#[120]⟩, .int .i64 2, .string ⟨#[]⟩, .string ⟨#[]⟩, .slice none 0 0, .slice none 0 0, .string ⟨#[99]⟩]
  rw [World.size_alloc] at k2
  refine .mk (fun j => if j = 0 then [.int .i64 ((1 : Nat) : Int), .string ⟨#[]⟩, .string ⟨#[]⟩, .slice none 0 0, .slice none 0 0, .string ⟨#[120]⟩] else [.int .i64 ((2 : Nat) : Int), .string ⟨#[]⟩, .string ⟨#[]⟩, .slice none 0 0, .slice none 0 0, .string ⟨#[99]⟩]) ⟨by unfold maxLen; simp, by unfold maxLen; simp⟩ ⟨_, 1, rfl, fun j hj => ⟨w.heap.size, 0, rfl, trivial, fun i u hu => ?_⟩⟩ ⟨_, 2, rfl, fun j hj => ⟨by dsimp only; split <;> rfl, w.heap.size + 1, 0, rfl, trivial, fun i u hu => ?_⟩⟩ (fun j hj => ?_)
  · obtain rfl : j = 0 := by simp at hj; exact hj
    refine k1.cell ?_
    match i, hu with
    | 0, hu => exact hu
    | 1, hu => exact hu
    | 2, hu => exact hu
  · have : j = 0 ∨ j = 1 := by simp at hj; omega
    rcases this with rfl | rfl
    · refine k2.cell ?_
      match i, hu with
      | 0, hu => exact hu
      | 1, hu => exact hu
      | 2, hu => exact hu
      | 3, hu => exact hu
      | 4, hu => exact hu
      | 5, hu => exact hu
    · refine k2.cell ?_
      match i, hu with
      | 0, hu => exact hu
      | 1, hu => exact hu
      | 2, hu => exact hu
      | 3, hu => exact hu
      | 4, hu => exact hu
      | 5, hu => exact hu
  · have : j = 0 ∨ j = 1 := by simp at hj; omega
    rcases this with rfl | rfl
    · exact node_plain _ _ 1 ⟨#[]⟩ ⟨#[]⟩ ⟨#[120]⟩
    · exact node_plain _ _ 2 ⟨#[]⟩ ⟨#[]⟩ ⟨#[99]⟩

set_option maxRecDepth 100000 in
set_option maxHeartbeats 3200000 in
theorem awake_any (w : World) (hE : Env w) : Calls Tryz.prog 10 #[] w fun e w' => e = .returned (.bool true) ∧ Below w.heap.size w w' := by
  have a1 := Lib.hid (Gv.of_ok Gv.awake_parse)
  have a2 := Lib.hid (Gv.of_err Gv.awake_nest)
  go_enter Tryz.func10, Tryz.ntmps10
  have t0 := Below.refl w.heap.size w
  go_wp2_with fail
  (with_reducible refine (gParse_form _ _ (by decide) hE).mono ?_)
  rintro x w1 ⟨k, sp, nm, d, ao, bo, n1, c1, n2, c2, rfl, hN, b1⟩
  rw [show Gv.errOf _ = 0 from a1.out.2]
  rw [show Gv.nodeOf _ = _ from a1.out.1] at hN
  have t1 := t0.trans (b1.mono t0.size)
  have bN := (Below.refl w1.heap.size w1).alloc (Nat.le_refl _) (.cells #[.int .i64 k, .string sp, .string nm, .slice ao n1 c1, .slice bo n2 c2, .string d] 26)
  have kA := Cells.new w1 26 #[.int .i64 k, .string sp, .string nm, .slice ao n1 c1, .slice bo n2 c2, .string d]
  have t2 := t1.trans (bN.mono t1.size)
  have hN1 := hN.on bN
  clear b1 hN
  go_wp2_with fail
  (with_reducible refine (gParse_form _ _ (by decide) (hE.on t2)).mono ?_)
  rintro x w3 ⟨k2, sp2, nm2, d2, ao2, bo2, m1, e1, m2, e2, rfl, -, b3⟩
  rw [show Gv.errOf _ = ((90 : Nat) : Int) from a2.out.2]
  have t3 := t2.trans (b3.mono t2.size)
  have kA3 := kA.on b3
  have hN3 := hN1.on b3
  have hw3 : w1.heap.size < w3.heap.size := kA3.lt
  clear b3 kA hN1 bN t1
  have b4 := (Below.refl w3.heap.size w3).alloc (Nat.le_refl _) (.cells #[.int .i64 k2, .string sp2, .string nm2, .slice ao2 m1 e1, .slice bo2 m2 e2, .string d2] 26)
  have x0 := kA3.cell (i := 0) (v := .int .i64 k) rfl
  have x1 := kA3.cell (i := 1) (v := .string sp) rfl
  have x2 := kA3.cell (i := 2) (v := .string nm) rfl
  have x3 := kA3.cell (i := 3) (v := .slice ao n1 c1) rfl
  have x4 := kA3.cell (i := 4) (v := .slice bo n2 c2) rfl
  have x5 := kA3.cell (i := 5) (v := .string d) rfl
  have hne : ¬ w1.heap.size = w3.heap.size := by omega
  have hlit := lit_awake (w3.alloc (.cells #[.int .i64 k2, .string sp2, .string nm2, .slice ao2 m1 e1, .slice bo2 m2 e2, .string d2] 26))
  have b5 := (b4.alloc b4.size (.cells #[.string ⟨#[]⟩, .string ⟨#[98]⟩, .string ⟨#[49]⟩] 50)).alloc (by simp; omega) (.cells #[.int .i64 1, .string ⟨#[]⟩, .string ⟨#[]⟩, .slice none 0 0, .slice none 0 0, .string ⟨#[120]⟩, .int .i64 2, .string ⟨#[]⟩, .string ⟨#[]⟩, .slice none 0 0, .slice none 0 0, .string ⟨#[99]⟩] 26)
  rw [World.size_alloc] at hlit
  have t5 := t3.trans (b5.mono t3.size)
  have hsame := Lib.hid (refSameNode_any hN3 _ b5 _ _ _ hlit)
  clear hN3 hlit b4 b5 kA3
  go_wp2_with fail
  (refine hsame.out.mono ?_); rintro e w6 ⟨⟨r, rfl, hr⟩, b6⟩
  obtain rfl : r = true := hr.2 rfl
  have t6 := t5.trans (b6.mono t5.size)
  clear hsame b6 t5
  go_wp2_with fail
  go_ret
  exact ⟨rfl, t6⟩
end Go.Proofs.YtcoeijjmahneeaaGreatDoor
namespace Go.Proofs.YtcoeijjmahneeaaGreatDoor
namespace Gv
def isOk (x : Except Nat Node) : Bool := match x with | .ok _ => true | .error _ => false
theorem parse_one : ∀ n, n < 256 → isOk (parse [UInt8.ofNat n]) = false := by decide +kernel
theorem parse_two {l : List UInt8} {n : Node} (h : parse l = .ok n) : 2 ≤ l.length := by
  match l, h with
  | [], h => cases h
  | [b], h =>
    have := parse_one b.toNat b.toNat_lt
    rw [UInt8.ofNat_toNat, h] at this
    cases this
  | _ :: _ :: _, _ => simp
end Gv
theorem get_list {s : ByteArray} {k : Nat} (h : k < s.size) : s.data.toList[k]'(by rw [list_len]; exact h) = s[k] := by
  rw [Array.getElem_toList]; rfl
theorem bare_mk {s : ByteArray} (h2 : 2 ≤ s.size) (h0 : (s[0]'(by omega)).toNat = 60) (h1 : (s[1]'(by omega)).toNat ≠ 63) (h1' : (s[1]'(by omega)).toNat ≠ 33) (hz : (s[s.size - 1]'(by omega)).toNat = 62)
    (hy : (s[s.size - 2]'(by omega)).toNat ≠ 63) (hy' : (s[s.size - 2]'(by omega)).toNat ≠ 45) : Gv.Bare s.data.toList := by
  have hl := list_len s
  have e : ∀ {a : UInt8} {k : Nat}, k < 256 → a.toNat = k → a = UInt8.ofNat k := by
    intro a k hk h
    apply UInt8.toNat_inj.1
    rw [h]; simp; omega
  constructor
  · refine ⟨s[1]'(by omega), s.data.toList.drop 2, ?_, fun h => h1 (by rw [h]; rfl), fun h => h1' (by rw [h]; rfl)⟩
    have d0 := List.drop_eq_getElem_cons (l := s.data.toList) (i := 0) (by omega)
    have d1 := List.drop_eq_getElem_cons (l := s.data.toList) (i := 1) (by omega)
    rw [List.drop_zero, get_list (by omega)] at d0
    rw [get_list (by omega)] at d1
    rw [d0, d1, e (by omega) h0]
    rfl
  · refine ⟨s.data.toList.take (s.size - 2), s[s.size - 2]'(by omega), ?_, fun h => hy (by rw [h]; rfl), fun h => hy' (by rw [h]; rfl)⟩
    have t1 := List.take_append_drop (s.size - 2) s.data.toList
    have d0 := List.drop_eq_getElem_cons (l := s.data.toList) (i := s.size - 2) (by omega)
    have d1 := List.drop_eq_getElem_cons (l := s.data.toList) (i := s.size - 2 + 1) (by omega)
    have d2 : s.data.toList.drop (s.size - 2 + 1 + 1) = [] := List.drop_eq_nil_of_le (by omega)
    rw [get_list (by omega)] at d0
    rw [get_list (by omega), d2] at d1
    have hi : s.size - 2 + 1 = s.size - 1 := by omega
    have hz2 : s[s.size - 2 + 1]'(by omega) = 62 := by
      have : s[s.size - 2 + 1]'(by omega) = s[s.size - 1]'(by omega) := by congr 1
      rw [this, e (by omega) hz]
      rfl
    rw [d1, hz2] at d0
    rw [d0] at t1
    rw [← t1]
    simp
end Go.Proofs.YtcoeijjmahneeaaGreatDoor
namespace Go.Proofs.YtcoeijjmahneeaaGreatDoor

namespace G
/-- An ASCII byte does not go on with what is no code point. -/
theorem first_stop {l : List UInt8} (hl : l ≠ []) (h : (first l).2 = 0) (c : UInt8) (t : List UInt8) (hc : c.toNat < 128) : (first (l ++ c :: t)).2 = 0 := by
  refine Decidable.byContradiction fun h0 => ?_
  by_cases hle : (first (l ++ c :: t)).2 ≤ l.length
  · have ft := first_take (l ++ c :: t) l.length hle h0
    rw [List.take_left] at ft
    rw [← ft] at h0
    exact h0 h
  · obtain ⟨e, hne⟩ := first_pos _ h0
    have h1 : 0 < l.length := List.length_pos_iff.2 hl
    have hg : ((l ++ c :: t).getD l.length 0) = c := by simp [List.getD]
    rw [e] at hle
    have hz := mt (first_zero (l ++ c :: t)).2 h0
    have hw := Lib.decodeL_width (l ++ c :: t)
    rw [Lib.decodeL_N] at hle hw hz
    rcases Lib.decodeN_shape (l ++ c :: t).length ((l ++ c :: t).getD 0 0).toNat ((l ++ c :: t).getD 1 0).toNat ((l ++ c :: t).getD 2 0).toNat ((l ++ c :: t).getD 3 0).toNat with ⟨_, e2⟩ | ⟨_, _, c3, _, e2⟩ | ⟨_, _, c3, c4, _, _, e2⟩ | ⟨_, _, c3, c4, c5, _, _, e2⟩ | e2
    · rw [e2] at hle; simp only at hle; omega
    · rw [e2] at hle; simp only at hle
      have : l.length = 1 := by omega
      rw [this] at hg
      rw [hg] at c3
      omega
    · rw [e2] at hle; simp only at hle
      have : l.length = 1 ∨ l.length = 2 := by omega
      rcases this with this | this <;> rw [this] at hg
      · rw [hg] at c3; omega
      · rw [hg] at c4; omega
    · rw [e2] at hle; simp only at hle
      have : l.length = 1 ∨ l.length = 2 ∨ l.length = 3 := by omega
      rcases this with this | this | this <;> rw [this] at hg
      · rw [hg] at c3; omega
      · rw [hg] at c4; omega
      · rw [hg] at c5; omega
    · rw [e2] at hz; exact hz (.inr ⟨rfl, rfl⟩)
theorem span_bad (c : UInt8) (t : List UInt8) (hc : c.toNat < 128) : ∀ s : List UInt8, span char s ≠ s.length → span char (s ++ c :: t) = span char s := by
  intro s
  induction s using along char with
  | stop l h =>
    intro e
    rw [span_stop char l h] at e ⊢
    have hl : l ≠ [] := by rintro rfl; exact e rfl
    refine span_stop char _ ?_
    by_cases h0 : (first l).2 = 0
    · exact .inl (first_stop hl h0 c t hc)
    · rw [first_append l _ h0]
      exact h
  | step l h0 hp ih =>
    intro e
    have hle := first_le l
    have hs := span_step char l h0 hp
    have fa := first_append l (c :: t) h0
    rw [span_step char (l ++ c :: t) (by rw [fa]; exact h0) (by rw [fa]; exact hp), fa, List.drop_append_of_le_length hle, ih (by rw [List.length_drop]; omega), hs]
theorem check_parted (s : List UInt8) (c : UInt8) (t : List UInt8) (hc : c.toNat < 128) : check (s ++ c :: t) = (check s && check (c :: t)) := by
  by_cases hs : span char s = s.length
  · have h1 : check s = true := by unfold check; simpa using hs
    rw [h1, Bool.true_and]
    unfold check
    rw [span_append char (c :: t) s hs, List.length_append]
    congr 1
    simp only [eq_iff_iff]
    omega
  · have h1 : check s = false := by unfold check; simpa using hs
    rw [h1, Bool.false_and]
    unfold check
    rw [span_bad c t hc s hs]
    have := span_le char s
    rw [decide_eq_false_iff_not, List.length_append, List.length_cons]
    omega
theorem check_behind_of {a : List UInt8} (ha : check a = true) (x : List UInt8) : check (a ++ x) = check x := by
  have h := ha
  unfold check at h
  rw [decide_eq_true_eq] at h
  unfold check
  rw [span_append char x a h, List.length_append]
  congr 1
  simp only [eq_iff_iff]
  omega
end G

theorem E.escape_six (l : List UInt8) : (E.escape true l).length ≤ 6 * l.length := by
  induction l with
  | nil => exact Nat.le_refl _
  | cons b l ih =>
    have h6 : (E.esc true b).length ≤ 6 := by unfold E.esc; (repeat' split) <;> simp
    unfold E.escape at ih ⊢
    rw [List.flatMap_cons, List.length_append, List.length_cons]
    omega

namespace T
theorem cutAt_none34 : ∀ (u Y : List UInt8), (∀ b ∈ u, b ≠ 34) → cutAt [34] (u ++ 34 :: Y) = some (u, Y)
  | [], Y, _ => rfl
  | b :: u, Y, h => by
    have hb : begins [34] (b :: (u ++ 34 :: Y)) = false := by
      have h34 : b ≠ 34 := h b (by simp)
      unfold begins
      rw [show List.isPrefixOf [34] (b :: (u ++ 34 :: Y)) = ((34 : UInt8) == b && true) from rfl, Bool.and_true, beq_eq_false_iff_ne]
      exact Ne.symm h34
    rw [List.cons_append]
    unfold cutAt
    rw [hb, cutAt_none34 u Y fun x hx => h x (by simp [hx])]
    rfl
/-- ONE ATTRIBUTE whose value is escaped. -/
theorem attr_escaped {nm : List UInt8} (hn : nameAt (nm ++ [61]) = some (nm, [61])) (s Y : List UInt8) : attr (nm ++ 61 :: 34 :: (E.escape true s ++ 34 :: Y)) = .ok ((nm, s), Y) := by
  have hb := E.escape_bytes true s
  have e1 : nm ++ 61 :: 34 :: (E.escape true s ++ 34 :: Y) = (nm ++ [61]) ++ (34 :: (E.escape true s ++ 34 :: Y)) := by simp
  have h1 := nameAt_append hn rfl (by decide) (34 :: (E.escape true s ++ 34 :: Y))
  have e2 : skip ([61] ++ 34 :: (E.escape true s ++ 34 :: Y)) = 61 :: 34 :: (E.escape true s ++ 34 :: Y) := by
    rw [List.cons_append, skip_head]; rfl
  have e3 : skip (34 :: (E.escape true s ++ 34 :: Y)) = 34 :: (E.escape true s ++ 34 :: Y) := by rw [skip_head]; rfl
  have e4 : quoted (34 :: (E.escape true s ++ 34 :: Y)) = some (E.escape true s, Y) := by
    show (if (34 : UInt8) = 34 ∨ (34 : UInt8) = 39 then cutAt [34] (E.escape true s ++ 34 :: Y) else none) = _
    rw [if_pos (.inl rfl)]
    exact cutAt_none34 _ _ fun b h => ((hb b h).2.2.2 rfl).1
  rw [e1]
  unfold attr
  rw [h1]
  simp only
  rw [e2]
  simp only
  rw [e3, e4]
  simp only
  rw [if_neg (fun h => (hb 60 h).1 rfl), E.expand_escape true true s (fun h => h)]
theorem next_open {first : Bool} {c : UInt8} {l : List UInt8} (h1 : c ≠ 33) (h2 : c ≠ 63) (h3 : c ≠ 47) : next first (60 :: c :: l) = opened (c :: l) := by
  have b2 : ∀ (d : UInt8) (p : List UInt8), c ≠ d → begins (60 :: d :: p) (60 :: c :: l) = false := fun d p h => by
    show ((60 : UInt8) == 60 && ((d == c) && List.isPrefixOf p l)) = false
    rw [beq_eq_false_iff_ne.2 (Ne.symm h), Bool.false_and, Bool.and_false]
  have b1 : begins [60] (60 :: c :: l) = true := rfl
  unfold next declares
  rw [b2 63 [120, 109, 108] h2, Bool.false_and, Bool.and_false, b2 33 [45, 45] h1, b2 33 [91, 67, 68, 65, 84, 65, 91] h1, b2 33 [68, 79, 67, 84, 89, 80, 69] h1, b2 33 [] h1, b2 63 [] h2, b2 47 [] h3, b1]
  rfl
/-- A tag goes on with an attribute. -/
theorem openGo_one {f : Nat} {n : List UInt8} {ps : List (List UInt8 × List UInt8)} {c : UInt8} {l r : List UInt8} {a : List UInt8 × List UInt8} (h1 : c ≠ 62) (h2 : c ≠ 47) (h3 : G.space (c.toNat : Int) = false)
    (ha : attr (c :: l) = .ok (a, r)) (hp : ps.any (fun x => decide (x.1 = a.1)) = false) : openGo (f + 1) n ps (32 :: c :: l) = openGo f n (ps ++ [a]) r := by
  have e : skip (32 :: c :: l) = c :: l := by
    rw [skip_head, if_pos (by decide), skip_head, h3]; rfl
  rw [openGo, e]
  split
  · rename_i h; cases h; exact absurd rfl h1
  · rename_i h; cases h; exact absurd rfl h2
  · rw [if_neg (by simp), ha]
    simp only
    rw [hp]
    rfl
theorem openGo_end {f : Nat} {n : List UInt8} {ps : List (List UInt8 × List UInt8)} {r : List UInt8} : openGo (f + 1) n ps (62 :: r) = .ok (⟨0, n, ps, false, []⟩, r) := by
  rw [openGo, skip_head]
  rfl
theorem opened_one {nm : List UInt8} (hn : nameAt (nm ++ [32]) = some (nm, [32])) {c : UInt8} {l : List UInt8} : opened (nm ++ 32 :: c :: l) = openGo (l.length + 3) nm [] (32 :: c :: l) := by
  have h1 := nameAt_append hn rfl (by decide) (c :: l)
  rw [List.append_assoc] at h1
  unfold opened
  rw [show nm ++ 32 :: c :: l = nm ++ ([32] ++ c :: l) from rfl, h1]
  rfl
end T

namespace Gv
open T (Tok)
/-- The two documents of the law. -/
def docP (u v : List UInt8) : List UInt8 := [60, 112, 58, 97, 32, 120, 109, 108, 110, 115, 58, 112, 61, 34] ++ (u ++ ([34, 32, 112, 58, 98, 61, 34] ++ (v ++ [34, 62, 60, 112, 58, 99, 47, 62, 60, 47, 112, 58, 97, 62])))
def docQ (u v : List UInt8) : List UInt8 := [60, 113, 58, 97, 32, 120, 109, 108, 110, 115, 58, 113, 61, 34] ++ (u ++ ([34, 32, 113, 58, 98, 61, 34] ++ (v ++ ([34, 62, 60, 99, 32, 120, 109, 108, 110, 115, 61, 34] ++ (u ++ [34, 62, 60, 47, 99, 62, 60, 47, 113, 58, 97, 62])))))
theorem check_docP (u v : List UInt8) : G.check (docP u v) = (G.check u && G.check v) := by
  unfold docP
  rw [G.check_behind_of (by decide +kernel), List.cons_append, G.check_parted _ _ _ (by decide), ← List.cons_append, G.check_behind_of (by decide +kernel), G.check_parted _ _ _ (by decide),
    show G.check [34, 62, 60, 112, 58, 99, 47, 62, 60, 47, 112, 58, 97, 62] = true by decide +kernel, Bool.and_true]
theorem check_docQ (u v : List UInt8) : G.check (docQ u v) = (G.check u && G.check v) := by
  unfold docQ
  rw [G.check_behind_of (by decide +kernel), List.cons_append, G.check_parted _ _ _ (by decide), ← List.cons_append, G.check_behind_of (by decide +kernel), List.cons_append, G.check_parted _ _ _ (by decide), ← List.cons_append,
    G.check_behind_of (by decide +kernel), G.check_parted _ _ _ (by decide), show G.check [34, 62, 60, 47, 99, 62, 60, 47, 113, 58, 97, 62] = true by decide +kernel, Bool.and_true]
  cases G.check u <;> cases G.check v <;> rfl
theorem no13 (l : List UInt8) (h : l.all (fun b => b != 13) = true) : ∀ b ∈ l, b ≠ 13 := fun b hb => by
  have := List.all_eq_true.1 h b hb
  simpa using this
theorem lines_docP {u v : List UInt8} (hu : ∀ b ∈ u, b ≠ 13) (hv : ∀ b ∈ v, b ≠ 13) : G.lines (docP u v) = docP u v := by
  refine G.lines_of_no13 _ fun b hb => ?_
  unfold docP at hb
  rcases List.mem_append.1 hb with h | h
  · exact no13 _ rfl b h
  rcases List.mem_append.1 h with h | h
  · exact hu b h
  rcases List.mem_append.1 h with h | h
  · exact no13 _ rfl b h
  rcases List.mem_append.1 h with h | h
  · exact hv b h
  · exact no13 _ rfl b h
theorem lines_docQ {u v : List UInt8} (hu : ∀ b ∈ u, b ≠ 13) (hv : ∀ b ∈ v, b ≠ 13) : G.lines (docQ u v) = docQ u v := by
  refine G.lines_of_no13 _ fun b hb => ?_
  unfold docQ at hb
  rcases List.mem_append.1 hb with h | h
  · exact no13 _ rfl b h
  rcases List.mem_append.1 h with h | h
  · exact hu b h
  rcases List.mem_append.1 h with h | h
  · exact no13 _ rfl b h
  rcases List.mem_append.1 h with h | h
  · exact hv b h
  rcases List.mem_append.1 h with h | h
  · exact no13 _ rfl b h
  rcases List.mem_append.1 h with h | h
  · exact hu b h
  · exact no13 _ rfl b h

def toksP (s v : List UInt8) : List Tok := [⟨0, [112, 58, 97], [([120, 109, 108, 110, 115, 58, 112], s), ([112, 58, 98], v)], false, []⟩, ⟨0, [112, 58, 99], [], true, []⟩, ⟨1, [112, 58, 97], [], false, []⟩]
def toksQ (s v : List UInt8) : List Tok := [⟨0, [113, 58, 97], [([120, 109, 108, 110, 115, 58, 113], s), ([113, 58, 98], v)], false, []⟩, ⟨0, [99], [([120, 109, 108, 110, 115], s)], false, []⟩, ⟨1, [99], [], false, []⟩, ⟨1, [113, 58, 97], [], false, []⟩]
theorem run_docP (s v : List UInt8) : T.run true (docP (E.escape true s) (E.escape true v)) = .ok (toksP s v) := by
  have hd : docP (E.escape true s) (E.escape true v) = 60 :: ([112, 58, 97] ++ 32 :: 120 :: ([109, 108, 110, 115, 58, 112, 61, 34] ++ (E.escape true s ++ 34 :: 32 :: 112 :: ([58, 98, 61, 34] ++ (E.escape true v ++ 34 :: [62, 60, 112, 58, 99, 47, 62, 60, 47, 112, 58, 97, 62]))))) := rfl
  have a1 : T.attr (120 :: ([109, 108, 110, 115, 58, 112, 61, 34] ++ (E.escape true s ++ 34 :: 32 :: 112 :: ([58, 98, 61, 34] ++ (E.escape true v ++ 34 :: [62, 60, 112, 58, 99, 47, 62, 60, 47, 112, 58, 97, 62]))))) = .ok (([120, 109, 108, 110, 115, 58, 112], s), (32 :: 112 :: ([58, 98, 61, 34] ++ (E.escape true v ++ 34 :: [62, 60, 112, 58, 99, 47, 62, 60, 47, 112, 58, 97, 62])))) := T.attr_escaped (nm := [120, 109, 108, 110, 115, 58, 112]) (by decide +kernel) s (32 :: 112 :: ([58, 98, 61, 34] ++ (E.escape true v ++ 34 :: [62, 60, 112, 58, 99, 47, 62, 60, 47, 112, 58, 97, 62])))
  have a2 : T.attr (112 :: ([58, 98, 61, 34] ++ (E.escape true v ++ 34 :: [62, 60, 112, 58, 99, 47, 62, 60, 47, 112, 58, 97, 62]))) = .ok (([112, 58, 98], v), [62, 60, 112, 58, 99, 47, 62, 60, 47, 112, 58, 97, 62]) := T.attr_escaped (nm := [112, 58, 98]) (by decide +kernel) v [62, 60, 112, 58, 99, 47, 62, 60, 47, 112, 58, 97, 62]
  have hn : T.next true (docP (E.escape true s) (E.escape true v)) = .ok (⟨0, [112, 58, 97], [([120, 109, 108, 110, 115, 58, 112], s), ([112, 58, 98], v)], false, []⟩, [60, 112, 58, 99, 47, 62, 60, 47, 112, 58, 97, 62]) := by
    rw [hd]
    have h0 : ∀ x, T.next true (60 :: ([112, 58, 97] ++ x)) = T.opened ([112, 58, 97] ++ x) := fun x => T.next_open (by decide) (by decide) (by decide)
    rw [h0, T.opened_one (nm := [112, 58, 97]) (by decide +kernel), T.openGo_one (by decide) (by decide) (by decide) a1 rfl, T.openGo_one (by decide) (by decide) (by decide) a2 (by rfl), T.openGo_end]
    rfl
  rw [T.run_step (by rw [hd]; simp), hn]
  simp only
  rw [show T.run false [60, 112, 58, 99, 47, 62, 60, 47, 112, 58, 97, 62] = .ok [⟨0, [112, 58, 99], [], true, []⟩, ⟨1, [112, 58, 97], [], false, []⟩] from rfl]
  rfl
theorem run_docQ (s v : List UInt8) : T.run true (docQ (E.escape true s) (E.escape true v)) = .ok (toksQ s v) := by
  have hd : docQ (E.escape true s) (E.escape true v) = 60 :: ([113, 58, 97] ++ 32 :: 120 :: ([109, 108, 110, 115, 58, 113, 61, 34] ++ (E.escape true s ++ 34 :: 32 :: 113 :: ([58, 98, 61, 34] ++ (E.escape true v ++ 34 :: 62 :: 60 :: ([99] ++ 32 :: 120 :: ([109, 108, 110, 115, 61, 34] ++ (E.escape true s ++ 34 :: [62, 60, 47, 99, 62, 60, 47, 113, 58, 97, 62])))))))) := rfl
  have a1 : T.attr (120 :: ([109, 108, 110, 115, 58, 113, 61, 34] ++ (E.escape true s ++ 34 :: 32 :: 113 :: ([58, 98, 61, 34] ++ (E.escape true v ++ 34 :: 62 :: 60 :: ([99] ++ 32 :: 120 :: ([109, 108, 110, 115, 61, 34] ++ (E.escape true s ++ 34 :: [62, 60, 47, 99, 62, 60, 47, 113, 58, 97, 62])))))))) = .ok (([120, 109, 108, 110, 115, 58, 113], s), (32 :: 113 :: ([58, 98, 61, 34] ++ (E.escape true v ++ 34 :: 62 :: 60 :: ([99] ++ 32 :: 120 :: ([109, 108, 110, 115, 61, 34] ++ (E.escape true s ++ 34 :: [62, 60, 47, 99, 62, 60, 47, 113, 58, 97, 62]))))))) := T.attr_escaped (nm := [120, 109, 108, 110, 115, 58, 113]) (by decide +kernel) s (32 :: 113 :: ([58, 98, 61, 34] ++ (E.escape true v ++ 34 :: 62 :: 60 :: ([99] ++ 32 :: 120 :: ([109, 108, 110, 115, 61, 34] ++ (E.escape true s ++ 34 :: [62, 60, 47, 99, 62, 60, 47, 113, 58, 97, 62]))))))
  have a2 : T.attr (113 :: ([58, 98, 61, 34] ++ (E.escape true v ++ 34 :: 62 :: 60 :: ([99] ++ 32 :: 120 :: ([109, 108, 110, 115, 61, 34] ++ (E.escape true s ++ 34 :: [62, 60, 47, 99, 62, 60, 47, 113, 58, 97, 62])))))) = .ok (([113, 58, 98], v), (62 :: 60 :: ([99] ++ 32 :: 120 :: ([109, 108, 110, 115, 61, 34] ++ (E.escape true s ++ 34 :: [62, 60, 47, 99, 62, 60, 47, 113, 58, 97, 62]))))) := T.attr_escaped (nm := [113, 58, 98]) (by decide +kernel) v (62 :: 60 :: ([99] ++ 32 :: 120 :: ([109, 108, 110, 115, 61, 34] ++ (E.escape true s ++ 34 :: [62, 60, 47, 99, 62, 60, 47, 113, 58, 97, 62]))))
  have a3 : T.attr (120 :: ([109, 108, 110, 115, 61, 34] ++ (E.escape true s ++ 34 :: [62, 60, 47, 99, 62, 60, 47, 113, 58, 97, 62]))) = .ok (([120, 109, 108, 110, 115], s), [62, 60, 47, 99, 62, 60, 47, 113, 58, 97, 62]) := T.attr_escaped (nm := [120, 109, 108, 110, 115]) (by decide +kernel) s [62, 60, 47, 99, 62, 60, 47, 113, 58, 97, 62]
  have hn : T.next true (docQ (E.escape true s) (E.escape true v)) = .ok (⟨0, [113, 58, 97], [([120, 109, 108, 110, 115, 58, 113], s), ([113, 58, 98], v)], false, []⟩, 60 :: ([99] ++ 32 :: 120 :: ([109, 108, 110, 115, 61, 34] ++ (E.escape true s ++ 34 :: [62, 60, 47, 99, 62, 60, 47, 113, 58, 97, 62])))) := by
    rw [hd]
    have h0 : ∀ x, T.next true (60 :: ([113, 58, 97] ++ x)) = T.opened ([113, 58, 97] ++ x) := fun x => T.next_open (by decide) (by decide) (by decide)
    rw [h0, T.opened_one (nm := [113, 58, 97]) (by decide +kernel), T.openGo_one (by decide) (by decide) (by decide) a1 rfl, T.openGo_one (by decide) (by decide) (by decide) a2 (by rfl), T.openGo_end]
    rfl
  have hn2 : T.next false (60 :: ([99] ++ 32 :: 120 :: ([109, 108, 110, 115, 61, 34] ++ (E.escape true s ++ 34 :: [62, 60, 47, 99, 62, 60, 47, 113, 58, 97, 62])))) = .ok (⟨0, [99], [([120, 109, 108, 110, 115], s)], false, []⟩, [60, 47, 99, 62, 60, 47, 113, 58, 97, 62]) := by
    have h0 : ∀ x, T.next false (60 :: ([99] ++ x)) = T.opened ([99] ++ x) := fun x => T.next_open (by decide) (by decide) (by decide)
    rw [h0, T.opened_one (nm := [99]) (by decide +kernel), T.openGo_one (by decide) (by decide) (by decide) a3 rfl, T.openGo_end]
    rfl
  rw [T.run_step (by rw [hd]; simp), hn]
  simp only
  rw [T.run_step (by simp), hn2]
  simp only
  rw [show T.run false [60, 47, 99, 62, 60, 47, 113, 58, 97, 62] = .ok [⟨1, [99], [], false, []⟩, ⟨1, [113, 58, 97], [], false, []⟩] from rfl]
  rfl

theorem str_list (l : List UInt8) : (str l).data.toList = l := by simp [str]
theorem bound_plain {p : ByteArray} (h1 : p ≠ P.xmlns) (h2 : p ≠ P.xml) (h3 : p ≠ ByteArray.empty) (v : ByteArray) : P.bound p v = (decide (v ≠ ByteArray.empty) && decide (v ≠ P.xmlS) && decide (v ≠ P.xmlnsS)) := by
  unfold P.bound; rw [if_neg h1, if_neg h2, if_neg h3]
theorem bound_empty (v : ByteArray) : P.bound ByteArray.empty v = (decide (v ≠ P.xmlS) && decide (v ≠ P.xmlnsS)) := by
  unfold P.bound; rw [if_neg (by decide), if_neg (by decide), if_pos rfl]
/-- Two pairs, one that declares and one that does not. -/
theorem declare_two {n1 n2 p m k : ByteArray} {v1 v2 : ByteArray} (h1 : P.split n1 = some (P.xmlns, p)) (h2 : P.split n2 = some (m, k)) (hm : m ≠ P.xmlns) (hm2 : m ≠ ByteArray.empty) : P.declare [⟨n1, v1⟩, ⟨n2, v2⟩] = if P.bound p v1 = true then some ([⟨p, v1⟩], [⟨n2, v2⟩]) else none := by
  have hk : P.key P.xmlns p = p := by unfold P.key; rw [if_neg (by decide)]
  unfold P.declare P.declGo
  rw [h1]
  simp only
  rw [if_neg (by simp), hk]
  split
  · unfold P.declGo
    rw [h2]
    simp only
    rw [if_pos ⟨hm, .inl hm2⟩]
    rfl
  · rfl
theorem resolve_one {p n s v : ByteArray} {attr : Bool} {pre : List Pair} (h1 : P.split s = some (p, n)) (hx : p ≠ P.xml) (hn : p ≠ P.xmlns) (he : attr = true → p ≠ ByteArray.empty) (hl : P.last p pre = some v) (hv : p ≠ ByteArray.empty → v ≠ ByteArray.empty) : P.resolve pre s attr = some (v, n) := by
  unfold P.resolve
  rw [h1]
  simp only
  rw [if_neg hx, if_neg hn, if_neg (fun h => he h.2 h.1), hl]
  simp only
  rw [if_neg (fun h => hv h.1 h.2)]
def bP : ByteArray := ⟨#[112]⟩
def bQ : ByteArray := ⟨#[113]⟩
def bA : ByteArray := ⟨#[97]⟩
def bB : ByteArray := ⟨#[98]⟩
def bC : ByteArray := ⟨#[99]⟩
/-- The tree of both. -/
def treePQ (s v : List UInt8) : Node := .mk 0 (str s) bA [⟨str s, bB, str v⟩] [.mk 0 (str s) bC [] [] ByteArray.empty] ByteArray.empty
theorem last_one (p v : ByteArray) : P.last p [⟨p, v⟩] = some v := by simp [P.last]
theorem elem_first {c : ByteArray} {ca : List UInt8} {n1 n2 : List UInt8} {s v : List UInt8} (h1 : P.split (str n1) = some (P.xmlns, c)) (h2 : P.split (str n2) = some (c, bB)) (h3 : P.split (str ca) = some (c, bA)) (hx : c ≠ P.xml) (hn : c ≠ P.xmlns) (he : c ≠ ByteArray.empty) :
    element ⟨0, ca, [(n1, s), (n2, v)], false, []⟩ [] = if P.bound c (str s) = true then .ok ((str s, bA, [⟨str s, bB, str v⟩]), [⟨c, str s⟩]) else .error 80 := by
  unfold element
  rw [if_neg (by simp)]
  simp only [List.map_cons, List.map_nil]
  rw [declare_two h1 h2 hn he]
  by_cases hb : P.bound c (str s) = true
  · rw [if_pos hb, if_pos hb]
    have hne : str s ≠ ByteArray.empty := by
      rw [bound_plain hn hx he] at hb
      simp only [Bool.and_eq_true, decide_eq_true_eq] at hb
      exact hb.1.1
    simp only [List.nil_append]
    rw [resolve_one h3 hx hn (fun e => by cases e) (last_one c _) (fun _ => hne)]
    simp only
    unfold attrsGo
    rw [resolve_one h2 hx hn (fun _ => he) (last_one c _) (fun _ => hne)]
    simp only [List.any_nil]
    rfl
  · rw [if_neg hb, if_neg hb]
theorem elem_kidP (s : List UInt8) (hne : str s ≠ ByteArray.empty) : element ⟨0, [112, 58, 99], [], true, []⟩ [⟨bP, str s⟩] = .ok ((str s, bC, []), [⟨bP, str s⟩]) := by
  unfold element
  rw [if_neg (by simp)]
  simp only [List.map_nil]
  rw [show P.declare [] = some ([], []) from rfl]
  simp only [List.append_nil]
  rw [resolve_one (p := bP) (n := bC) (by decide +kernel) (by decide) (by decide) (fun e => by cases e) (last_one bP _) (fun _ => hne)]
  rfl
theorem elem_kidQ (s : List UInt8) (hb : P.bound ByteArray.empty (str s) = true) : element ⟨0, [99], [([120, 109, 108, 110, 115], s)], false, []⟩ [⟨bQ, str s⟩] = .ok ((str s, bC, []), [⟨bQ, str s⟩, ⟨ByteArray.empty, str s⟩]) := by
  have h1 : P.split (str [120, 109, 108, 110, 115]) = some (ByteArray.empty, P.xmlns) := by decide +kernel
  have h2 : P.declare [⟨str [120, 109, 108, 110, 115], str s⟩] = some ([⟨ByteArray.empty, str s⟩], []) := by
    have hk : P.key ByteArray.empty P.xmlns = ByteArray.empty := by unfold P.key; rw [if_pos rfl]
    unfold P.declare P.declGo
    rw [h1]
    simp only
    rw [if_neg (by simp), hk, if_pos hb]
    rfl
  unfold element
  rw [if_neg (by simp)]
  simp only [List.map_cons, List.map_nil]
  rw [h2]
  simp only [List.cons_append, List.nil_append]
  rw [resolve_one (p := ByteArray.empty) (n := bC) (v := str s) (by decide +kernel) (by decide) (by decide) (fun e => by cases e) (by simp [P.last]) (fun h => absurd rfl h)]
  rfl
theorem opened_bad {st : St} {t : Tok} {e : Nat} (hd : st.stack.length < 30) (he : element t (scopeOf st.stack) = .error e) : opened st t = .error e := by
  unfold opened
  rw [if_neg (by omega), he]
theorem opened_whole {st : St} {t : Tok} {sp nm : ByteArray} {l : List Att} {sc : List Pair} (hd : st.stack.length < 30) (ha : t.alone = true) (he : element t (scopeOf st.stack) = .ok ((sp, nm, l), sc)) : opened st t = .ok (ended st.stack st.root (.mk 0 sp nm l [] ByteArray.empty)) := by
  unfold opened
  rw [if_neg (by omega), he]
  simp only
  rw [if_pos ha]
theorem opened_goes {st : St} {t : Tok} {sp nm : ByteArray} {l : List Att} {sc : List Pair} (hd : st.stack.length < 30) (ha : t.alone = false) (he : element t (scopeOf st.stack) = .ok ((sp, nm, l), sc)) : opened st t = .ok ⟨⟨t.name, sp, nm, l, [], sc⟩ :: st.stack, st.root⟩ := by
  unfold opened
  rw [if_neg (by omega), he]
  simp only
  rw [if_neg (by rw [ha]; simp)]
theorem step_root {t : Tok} (h0 : t.kind = 0) : step ⟨[], none⟩ t = opened ⟨[], none⟩ t := by
  unfold step; simp only; rw [if_neg (by rintro ⟨e, _⟩; omega), if_neg (by rintro (e | ⟨_, e⟩); omega; cases e), if_neg (by rintro ⟨e, _⟩; omega), if_pos h0]
theorem step_kid {t : Tok} {o : Open} {os : List Open} {r : Option Node} (h0 : t.kind = 0) : step ⟨o :: os, r⟩ t = opened ⟨o :: os, r⟩ t := by
  unfold step; simp only; rw [if_neg (by omega), if_pos h0]
theorem step_shut {t : Tok} {o : Open} {os : List Open} {r : Option Node} (h1 : t.kind = 1) (hn : t.name = o.tag) : step ⟨o :: os, r⟩ t = .ok (ended os r o.node) := by
  unfold step; simp only; rw [if_pos h1, if_pos hn]

/-- UNLIKE PREFIXES FOR THE SAME SPACES MAKE THE SAME TREE: of the tokens .. -/
theorem tree_docP (s v : List UInt8) : tree (toksP s v) = if P.bound bP (str s) = true then .ok (treePQ s v) else .error 80 := by
  have e1 := elem_first (c := bP) (ca := [112, 58, 97]) (n1 := [120, 109, 108, 110, 115, 58, 112]) (n2 := [112, 58, 98]) (s := s) (v := v) (by decide +kernel) (by decide +kernel) (by decide +kernel) (by decide) (by decide) (by decide)
  by_cases hb : P.bound bP (str s) = true
  · rw [if_pos hb] at e1 ⊢
    have hne : str s ≠ ByteArray.empty := by
      rw [bound_plain (by decide) (by decide) (by decide)] at hb
      simp only [Bool.and_eq_true, decide_eq_true_eq] at hb
      exact hb.1.1
    have s1 : step ⟨[], none⟩ ⟨0, [112, 58, 97], [([120, 109, 108, 110, 115, 58, 112], s), ([112, 58, 98], v)], false, []⟩ = .ok ⟨[⟨[112, 58, 97], str s, bA, [⟨str s, bB, str v⟩], [], [⟨bP, str s⟩]⟩], none⟩ :=
      (step_root rfl).trans (opened_goes (st := ⟨[], none⟩) (by simp) rfl e1)
    have s2 : step ⟨[⟨[112, 58, 97], str s, bA, [⟨str s, bB, str v⟩], [], [⟨bP, str s⟩]⟩], none⟩ ⟨0, [112, 58, 99], [], true, []⟩ = .ok ⟨[⟨[112, 58, 97], str s, bA, [⟨str s, bB, str v⟩], [.mk 0 (str s) bC [] [] ByteArray.empty], [⟨bP, str s⟩]⟩], none⟩ :=
      (step_kid rfl).trans (opened_whole (st := ⟨[⟨[112, 58, 97], str s, bA, [⟨str s, bB, str v⟩], [], [⟨bP, str s⟩]⟩], none⟩) (by simp) rfl (elem_kidP s hne))
    have s3 : step ⟨[⟨[112, 58, 97], str s, bA, [⟨str s, bB, str v⟩], [.mk 0 (str s) bC [] [] ByteArray.empty], [⟨bP, str s⟩]⟩], none⟩ ⟨1, [112, 58, 97], [], false, []⟩ = .ok ⟨[], some (treePQ s v)⟩ := step_shut rfl rfl
    unfold tree toksP steps
    rw [s1]
    simp only
    unfold steps
    rw [s2]
    simp only
    unfold steps
    rw [s3]
    rfl
  · rw [if_neg hb] at e1 ⊢
    have s1 : step ⟨[], none⟩ ⟨0, [112, 58, 97], [([120, 109, 108, 110, 115, 58, 112], s), ([112, 58, 98], v)], false, []⟩ = .error 80 :=
      (step_root rfl).trans (opened_bad (st := ⟨[], none⟩) (by simp) e1)
    unfold tree toksP steps
    rw [s1]
theorem tree_docQ (s v : List UInt8) : tree (toksQ s v) = if P.bound bQ (str s) = true then .ok (treePQ s v) else .error 80 := by
  have e1 := elem_first (c := bQ) (ca := [113, 58, 97]) (n1 := [120, 109, 108, 110, 115, 58, 113]) (n2 := [113, 58, 98]) (s := s) (v := v) (by decide +kernel) (by decide +kernel) (by decide +kernel) (by decide) (by decide) (by decide)
  by_cases hb : P.bound bQ (str s) = true
  · rw [if_pos hb] at e1 ⊢
    have hb2 : P.bound ByteArray.empty (str s) = true := by
      rw [bound_plain (by decide) (by decide) (by decide)] at hb
      rw [bound_empty]
      simp only [Bool.and_eq_true, decide_eq_true_eq] at hb ⊢
      exact ⟨hb.1.2, hb.2⟩
    have s1 : step ⟨[], none⟩ ⟨0, [113, 58, 97], [([120, 109, 108, 110, 115, 58, 113], s), ([113, 58, 98], v)], false, []⟩ = .ok ⟨[⟨[113, 58, 97], str s, bA, [⟨str s, bB, str v⟩], [], [⟨bQ, str s⟩]⟩], none⟩ :=
      (step_root rfl).trans (opened_goes (st := ⟨[], none⟩) (by simp) rfl e1)
    have s2 : step ⟨[⟨[113, 58, 97], str s, bA, [⟨str s, bB, str v⟩], [], [⟨bQ, str s⟩]⟩], none⟩ ⟨0, [99], [([120, 109, 108, 110, 115], s)], false, []⟩ = .ok ⟨[⟨[99], str s, bC, [], [], [⟨bQ, str s⟩, ⟨ByteArray.empty, str s⟩]⟩, ⟨[113, 58, 97], str s, bA, [⟨str s, bB, str v⟩], [], [⟨bQ, str s⟩]⟩], none⟩ :=
      (step_kid rfl).trans (opened_goes (st := ⟨[⟨[113, 58, 97], str s, bA, [⟨str s, bB, str v⟩], [], [⟨bQ, str s⟩]⟩], none⟩) (by simp) rfl (elem_kidQ s hb2))
    have s3 : step ⟨[⟨[99], str s, bC, [], [], [⟨bQ, str s⟩, ⟨ByteArray.empty, str s⟩]⟩, ⟨[113, 58, 97], str s, bA, [⟨str s, bB, str v⟩], [], [⟨bQ, str s⟩]⟩], none⟩ ⟨1, [99], [], false, []⟩ = .ok ⟨[⟨[113, 58, 97], str s, bA, [⟨str s, bB, str v⟩], [.mk 0 (str s) bC [] [] ByteArray.empty], [⟨bQ, str s⟩]⟩], none⟩ := step_shut rfl rfl
    have s4 : step ⟨[⟨[113, 58, 97], str s, bA, [⟨str s, bB, str v⟩], [.mk 0 (str s) bC [] [] ByteArray.empty], [⟨bQ, str s⟩]⟩], none⟩ ⟨1, [113, 58, 97], [], false, []⟩ = .ok ⟨[], some (treePQ s v)⟩ := step_shut rfl rfl
    unfold tree toksQ steps
    rw [s1]
    simp only
    unfold steps
    rw [s2]
    simp only
    unfold steps
    rw [s3]
    simp only
    unfold steps
    rw [s4]
    rfl
  · rw [if_neg hb] at e1 ⊢
    have s1 : step ⟨[], none⟩ ⟨0, [113, 58, 97], [([120, 109, 108, 110, 115, 58, 113], s), ([113, 58, 98], v)], false, []⟩ = .error 80 :=
      (step_root rfl).trans (opened_bad (st := ⟨[], none⟩) (by simp) e1)
    unfold tree toksQ steps
    rw [s1]
/-- .. AND OF THE TEXTS. -/
theorem parse_unlike (s v : List UInt8) (hs : s.length ≤ 300) (hv : v.length ≤ 300) : parse (docP (E.escape true s) (E.escape true v)) = parse (docQ (E.escape true s) (E.escape true v)) := by
  have l1 := E.escape_six s
  have l2 := E.escape_six v
  by_cases hc : (G.check (E.escape true s) && G.check (E.escape true v)) = true
  · have t1 : T.tokens (docP (E.escape true s) (E.escape true v)) = .ok (toksP s v) := by
      rw [T.tokens_mk (by unfold docP; simp only [List.length_append, List.length_cons, List.length_nil]; omega) (by rw [check_docP, hc]), lines_docP (fun b h => (E.escape_bytes true s b h).2.2.1) (fun b h => (E.escape_bytes true v b h).2.2.1), run_docP]
    have t2 : T.tokens (docQ (E.escape true s) (E.escape true v)) = .ok (toksQ s v) := by
      rw [T.tokens_mk (by unfold docQ; simp only [List.length_append, List.length_cons, List.length_nil]; omega) (by rw [check_docQ, hc]), lines_docQ (fun b h => (E.escape_bytes true s b h).2.2.1) (fun b h => (E.escape_bytes true v b h).2.2.1), run_docQ]
    unfold parse
    rw [t1, t2]
    simp only
    rw [tree_docP, tree_docQ, bound_plain (p := bP) (by decide) (by decide) (by decide), bound_plain (p := bQ) (by decide) (by decide) (by decide)]
  · have c1 : G.check (docP (E.escape true s) (E.escape true v)) = false := by rw [check_docP]; simpa using hc
    have c2 : G.check (docQ (E.escape true s) (E.escape true v)) = false := by rw [check_docQ]; simpa using hc
    unfold parse T.tokens
    rw [if_neg (by unfold docP; simp only [List.length_append, List.length_cons, List.length_nil]; omega), if_pos c1, if_neg (by unfold docQ; simp only [List.length_append, List.length_cons, List.length_nil]; omega), if_pos c2]
end Gv
end Go.Proofs.YtcoeijjmahneeaaGreatDoor
