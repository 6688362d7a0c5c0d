/-
  Tokens in plain Lean: tags, texts, the declaration go on; so do all tokens of a text: the theorems of the layer.
-/
import Derived.Test.YtmeliljioagipaaGreatDoorToken2
namespace Go.Proofs.YtmeliljioagipaaGreatDoor
namespace T

theorem openGo_append (u : List UInt8) : ∀ (f g : Nat) (n : List UInt8) (ps : List (List UInt8 × List UInt8)) (l : List UInt8) (t : Tok) (r : List UInt8), f ≤ g → openGo f n ps l = .ok (t, r) → openGo g n ps (l ++ u) = .ok (t, r ++ u) ∧ r.length < l.length ∧ t.kind = 0
  | 0, _, _, _, _, _, _, _, h => by cases h
  | f + 1, 0, _, _, _, _, _, hg, _ => by omega
  | f + 1, g + 1, n, ps, l, t, r, hg, h => by
    unfold openGo at h ⊢
    split at h
    · rename_i r' hs
      cases h
      rw [skip_append (skip_ne hs), hs]
      have h2 := skip_le l
      rw [hs, List.length_cons] at h2
      exact ⟨rfl, by omega, rfl⟩
    · rename_i r' hs
      cases h
      rw [skip_append (skip_ne hs), hs]
      have h2 := skip_le l
      rw [hs, List.length_cons, List.length_cons] at h2
      exact ⟨rfl, by omega, rfl⟩
    · rename_i next h1 h2
      split at h
      · cases h
      · rename_i hlen
        split at h
        · cases h
        · rename_i a more ha
          split at h
          · cases h
          · rename_i hany
            have hne : skip l ≠ [] := by intro e; rw [e] at ha; cases ha
            obtain ⟨a1, a2⟩ := attr_append ha u
            obtain ⟨o1, o2, o3⟩ := openGo_append u f g n (ps ++ [a]) more t r (by omega) h
            have hsl := skip_le l
            rw [skip_append hne]
            have e1 : ∀ x, skip l ++ u = 62 :: x → False := fun x e => by
              cases hs : skip l with
              | nil => exact hne hs
              | cons b y => rw [hs] at e; cases e; exact h1 y hs
            have e2 : ∀ x, skip l ++ u = 47 :: 62 :: x → False := fun x e => by
              cases hs : skip l with
              | nil => exact hne hs
              | cons b y =>
                rw [hs, List.cons_append, List.cons.injEq] at e
                obtain ⟨rfl, e⟩ := e
                cases y with
                | nil =>
                  rw [hs] at ha
                  exact absurd ha (by rw [show attr [47] = .error 70 by rfl]; simp)
                | cons c z =>
                  rw [List.cons_append, List.cons.injEq] at e
                  obtain ⟨rfl, _⟩ := e
                  exact h2 z hs
            split
            · rename_i x e; exact (e1 x e).elim
            · rename_i x e; exact (e2 x e).elim
            · rw [if_neg (by rw [List.length_append, List.length_append]; omega), a1]
              simp only []
              rw [if_neg hany]
              exact ⟨o1, by omega, o3⟩

theorem openGo_head : ∀ (f : Nat) (n : List UInt8) (ps : List (List UInt8 × List UInt8)) (l : List UInt8) (t : Tok) (r : List UInt8), openGo f n ps l = .ok (t, r) → ∃ c x, l = c :: x ∧ c.toNat < 128
  | 0, _, _, _, _, _, h => by cases h
  | f + 1, n, ps, l, t, r, h => by
    unfold openGo at h
    split at h
    · rename_i r' hs; exact skip_ascii hs (by decide)
    · rename_i r' hs; exact skip_ascii hs (by decide)
    · split at h
      · cases h
      · rename_i hlen
        cases l with
        | nil => exact absurd rfl hlen
        | cons b x =>
          refine ⟨b, x, rfl, ?_⟩
          rw [skip_head] at hlen
          cases hs : G.space (b.toNat : Int) with
          | true => exact space_ascii hs
          | false => rw [hs] at hlen; exact absurd rfl hlen

theorem opened_append {l r : List UInt8} {t : Tok} (h : opened l = .ok (t, r)) (u : List UInt8) : opened (l ++ u) = .ok (t, r ++ u) ∧ r.length < l.length ∧ t.kind = 0 := by
  unfold opened at h
  split at h
  · cases h
  · rename_i n rest hn
    obtain ⟨c, x, hc, hcl⟩ := openGo_head _ _ _ _ _ _ h
    have hn2 := nameAt_append hn hc hcl u
    obtain ⟨o1, o2, o3⟩ := openGo_append u _ ((rest ++ u).length + 1) _ _ _ _ _ (by simp) h
    have h1 := nameAt_le hn
    unfold opened
    rw [hn2]
    exact ⟨o1, by omega, o3⟩

theorem shut_append {l r : List UInt8} {t : Tok} (h : shut l = .ok (t, r)) (u : List UInt8) : shut (l ++ u) = .ok (t, r ++ u) ∧ r.length < l.length ∧ t.kind = 1 := by
  unfold shut at h
  split at h
  · cases h
  · rename_i n rest hn
    split at h
    · rename_i r' hs
      cases h
      obtain ⟨c, x, hc, hcl⟩ := skip_ascii hs (by decide)
      have hn2 := nameAt_append hn hc hcl u
      unfold shut
      rw [hn2]
      simp only []
      rw [skip_append (skip_ne hs), hs, List.cons_append]
      have h1 := nameAt_le hn
      have h2 := skip_le rest
      rw [hs, List.length_cons] at h2
      exact ⟨rfl, by omega, by first | rfl | trivial⟩
    · cases h

theorem takeWhile_append_ne {l : List UInt8} (h : l.dropWhile (· ≠ (60 : UInt8)) ≠ []) (u : List UInt8) : (l ++ u).takeWhile (· ≠ (60 : UInt8)) = l.takeWhile (· ≠ 60) ∧ (l ++ u).dropWhile (· ≠ (60 : UInt8)) = l.dropWhile (· ≠ 60) ++ u := by
  induction l with
  | nil => exact absurd rfl h
  | cons b t ih =>
    by_cases hb : b = 60
    · subst hb; simp
    · rw [List.dropWhile_cons_of_pos (by simpa using hb)] at h
      obtain ⟨i1, i2⟩ := ih h
      rw [List.cons_append, List.takeWhile_cons_of_pos (by simpa using hb), List.takeWhile_cons_of_pos (by simpa using hb), List.dropWhile_cons_of_pos (by simpa using hb), List.dropWhile_cons_of_pos (by simpa using hb), i1, i2]
      exact ⟨rfl, rfl⟩
theorem takeWhile_append_stop {l : List UInt8} (h : l.dropWhile (· ≠ (60 : UInt8)) = []) {u : List UInt8} (hu : u = [] ∨ u.head? = some 60) : (l ++ u).takeWhile (· ≠ (60 : UInt8)) = l.takeWhile (· ≠ 60) ∧ (l ++ u).dropWhile (· ≠ (60 : UInt8)) = u := by
  induction l with
  | nil =>
    rcases hu with rfl | hu
    · exact ⟨rfl, rfl⟩
    · cases u with
      | nil => cases hu
      | cons c x =>
        simp at hu
        subst hu
        simp
  | cons b t ih =>
    by_cases hb : b = 60
    · subst hb; simp at h
    · rw [List.dropWhile_cons_of_pos (by simpa using hb)] at h
      obtain ⟨i1, i2⟩ := ih h
      rw [List.cons_append, List.takeWhile_cons_of_pos (by simpa using hb), List.takeWhile_cons_of_pos (by simpa using hb), List.dropWhile_cons_of_pos (by simpa using hb), i1, i2]
      exact ⟨rfl, rfl⟩

theorem text_append {l r : List UInt8} {t : Tok} (h : text l = .ok (t, r)) (u : List UInt8) (hu : r ≠ [] ∨ u = [] ∨ u.head? = some 60) : text (l ++ u) = .ok (t, r ++ u) ∧ t.kind = 2 ∧ r = l.dropWhile (· ≠ 60) := by
  unfold text at h
  split at h
  · cases h
  · rename_i hc
    split at h
    · cases h
    · rename_i d hd
      cases h
      unfold text
      by_cases hr : l.dropWhile (· ≠ (60 : UInt8)) = []
      · obtain ⟨e1, e2⟩ := takeWhile_append_stop hr (hu.resolve_left (fun x => x hr))
        rw [e1, e2, if_neg hc, hd, hr]
        exact ⟨rfl, rfl, rfl⟩
      · obtain ⟨e1, e2⟩ := takeWhile_append_ne hr u
        rw [e1, e2, if_neg hc, hd]
        exact ⟨rfl, rfl, rfl⟩

theorem word_append {l n a r : List UInt8} (h : word l n = some (a, r)) (hn : n ≠ []) (u : List UInt8) : word (l ++ u) n = some (a, r ++ u) ∧ r.length < l.length := by
  unfold word at h
  split at h
  · cases h
  · rename_i hlen
    split at h
    · rename_i hb
      split at h
      · rename_i t ht
        have hne : skip l ≠ [] := by
          intro e
          rw [e] at hb
          obtain ⟨x, hx⟩ := begins_iff.1 hb
          cases n with
          | nil => exact hn rfl
          | cons => cases hx
        obtain ⟨q1, q2⟩ := quoted_skip h u
        have h1 := skip_le l
        have h2 := skip_le ((skip l).drop n.length)
        rw [ht, List.length_cons, List.length_drop] at h2
        unfold word
        rw [skip_append hne, if_neg (by rw [List.length_append, List.length_append]; omega), if_pos (begins_append hb u), begins_drop hb u, skip_append (skip_ne ht), ht, List.cons_append]
        simp only []
        exact ⟨q1, by omega⟩
      · cases h
    · cases h
/-- where the declaration ends no word begins. -/
theorem word_end {l : List UInt8} {r : List UInt8} (h : skip l = 63 :: r) {c : UInt8} {n : List UInt8} (hc : c ≠ 63) : word l (c :: n) = none := by
  unfold word
  split
  · rfl
  · rw [if_neg]
    rw [h]
    intro e
    obtain ⟨x, hx⟩ := begins_iff.1 e
    cases hx
    exact hc rfl
theorem declEnd_append {l r : List UInt8} {t : Tok} (h : declEnd l = .ok (t, r)) (u : List UInt8) : declEnd (l ++ u) = .ok (t, r ++ u) ∧ r.length < l.length ∧ t = ⟨5, [], [], false, []⟩ ∧ ∃ y, skip l = 63 :: y := by
  unfold declEnd at h
  split at h
  · rename_i r' hs
    cases h
    unfold declEnd
    rw [skip_append (skip_ne hs), hs]
    have h2 := skip_le l
    rw [hs, List.length_cons, List.length_cons] at h2
    exact ⟨rfl, by omega, rfl, _, rfl⟩
  · cases h
theorem standalone_append {l m r : List UInt8} {t : Tok} (h : standalone l = some m) (he : declEnd m = .ok (t, r)) (u : List UInt8) : standalone (l ++ u) = some (m ++ u) ∧ m.length ≤ l.length := by
  unfold standalone at h
  split at h
  · rename_i hw
    cases h
    obtain ⟨_, _, _, y, hy⟩ := declEnd_append he u
    unfold standalone
    rw [word_end (r := y ++ u) (by rw [skip_append (skip_ne hy), hy]; rfl) (by decide)]
    exact ⟨rfl, Nat.le_refl _⟩
  · rename_i v more hw
    split at h
    · rename_i hv
      cases h
      obtain ⟨w1, w2⟩ := word_append hw (by decide) u
      unfold standalone
      rw [w1]
      simp only []
      rw [if_pos hv]
      exact ⟨rfl, by omega⟩
    · cases h
end T
end Go.Proofs.YtmeliljioagipaaGreatDoor
