/-
  Tokens in plain Lean: the theorems of the layer.
-/
import Derived.Test.YtmeliljioagipaaGreatDoorToken4
namespace Go.Proofs.YtmeliljioagipaaGreatDoor
namespace T

theorem tokens_ok {l : List UInt8} {a : List Tok} (h : tokens l = .ok a) : l.length ≤ 100000 ∧ G.check l = true ∧ run true (G.lines l) = .ok a := by
  unfold tokens at h
  split at h
  · cases h
  · split at h
    · cases h
    · rename_i h1 h2
      exact ⟨by omega, by simpa using h2, h⟩
theorem tokens_mk {l : List UInt8} (h1 : l.length ≤ 100000) (h2 : G.check l = true) : tokens l = run true (G.lines l) := by
  unfold tokens
  rw [if_neg (by omega), if_neg (by rw [h2]; decide)]
  rfl

theorem first_same {l : List UInt8} (h : declares l = false) : next true l = next false l := by
  unfold next
  rw [h]
  rfl
theorem run_first {l : List UInt8} (h : declares l = false) : run true l = run false l := by
  by_cases hl : l = []
  · subst hl; rfl
  · rw [run_step hl, run_step hl, first_same h]
theorem declares_kind {l r : List UInt8} {t : Tok} (hd : declares l = true) (h : next true l = .ok (t, r)) : t.kind = 5 := by
  unfold next at h
  rw [if_pos (by rw [hd]; rfl)] at h
  rw [(decl_append h []).2.2]
theorem next_head {first : Bool} {l r : List UInt8} {t : Tok} (hl : l ≠ []) (h : next first l = .ok (t, r)) (hk : t.kind ≠ 2) : l.head? = some 60 := by
  cases l with
  | nil => exact absurd rfl hl
  | cons c y =>
    by_cases hc : c = 60
    · subst hc; rfl
    · exfalso
      have hc' : (60 : UInt8) ≠ c := Ne.symm hc
      have h2 : next first (c :: y) = text (c :: y) := by
        simp [next, declares, begins, List.isPrefixOf, hc']
      rw [h2] at h
      exact hk (text_append h [] (.inr (.inl rfl))).2.1
theorem lines_head {t : List UInt8} (h : (G.lines t).head? = some 60) : t.head? = some 60 := by
  cases t with
  | nil => cases h
  | cons c y =>
    by_cases hc : c = 13
    · subst hc
      exfalso
      by_cases hy : y.head? = some 10
      · cases y with
        | nil => cases hy
        | cons d z =>
          simp at hy
          subst hy
          rw [G.lines_crlf] at h
          cases h
      · rw [G.lines_cr y hy] at h
        cases h
    · rw [G.lines_cons c y hc] at h
      exact h
theorem lines_two {s t : List UInt8} (h : t.head? = some 60) : G.lines (s ++ t) = G.lines s ++ G.lines t :=
  G.lines_append s t (by rw [h]; simp)
theorem run_cons {first : Bool} {l : List UInt8} {x : Tok} {y : List Tok} (h : run first l = .ok (x :: y)) : l ≠ [] ∧ ∃ r, next first l = .ok (x, r) := by
  by_cases hl : l = []
  · subst hl; cases h
  · refine ⟨hl, ?_⟩
    rw [run_step hl] at h
    cases hn : next first l with
    | error e => rw [hn] at h; cases h
    | ok z =>
      obtain ⟨t, r⟩ := z
      rw [hn] at h
      simp only at h
      cases hr : run false r with
      | error e => rw [hr] at h; cases h
      | ok ts => rw [hr] at h; cases h; exact ⟨r, rfl⟩
/-- what has no declaration has the same parts further on. -/
theorem run_false {l : List UInt8} {a : List Tok} (h : run true l = .ok a) (hd : ∀ x y, a = x :: y → x.kind ≠ 5) : run false l = .ok a := by
  cases hdl : declares l with
  | false => rw [← run_first hdl]; exact h
  | true =>
    exfalso
    cases a with
    | nil =>
      by_cases hl : l = []
      · subst hl; cases hdl
      · rw [run_step hl] at h
        cases hn : next true l with
        | error e => rw [hn] at h; cases h
        | ok z =>
          rw [hn] at h
          simp only at h
          cases hr : run false z.2 with
          | error e => rw [hr] at h; cases h
          | ok ts => rw [hr] at h; cases h
    | cons x y =>
      obtain ⟨_, r, hn⟩ := run_cons h
      exact hd x y rfl (declares_kind hdl hn)

/-- TOKENS OF TWO TEXTS are those of each. -/
theorem tokens_two {s t : List UInt8} {a b y : List Tok} {x : Tok} (hs : tokens s = .ok a) (ht : tokens t = .ok b) (ha : a ≠ []) (hb : b = x :: y) (h2 : x.kind ≠ 2) (h5 : x.kind ≠ 5) (hlen : s.length + t.length ≤ 100000) : tokens (s ++ t) = .ok (a ++ b) := by
  obtain ⟨s1, s2, s3⟩ := tokens_ok hs
  obtain ⟨t1, t2, t3⟩ := tokens_ok ht
  subst hb
  obtain ⟨tn, r, tx⟩ := run_cons t3
  have hh := next_head tn tx h2
  have hh2 := lines_head hh
  rw [tokens_mk (by rw [List.length_append]; omega) (G.check_append s2 t2), lines_two hh2]
  have hne : G.lines s ≠ [] := by
    intro e
    rw [e] at s3
    cases s3
    exact ha rfl
  rw [run_append hh _ true (G.lines s) a (Nat.le_refl _) hne s3, run_false t3 (fun x' y' e => by cases e; exact h5)]

/-! ### tags put behind -/
def tags : List UInt8 := [60, 33, 45, 45, 32, 45, 32, 45, 45, 62, 60, 63, 112, 32, 32, 113, 32, 63, 62]
theorem check_tags : G.check tags = true := by decide +kernel
theorem lines_tags : G.lines tags = tags := by decide +kernel
theorem run_tags (first : Bool) : run first tags = .ok [⟨3, [], [], false, [32, 45, 32]⟩, ⟨4, [112], [], false, [113, 32]⟩] := by cases first <;> rfl
theorem tokens_tags {s : List UInt8} {a : List Tok} (hs : tokens s = .ok a) (hlen : s.length + 19 ≤ 100000) : tokens (s ++ tags) = .ok (a ++ [⟨3, [], [], false, [32, 45, 32]⟩, ⟨4, [112], [], false, [113, 32]⟩]) := by
  obtain ⟨s1, s2, s3⟩ := tokens_ok hs
  rw [tokens_mk (by rw [List.length_append]; exact hlen) (G.check_append s2 check_tags), lines_two rfl, lines_tags]
  by_cases hne : G.lines s = []
  · rw [hne] at s3 ⊢
    cases s3
    exact run_tags true
  · rw [run_append rfl _ true (G.lines s) a (Nat.le_refl _) hne s3, run_tags]

/-! ### a declaration -/
def decl10 : List UInt8 := [60, 63, 120, 109, 108, 32, 118, 101, 114, 115, 105, 111, 110, 61, 39, 49, 46, 48, 39, 32, 101, 110, 99, 111, 100, 105, 110, 103, 61, 39, 117, 116, 102, 45, 56, 39, 63, 62]
def late : List UInt8 := [60, 97, 47, 62, 60, 63, 120, 109, 108, 32, 118, 101, 114, 115, 105, 111, 110, 61, 39, 49, 46, 48, 39, 63, 62]
theorem check_decl : G.check decl10 = true := by decide +kernel
theorem lines_decl : G.lines decl10 = decl10 := by decide +kernel
theorem decl_decl : decl (decl10.drop 5) = .ok (⟨5, [], [], false, []⟩, []) := by rfl
theorem check_late : G.check late = true := by decide +kernel
theorem lines_late : G.lines late = late := by decide +kernel
theorem run_late (first : Bool) : run first late = .error 70 := by cases first <;> rfl
theorem next_decl (x : List UInt8) : next true (decl10 ++ x) = .ok (⟨5, [], [], false, []⟩, x) := by
  have hd : declares (decl10 ++ x) = true := by rfl
  unfold next
  rw [if_pos (by rw [hd]; rfl), List.drop_append_of_le_length (by decide), (decl_append decl_decl x).1]
  rfl
theorem tokens_declares {s : List UInt8} {a : List Tok} (hs : tokens s = .ok a) (ha : ∀ x y, a = x :: y → x.kind ≠ 5) (hlen : s.length + 100 ≤ 100000) :
    tokens (decl10 ++ s) = .ok (⟨5, [], [], false, []⟩ :: a) ∧ tokens (s ++ late) = .error 70 := by
  obtain ⟨s1, s2, s3⟩ := tokens_ok hs
  constructor
  · rw [tokens_mk (by rw [List.length_append, show decl10.length = 38 from rfl]; omega) (G.check_append check_decl s2), G.lines_append decl10 s (by rw [show decl10.getLast? = some 62 from rfl]; simp), lines_decl]
    rw [run_step (by simp [decl10]), next_decl]
    simp only []
    rw [run_false s3 ha]
  · rw [tokens_mk (by rw [List.length_append, show late.length = 25 from rfl]; omega) (G.check_append s2 check_late), lines_two rfl, lines_late]
    by_cases hne : G.lines s = []
    · rw [hne]
      exact run_late true
    · rw [run_append rfl _ true (G.lines s) a (Nat.le_refl _) hne s3, run_late]
end T
end Go.Proofs.YtmeliljioagipaaGreatDoor
