/-
  Tokens in plain Lean: comments, characters, instructions, tags, the declaration; each goes on being one.
-/
import Derived.Test.YtmeliljioagipaaGreatDoorToken
namespace Go.Proofs.YtmeliljioagipaaGreatDoor
namespace T

/-- A part of a document, and what stands behind it; or an error's number. -/
abbrev Got := Except Nat (Tok × List UInt8)

def comment (l : List UInt8) : Got :=
  match cutAt [45, 45] l with
  | some (a, 62 :: r) => .ok (⟨3, [], [], false, a⟩, r)
  | _ => .error 70
def cdata (l : List UInt8) : Got :=
  match cutAt [93, 93, 62] l with
  | some (a, r) => .ok (⟨2, [], [], true, a⟩, r)
  | none => .error 70
def spaced (a : List UInt8) : Bool := match a with | [] => true | b :: _ => G.space (b.toNat : Int)
def pi (l : List UInt8) : Got :=
  match nameAt l with
  | none => .error 70
  | some (n, rest) =>
    if n.map lower = [120, 109, 108] then .error 70
    else match cutAt [63, 62] rest with
      | none => .error 70
      | some (a, r) => if spaced a then .ok (⟨4, n, [], false, skip a⟩, r) else .error 70
def quoted (l : List UInt8) : Option (List UInt8 × List UInt8) :=
  match l with
  | [] => none
  | q :: t => if q = 34 ∨ q = 39 then cutAt [q] t else none
def attr (l : List UInt8) : Except Nat ((List UInt8 × List UInt8) × List UInt8) :=
  match nameAt l with
  | none => .error 70
  | some (n, rest) =>
    match skip rest with
    | 61 :: t =>
      match quoted (skip t) with
      | none => .error 70
      | some (q, r) => if 60 ∈ q then .error 70 else match E.expand true q with | none => .error 60 | some v => .ok ((n, v), r)
    | _ => .error 70
def openGo : Nat → List UInt8 → List (List UInt8 × List UInt8) → List UInt8 → Got
  | 0, _, _, _ => .error 70
  | f + 1, n, ps, rest =>
    match skip rest with
    | 62 :: r => .ok (⟨0, n, ps, false, []⟩, r)
    | 47 :: 62 :: r => .ok (⟨0, n, ps, true, []⟩, r)
    | next =>
      if next.length = rest.length then .error 70
      else match attr next with
        | .error e => .error e
        | .ok (a, more) => if ps.any (fun x => decide (x.1 = a.1)) then .error 71 else openGo f n (ps ++ [a]) more
def opened (l : List UInt8) : Got :=
  match nameAt l with
  | none => .error 70
  | some (n, rest) => openGo (rest.length + 1) n [] rest
def shut (l : List UInt8) : Got :=
  match nameAt l with
  | none => .error 70
  | some (n, rest) => match skip rest with | 62 :: r => .ok (⟨1, n, [], false, []⟩, r) | _ => .error 70
def text (l : List UInt8) : Got :=
  if (cutAt [93, 93, 62] (l.takeWhile (· ≠ 60))).isSome then .error 70
  else match E.expand false (l.takeWhile (· ≠ 60)) with
    | none => .error 60
    | some d => .ok (⟨2, [], [], decide (38 ∈ l.takeWhile (· ≠ 60)), d⟩, l.dropWhile (· ≠ 60))
def word (l name : List UInt8) : Option (List UInt8 × List UInt8) :=
  if (skip l).length = l.length then none
  else if begins name (skip l) then
    match skip ((skip l).drop name.length) with
    | 61 :: t => quoted (skip t)
    | _ => none
  else none
def version (l : List UInt8) : Bool := begins [49, 46] l && decide (3 ≤ l.length) && (l.drop 2).all (fun b => decide (48 ≤ b.toNat ∧ b.toNat ≤ 57))
def encoding (l : List UInt8) : Option (List UInt8) :=
  match word l [101, 110, 99, 111, 100, 105, 110, 103] with
  | none => some l
  | some (v, more) => if v.map lower = [117, 116, 102, 45, 56] then some more else none
def standalone (l : List UInt8) : Option (List UInt8) :=
  match word l [115, 116, 97, 110, 100, 97, 108, 111, 110, 101] with
  | none => some l
  | some (v, more) => if v = [121, 101, 115] ∨ v = [110, 111] then some more else none
def declEnd (l : List UInt8) : Got := match skip l with | 63 :: 62 :: r => .ok (⟨5, [], [], false, []⟩, r) | _ => .error 70
def decl (l : List UInt8) : Got :=
  match word l [118, 101, 114, 115, 105, 111, 110] with
  | none => .error 70
  | some (v, rest) =>
    if version v then
      match encoding rest with
      | none => .error 70
      | some rest => match standalone rest with | none => .error 70 | some rest => declEnd rest
    else .error 70

/-- Is it the declaration's head? -/
def declares (l : List UInt8) : Bool := begins [60, 63, 120, 109, 108] l && (match l.drop 5 with | [] => false | b :: _ => G.space (b.toNat : Int))
def next (first : Bool) (l : List UInt8) : Got :=
  if first && declares l then decl (l.drop 5)
  else if begins [60, 33, 45, 45] l then comment (l.drop 4)
  else if begins [60, 33, 91, 67, 68, 65, 84, 65, 91] l then cdata (l.drop 9)
  else if begins [60, 33, 68, 79, 67, 84, 89, 80, 69] l then .error 72
  else if begins [60, 33] l then .error 70
  else if begins [60, 63] l then pi (l.drop 2)
  else if begins [60, 47] l then shut (l.drop 2)
  else if begins [60] l then opened (l.drop 1)
  else text l

def go : Nat → Bool → List UInt8 → Except Nat (List Tok)
  | _, _, [] => .ok []
  | 0, _, _ :: _ => .error 70
  | f + 1, first, l => match next first l with | .error e => .error e | .ok (t, r) => match go f false r with | .error e => .error e | .ok ts => .ok (t :: ts)

/-- THE TOKENS of a text. -/
def tokens (l : List UInt8) : Except Nat (List Tok) :=
  if 100000 < l.length then .error 2 else if G.check l = false then .error 50 else go (G.lines l).length true (G.lines l)

/-! ### each goes on -/
theorem comment_append {l r : List UInt8} {t : Tok} (h : comment l = .ok (t, r)) (u : List UInt8) : comment (l ++ u) = .ok (t, r ++ u) ∧ r.length < l.length ∧ t.kind = 3 := by
  unfold comment at h
  split at h
  · rename_i a r' hc
    cases h
    unfold comment
    rw [cutAt_append u hc]
    have := congrArg List.length (cutAt_eq hc)
    simp at this
    exact ⟨rfl, by omega, rfl⟩
  · cases h
theorem cdata_append {l r : List UInt8} {t : Tok} (h : cdata l = .ok (t, r)) (u : List UInt8) : cdata (l ++ u) = .ok (t, r ++ u) ∧ r.length < l.length ∧ t.kind = 2 := by
  unfold cdata at h
  split at h
  · rename_i a r' hc
    cases h
    unfold cdata
    rw [cutAt_append u hc]
    have := congrArg List.length (cutAt_eq hc)
    simp at this
    exact ⟨rfl, by omega, rfl⟩
  · cases h
theorem spaced_head {a r : List UInt8} (h : spaced a = true) : ∃ c t, a ++ [63, 62] ++ r = c :: t ∧ c.toNat < 128 := by
  cases a with
  | nil => exact ⟨63, 62 :: r, rfl, by decide⟩
  | cons b a => exact ⟨b, a ++ [63, 62] ++ r, by simp, space_ascii h⟩
theorem pi_append {l r : List UInt8} {t : Tok} (h : pi l = .ok (t, r)) (u : List UInt8) : pi (l ++ u) = .ok (t, r ++ u) ∧ r.length < l.length ∧ t.kind = 4 := by
  unfold pi at h
  split at h
  · cases h
  · rename_i n rest hn
    split at h
    · cases h
    · rename_i hx
      split at h
      · cases h
      · rename_i a r' hc
        split at h
        · rename_i hs
          cases h
          have he := cutAt_eq hc
          obtain ⟨c, t, ht, hcl⟩ := spaced_head (r := r) hs
          have hn2 := nameAt_append hn (he.trans ht) hcl u
          unfold pi
          rw [hn2]
          simp only []
          rw [if_neg hx, cutAt_append u hc]
          simp only []
          rw [if_pos hs]
          have h1 := congrArg List.length he
          have h2 := nameAt_le hn
          simp at h1
          exact ⟨rfl, by omega, by first | rfl | trivial⟩
        · cases h
theorem quoted_append {l a r : List UInt8} (h : quoted l = some (a, r)) (u : List UInt8) : quoted (l ++ u) = some (a, r ++ u) ∧ r.length < l.length := by
  cases l with
  | nil => cases h
  | cons q t =>
    unfold quoted at h
    simp only at h
    split at h
    · rename_i hq
      rw [List.cons_append]
      unfold quoted
      simp only
      rw [if_pos hq, cutAt_append u h]
      have := congrArg List.length (cutAt_eq h)
      simp at this
      exact ⟨rfl, by rw [List.length_cons]; omega⟩
    · cases h
theorem skip_ne {l : List UInt8} {c : UInt8} {t : List UInt8} (h : skip l = c :: t) : skip l ≠ [] := by rw [h]; simp
theorem quoted_skip {l a r : List UInt8} (h : quoted (skip l) = some (a, r)) (u : List UInt8) : quoted (skip (l ++ u)) = some (a, r ++ u) ∧ r.length < l.length := by
  have hne : skip l ≠ [] := by intro e; rw [e] at h; cases h
  have := quoted_append h u
  have h2 := skip_le l
  rw [skip_append hne]
  exact ⟨this.1, by omega⟩
theorem attr_append {l r : List UInt8} {a : List UInt8 × List UInt8} (h : attr l = .ok (a, r)) (u : List UInt8) : attr (l ++ u) = .ok (a, r ++ u) ∧ r.length < l.length := by
  unfold attr at h
  split at h
  · cases h
  · rename_i n rest hn
    split at h
    · rename_i t ht
      split at h
      · cases h
      · rename_i q r' hq
        split at h
        · cases h
        · rename_i h60
          split at h
          · cases h
          · rename_i v hv
            cases h
            obtain ⟨d, x, hd, hdl⟩ := skip_ascii ht (by decide)
            have hn2 := nameAt_append hn hd hdl u
            obtain ⟨q1, q2⟩ := quoted_skip hq u
            unfold attr
            rw [hn2]
            simp only []
            rw [skip_append (skip_ne ht), ht, List.cons_append]
            simp only []
            rw [q1]
            simp only []
            rw [if_neg h60, hv]
            have h1 := nameAt_le hn
            have h2 := skip_le rest
            rw [ht, List.length_cons] at h2
            exact ⟨rfl, by omega⟩
    · cases h
end T
end Go.Proofs.YtmeliljioagipaaGreatDoor
