/-
  Tokens in plain Lean once more, as the program goes through them.
  What the reader's words of tokens come to: given, comment, end, instruction, the characters of a section.
  What the reader's words of comments, end-tags and instructions come to.
-/
import Derived.Test.YtcjlhdmekhifaaaGreatDoorD03
import Derived.Lib.Fold
import Derived.Test.YtcjlhdmekhifaaaGreatDoorD34
import Derived.Maps.Range
namespace Go.Proofs.YtcjlhdmekhifaaaGreatDoor
namespace T

/-- What stands behind a name, an = and a quote, up to the next such quote. -/
def given (l : List UInt8) : Option (List UInt8 × List UInt8) := match skip l with | 61 :: t => quoted (skip t) | _ => none

theorem attr_given (l : List UInt8) : attr l = match nameAt l with
    | none => .error 70
    | some (n, rest) => match given rest with
      | none => .error 70
      | some (q, r) => if 60 ∈ q then .error 70 else match E.expand true q with | none => .error 60 | some v => .ok ((n, v), r) := by
  unfold attr
  cases hn : nameAt l with
  | none => rfl
  | some x =>
    obtain ⟨n, rest⟩ := x
    simp only
    by_cases hs : ∃ t, skip rest = 61 :: t
    · obtain ⟨t, ht⟩ := hs
      unfold given
      rw [ht]
      simp only
      cases quoted (skip t) <;> rfl
    · have hg : given rest = none := by
        unfold given
        split
        · rename_i t ht; exact absurd ⟨t, ht⟩ hs
        · rfl
      rw [hg]
      split
      · rename_i t ht; exact absurd ⟨t, ht⟩ hs
      · rfl
theorem word_given (l name : List UInt8) : word l name = if (skip l).length = l.length then none else if begins name (skip l) then given ((skip l).drop name.length) else none := rfl

theorem given_some {l v r : List UInt8} (h : given l = some (v, r)) : ∃ t1 t2 q, skip l = 61 :: t1 ∧ skip t1 = q :: t2 ∧ (q = 34 ∨ q = 39) ∧ cutAt [q] t2 = some (v, r) := by
  unfold given at h
  split at h
  · rename_i t1 h1
    unfold quoted at h
    split at h
    · cases h
    · rename_i q t2 h2
      split at h
      · rename_i hq; exact ⟨t1, t2, q, h1, h2, hq, h⟩
      · cases h
  · cases h
theorem given_none {l : List UInt8} (h : given l = none) : begins [61] (skip l) = false ∨ ∃ t1, skip l = 61 :: t1 ∧ ((begins [34] (skip t1) = false ∧ begins [39] (skip t1) = false) ∨ ∃ t2, (skip t1 = 34 :: t2 ∧ cutAt [34] t2 = none) ∨ (skip t1 = 39 :: t2 ∧ cutAt [39] t2 = none)) := by
  unfold given at h
  split at h
  · rename_i t1 h1
    right
    refine ⟨t1, h1, ?_⟩
    unfold quoted at h
    split at h
    · rename_i h2
      left
      rw [h2]
      exact ⟨rfl, rfl⟩
    · rename_i q t2 h2
      split at h
      · rename_i hq
        right
        rw [h2]
        rcases hq with rfl | rfl
        · exact ⟨t2, .inl ⟨rfl, h⟩⟩
        · exact ⟨t2, .inr ⟨rfl, h⟩⟩
      · rename_i hq
        left
        rw [h2]
        constructor
        · cases hb : begins [34] (q :: t2) with
          | false => rfl
          | true =>
            obtain ⟨x, hx⟩ := begins_iff.1 hb
            cases hx
            exact absurd (.inl rfl) hq
        · cases hb : begins [39] (q :: t2) with
          | false => rfl
          | true =>
            obtain ⟨x, hx⟩ := begins_iff.1 hb
            cases hx
            exact absurd (.inr rfl) hq
  · rename_i h1
    left
    cases hb : begins [61] (skip l) with
    | false => rfl
    | true =>
      obtain ⟨x, hx⟩ := begins_iff.1 hb
      exact absurd hx.symm (h1 x)
theorem begins_one {c : UInt8} {l : List UInt8} (h : begins [c] l = true) : ∃ t, l = c :: t := by
  obtain ⟨t, ht⟩ := begins_iff.1 h
  exact ⟨t, ht.symm⟩
theorem begins_cons (c : UInt8) (t : List UInt8) : begins [c] (c :: t) = true := begins_iff.2 ⟨t, rfl⟩
theorem begins_not {c d : UInt8} (t : List UInt8) (h : d ≠ c) : begins [c] (d :: t) = false := by
  cases hb : begins [c] (d :: t) with
  | false => rfl
  | true =>
    obtain ⟨x, hx⟩ := begins_iff.1 hb
    cases hx
    exact absurd rfl h

/-! ### each answer, by what stands there -/
theorem comment_none {l : List UInt8} (h : cutAt [45, 45] l = none) : comment l = .error 70 := by unfold comment; rw [h]
theorem comment_bad {l a r : List UInt8} (h : cutAt [45, 45] l = some (a, r)) (hb : begins [62] r = false) : comment l = .error 70 := by
  unfold comment
  rw [h]
  split
  · rename_i h2
    cases h2
    rw [begins_cons] at hb; cases hb
  · rfl
theorem comment_ok {l a r : List UInt8} (h : cutAt [45, 45] l = some (a, 62 :: r)) : comment l = .ok (⟨3, [], [], false, a⟩, r) := by unfold comment; rw [h]; rfl
theorem cdata_none {l : List UInt8} (h : cutAt [93, 93, 62] l = none) : cdata l = .error 70 := by unfold cdata; rw [h]
theorem cdata_ok {l a r : List UInt8} (h : cutAt [93, 93, 62] l = some (a, r)) : cdata l = .ok (⟨2, [], [], true, a⟩, r) := by unfold cdata; rw [h]
theorem shut_none {l : List UInt8} (h : nameAt l = none) : shut l = .error 70 := by unfold shut; rw [h]
theorem shut_bad {l n rest : List UInt8} (h : nameAt l = some (n, rest)) (hb : begins [62] (skip rest) = false) : shut l = .error 70 := by
  unfold shut
  rw [h]
  simp only
  split
  · rename_i h2
    rw [h2, begins_cons] at hb; cases hb
  · rfl
theorem shut_ok {l n rest r : List UInt8} (h : nameAt l = some (n, rest)) (h2 : skip rest = 62 :: r) : shut l = .ok (⟨1, n, [], false, []⟩, r) := by
  unfold shut
  rw [h]
  simp only
  rw [h2]
  rfl
theorem pi_none {l : List UInt8} (h : nameAt l = none) : pi l = .error 70 := by unfold pi; rw [h]
theorem pi_xml {l n rest : List UInt8} (h : nameAt l = some (n, rest)) (hx : n.map lower = [120, 109, 108]) : pi l = .error 70 := by
  unfold pi
  rw [h]
  simp only
  rw [if_pos hx]
theorem pi_open {l n rest : List UInt8} (h : nameAt l = some (n, rest)) (hx : ¬ n.map lower = [120, 109, 108]) (hc : cutAt [63, 62] rest = none) : pi l = .error 70 := by
  unfold pi
  rw [h]
  simp only
  rw [if_neg hx, hc]
theorem pi_tight {l n rest a r : List UInt8} (h : nameAt l = some (n, rest)) (hx : ¬ n.map lower = [120, 109, 108]) (hc : cutAt [63, 62] rest = some (a, r)) (hs : spaced a = false) : pi l = .error 70 := by
  unfold pi
  rw [h]
  simp only
  rw [if_neg hx, hc]
  simp only
  rw [if_neg (by rw [hs]; decide)]
theorem pi_ok {l n rest a r : List UInt8} (h : nameAt l = some (n, rest)) (hx : ¬ n.map lower = [120, 109, 108]) (hc : cutAt [63, 62] rest = some (a, r)) (hs : spaced a = true) : pi l = .ok (⟨4, n, [], false, skip a⟩, r) := by
  unfold pi
  rw [h]
  simp only
  rw [if_neg hx, hc]
  simp only
  rw [if_pos hs]
theorem spaced_of (a : List UInt8) : spaced a = (decide (a = []) || decide ((skip a).length < a.length)) := by
  cases a with
  | nil => rfl
  | cons b t =>
    show G.space (b.toNat : Int) = _
    rw [skip_head]
    have := skip_le t
    cases hb : G.space (b.toNat : Int) with
    | true => simp; omega
    | false => simp
theorem text_bad {l : List UInt8} (h : (cutAt [93, 93, 62] (l.takeWhile (· ≠ 60))).isSome = true) : text l = .error 70 := by unfold text; rw [if_pos h]
theorem text_ref {l : List UInt8} (h : (cutAt [93, 93, 62] (l.takeWhile (· ≠ 60))).isSome = false) (he : E.expand false (l.takeWhile (· ≠ 60)) = none) : text l = .error 60 := by
  unfold text; rw [if_neg (by rw [h]; decide), he]
theorem text_ok {l d : List UInt8} (h : (cutAt [93, 93, 62] (l.takeWhile (· ≠ 60))).isSome = false) (he : E.expand false (l.takeWhile (· ≠ 60)) = some d) : text l = .ok (⟨2, [], [], decide (38 ∈ l.takeWhile (· ≠ 60)), d⟩, l.dropWhile (· ≠ 60)) := by
  unfold text; rw [if_neg (by rw [h]; decide), he]
theorem attr_noname {l : List UInt8} (h : nameAt l = none) : attr l = .error 70 := by rw [attr_given, h]
theorem attr_nogiven {l n rest : List UInt8} (h : nameAt l = some (n, rest)) (hg : given rest = none) : attr l = .error 70 := by
  rw [attr_given, h]
  simp only
  rw [hg]
theorem attr_lt {l n rest q r : List UInt8} (h : nameAt l = some (n, rest)) (hg : given rest = some (q, r)) (hq : 60 ∈ q) : attr l = .error 70 := by
  rw [attr_given, h]
  simp only
  rw [hg]
  simp only
  rw [if_pos hq]
theorem attr_ref {l n rest q r : List UInt8} (h : nameAt l = some (n, rest)) (hg : given rest = some (q, r)) (hq : ¬ 60 ∈ q) (he : E.expand true q = none) : attr l = .error 60 := by
  rw [attr_given, h]
  simp only
  rw [hg]
  simp only
  rw [if_neg hq, he]
theorem attr_ok {l n rest q r v : List UInt8} (h : nameAt l = some (n, rest)) (hg : given rest = some (q, r)) (hq : ¬ 60 ∈ q) (he : E.expand true q = some v) : attr l = .ok ((n, v), r) := by
  rw [attr_given, h]
  simp only
  rw [hg]
  simp only
  rw [if_neg hq, he]

/-! ### letters -/
theorem fold_lower (l : List UInt8) (t u : List UInt8) (h : ∀ c n, n < 256 → c ∈ t → Lib.foldEq (UInt8.ofNat n) c = decide (lower (UInt8.ofNat n) = lower c)) (hu : t.map lower = u) : Lib.equalFold l t = decide (l.map lower = u) := by
  subst hu
  induction l generalizing t with
  | nil => cases t <;> simp [Lib.equalFold]
  | cons b l ih =>
    cases t with
    | nil => simp [Lib.equalFold]
    | cons c t =>
      have h1 := h c b.toNat b.toNat_lt (by simp)
      rw [UInt8.ofNat_toNat] at h1
      have h2 := ih t (fun c n hn hc => h c n hn (List.mem_cons_of_mem _ hc))
      simp only [Lib.equalFold, h1, h2, List.map_cons, List.cons.injEq]
      by_cases h3 : lower b = lower c <;> simp [h3]
theorem fold_xml (l : List UInt8) : Lib.equalFold l [120, 109, 108] = decide (l.map lower = [120, 109, 108]) :=
  fold_lower l _ _ (by
    have : ∀ n, n < 256 → ∀ c ∈ [120, 109, 108], Lib.foldEq (UInt8.ofNat n) c = decide (lower (UInt8.ofNat n) = lower c) := by decide +kernel
    exact fun c n hn hc => this n hn c hc) rfl
theorem fold_utf (l : List UInt8) : Lib.equalFold l [85, 84, 70, 45, 56] = decide (l.map lower = [117, 116, 102, 45, 56]) :=
  fold_lower l _ _ (by
    have : ∀ n, n < 256 → ∀ c ∈ [85, 84, 70, 45, 56], Lib.foldEq (UInt8.ofNat n) c = decide (lower (UInt8.ofNat n) = lower c) := by decide +kernel
    exact fun c n hn hc => this n hn c hc) rfl
end T
end Go.Proofs.YtcjlhdmekhifaaaGreatDoor
namespace Go.Proofs.YtcjlhdmekhifaaaGreatDoor
open Go.RowKit

/-! ### given -/
theorem given_ok (b : Nat) (s v t : ByteArray) (w : World) (h : At b s w) (hg : T.given s.data.toList = some (v.data.toList, t.data.toList)) :
    Calls Tryz.prog 68 #[.pointer (some ⟨b, 0, none⟩)] w fun e w' => e = .returned (.string v) ∧ At b t w' ∧ w.grownBy w' (some b) := by
  obtain ⟨l2, l4, q, h1, h3, hq, hc⟩ := T.given_some hg
  obtain ⟨s1, hs1⟩ := bytes_of (T.skip s.data.toList)
  obtain ⟨s2, rfl⟩ := bytes_of l2
  obtain ⟨s3, hs3⟩ := bytes_of (T.skip s2.data.toList)
  obtain ⟨s4, rfl⟩ := bytes_of l4
  have c1 := fun w h => space_any b s s1 w h hs1
  have c2 := fun w h => takes_yes b s1 s2 ⟨#[61]⟩ w h (by rw [hs1, h1]; rfl)
  have c3 := fun w h => space_any b s2 s3 w h hs3
  rw [← hs3] at h3
  have c4 : q = 34 → ∀ w, At b s3 w → _ := fun e w h => takes_yes b s3 s4 ⟨#[34]⟩ w h (by rw [h3, e]; rfl)
  have c5 : q = 39 → ∀ w, At b s3 w → _ := fun e w h => takes_no b s3 ⟨#[34]⟩ w h (by rw [h3, e]; rfl)
  have c6 : q = 39 → ∀ w, At b s3 w → _ := fun e w h => takes_yes b s3 s4 ⟨#[39]⟩ w h (by rw [h3, e]; rfl)
  have c7 : q = 34 → ∀ w, At b s4 w → _ := fun e w h => upTo_ok b s4 v t ⟨#[34]⟩ w h (by simp) (by rw [e] at hc; exact hc)
  have c8 : q = 39 → ∀ w, At b s4 w → _ := fun e w h => upTo_ok b s4 v t ⟨#[39]⟩ w h (by simp) (by rw [e] at hc; exact hc)
  have hA := Lib.hid h
  clear h hg hs1 hs3 h1 h3 hc
  rcases hq with hq | hq
  · replace c4 := c4 hq
    replace c7 := c7 hq
    clear c5 c6 c8 hq
    go_enter Tryz.func68, Tryz.ntmps68
    go_wp2_with fail
    (with_reducible refine (c1 _ hA.out).mono ?_); rintro e w1 ⟨rfl, h1, g1⟩
    go_wp2_with fail
    (with_reducible refine (c2 _ h1).mono ?_); rintro e w2 ⟨rfl, h2, g2⟩
    go_wp2_with fail
    (with_reducible refine (insist_yes _).mono ?_); rintro e w2' ⟨rfl, rfl⟩
    go_wp2_with fail
    (with_reducible refine (c3 _ h2).mono ?_); rintro e w3 ⟨rfl, h3, g3⟩
    go_wp2_with fail
    (with_reducible refine (c4 _ h3).mono ?_); rintro e w4 ⟨rfl, h4, g4⟩
    go_wp2_with fail
    (with_reducible refine (c7 _ h4).mono ?_); rintro e w5 ⟨rfl, h5, g5⟩
    go_wp2
    go_ret
    exact ⟨rfl, h5, (((g1.trans g2).trans g3).trans g4).trans g5⟩
  · replace c5 := c5 hq
    replace c6 := c6 hq
    replace c8 := c8 hq
    clear c4 c7 hq
    go_enter Tryz.func68, Tryz.ntmps68
    go_wp2_with fail
    (with_reducible refine (c1 _ hA.out).mono ?_); rintro e w1 ⟨rfl, h1, g1⟩
    go_wp2_with fail
    (with_reducible refine (c2 _ h1).mono ?_); rintro e w2 ⟨rfl, h2, g2⟩
    go_wp2_with fail
    (with_reducible refine (insist_yes _).mono ?_); rintro e w2' ⟨rfl, rfl⟩
    go_wp2_with fail
    (with_reducible refine (c3 _ h2).mono ?_); rintro e w3 ⟨rfl, h3, g3⟩
    go_wp2_with fail
    (with_reducible refine (c5 _ h3).mono ?_); rintro e w4 ⟨rfl, h4, g4⟩
    go_wp2_with fail
    (with_reducible refine (c6 _ h4).mono ?_); rintro e w5 ⟨rfl, h5, g5⟩
    go_wp2_with fail
    (with_reducible refine (insist_yes _).mono ?_); rintro e w5' ⟨rfl, rfl⟩
    go_wp2_with fail
    (with_reducible refine (c8 _ h5).mono ?_); rintro e w6 ⟨rfl, h6, g6⟩
    go_wp2
    go_ret
    exact ⟨rfl, h6, ((((g1.trans g2).trans g3).trans g4).trans g5).trans g6⟩

theorem given_no (b : Nat) (s : ByteArray) (w : World) (h : At b s w) (hg : T.given s.data.toList = none) :
    Calls Tryz.prog 68 #[.pointer (some ⟨b, 0, none⟩)] w fun e w' => e = .panicked (tossed 70) ∧ w.grownBy w' (some b) := by
  obtain ⟨s1, hs1⟩ := bytes_of (T.skip s.data.toList)
  have c1 := fun w h => space_any b s s1 w h hs1
  have hA := Lib.hid h
  rcases T.given_none hg with h1 | ⟨l2, h1, h2⟩
  · have c2 := fun w h => takes_no b s1 ⟨#[61]⟩ w h (by rw [hs1]; exact h1)
    clear h hg hs1 h1
    go_enter Tryz.func68, Tryz.ntmps68
    go_wp2_with fail
    (with_reducible refine (c1 _ hA.out).mono ?_); rintro e w1 ⟨rfl, h1, g1⟩
    go_wp2_with fail
    (with_reducible refine (c2 _ h1).mono ?_); rintro e w2 ⟨rfl, h2, g2⟩
    go_wp2_with fail
    (with_reducible refine (insist_no _).mono ?_); rintro e w2' ⟨rfl, rfl⟩
    exact ⟨rfl, rfl, g1.trans g2⟩
  · obtain ⟨s2, rfl⟩ := bytes_of l2
    obtain ⟨s3, hs3⟩ := bytes_of (T.skip s2.data.toList)
    have c2 := fun w h => takes_yes b s1 s2 ⟨#[61]⟩ w h (by rw [hs1, h1]; rfl)
    have c3 := fun w h => space_any b s2 s3 w h hs3
    rw [← hs3] at h2
    rcases h2 with ⟨n1, n2⟩ | ⟨l4, ⟨e3, hc⟩ | ⟨e3, hc⟩⟩
    · have c4 := fun w h => takes_no b s3 ⟨#[34]⟩ w h n1
      have c5 := fun w h => takes_no b s3 ⟨#[39]⟩ w h n2
      clear h hg hs1 h1 hs3 n1 n2
      go_enter Tryz.func68, Tryz.ntmps68
      go_wp2_with fail
      (with_reducible refine (c1 _ hA.out).mono ?_); rintro e w1 ⟨rfl, h1, g1⟩
      go_wp2_with fail
      (with_reducible refine (c2 _ h1).mono ?_); rintro e w2 ⟨rfl, h2, g2⟩
      go_wp2_with fail
      (with_reducible refine (insist_yes _).mono ?_); rintro e w2' ⟨rfl, rfl⟩
      go_wp2_with fail
      (with_reducible refine (c3 _ h2).mono ?_); rintro e w3 ⟨rfl, h3, g3⟩
      go_wp2_with fail
      (with_reducible refine (c4 _ h3).mono ?_); rintro e w4 ⟨rfl, h4, g4⟩
      go_wp2_with fail
      (with_reducible refine (c5 _ h4).mono ?_); rintro e w5 ⟨rfl, h5, g5⟩
      go_wp2_with fail
      (with_reducible refine (insist_no _).mono ?_); rintro e w5' ⟨rfl, rfl⟩
      exact ⟨rfl, rfl, (((g1.trans g2).trans g3).trans g4).trans g5⟩
    · obtain ⟨s4, rfl⟩ := bytes_of l4
      have c4 := fun w h => takes_yes b s3 s4 ⟨#[34]⟩ w h (by rw [e3]; rfl)
      have c5 := fun w h => upTo_no b s4 ⟨#[34]⟩ w h (by simp) hc
      clear h hg hs1 h1 hs3 e3 hc
      go_enter Tryz.func68, Tryz.ntmps68
      go_wp2_with fail
      (with_reducible refine (c1 _ hA.out).mono ?_); rintro e w1 ⟨rfl, h1, g1⟩
      go_wp2_with fail
      (with_reducible refine (c2 _ h1).mono ?_); rintro e w2 ⟨rfl, h2, g2⟩
      go_wp2_with fail
      (with_reducible refine (insist_yes _).mono ?_); rintro e w2' ⟨rfl, rfl⟩
      go_wp2_with fail
      (with_reducible refine (c3 _ h2).mono ?_); rintro e w3 ⟨rfl, h3, g3⟩
      go_wp2_with fail
      (with_reducible refine (c4 _ h3).mono ?_); rintro e w4 ⟨rfl, h4, g4⟩
      go_wp2_with fail
      (with_reducible refine (c5 _ h4).mono ?_); rintro e w5 ⟨rfl, g5⟩
      exact ⟨rfl, rfl, (((g1.trans g2).trans g3).trans g4).trans g5⟩
    · obtain ⟨s4, rfl⟩ := bytes_of l4
      have c4 := fun w h => takes_no b s3 ⟨#[34]⟩ w h (by rw [e3]; rfl)
      have c5 := fun w h => takes_yes b s3 s4 ⟨#[39]⟩ w h (by rw [e3]; rfl)
      have c6 := fun w h => upTo_no b s4 ⟨#[39]⟩ w h (by simp) hc
      clear h hg hs1 h1 hs3 e3 hc
      go_enter Tryz.func68, Tryz.ntmps68
      go_wp2_with fail
      (with_reducible refine (c1 _ hA.out).mono ?_); rintro e w1 ⟨rfl, h1, g1⟩
      go_wp2_with fail
      (with_reducible refine (c2 _ h1).mono ?_); rintro e w2 ⟨rfl, h2, g2⟩
      go_wp2_with fail
      (with_reducible refine (insist_yes _).mono ?_); rintro e w2' ⟨rfl, rfl⟩
      go_wp2_with fail
      (with_reducible refine (c3 _ h2).mono ?_); rintro e w3 ⟨rfl, h3, g3⟩
      go_wp2_with fail
      (with_reducible refine (c4 _ h3).mono ?_); rintro e w4 ⟨rfl, h4, g4⟩
      go_wp2_with fail
      (with_reducible refine (c5 _ h4).mono ?_); rintro e w5 ⟨rfl, h5, g5⟩
      go_wp2_with fail
      (with_reducible refine (insist_yes _).mono ?_); rintro e w5' ⟨rfl, rfl⟩
      go_wp2_with fail
      (with_reducible refine (c6 _ h5).mono ?_); rintro e w6 ⟨rfl, g6⟩
      exact ⟨rfl, rfl, ((((g1.trans g2).trans g3).trans g4).trans g5).trans g6⟩

/-! ### a token's box -/
/-- A box of five cells. -/
def Box5 (w : World) (k : Nat) (x0 x1 x2 x3 x4 : Value) : Prop := w.heap[k]? = some (.cells #[x0, x1, x2, x3, x4] 41 (0, 0))
theorem Box5.lt {w : World} {k : Nat} {x0 x1 x2 x3 x4 : Value} (h : Box5 w k x0 x1 x2 x3 x4) : k < w.heap.size := (Array.getElem?_eq_some_iff.1 h).1
theorem Box5.on {w w' : World} {k : Nat} {x0 x1 x2 x3 x4 : Value} (h : Box5 w k x0 x1 x2 x3 x4) {row : Option Nat} (hg : w.grownBy w' row) (hne : some k ≠ row) : Box5 w' k x0 x1 x2 x3 x4 := (hg.block k h.lt hne).trans h
theorem Box5.c0 {w : World} {k : Nat} {x0 x1 x2 x3 x4 : Value} (h : Box5 w k x0 x1 x2 x3 x4) : w.cell? ⟨k, 0, none⟩ = some x0 := by unfold World.cell?; rw [show w.heap[k]? = _ from h]; rfl
theorem Box5.c1 {w : World} {k : Nat} {x0 x1 x2 x3 x4 : Value} (h : Box5 w k x0 x1 x2 x3 x4) : w.cell? ⟨k, 1, none⟩ = some x1 := by unfold World.cell?; rw [show w.heap[k]? = _ from h]; rfl
theorem Box5.c2 {w : World} {k : Nat} {x0 x1 x2 x3 x4 : Value} (h : Box5 w k x0 x1 x2 x3 x4) : w.cell? ⟨k, 2, none⟩ = some x2 := by unfold World.cell?; rw [show w.heap[k]? = _ from h]; rfl
theorem Box5.c3 {w : World} {k : Nat} {x0 x1 x2 x3 x4 : Value} (h : Box5 w k x0 x1 x2 x3 x4) : w.cell? ⟨k, 3, none⟩ = some x3 := by unfold World.cell?; rw [show w.heap[k]? = _ from h]; rfl
theorem Box5.c4 {w : World} {k : Nat} {x0 x1 x2 x3 x4 : Value} (h : Box5 w k x0 x1 x2 x3 x4) : w.cell? ⟨k, 4, none⟩ = some x4 := by unfold World.cell?; rw [show w.heap[k]? = _ from h]; rfl
theorem Box5.free {w : World} {k : Nat} {x0 x1 x2 x3 x4 : Value} (h : Box5 w k x0 x1 x2 x3 x4) (i : Nat) : w.frozen? ⟨k, i, none⟩ = false := by simp [World.frozen?, show w.heap[k]? = _ from h]
/-- its cells set anew, one behind the other. -/
def set5 (w : World) (k : Nat) (x0 x1 x2 x3 x4 : Value) : World := ((((w.setCell ⟨k, 0, none⟩ x0).setCell ⟨k, 1, none⟩ x1).setCell ⟨k, 2, none⟩ x2).setCell ⟨k, 3, none⟩ x3).setCell ⟨k, 4, none⟩ x4
theorem box_set {w : World} {k : Nat} {xs : Array Value} {t : TypeId} (h : w.heap[k]? = some (.cells xs t (0, 0))) (i : Nat) (v : Value) : (w.setCell ⟨k, i, none⟩ v).heap[k]? = some (.cells (xs.setIfInBounds i v) t (0, 0)) := Go.heap_setCell_same w k i xs t v h
theorem Box5.set {w : World} {k : Nat} {x0 x1 x2 x3 x4 : Value} (h : Box5 w k x0 x1 x2 x3 x4) (y0 y1 y2 y3 y4 : Value) : Box5 (set5 w k y0 y1 y2 y3 y4) k y0 y1 y2 y3 y4 := by
  have := box_set (box_set (box_set (box_set (box_set (show w.heap[k]? = _ from h) 0 y0) 1 y1) 2 y2) 3 y3) 4 y4
  exact this
theorem grown_setAny (w : World) (k i : Nat) (v : Value) : w.grownBy (w.setCell ⟨k, i, none⟩ v) (some k) :=
  ⟨rfl, rfl, rfl, by rw [World.size_setCell]; exact Nat.le_refl _, fun j hj hne => RowKit.Below.heap_setCell _ _ _ _ (by intro e; apply hne; rw [e])⟩
theorem grown_set5 (w : World) (k : Nat) (x0 x1 x2 x3 x4 : Value) : w.grownBy (set5 w k x0 x1 x2 x3 x4) (some k) :=
  ((((grown_setAny w k 0 x0).trans (grown_setAny _ k 1 x1)).trans (grown_setAny _ k 2 x2)).trans (grown_setAny _ k 3 x3)).trans (grown_setAny _ k 4 x4)

/-- The zero token's box, new. -/
theorem Box5.new (w : World) : Box5 (w.alloc (.cells #[.int .i64 0, .string ⟨#[]⟩, .slice none 0 0, .bool false, .string ⟨#[]⟩] 41)) w.heap.size (.int .i64 0) (.string ⟨#[]⟩) (.slice none 0 0) (.bool false) (.string ⟨#[]⟩) := heap_alloc_new w _

theorem tok_end {fn : Func} (hres : fn.results = #[.cell 2 41]) {R : Ending → World → Prop} {tmps : Array Value} {w : World} {k : Nat} {x0 x1 x2 x3 x4 : Value} (h2 : tmps[2]? = some (.pointer (some ⟨k, 0, none⟩)))
    (hb : Box5 w k x0 x1 x2 x3 x4) (hR : R (.returned (.agg #[x0, x1, x2, x3, x4])) w) : bodyPost Tryz.prog fn R .ret { tmps := tmps, defers := [] } w := by
  refine ⟨rfl, _, ?_, hR⟩
  have l2 : 2 < tmps.size := (Array.getElem?_eq_some_iff.1 h2).1
  have g2 : tmps[2] = .pointer (some ⟨k, 0, none⟩) := (Array.getElem?_eq_some_iff.1 h2).2
  have c0 := hb.c0
  have c1 := hb.c1
  have c2 := hb.c2
  have c3 := hb.c3
  have c4 := hb.c4
  simp [results, hres, go_sem, l2, g2, c0, c1, c2, c3, c4]

/-- A token's value. -/
def tokVal (t : T.Tok) (v : Value) : Value := .agg #[.int .i64 (t.kind : Int), .string ⟨t.name.toArray⟩, v, .bool t.alone, .string ⟨t.data.toArray⟩]

/-- WHAT A WORD OF A TOKEN ANSWERS. -/
def Told (b : Nat) (w : World) (k : T.Tok) (t : ByteArray) (e : Ending) (w' : World) : Prop :=
  ∃ v, e = .returned (tokVal k v) ∧ OwnsPairs w.heap.size v (k.attrs.map mpair) w' ∧ At b t w' ∧ w.grownBy w' (some b)
/-- .. and where it is none. -/
def Tossed (b : Nat) (w : World) (n : Int) (e : Ending) (w' : World) : Prop := e = .panicked (tossed n) ∧ w.grownBy w' (some b)

end Go.Proofs.YtcjlhdmekhifaaaGreatDoor
namespace Go.Proofs.YtcjlhdmekhifaaaGreatDoor
open Go.RowKit

/-- What a word of a token answers, as the plain words have it. -/
def Ans (b : Nat) (w : World) (g : T.Got) (e : Ending) (w' : World) : Prop :=
  match g with
  | .ok x => ∃ t : ByteArray, t.data.toList = x.2 ∧ Told b w x.1 t e w'
  | .error n => Tossed b w (n : Int) e w'

theorem told_set {b : Nat} {w wn : World} {t : ByteArray} (hA : At b t wn) (g : w.grownBy wn (some b)) (hb : b < w.heap.size) (x0 x1 x2 x3 x4 : Value) :
    At b t (set5 wn w.heap.size x0 x1 x2 x3 x4) ∧ w.grownBy (set5 wn w.heap.size x0 x1 x2 x3 x4) (some b) :=
  ⟨hA.other (grown_set5 _ _ _ _ _ _ _) (by simp; omega) (fun k e => by cases e; omega), g.andThen (grown_set5 _ _ _ _ _ _ _) (fun j e => by cases e; exact .inl (Nat.le_refl _))⟩

/-- A token without attributes is told. -/
theorem ans_plain {b : Nat} {w wn : World} {g : T.Got} {k : T.Tok} {t : ByteArray} (hg : g = .ok (k, t.data.toList)) (hk : k.attrs = []) (hA : At b t wn) (gr : w.grownBy wn (some b)) (hb : b < w.heap.size) {x0 x1 x2 x3 x4 : Value}
    (hv : Value.agg #[x0, x1, x2, x3, x4] = tokVal k (.slice none 0 0)) : Ans b w g (.returned (.agg #[x0, x1, x2, x3, x4])) (set5 wn w.heap.size x0 x1 x2 x3 x4) := by
  subst hg
  obtain ⟨a1, a2⟩ := told_set hA gr hb x0 x1 x2 x3 x4
  exact ⟨t, rfl, .slice none 0 0, by rw [hv], by rw [hk]; exact pairs_nil _ _, a1, a2⟩
theorem ans_no {b : Nat} {w wn : World} {g : T.Got} {n : Nat} (hg : g = .error n) (gr : w.grownBy wn (some b)) : Ans b w g (.panicked (tossed n)) wn := by
  subst hg; exact ⟨rfl, gr⟩

set_option maxRecDepth 100000 in
set_option maxHeartbeats 1600000 in
theorem comment_any (b : Nat) (s : ByteArray) (w : World) (h : At b s w) :
    Calls Tryz.prog 70 #[.pointer (some ⟨b, 0, none⟩)] w (Ans b w (T.comment s.data.toList)) := by
  have g0 := World.grownBy_alloc w (.cells #[.int .i64 0, .string ⟨#[]⟩, .slice none 0 0, .bool false, .string ⟨#[]⟩] 41) (some b)
  have hA := h.below ((Below.refl w.heap.size w).alloc (Nat.le_refl _) (.cells #[.int .i64 0, .string ⟨#[]⟩, .slice none 0 0, .bool false, .string ⟨#[]⟩] 41))
  have bx := Box5.new w
  have hb := h.lt
  have hne : some w.heap.size ≠ some b := by simp; omega
  clear h
  cases hc : T.cutAt [45, 45] s.data.toList with
  | none =>
    have hr := Lib.hid (T.comment_none hc)
    have c1 := fun w h => upTo_no b s ⟨#[45, 45]⟩ w h (by simp) hc
    clear hc
    go_enter Tryz.func70, Tryz.ntmps70
    go_wp2_with fail
    (with_reducible refine (c1 _ hA).mono ?_); rintro e w1 ⟨rfl, g1⟩
    exact ⟨rfl, ans_no hr.out (g0.trans g1)⟩
  | some x =>
    obtain ⟨la, lr⟩ := x
    obtain ⟨v, rfl⟩ := bytes_of la
    obtain ⟨s1, rfl⟩ := bytes_of lr
    have c1 := fun w h => upTo_ok b s v s1 ⟨#[45, 45]⟩ w h (by simp) hc
    cases hb2 : T.begins [62] s1.data.toList with
    | false =>
      have hr := Lib.hid (T.comment_bad hc hb2)
      have c2 := fun w h => takes_no b s1 ⟨#[62]⟩ w h hb2
      clear hc hb2
      go_enter Tryz.func70, Tryz.ntmps70
      go_wp2_with fail
      (with_reducible refine (c1 _ hA).mono ?_); rintro e w1 ⟨rfl, h1, g1⟩
      go_wp2_with fail
      (with_reducible refine (c2 _ h1).mono ?_); rintro e w2 ⟨rfl, h2, g2⟩
      go_wp2_with fail
      (with_reducible refine (insist_no _).mono ?_); rintro e w3 ⟨rfl, rfl⟩
      exact ⟨rfl, ans_no hr.out ((g0.trans g1).trans g2)⟩
    | true =>
      obtain ⟨l2, h2⟩ := T.begins_one hb2
      obtain ⟨t, rfl⟩ := bytes_of l2
      rw [h2] at hc
      have hr := Lib.hid (T.comment_ok hc)
      have c2 := fun w h => takes_yes b s1 t ⟨#[62]⟩ w h (by rw [h2]; rfl)
      clear hc hb2 h2
      go_enter Tryz.func70, Tryz.ntmps70
      go_wp2_with fail
      (with_reducible refine (c1 _ hA).mono ?_); rintro e w1 ⟨rfl, h1, g1⟩
      go_wp2_with fail
      (with_reducible refine (c2 _ h1).mono ?_); rintro e w2 ⟨rfl, h2, g2⟩
      go_wp2_with fail
      (with_reducible refine (insist_yes _).mono ?_); rintro e w3 ⟨rfl, rfl⟩
      have gA := g1.trans g2
      have bA := bx.on gA hne
      have d0 := bA.c0
      have d1 := bA.c1
      have d2 := bA.c2
      have d3 := bA.c3
      have d4 := bA.c4
      have f0 := bA.free 0
      have f1 := bA.free 1
      have f2 := bA.free 2
      have f3 := bA.free 3
      have f4 := bA.free 4
      replace bA := Lib.hid bA
      clear bx
      go_wp2_with fail
      exact tok_end rfl rfl (bA.out.set _ _ _ _ _) (ans_plain hr.out rfl h2 (g0.trans gA) hb rfl)
end Go.Proofs.YtcjlhdmekhifaaaGreatDoor
