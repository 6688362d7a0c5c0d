/-
  What the document's Parse comes to: plain mathematics of a text's pieces.
-/
import Derived.Test.YtbfgniheagolgaaGreatDoorRefs5
import Derived.Test.YtbfgniheagolgaaGreatDoorRefs6
import Derived.Test.YtbfgniheagolgaaGreatDoorRefs7
namespace Go.Proofs.YtbfgniheagolgaaGreatDoor
open Go.RowKit

def rowBody (r : M.Row) : List UInt8 := r.name.data.toList ++ 32 :: (r.file.data.toList ++ 32 :: (Lib.itoa r.size ++ 32 :: Lib.itoa r.sum))

theorem pieces_len (c : UInt8) : ∀ (s : List UInt8), (pieces c s).length ≤ s.length + 1 ∧ 0 < (pieces c s).length ∧ ∀ p ∈ pieces c s, p.length ≤ s.length
  | [] => by simp [pieces]
  | x :: t => by
    obtain ⟨h1, h2, h3⟩ := pieces_len c t
    unfold pieces
    split
    · refine ⟨by simp; omega, by simp, fun p hp => ?_⟩
      rcases List.mem_cons.1 hp with rfl | hp
      · simp
      · have := h3 p hp; simp; omega
    · cases hp : pieces c t with
      | nil => rw [hp] at h2; simp at h2
      | cons a q =>
        rw [hp] at h1 h3
        refine ⟨by simp at h1 ⊢; omega, by simp, fun p hpm => ?_⟩
        rcases List.mem_cons.1 hpm with rfl | hpm
        · have := h3 a (by simp); simp; omega
        · have := h3 p (by simp [hpm]); simp; omega

theorem row_line (r : M.Row) : M.rowLine r = rowBody r ++ [10] := by
  simp [M.rowLine, M.line_two, rowBody]

theorem row_no {r : M.Row} (h : M.name r.name.data.toList = true ∧ M.name r.file.data.toList = true ∧ M.num r.size = true ∧ M.num r.sum = true) : 10 ∉ rowBody r := by
  obtain ⟨hn, hf, hs, hm⟩ := h
  simp [M.num] at hs hm
  unfold rowBody
  rw [M.itoa_nn hs.1, M.itoa_nn hm.1]
  have d1 := (M.digits_no r.size.toNat).2.1
  have d2 := (M.digits_no r.sum.toNat).2.1
  have n1 := (M.name_no hn).2.1
  have n2 := (M.name_no hf).2.1
  simp [d1, d2]; exact ⟨by simpa using n1, by simpa using n2⟩

theorem pieces_rows (t : List UInt8) : ∀ (l : List M.Row), (∀ r ∈ l, M.name r.name.data.toList = true ∧ M.name r.file.data.toList = true ∧ M.num r.size = true ∧ M.num r.sum = true) → pieces 10 (l.flatMap M.rowLine ++ t) = l.map rowBody ++ pieces 10 t
  | [], _ => by simp
  | r :: l, h => by
    have ih := pieces_rows t l (fun x hx => h x (by simp [hx]))
    have e : (r :: l).flatMap M.rowLine ++ t = rowBody r ++ 10 :: (l.flatMap M.rowLine ++ t) := by simp [row_line]
    rw [e, pieces_at _ _ _ (row_no (h r (by simp))), ih]; simp

theorem pieces_text {n : Int} {l : List M.Row} (hg : M.good n l = true) : ∃ y, pieces 10 (M.text n l) = (M.gen ++ 32 :: Lib.itoa n) :: (l.map rowBody ++ [y, []]) := by
  have h0 := (M.good_num hg).1
  have ha := (M.adl_bd (M.body n l)).1
  refine ⟨M.sumw ++ 32 :: Lib.itoa (M.adl (M.body n l)), ?_⟩
  have e : M.text n l = (M.gen ++ 32 :: Lib.itoa n) ++ 10 :: (l.flatMap M.rowLine ++ ((M.sumw ++ 32 :: Lib.itoa (M.adl (M.body n l))) ++ 10 :: [])) := by
    simp [M.text, M.body, M.line_one]
  rw [e, pieces_at _ _ _ (M.not10 h0 (by decide)), pieces_rows _ _ (good_rows hg), pieces_at _ _ _ (M.not10 ha (by decide))]
  rfl

theorem words_gen {n : Int} (h : 0 ≤ n) : pieces 32 (M.gen ++ 32 :: Lib.itoa n) = [M.gen, Lib.itoa n] := by
  rw [pieces_at _ _ _ (by decide), pieces_no _ _ (by rw [M.itoa_nn h]; exact (M.digits_no _).1)]

theorem words_row {r : M.Row} (h : M.name r.name.data.toList = true ∧ M.name r.file.data.toList = true ∧ M.num r.size = true ∧ M.num r.sum = true) : pieces 32 (rowBody r) = [r.name.data.toList, r.file.data.toList, Lib.itoa r.size, Lib.itoa r.sum] := by
  obtain ⟨hn, hf, hs, hm⟩ := h
  simp [M.num] at hs hm
  unfold rowBody
  rw [pieces_at _ _ _ (M.name_no hn).1, pieces_at _ _ _ (M.name_no hf).1, pieces_at _ _ _ (by rw [M.itoa_nn hs.1]; exact (M.digits_no _).1), pieces_no _ _ (by rw [M.itoa_nn hm.1]; exact (M.digits_no _).1)]

/-- Where Parse stands. -/
def Track (s : List UInt8) (k : Nat) (nn : Int) (acc : List M.Row) : Prop :=
  acc.length = k - 1 ∧ ∀ n0 l0, M.good n0 l0 = true → s = M.text n0 l0 → (0 < k → nn = n0) ∧ acc = l0.take (k - 1)

theorem isNum_itoa {x v : Int} (h : isNum (Lib.itoa x) v) (hx : 0 ≤ x ∧ x ≤ 1099511627776) : v = x := by
  rw [M.itoa_nn hx.1] at h
  have := h.2.2 x.toNat (by omega) rfl
  omega

theorem track_zero (s : List UInt8) : Track s 0 (-1) [] := ⟨rfl, fun _ _ _ _ => ⟨fun h => absurd h (by decide), by simp⟩⟩

theorem head_words {s : List UInt8} {n0 : Int} {l0 : List M.Row} (hg : M.good n0 l0 = true) (e : s = M.text n0 l0) (h : 0 < (pieces 10 s).length) : pieces 32 ((pieces 10 s)[0]) = [M.gen, Lib.itoa n0] := by
  obtain ⟨y, hy⟩ := pieces_text hg
  have : (pieces 10 s)[0] = M.gen ++ 32 :: Lib.itoa n0 := by
    simp only [e, hy, List.getElem_cons_zero]
  rw [this, words_gen (M.good_num hg).1]

theorem text_lines {s : List UInt8} {n0 : Int} {l0 : List M.Row} (hg : M.good n0 l0 = true) (e : s = M.text n0 l0) : (pieces 10 s).length = l0.length + 3 := by
  obtain ⟨y, hy⟩ := pieces_text hg
  rw [e, hy]; simp

theorem row_words {s : List UInt8} {n0 : Int} {l0 : List M.Row} (hg : M.good n0 l0 = true) (e : s = M.text n0 l0) (k : Nat) (h : k + 1 < (pieces 10 s).length) (hk : k < l0.length) : pieces 32 ((pieces 10 s)[k + 1]) = [l0[k].name.data.toList, l0[k].file.data.toList, Lib.itoa l0[k].size, Lib.itoa l0[k].sum] := by
  obtain ⟨y, hy⟩ := pieces_text hg
  have : (pieces 10 s)[k + 1] = rowBody l0[k] := by
    simp only [e, hy, List.getElem_cons_succ]
    rw [List.getElem_append_left (by simpa using hk)]; simp
  rw [this, words_row (good_rows hg l0[k] (List.getElem_mem _))]

theorem track_one {s x : List UInt8} {v : Int} {a : List M.Row} (ht : ∃ m, Track s 0 m a) (h : 0 < (pieces 10 s).length) {g : List UInt8} (hw : pieces 32 ((pieces 10 s)[0]) = [g, x]) (hv : isNum x v) : Track s 1 v a := by
  obtain ⟨m, ht0, ht⟩ := ht
  refine ⟨ht0, fun n0 l0 hg e => ?_⟩
  have h1 := head_words hg e h
  rw [hw] at h1
  simp only [List.cons.injEq, and_true] at h1
  rw [h1.2] at hv
  exact ⟨fun _ => isNum_itoa hv (M.good_num hg), (ht n0 l0 hg e).2⟩

theorem track_next {s a b c d : List UInt8} {nn x y : Int} {acc : List M.Row} (k : Nat) (ht : Track s (k + 1) nn acc) (h : k + 1 < (pieces 10 s).length) (h2 : k + 3 < (pieces 10 s).length) (hw : pieces 32 ((pieces 10 s)[k + 1]) = [a, b, c, d]) (hx : isNum c x) (hy : isNum d y) :
    Track s (k + 1 + 1) nn (acc ++ [⟨⟨a.toArray⟩, ⟨b.toArray⟩, x, y⟩]) := by
  obtain ⟨ht0, ht⟩ := ht
  refine ⟨by simp; omega, fun n0 l0 hg e => ?_⟩
  have hl := text_lines hg e
  have hk : k < l0.length := by omega
  have h1 := row_words hg e k h hk
  have hr := good_rows hg l0[k] (List.getElem_mem _)
  rw [hw] at h1
  simp only [List.cons.injEq, and_true] at h1
  obtain ⟨e1, e2, e3, e4⟩ := h1
  rw [e3] at hx; rw [e4] at hy
  obtain ⟨_, _, hs, hm⟩ := hr
  simp [M.num] at hs hm
  have hx := isNum_itoa hx hs
  have hy := isNum_itoa hy hm
  obtain ⟨h3, h4⟩ := ht n0 l0 hg e
  refine ⟨fun _ => h3 (by omega), ?_⟩
  have : (⟨⟨a.toArray⟩, ⟨b.toArray⟩, x, y⟩ : M.Row) = l0[k] := by
    rw [e1, e2, hx, hy, M.array_toList, M.array_toList]
  rw [this, h4]
  simp only [Nat.add_sub_cancel]
  rw [List.take_succ_eq_append_getElem hk]

theorem track_end {s : List UInt8} {nn : Int} {acc : List M.Row} {k : Nat} (ht : Track s k nn acc) (h : ¬ k + 2 < (pieces 10 s).length) : ∀ n0 l0, M.good n0 l0 = true → s = M.text n0 l0 → nn = n0 ∧ acc = l0 := by
  intro n0 l0 hg e
  have hl := text_lines hg e
  obtain ⟨h3, h4⟩ := ht.2 n0 l0 hg e
  refine ⟨h3 (by omega), ?_⟩
  rw [h4, List.take_of_length_le (by omega)]

theorem not_two {s : List UInt8} (h : 0 < (pieces 10 s).length) (hw : (pieces 32 ((pieces 10 s)[0])).length ≠ 2) : M.parses s = false := by
  rw [← Bool.not_eq_true]
  intro hp
  obtain ⟨hg, e⟩ := M.parses_is hp
  have := head_words hg e.symm h
  rw [this] at hw; exact hw rfl

theorem not_four {s : List UInt8} (k : Nat) (h : k + 1 < (pieces 10 s).length) (h2 : k + 3 < (pieces 10 s).length) (hw : (pieces 32 ((pieces 10 s)[k + 1])).length ≠ 4) : M.parses s = false := by
  rw [← Bool.not_eq_true]
  intro hp
  obtain ⟨hg, e⟩ := M.parses_is hp
  have hl := text_lines hg e.symm
  have := row_words hg e.symm k h (by omega)
  rw [this] at hw; exact hw rfl

theorem not_this {s : List UInt8} {nn : Int} {acc : List M.Row} (ht : ∀ n0 l0, M.good n0 l0 = true → s = M.text n0 l0 → nn = n0 ∧ acc = l0) (h : ¬ (M.good nn acc = true ∧ M.text nn acc = s)) : M.parses s = false := by
  rw [← Bool.not_eq_true]
  intro hp
  obtain ⟨hg, e⟩ := M.parses_is hp
  obtain ⟨e1, e2⟩ := ht _ _ hg e.symm
  rw [e1, e2] at h
  exact h ⟨hg, e⟩
end Go.Proofs.YtbfgniheagolgaaGreatDoor
