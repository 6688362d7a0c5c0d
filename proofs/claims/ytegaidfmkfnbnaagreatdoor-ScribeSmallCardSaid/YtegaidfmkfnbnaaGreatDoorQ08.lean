/-
  What comparing tokens comes to: contract of Same.
  What is told of a text's tokens, in memory; tokens appended to a row that a call owns.
-/
import Derived.Test.YtegaidfmkfnbnaaGreatDoorQ01
import Derived.BigRegion
import Derived.Laws.AppendOwnNone
namespace Go.Proofs.YtegaidfmkfnbnaaGreatDoor
open Go.RowKit

theorem bytes_inj {a b : List UInt8} (h : (⟨a.toArray⟩ : ByteArray) = ⟨b.toArray⟩) : a = b := by
  have := congrArg (fun x : ByteArray => x.data.toList) h
  simpa using this
theorem bytes_ne {a b : List UInt8} (h : ¬ a = b) : ((⟨a.toArray⟩ : ByteArray).toList == (⟨b.toArray⟩ : ByteArray).toList) = false := str_differ (fun e => h (bytes_inj e))
theorem mpair_inj {a b : List (List UInt8 × List UInt8)} : a.map mpair = b.map mpair ↔ a = b := by
  constructor
  · intro h
    refine List.map_inj_right (f := mpair) (fun x y e => ?_) |>.1 h
    obtain ⟨x1, x2⟩ := x
    obtain ⟨y1, y2⟩ := y
    unfold mpair at e
    injection e with e1 e2
    have e1' : x1 = y1 := bytes_inj e1
    have e2' : x2 = y2 := bytes_inj e2
    rw [e1', e2']
  · intro h; rw [h]
theorem toks_step {L M : List (T.Tok × Value)} {k : Nat} (h : k < L.length) (hm : k < M.length) (h0 : (L.map Prod.fst).take k = (M.map Prod.fst).take k) (h1 : L[k].1 = M[k].1) : (L.map Prod.fst).take (k + 1) = (M.map Prod.fst).take (k + 1) := by
  rw [List.take_succ_eq_append_getElem (by simpa using h), List.take_succ_eq_append_getElem (by simpa using hm), h0]
  simp [h1]
theorem toks_differ {L M : List (T.Tok × Value)} {k : Nat} (h : k < L.length) (hm : k < M.length) (h1 : ¬ L[k].1 = M[k].1) : ¬ L.map Prod.fst = M.map Prod.fst := by
  intro e
  have := congrArg (fun l => l[k]?) e
  simp [h, hm] at this
  exact h1 this

end Go.Proofs.YtegaidfmkfnbnaaGreatDoor
namespace Go.Proofs.YtegaidfmkfnbnaaGreatDoor
open Go.RowKit

namespace T
def toks (l : List UInt8) : List Tok := match tokens l with | .ok a => a | .error _ => []
def tokE (l : List UInt8) : Int := match tokens l with | .ok _ => 0 | .error e => (e : Int)
theorem told_ok {l : List UInt8} {a : List Tok} (h : tokens l = .ok a) : toks l = a ∧ tokE l = 0 := by unfold toks tokE; rw [h]; exact ⟨rfl, rfl⟩
theorem told_err {l : List UInt8} {e : Nat} (h : tokens l = .error e) : toks l = [] ∧ tokE l = (e : Int) := by unfold toks tokE; rw [h]; exact ⟨rfl, rfl⟩

/-- no error's number is 0. -/
theorem attr_err {l : List UInt8} {e : Nat} (h : attr l = .error e) : e ≠ 0 := by
  unfold attr at h
  split at h
  · cases h; decide
  · split at h
    · split at h
      · cases h; decide
      · split at h
        · cases h; decide
        · split at h
          · cases h; decide
          · cases h
    · cases h; decide
theorem openGo_err : ∀ (f : Nat) (n : List UInt8) (ps : List (List UInt8 × List UInt8)) (l : List UInt8) (e : Nat), openGo f n ps l = .error e → e ≠ 0
  | 0, _, _, _, _, h => by cases h; decide
  | f + 1, n, ps, l, e, h => by
    unfold openGo at h
    split at h
    · cases h
    · cases h
    · split at h
      · cases h; decide
      · split at h
        · rename_i e' ha
          cases h
          exact attr_err ha
        · split at h
          · cases h; decide
          · exact openGo_err f n _ _ e h
theorem next_err {first : Bool} {l : List UInt8} {e : Nat} (h : next first l = .error e) : e ≠ 0 := by
  unfold next at h
  split at h
  · unfold decl at h
    split at h
    · cases h; decide
    · split at h
      · split at h
        · cases h; decide
        · split at h
          · cases h; decide
          · unfold declEnd at h
            split at h
            · cases h
            · cases h; decide
      · cases h; decide
  · split at h
    · unfold comment at h
      split at h
      · cases h
      · cases h; decide
    · split at h
      · unfold cdata at h
        split at h
        · cases h
        · cases h; decide
      · split at h
        · cases h; decide
        · split at h
          · cases h; decide
          · split at h
            · unfold pi at h
              split at h
              · cases h; decide
              · split at h
                · cases h; decide
                · split at h
                  · cases h; decide
                  · split at h
                    · cases h
                    · cases h; decide
            · split at h
              · unfold shut at h
                split at h
                · cases h; decide
                · split at h
                  · cases h
                  · cases h; decide
              · split at h
                · unfold opened at h
                  split at h
                  · cases h; decide
                  · exact openGo_err _ _ _ _ _ h
                · unfold text at h
                  split at h
                  · cases h; decide
                  · split at h
                    · cases h; decide
                    · cases h
theorem go_err : ∀ (f : Nat) (first : Bool) (l : List UInt8) (e : Nat), go f first l = .error e → e ≠ 0
  | _, _, [], _, h => by simp [go] at h
  | 0, _, _ :: _, _, h => by simp [go] at h; omega
  | f + 1, first, b :: y, e, h => by
    simp only [go] at h
    cases hn : next first (b :: y) with
    | error e' => rw [hn] at h; cases h; exact next_err hn
    | ok x =>
      rw [hn] at h
      simp only at h
      cases hg : go f false x.2 with
      | error e' => rw [hg] at h; cases h; exact go_err f false x.2 e hg
      | ok ts => rw [hg] at h; cases h
theorem tokens_err {l : List UInt8} {e : Nat} (h : tokens l = .error e) : e ≠ 0 := by
  unfold tokens at h
  split at h
  · cases h; decide
  · split at h
    · cases h; decide
    · exact go_err _ _ _ _ h

/-- attributes are no more than bytes. -/
theorem openGo_attrs : ∀ (f : Nat) (n : List UInt8) (ps : List (List UInt8 × List UInt8)) (l : List UInt8) (t : Tok) (r : List UInt8), openGo f n ps l = .ok (t, r) → t.attrs.length ≤ ps.length + l.length
  | 0, _, _, _, _, _, h => by cases h
  | f + 1, n, ps, l, t, r, h => by
    unfold openGo at h
    split at h
    · cases h; simp
    · cases h; simp
    · split at h
      · cases h
      · split at h
        · cases h
        · rename_i a more ha
          split at h
          · cases h
          · have := openGo_attrs f n (ps ++ [a]) more t r h
            have h2 := (attr_append ha []).2
            have h3 := skip_le l
            rw [List.length_append, List.length_singleton] at this
            omega
theorem next_attrs {first : Bool} {l r : List UInt8} {t : Tok} (h : next first l = .ok (t, r)) : t.attrs.length ≤ l.length := by
  unfold next at h
  split at h
  · rw [(decl_append h []).2.2]; simp
  · split at h
    · unfold comment at h
      split at h
      · cases h; simp
      · cases h
    · split at h
      · unfold cdata at h
        split at h
        · cases h; simp
        · cases h
      · split at h
        · cases h
        · split at h
          · cases h
          · split at h
            · unfold pi at h
              split at h
              · cases h
              · split at h
                · cases h
                · split at h
                  · cases h
                  · split at h
                    · cases h; simp
                    · cases h
            · split at h
              · unfold shut at h
                split at h
                · cases h
                · split at h
                  · cases h; simp
                  · cases h
              · split at h
                · unfold opened at h
                  split at h
                  · cases h
                  · rename_i n rest hn
                    have h1 := openGo_attrs _ _ _ _ _ _ h
                    have h2 := nameAt_le hn
                    simp only [List.length_nil, List.length_drop] at h1 h2
                    omega
                · unfold text at h
                  split at h
                  · cases h
                  · split at h
                    · cases h
                    · cases h; simp
theorem run_attrs : ∀ (n : Nat) (first : Bool) (l : List UInt8) (a : List Tok), l.length ≤ n → run first l = .ok a → a.length ≤ l.length ∧ ∀ t ∈ a, t.attrs.length ≤ l.length := by
  intro n
  induction n with
  | zero =>
    intro first l a hn h
    have : l = [] := List.length_eq_zero_iff.1 (by omega)
    subst this
    cases h
    exact ⟨by simp, fun t ht => by cases ht⟩
  | succ n ih =>
    intro first l a hn h
    by_cases hl : l = []
    · subst hl
      cases h
      exact ⟨by simp, fun t ht => by cases ht⟩
    · rw [run_step hl] at h
      cases hx : next first l with
      | error e => rw [hx] at h; cases h
      | ok x =>
        obtain ⟨k, r⟩ := x
        rw [hx] at h
        simp only at h
        cases hr : run false r with
        | error e => rw [hr] at h; cases h
        | ok ts =>
          rw [hr] at h
          cases h
          have hlt := next_less hl hx
          have hk := next_attrs hx
          obtain ⟨i1, i2⟩ := ih false r ts (by omega) hr
          refine ⟨by rw [List.length_cons]; omega, fun t ht => ?_⟩
          rcases List.mem_cons.1 ht with rfl | ht
          · exact hk
          · exact Nat.le_trans (i2 t ht) (by omega)
theorem toks_small (l : List UInt8) : (toks l).length ≤ l.length ∧ ∀ t ∈ toks l, t.attrs.length ≤ l.length := by
  unfold toks
  cases h : tokens l with
  | error e => exact ⟨by simp, fun t ht => by cases ht⟩
  | ok a =>
    obtain ⟨_, _, h3⟩ := tokens_ok h
    have h4 := G.lines_length l
    obtain ⟨i1, i2⟩ := run_attrs _ true _ a (Nat.le_refl _) h3
    exact ⟨by simp only; omega, fun t ht => Nat.le_trans (i2 t ht) h4⟩
end T

/-- What the call answers. -/
def TokTold (s : ByteArray) (w : World) (e : Ending) (w' : World) : Prop :=
  ∃ (ao : Option Addr) (cap : Nat) (L : List (T.Tok × Value)), e = .returned (.tuple #[.slice ao L.length cap, .int .i64 (T.tokE s.data.toList)]) ∧ L.map Prod.fst = T.toks s.data.toList ∧ ToksIn w' ao L ∧ (ao = none → cap = 0) ∧ Below w.heap.size w w'

theorem toks_attrs {w : World} {ao : Option Addr} {L : List (T.Tok × Value)} (h : ToksIn w ao L) : ∀ x ∈ L, AttrsAt w x.2 x.1.attrs := by
  intro x hx
  obtain ⟨j, hj, rfl⟩ := List.getElem_of_mem hx
  obtain ⟨_, _, _, _, a⟩ := h j hj
  exact a
theorem rowCells_append (L M : List (T.Tok × Value)) : rowCells (L ++ M) = rowCells L ++ rowCells M := by simp [rowCells]

theorem told_small {s : ByteArray} {L : List (T.Tok × Value)} (h : L.map Prod.fst = T.toks s.data.toList) (hs : s.size ≤ 100000) : L.length ≤ 100000 ∧ ∀ x ∈ L, x.1.attrs.length ≤ 1000000 := by
  obtain ⟨h1, h2⟩ := T.toks_small s.data.toList
  rw [list_len] at h1 h2
  have hl : L.length = (T.toks s.data.toList).length := by rw [← h, List.length_map]
  refine ⟨by omega, fun x hx => ?_⟩
  have := h2 x.1 (by rw [← h]; exact List.mem_map_of_mem hx)
  omega

/-- TOKENS APPENDED to a row that the call owns. -/
theorem wpList_append_toks {ops : Array Oper} {rest : List Oper} {o : Oper} {a : Act} {Q : Exit → Act → World → Prop} {w : World} (hgd : o.guard = none) (s x : Operand)
    (ho : o.op = .call { callee := .builtin .append, args := #[s, x], argTypes := #[50, 50] }) (B : Nat) (v : Value) (L M : List (T.Tok × Value)) (hs : a.eval s = v)
    (hown : w.ownsRow B 55 5 v L.length (rowCells L)) (ao : Option Addr) (cap : Nat) (hx : a.eval x = .slice ao M.length cap) (hM : ToksIn w ao M) (hcap : ao = none → cap = 0) (hlen : L.length + M.length ≤ 1000000) (hB : B ≤ w.heap.size) (E : List (T.Tok × Value)) (hEq : L ++ M = E)
    (h : ∀ v' w', Hid (w'.ownsRow B 55 5 v' E.length (rowCells E)) → Below B w w' → wpList Tryz.prog ops Q rest (a.put o.dst v') w') : wpList Tryz.prog ops Q (o :: rest) a w := by
  obtain ⟨i0, hi, hz0, hz1, hz2⟩ := info_parts infoTok
  subst hEq
  cases ao with
  | none =>
    have hc := hcap rfl
    subst hc
    have hM0 : M = [] := by
      cases M with
      | nil => rfl
      | cons y M =>
        obtain ⟨b, off, e, _⟩ := hM 0 (by simp)
        cases e
    subst hM0
    refine wpList_append_own_none hgd s x 50 ho B 55 i0 5 Tryz.underlying50 hi v L.length (rowCells L) hs hown hx ?_
    exact h v w (Lib.hid (by rw [List.append_nil]; exact hown)) (Below.refl _ _)
  | some ad =>
    refine wpList_append_own w hgd s x 50 ho B 55 i0 _ 5 72 Tryz.underlying50 hi hz0 hz1 hz2 rfl (by decide) v L.length (rowCells L) hs hown ad M.length cap (rowCells M) hx (rowCells_len M) (toks_cells hM) (toks_one (toks_attrs hM)) (by unfold maxLen; omega) (by omega) hB ?_
    intro v' w' hown' hg _
    refine h v' w' (Lib.hid (by rw [List.length_append, rowCells_append]; exact hown')) ((Below.refl _ _).grown hg hB (fun j e => (World.ownsRow.lt hown j e).1))

/-- A row that the call owns, in the world that has its attributes. -/
theorem toks_of_row {B : Nat} {v : Value} {L : List (T.Tok × Value)} {w : World} (h : w.ownsRow B 55 5 v L.length (rowCells L)) (ha : ∀ x ∈ L, AttrsAt w x.2 x.1.attrs) : ∃ ao cap, v = .slice ao L.length cap ∧ ToksIn w ao L := toks_of_owns ⟨h, ha⟩
theorem attrs_nil (w : World) : AttrsAt w (.slice none 0 0) [] := ⟨none, 0, rfl, fun j hj => by simp at hj⟩
theorem toksIn_new {b : Nat} {L : List (T.Tok × Value)} {w : World} {fr : Nat × Nat} {t : TypeId} (h : w.heap[b]? = some (.cells (rowCells L).toArray t fr)) (ha : ∀ x ∈ L, AttrsAt w x.2 x.1.attrs) : ToksIn w (some ⟨b, 0, none⟩) L := by
  intro j hj
  refine ⟨b, 0, rfl, fun i u hu => ?_, ha _ (List.getElem_mem hj)⟩
  have hi : i < 5 := by
    have := (List.getElem?_eq_some_iff.1 hu).1
    simpa [tokCells] using this
  have k := rowCells_at L j i hj hi
  rw [hu] at k
  simp only [World.cell?, h]
  simpa [Nat.add_assoc] using k
end Go.Proofs.YtegaidfmkfnbnaaGreatDoor
