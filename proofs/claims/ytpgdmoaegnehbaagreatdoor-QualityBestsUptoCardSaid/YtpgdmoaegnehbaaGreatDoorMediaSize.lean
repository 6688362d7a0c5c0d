/-
  How long what is parsed of a media type is, and what is told of it: in plain Lean.
-/
import Derived.Test.YtpgdmoaegnehbaaGreatDoorMediaBack
namespace Go.Proofs.YtpgdmoaegnehbaaGreatDoor
namespace Md

theorem quo_size : ∀ (n : Nat) (l acc v r : List UInt8), l.length ≤ n → quo acc l = some (v, r) → v.length + r.length ≤ acc.length + l.length := by
  intro n
  induction n with
  | zero =>
    intro l acc v r hn h
    have : l = [] := List.length_eq_zero_iff.1 (by omega)
    subst this; rw [quo_nil] at h; cases h
  | succ n ih =>
    intro l acc v r hn h
    cases l with
    | nil => rw [quo_nil] at h; cases h
    | cons b t =>
      rw [List.length_cons] at hn ⊢
      by_cases h1 : b = 34
      · subst h1; rw [quo_end] at h; injection h with h; injection h with h h'; subst h; subst h'; omega
      · by_cases h2 : b = 92
        · subst h2
          cases t with
          | nil => rw [quo_esc_end] at h; cases h
          | cons c u =>
            rw [List.length_cons] at hn ⊢
            cases hb : badB c with
            | true => rw [quo_esc_bad _ _ _ hb] at h; cases h
            | false =>
              rw [quo_esc _ _ _ hb] at h
              have := ih u _ v r (by omega) h
              rw [List.length_append, List.length_singleton] at this; omega
        · cases hb : badB b with
          | true => rw [quo_bad _ _ _ h1 h2 hb] at h; cases h
          | false =>
            rw [quo_one _ _ _ h1 h2 hb] at h
            have := ih t _ v r (by omega) h
            rw [List.length_append, List.length_singleton] at this; omega
theorem value_size {l v r : List UInt8} (h : value l = some (v, r)) : v.length + r.length ≤ l.length := by
  unfold value at h
  split at h
  · have := quo_size _ _ _ _ _ (Nat.le_refl _) h
    rw [List.length_drop, List.length_nil] at this; omega
  · split at h
    · cases h
    · injection h with h; injection h with h h'; subst h; subst h'
      have := congrArg List.length (tok_tokR l)
      rw [List.length_append] at this; omega

/-- How much parameters are. -/
def wt : List Pair → Nat
  | [] => 0
  | p :: l => p.name.size + p.value.size + 2 + wt l
theorem wt_app (l m : List Pair) : wt (l ++ m) = wt l + wt m := by
  induction l with
  | nil => simp [wt]
  | cons p l ih => simp only [List.cons_append, wt, ih]; omega
theorem wt_mem {l : List Pair} {p : Pair} (h : p ∈ l) : p.name.size + p.value.size + 2 ≤ wt l := by
  induction l with
  | nil => cases h
  | cons q l ih =>
    unfold wt
    rcases List.mem_cons.1 h with rfl | h
    · omega
    · have := ih h; omega
theorem wt_length (l : List Pair) : 2 * l.length ≤ wt l := by
  induction l with
  | nil => simp [wt]
  | cons p l ih => rw [List.length_cons, wt]; omega
theorem sz (l : List UInt8) : (⟨l.toArray⟩ : ByteArray).size = l.length := by simp [ByteArray.size]
theorem sz' (b : ByteArray) : b.data.toList.length = b.size := by simp

theorem params_size : ∀ (n : Nat) (acc : List Pair) (s : List UInt8) (l : List Pair), s.length ≤ n → paramsG acc s = some l → wt l ≤ wt acc + s.length := by
  intro n
  induction n with
  | zero =>
    intro acc s l hn h
    have : s = [] := List.length_eq_zero_iff.1 (by omega)
    subst this
    rw [pg_end rfl] at h; injection h with h; subst h; omega
  | succ n ih =>
    intro acc s l hn h
    by_cases h0 : skip s = []
    · rw [pg_end h0] at h; injection h with h; subst h; omega
    by_cases h1 : (skip s).head? = some 59
    · by_cases h2 : tok (skip ((skip s).drop 1)) = []
      · rw [pg_name h0 h1 h2] at h; cases h
      by_cases h3 : (tokR (skip ((skip s).drop 1))).head? = some 61
      · cases h4 : value ((tokR (skip ((skip s).drop 1))).drop 1) with
        | none => rw [pg_value h0 h1 h2 h3 h4] at h; cases h
        | some x =>
          obtain ⟨v, r⟩ := x
          rw [pg_step h0 h1 h2 h3 h4] at h
          have hsh := params_shorter h0 h4
          have := ih _ r l (by omega) h
          rw [wt_app] at this
          simp only [wt, sz] at this
          have hv := value_size h4
          have ht := congrArg List.length (tok_tokR (skip ((skip s).drop 1)))
          have c := skip_length ((skip s).drop 1)
          have d := skip_length s
          have e := List.length_pos_iff.2 h0
          have f : 0 < (tokR (skip ((skip s).drop 1))).length := by
            refine List.length_pos_iff.2 (fun e => ?_)
            rw [e] at h3; cases h3
          have g : (lower (tok (skip ((skip s).drop 1)))).length = (tok (skip ((skip s).drop 1))).length := by unfold lower; rw [List.length_map]
          rw [List.length_append] at ht
          rw [List.length_drop] at c hv
          omega
      · rw [pg_sign h0 h1 h2 h3] at h; cases h
    · rw [pg_semi h0 h1] at h; cases h

theorem parse_size {l : List UInt8} {m : Med} (h : parse l = some m) : m.ty.size + m.sub.size + wt m.params ≤ l.length := by
  unfold parse at h
  split at h
  · cases h
  · rename_i h1
    split at h
    · cases h
    · cases hp : paramsG [] (tokR ((tokR (skip l)).drop 1)) with
      | none => rw [hp] at h; cases h
      | some ps =>
        rw [hp] at h
        simp only at h
        split at h
        · cases h
        · injection h with h
          subst h
          have := params_size _ _ _ _ (Nat.le_refl _) hp
          have a := congrArg List.length (tok_tokR (skip l))
          have b := congrArg List.length (tok_tokR ((tokR (skip l)).drop 1))
          have c := skip_length l
          rw [List.length_append] at a b
          rw [List.length_drop] at b
          simp only [sz, lower, List.length_map, wt] at *
          omega

theorem esc_len (l : List UInt8) : (esc l).length ≤ 2 * l.length := by
  unfold esc
  induction l with
  | nil => simp
  | cons b t ih =>
    rw [List.flatMap_cons, List.length_append, List.length_cons]
    have : (if b = 34 ∨ b = 92 then [92, b] else [b] : List UInt8).length ≤ 2 := by split <;> simp
    omega
theorem quote_len (l : List UInt8) : (quote l).length ≤ 2 * l.length + 2 := by
  unfold quote
  split
  · omega
  · have := esc_len l
    rw [List.length_cons, List.length_append, List.length_singleton]; omega
theorem print_size (m : Med) : (print m).length ≤ m.ty.size + m.sub.size + 1 + 3 * wt m.params := by
  have key : ∀ l : List Pair, (l.flatMap tellP).length ≤ 3 * wt l := by
    intro l
    induction l with
    | nil => simp [wt]
    | cons p l ih =>
      rw [List.flatMap_cons, List.length_append, wt]
      have := quote_len p.value.data.toList
      have e : (tellP p).length = 2 + (p.name.data.toList.length + (1 + (quote p.value.data.toList).length)) := by unfold tellP; simp; omega
      rw [e, sz']
      rw [sz'] at this
      omega
  have := key m.params
  unfold print
  rw [List.length_append, List.length_cons, List.length_append, sz', sz']
  omega
end Md
end Go.Proofs.YtpgdmoaegnehbaaGreatDoor
