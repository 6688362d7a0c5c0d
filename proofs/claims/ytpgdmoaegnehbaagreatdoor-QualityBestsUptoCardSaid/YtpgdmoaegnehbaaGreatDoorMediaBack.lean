/-
  What is parsed of a media type is told, and parsed as it was; what fits a range fits wider ones: in plain Lean.
-/
import Derived.Test.YtpgdmoaegnehbaaGreatDoorMedia
namespace Go.Proofs.YtpgdmoaegnehbaaGreatDoor
namespace Md

theorem tok_not {b : UInt8} (h : tokB b = true) : blankB b = false ∧ badB b = false ∧ b ≠ 34 ∧ b ≠ 47 ∧ b ≠ 59 ∧ b ≠ 61 := by
  have key : b.toNat ≠ 32 ∧ b.toNat ≠ 9 ∧ 32 ≤ b.toNat ∧ b.toNat ≠ 127 ∧ b.toNat ≠ 34 ∧ b.toNat ≠ 47 ∧ b.toNat ≠ 59 ∧ b.toNat ≠ 61 := by
    simp only [tokB, inB, Bool.or_eq_true, Bool.and_eq_true, decide_eq_true_eq] at h
    omega
  refine ⟨?_, ?_, ?_, ?_, ?_, ?_⟩
  · rw [← Bool.not_eq_true]
    simp only [blankB, inB, Bool.or_eq_true, Bool.and_eq_true, decide_eq_true_eq]
    omega
  · rw [← Bool.not_eq_true]
    simp only [badB, Bool.or_eq_true, Bool.and_eq_true, decide_eq_true_eq]
    omega
  · rintro rfl; exact absurd rfl key.2.2.2.2.1
  · rintro rfl; exact absurd rfl key.2.2.2.2.2.1
  · rintro rfl; exact absurd rfl key.2.2.2.2.2.2.1
  · rintro rfl; exact absurd rfl key.2.2.2.2.2.2.2

theorem low_nat (b : UInt8) : (lowB b).toNat = if 65 ≤ b.toNat ∧ b.toNat ≤ 90 then b.toNat + 32 else b.toNat := by
  unfold lowB
  split
  · simp; omega
  · rfl
theorem low_tok {b : UInt8} (h : tokB b = true) : tokB (lowB b) = true := by
  have := low_nat b
  simp only [tokB, inB, Bool.or_eq_true, Bool.and_eq_true, decide_eq_true_eq] at h ⊢
  rw [this]
  split <;> omega
theorem low_low (b : UInt8) : lowB (lowB b) = lowB b := by
  apply UInt8.toNat_inj.1
  rw [low_nat (lowB b), low_nat b]
  by_cases h : 65 ≤ b.toNat ∧ b.toNat ≤ 90
  · rw [if_pos h, if_neg (by omega)]
  · rw [if_neg h, if_neg h]
theorem lower_lower (l : List UInt8) : lower (lower l) = lower l := by
  unfold lower; rw [List.map_map]; congr 1; funext b; exact low_low b

/-- A name as it is told. -/
structure Name (l : List UInt8) : Prop where
  ne : l ≠ []
  all : l.all tokB = true
  low : lower l = l
theorem tok_all (l : List UInt8) : (tok l).all tokB = true := by
  unfold tok
  induction l with
  | nil => rfl
  | cons b t ih =>
    by_cases h : tokB b = true
    · rw [List.takeWhile_cons_of_pos h, List.all_cons, h, ih]; rfl
    · rw [List.takeWhile_cons_of_neg h]; rfl
theorem name_of {l : List UInt8} (h : tok l ≠ []) : Name (lower (tok l)) := by
  refine ⟨by simpa [lower] using h, ?_, lower_lower _⟩
  have := tok_all l
  rw [List.all_eq_true] at this ⊢
  intro x hx
  unfold lower at hx
  obtain ⟨y, hy, rfl⟩ := List.mem_map.1 hx
  exact low_tok (this y hy)

def good (l : List UInt8) : Prop := ∀ b ∈ l, badB b = false
theorem quo_good : ∀ (n : Nat) (l acc v r : List UInt8), l.length ≤ n → quo acc l = some (v, r) → good acc → good v := by
  intro n
  induction n with
  | zero =>
    intro l acc v r hn h
    have : l = [] := List.length_eq_zero_iff.1 (by omega)
    subst this; rw [quo_nil] at h; cases h
  | succ n ih =>
    intro l acc v r hn h hg
    have more : ∀ c, badB c = false → good (acc ++ [c]) := fun c hc b hb => by
      rcases List.mem_append.1 hb with hb | hb
      · exact hg b hb
      · rw [List.mem_singleton.1 hb]; exact hc
    cases l with
    | nil => rw [quo_nil] at h; cases h
    | cons b t =>
      rw [List.length_cons] at hn
      by_cases h1 : b = 34
      · subst h1; rw [quo_end] at h; injection h with h; injection h with h _; subst h; exact hg
      · by_cases h2 : b = 92
        · subst h2
          cases t with
          | nil => rw [quo_esc_end] at h; cases h
          | cons c u =>
            rw [List.length_cons] at hn
            cases hb : badB c with
            | true => rw [quo_esc_bad _ _ _ hb] at h; cases h
            | false => rw [quo_esc _ _ _ hb] at h; exact ih u _ v r (by omega) h (more c hb)
        · cases hb : badB b with
          | true => rw [quo_bad _ _ _ h1 h2 hb] at h; cases h
          | false => rw [quo_one _ _ _ h1 h2 hb] at h; exact ih t _ v r (by omega) h (more b hb)
theorem value_good {l v r : List UInt8} (h : value l = some (v, r)) : good v := by
  unfold value at h
  split at h
  · exact quo_good _ _ _ _ _ (Nat.le_refl _) h (fun b hb => by cases hb)
  · split at h
    · cases h
    · injection h with h; injection h with h _; subst h
      intro b hb
      exact (tok_not (List.all_eq_true.1 (tok_all l) b hb)).2.1

/-- A parameter as it may be told. -/
structure Par (p : Pair) : Prop where
  name : Name p.name.data.toList
  value : good p.value.data.toList
theorem params_par : ∀ (n : Nat) (acc : List Pair) (s : List UInt8) (l : List Pair), s.length ≤ n → paramsG acc s = some l → (∀ p ∈ acc, Par p) → ∀ p ∈ l, Par p := by
  intro n
  induction n with
  | zero =>
    intro acc s l hn h ha
    have : s = [] := List.length_eq_zero_iff.1 (by omega)
    subst this
    rw [pg_end rfl] at h; injection h with h; subst h; exact ha
  | succ n ih =>
    intro acc s l hn h ha
    by_cases h0 : skip s = []
    · rw [pg_end h0] at h; injection h with h; subst h; exact ha
    by_cases h1 : (skip s).head? = some 59
    · by_cases h2 : tok (skip ((skip s).drop 1)) = []
      · rw [pg_name h0 h1 h2] at h; cases h
      by_cases h3 : (tokR (skip ((skip s).drop 1))).head? = some 61
      · cases h4 : value ((tokR (skip ((skip s).drop 1))).drop 1) with
        | none => rw [pg_value h0 h1 h2 h3 h4] at h; cases h
        | some x =>
          obtain ⟨v, r⟩ := x
          rw [pg_step h0 h1 h2 h3 h4] at h
          refine ih _ r l (by have := params_shorter h0 h4; omega) h ?_
          intro p hp
          rcases List.mem_append.1 hp with hp | hp
          · exact ha p hp
          · rw [List.mem_singleton.1 hp]
            exact ⟨by simpa using name_of h2, by simpa using value_good h4⟩
      · rw [pg_sign h0 h1 h2 h3] at h; cases h
    · rw [pg_semi h0 h1] at h; cases h

/-! ### what is told is read -/
theorem tok_app {n : List UInt8} (hn : n.all tokB = true) {r : List UInt8} (hr : ∀ b, r.head? = some b → tokB b = false) : tok (n ++ r) = n ∧ tokR (n ++ r) = r := by
  unfold tok tokR
  induction n with
  | nil =>
    cases r with
    | nil => exact ⟨rfl, rfl⟩
    | cons b t =>
      have := hr b rfl
      rw [List.nil_append, List.takeWhile_cons_of_neg (by rw [this]; simp), List.dropWhile_cons_of_neg (by rw [this]; simp)]
      exact ⟨rfl, rfl⟩
  | cons b t ih =>
    simp only [List.all_cons, Bool.and_eq_true] at hn
    rw [List.cons_append, List.takeWhile_cons_of_pos hn.1, List.dropWhile_cons_of_pos hn.1, (ih hn.2).1, (ih hn.2).2]
    exact ⟨rfl, rfl⟩
theorem skip_name {n : List UInt8} (hn : Name n) (r : List UInt8) : skip (n ++ r) = n ++ r := by
  cases n with
  | nil => exact absurd rfl hn.ne
  | cons b t =>
    have := hn.all
    simp only [List.all_cons, Bool.and_eq_true] at this
    exact List.dropWhile_cons_of_neg (by rw [(tok_not this.1).1]; simp)

theorem quo_told : ∀ (v acc r : List UInt8), good v → quo acc (esc v ++ 34 :: r) = some (acc ++ v, r) := by
  intro v
  induction v with
  | nil => intro acc r _; rw [show esc [] ++ 34 :: r = 34 :: r from rfl, quo_end, List.append_nil]
  | cons b t ih =>
    intro acc r hg
    have hb := hg b (by simp)
    have ht : good t := fun x hx => hg x (by simp [hx])
    have e : esc (b :: t) = (if b = 34 ∨ b = 92 then [92, b] else [b]) ++ esc t := by unfold esc; rw [List.flatMap_cons]
    rw [e]
    by_cases h : b = 34 ∨ b = 92
    · rw [if_pos h]
      show quo acc (92 :: b :: (esc t ++ 34 :: r)) = _
      rw [quo_esc _ _ _ hb, ih _ _ ht]; simp
    · rw [if_neg h]
      show quo acc (b :: (esc t ++ 34 :: r)) = _
      rw [quo_one _ _ _ (fun e => h (.inl e)) (fun e => h (.inr e)) hb, ih _ _ ht]; simp

theorem value_told {v r : List UInt8} (hg : good v) (hr : ∀ b, r.head? = some b → tokB b = false) : value (quote v ++ r) = some (v, r) := by
  unfold quote
  by_cases h : isTok v = true
  · rw [if_pos h]
    unfold isTok at h
    rw [Bool.and_eq_true] at h
    have hne : v ≠ [] := by intro e; rw [e] at h; simp at h
    obtain ⟨t1, t2⟩ := tok_app h.2 hr
    unfold value
    rw [if_neg, t1, t2, if_neg hne]
    intro e
    cases v with
    | nil => exact hne rfl
    | cons b t =>
      have hb := h.2
      simp only [List.all_cons, Bool.and_eq_true] at hb
      have : b = 34 := by simpa using e
      exact (tok_not hb.1).2.2.1 this
  · rw [if_neg h]
    unfold value
    rw [if_pos (by simp)]
    have e : (34 :: (esc v ++ [34]) ++ r).drop 1 = esc v ++ 34 :: r := by simp
    rw [e, quo_told v [] r hg]; rfl

theorem tells_head (l : List Pair) : ∀ b, (l.flatMap tellP).head? = some b → tokB b = false := by
  intro b h
  cases l with
  | nil => cases h
  | cons p l =>
    rw [List.flatMap_cons] at h
    have : b = 59 := by
      have e : (tellP p ++ l.flatMap tellP).head? = some 59 := rfl
      rw [e] at h; exact (Option.some.inj h).symm
    subst this; decide

theorem params_told : ∀ (l acc : List Pair), (∀ p ∈ l, Par p) → paramsG acc (l.flatMap tellP) = some (acc ++ l) := by
  intro l
  induction l with
  | nil => intro acc _; rw [pg_end rfl, List.append_nil]
  | cons p l ih =>
    intro acc hp
    have hpar := hp p (by simp)
    have e : (p :: l).flatMap tellP = 59 :: 32 :: (p.name.data.toList ++ 61 :: (quote p.value.data.toList ++ l.flatMap tellP)) := by
      rw [List.flatMap_cons, tellP]; simp
    rw [e]
    have s1 : skip (59 :: 32 :: (p.name.data.toList ++ 61 :: (quote p.value.data.toList ++ l.flatMap tellP))) = 59 :: 32 :: (p.name.data.toList ++ 61 :: (quote p.value.data.toList ++ l.flatMap tellP)) :=
      List.dropWhile_cons_of_neg (by decide)
    have s2 : skip (32 :: (p.name.data.toList ++ 61 :: (quote p.value.data.toList ++ l.flatMap tellP))) = p.name.data.toList ++ 61 :: (quote p.value.data.toList ++ l.flatMap tellP) := by
      unfold skip
      rw [List.dropWhile_cons_of_pos (by decide)]
      exact skip_name hpar.name _
    obtain ⟨t1, t2⟩ := tok_app (n := p.name.data.toList) hpar.name.all (r := 61 :: (quote p.value.data.toList ++ l.flatMap tellP)) (by intro b hb; have : b = 61 := (Option.some.inj hb).symm; subst this; decide)
    have d1 : (59 :: 32 :: (p.name.data.toList ++ 61 :: (quote p.value.data.toList ++ l.flatMap tellP))).drop 1 = 32 :: (p.name.data.toList ++ 61 :: (quote p.value.data.toList ++ l.flatMap tellP)) := rfl
    have hv := value_told (v := p.value.data.toList) hpar.value (tells_head l)
    have step := pg_step (acc := acc) (s := 59 :: 32 :: (p.name.data.toList ++ 61 :: (quote p.value.data.toList ++ l.flatMap tellP))) (v := p.value.data.toList) (r := l.flatMap tellP)
      (by rw [s1]; simp) (by rw [s1]; rfl) (by rw [s1, d1, s2, t1]; exact hpar.name.ne) (by rw [s1, d1, s2, t2]; rfl) (by rw [s1, d1, s2, t2]; exact hv)
    rw [step, ih _ (fun q hq => hp q (by simp [hq])), s1, d1, s2, t1, hpar.name.low]
    simp

theorem parse_some {l : List UInt8} {m : Med} (h : parse l = some m) : Name m.ty.data.toList ∧ Name m.sub.data.toList ∧ (m.ty.data.toList = [42] → m.sub.data.toList = [42]) ∧ ∀ p ∈ m.params, Par p := by
  unfold parse at h
  split at h
  · cases h
  · rename_i h1
    split at h
    · cases h
    · rename_i h2
      cases hp : paramsG [] (tokR ((tokR (skip l)).drop 1)) with
      | none => rw [hp] at h; cases h
      | some ps =>
        rw [hp] at h
        simp only at h
        split at h
        · cases h
        · rename_i h3
          injection h with h
          subst h
          refine ⟨by simpa using name_of (fun e => h1 (.inl e)), by simpa using name_of h2, ?_, params_par _ _ _ _ (Nat.le_refl _) hp (fun p hp => by cases hp)⟩
          intro e
          have e' : lower (tok (skip l)) = [42] := by simpa using e
          have hs : tok (skip l) = [42] := by
            match hx : tok (skip l), e' with
            | [], e' => simp [lower] at e'
            | _ :: _ :: _, e' => simp [lower] at e'
            | [b], e' =>
              have hb : lowB b = 42 := by simpa [lower] using e'
              have hn := congrArg UInt8.toNat hb
              rw [low_nat] at hn
              have : b.toNat = 42 := by
                split at hn
                · have : (42 : UInt8).toNat = 42 := rfl
                  omega
                · exact hn
              rw [UInt8.toNat_inj.1 (show b.toNat = (42 : UInt8).toNat from this)]
          have ht : tok ((tokR (skip l)).drop 1) = [42] := by
            by_cases h4 : tok ((tokR (skip l)).drop 1) = [42]
            · exact h4
            · exact absurd ⟨hs, h4⟩ h3
          rw [ht]; rfl

theorem parse_told {m : Med} (h1 : Name m.ty.data.toList) (h2 : Name m.sub.data.toList) (h3 : m.ty.data.toList = [42] → m.sub.data.toList = [42]) (h4 : ∀ p ∈ m.params, Par p) : parse (print m) = some m := by
  have e : print m = m.ty.data.toList ++ 47 :: (m.sub.data.toList ++ m.params.flatMap tellP) := rfl
  have s1 := skip_name h1 (47 :: (m.sub.data.toList ++ m.params.flatMap tellP))
  obtain ⟨t1, t2⟩ := tok_app h1.all (r := 47 :: (m.sub.data.toList ++ m.params.flatMap tellP)) (by intro b hb; have : b = 47 := (Option.some.inj hb).symm; subst this; decide)
  obtain ⟨t3, t4⟩ := tok_app h2.all (tells_head m.params)
  have hp := params_told m.params [] h4
  unfold parse
  rw [e, s1, t1, t2]
  rw [if_neg (by rintro (x | x); exact h1.ne x; exact x rfl)]
  rw [show (47 :: (m.sub.data.toList ++ m.params.flatMap tellP)).drop 1 = m.sub.data.toList ++ m.params.flatMap tellP from rfl, t3, t4, if_neg h2.ne, hp]
  simp only [List.nil_append]
  rw [if_neg (by rintro ⟨x, y⟩; exact y (h3 x)), h1.low, h2.low]

theorem parse_back {l : List UInt8} {m : Med} (h : parse l = some m) : parse (print m) = some m := by
  obtain ⟨h1, h2, h3, h4⟩ := parse_some h
  exact parse_told h1 h2 h3 h4

/-! ### wider ranges -/
theorem fits_wide {r m : Med} (h : fits r m = true) : fits ⟨r.ty, r.sub, []⟩ m = true ∧ fits ⟨m.ty, star, []⟩ m = true := by
  unfold fits at h ⊢
  rw [Bool.and_eq_true, Bool.and_eq_true] at h
  refine ⟨?_, ?_⟩
  · simp only [List.all_nil, Bool.and_true]
    rw [h.1.1, h.1.2]; rfl
  · simp
theorem fits_stars (m : Med) : fits ⟨star, star, []⟩ m = true := by unfold fits; simp
/-- No parameter twice. -/
def once (l : List Pair) : Prop := ∀ i j (hi : i < l.length) (hj : j < l.length), j < i → l[i].name ≠ l[j].name
theorem param_once {l : List Pair} (h : once l) (i : Nat) (hi : i < l.length) : param l l[i].name = some l[i].value := by
  induction l generalizing i with
  | nil => simp at hi
  | cons p l ih =>
    have hc : ∀ n, param (p :: l) n = if p.name = n then some p.value else param l n := fun n => by
      unfold param
      rw [List.find?_cons]
      by_cases h : p.name = n
      · rw [if_pos h, decide_eq_true h]; rfl
      · rw [if_neg h, decide_eq_false h]
    rw [hc]
    cases i with
    | zero => exact if_pos rfl
    | succ i =>
      have hi' : i < l.length := by simpa using hi
      have hne := h (i + 1) 0 hi (by simp) (by omega)
      rw [if_neg (fun e => hne (by simpa using e.symm))]
      have := ih (fun a b ha hb hab => by
        have := h (a + 1) (b + 1) (by simpa using ha) (by simpa using hb) (by omega)
        simpa using this) i hi'
      simpa using this
theorem fits_self {m : Med} (h : once m.params) : fits m m = true := by
  unfold fits
  simp only [decide_true, Bool.or_true, Bool.true_and, List.all_eq_true]
  intro p hp
  obtain ⟨i, hi, rfl⟩ := List.mem_iff_getElem.1 hp
  unfold fitsP
  rw [param_once h i hi]
  simp
end Md
end Go.Proofs.YtpgdmoaegnehbaaGreatDoor
