/-
  Tags and conditions in plain Lean: lists of tags, what is told, what may be done.
-/
import Derived.Test.YtojbhokneemeaaaDoorRefTok
namespace Go.Proofs.YtojbhokneemeaaaDoor

structure Tag where
  weak : Bool
  value : ByteArray
  deriving DecidableEq, Inhabited

namespace Et
/-- A byte of a value. -/
def inner (b : UInt8) : Bool := decide (b.toNat = 33) || (decide (35 ≤ b.toNat) && decide (b.toNat ≠ 127))
def val (l : List UInt8) : List UInt8 := l.takeWhile inner
def valR (l : List UInt8) : List UInt8 := l.dropWhile inner
/-- Space and commas. -/
def sepB (b : UInt8) : Bool := decide (b.toNat = 44) || Md.blankB b
def seps (l : List UInt8) : List UInt8 := l.dropWhile sepB

theorem val_valR (l : List UInt8) : val l ++ valR l = l := List.takeWhile_append_dropWhile
theorem valR_length (l : List UInt8) : (valR l).length ≤ l.length := (List.dropWhile_sublist _).length_le
theorem seps_length (l : List UInt8) : (seps l).length ≤ l.length := (List.dropWhile_sublist _).length_le
theorem val_at {l : List UInt8} {k : Nat} (h : (l.take k).all inner = true) (h2 : ∀ h : k < l.length, inner l[k] = false) : val l = l.take k ∧ valR l = l.drop k := by
  unfold val valR
  induction l generalizing k with
  | nil => simp
  | cons b m ih =>
    cases k with
    | zero =>
      have := h2 (by simp)
      simp only [List.getElem_cons_zero] at this
      rw [List.takeWhile_cons_of_neg (by rw [this]; simp), List.dropWhile_cons_of_neg (by rw [this]; simp)]
      exact ⟨rfl, rfl⟩
    | succ k =>
      simp only [List.take_succ_cons, List.all_cons, Bool.and_eq_true] at h
      have := ih h.2 (fun hk => by
        have := h2 (by simp; omega)
        rw [List.getElem_cons_succ] at this; exact this)
      rw [List.takeWhile_cons_of_pos h.1, List.dropWhile_cons_of_pos h.1, List.take_succ_cons, this.1, this.2]
      exact ⟨rfl, rfl⟩
theorem val_all {l r : List UInt8} (h : l.all inner = true) : val (l ++ 34 :: r) = l ∧ valR (l ++ 34 :: r) = 34 :: r := by
  unfold val valR
  induction l with
  | nil =>
    have : inner 34 = false := by decide
    rw [List.nil_append, List.takeWhile_cons_of_neg (by rw [this]; simp), List.dropWhile_cons_of_neg (by rw [this]; simp)]
    exact ⟨rfl, rfl⟩
  | cons b m ih =>
    rw [List.all_cons, Bool.and_eq_true] at h
    rw [List.cons_append, List.takeWhile_cons_of_pos h.1, List.dropWhile_cons_of_pos h.1, (ih h.2).1, (ih h.2).2]
    exact ⟨rfl, rfl⟩
theorem valR_nil (l : List UInt8) : valR l = [] ↔ l.all inner = true := by
  unfold valR
  induction l with
  | nil => simp
  | cons b m ih =>
    by_cases hb : inner b = true
    · rw [List.dropWhile_cons_of_pos hb, ih, List.all_cons, hb, Bool.true_and]
    · rw [List.dropWhile_cons_of_neg hb, List.all_cons]
      simp only [Bool.not_eq_true] at hb
      rw [hb]; simp

/-- A tag's text behind what makes it weak. -/
def qtag (wk : Bool) (l : List UInt8) : Option (Tag × List UInt8) :=
  if l.head? = some 34 then (if (valR (l.drop 1)).head? = some 34 then some (⟨wk, ⟨(val (l.drop 1)).toArray⟩⟩, (valR (l.drop 1)).drop 1) else none) else none
theorem qt_head {wk : Bool} {l : List UInt8} (h : l.head? ≠ some 34) : qtag wk l = none := by unfold qtag; rw [if_neg h]
theorem qt_end {wk : Bool} {l : List UInt8} (h : l.head? = some 34) (h2 : (valR (l.drop 1)).head? ≠ some 34) : qtag wk l = none := by unfold qtag; rw [if_pos h, if_neg h2]
theorem qt_yes {wk : Bool} {l : List UInt8} (h : l.head? = some 34) (h2 : (valR (l.drop 1)).head? = some 34) : qtag wk l = some (⟨wk, ⟨(val (l.drop 1)).toArray⟩⟩, (valR (l.drop 1)).drop 1) := by unfold qtag; rw [if_pos h, if_pos h2]
/-- The tag at a text's head, and what stands behind it. -/
def take (l : List UInt8) : Option (Tag × List UInt8) := if l.take 2 = [87, 47] then qtag true (l.drop 2) else qtag false l
theorem qt_length {wk : Bool} {l r : List UInt8} {t : Tag} (h : qtag wk l = some (t, r)) : r.length < l.length := by
  unfold qtag at h
  split at h
  · rename_i h1
    split at h
    · injection h with h; injection h with _ h; subst h
      have a := valR_length (l.drop 1)
      cases l with
      | nil => cases h1
      | cons b m =>
        rw [List.length_drop]
        simp at a ⊢
        omega
    · cases h
  · cases h
theorem take_length {l r : List UInt8} {t : Tag} (h : take l = some (t, r)) : r.length < l.length := by
  unfold take at h
  split at h
  · have := qt_length h
    rw [List.length_drop] at this; omega
  · exact qt_length h

/-- Tags between commas; the number bounds the steps. -/
def tagsN : Nat → List Tag → List UInt8 → Option (List Tag)
  | 0, _, _ => none
  | n + 1, acc, s => if seps s = [] then some acc else match take (seps s) with
    | none => none
    | some (t, r) => if Md.skip r = [] ∨ (Md.skip r).head? = some 44 then tagsN n (acc ++ [t]) r else none
theorem tagsN_same : ∀ (n m : Nat) (acc : List Tag) (s : List UInt8), s.length < n → s.length < m → tagsN n acc s = tagsN m acc s
  | 0, _, _, _, h, _ => by omega
  | _ + 1, 0, _, _, _, h => by omega
  | n + 1, m + 1, acc, s, h1, h2 => by
    unfold tagsN
    split
    · rfl
    · split
      · rfl
      · rename_i t r ht
        have a := take_length ht
        have b := seps_length s
        split
        · exact tagsN_same n m _ _ (by omega) (by omega)
        · rfl
/-- .. so the number may be left out. -/
def tagsG (acc : List Tag) (s : List UInt8) : Option (List Tag) := tagsN (s.length + 1) acc s
theorem tg_end {acc : List Tag} {s : List UInt8} (h : seps s = []) : tagsG acc s = some acc := by unfold tagsG tagsN; rw [if_pos h]
theorem tg_none {acc : List Tag} {s : List UInt8} (h : seps s ≠ []) (h1 : take (seps s) = none) : tagsG acc s = none := by unfold tagsG tagsN; rw [if_neg h, h1]
theorem tg_apart {acc : List Tag} {s r : List UInt8} {t : Tag} (h : seps s ≠ []) (h1 : take (seps s) = some (t, r)) (h2 : Md.skip r ≠ []) (h3 : (Md.skip r).head? ≠ some 44) : tagsG acc s = none := by
  unfold tagsG tagsN; rw [if_neg h, h1]; simp only; rw [if_neg (by rintro (e | e); exact h2 e; exact h3 e)]
theorem tg_step {acc : List Tag} {s r : List UInt8} {t : Tag} (h : seps s ≠ []) (h1 : take (seps s) = some (t, r)) (h2 : Md.skip r = [] ∨ (Md.skip r).head? = some 44) : tagsG acc s = tagsG (acc ++ [t]) r := by
  have a := take_length h1
  have b := seps_length s
  conv => lhs; unfold tagsG tagsN
  rw [if_neg h, h1]; simp only; rw [if_pos h2]
  exact tagsN_same _ _ _ _ (by omega) (by omega)
theorem tg_sep (acc : List Tag) (s t : List UInt8) (h : seps s = seps t) : tagsG acc s = tagsG acc t := by
  by_cases h0 : seps s = []
  · rw [tg_end h0, tg_end (h ▸ h0)]
  · cases h1 : take (seps s) with
    | none => rw [tg_none h0 h1, tg_none (h ▸ h0) (h ▸ h1)]
    | some x =>
      obtain ⟨x, r⟩ := x
      by_cases h2 : Md.skip r = [] ∨ (Md.skip r).head? = some 44
      · rw [tg_step (s := s) h0 h1 h2, tg_step (s := t) (h ▸ h0) (h ▸ h1) h2]
      · rw [not_or] at h2
        rw [tg_apart h0 h1 h2.1 h2.2, tg_apart (h ▸ h0) (h ▸ h1) h2.1 h2.2]
theorem tagsN_length : ∀ (n : Nat) (acc : List Tag) (s : List UInt8) (l : List Tag), tagsN n acc s = some l → l.length ≤ acc.length + s.length
  | 0, _, _, _, h => by cases h
  | n + 1, acc, s, l, h => by
    unfold tagsN at h
    split at h
    · injection h with h; subst h; omega
    · split at h
      · cases h
      · rename_i t r ht
        have a := take_length ht
        have b := seps_length s
        split at h
        · have := tagsN_length n _ _ _ h
          rw [List.length_append, List.length_singleton] at this
          omega
        · cases h

/-- Is it a star? -/
def star (l : List UInt8) : Bool := decide ((Md.skip l).head? = some 42) && decide (Md.skip ((Md.skip l).drop 1) = [])
/-- List: Q1. -/
def list (l : List UInt8) : Option (List Tag × Bool) :=
  if star l = true then some ([], true) else match tagsG [] l with
    | none => none
    | some ts => if ts = [] then none else some (ts, false)
theorem list_length {l : List UInt8} {ts : List Tag} {st : Bool} (h : list l = some (ts, st)) : ts.length ≤ l.length := by
  unfold list at h
  split at h
  · injection h with h; injection h with h _; subst h; simp
  · split at h
    · cases h
    · rename_i ts' ht
      split at h
      · cases h
      · injection h with h; injection h with h _; subst h
        have := tagsN_length _ _ _ _ ht
        simp at this; omega

/-- Print: Q2. -/
def tell (t : Tag) : List UInt8 := (if t.weak = true then [87, 47] else []) ++ 34 :: (t.value.data.toList ++ [34])
def may (t : Tag) : Bool := t.value.data.toList.all inner
/-- Has: Q3. -/
def alike (x t : Tag) (weak : Bool) : Bool := decide (x.value = t.value) && (weak || (!x.weak && !t.weak))
def has (l : List Tag) (star : Bool) (t : Tag) (there weak : Bool) : Bool := there && (star || l.any fun x => alike x t weak)
/-- May: Q4. -/
def asks (s : List UInt8) (t : Tag) (there weak : Bool) : Option Bool := (list s).map fun p => has p.1 p.2 t there weak
def upon (s : List UInt8) (t : Tag) (there weak : Bool) (no yes : Int) : Int := if s = [] then 0 else match asks s t there weak with
  | none => 400
  | some true => yes
  | some false => no
def mayN (none : List UInt8) (t : Tag) (there get : Bool) : Int := upon none t there true 0 (if get = true then 304 else 412)
def mayQ (mat none : List UInt8) (t : Tag) (there get : Bool) : Int := if upon mat t there false 412 0 = 0 then mayN none t there get else upon mat t there false 412 0

/-! ### what is told is one tag of a list -/
theorem take_tell (t : Tag) (h : may t = true) (r : List UInt8) : take (tell t ++ r) = some (t, r) := by
  obtain ⟨wk, v⟩ := t
  unfold may at h
  dsimp only at h
  have hv := val_all (r := r) h
  have hq : ∀ wk, qtag wk (34 :: (v.data.toList ++ 34 :: r)) = some (⟨wk, v⟩, r) := fun wk => by
    rw [qt_yes rfl (by rw [show (34 :: (v.data.toList ++ 34 :: r)).drop 1 = v.data.toList ++ 34 :: r from rfl, hv.2]; rfl), show (34 :: (v.data.toList ++ 34 :: r)).drop 1 = v.data.toList ++ 34 :: r from rfl, hv.1, hv.2]
    rfl
  unfold take tell
  cases wk with
  | true =>
    have e : (if (⟨true, v⟩ : Tag).weak = true then [(87 : UInt8), 47] else []) ++ 34 :: (v.data.toList ++ [34]) ++ r = 87 :: 47 :: 34 :: (v.data.toList ++ 34 :: r) := by simp
    rw [e, if_pos (by rfl)]
    exact hq true
  | false =>
    have e : (if (⟨false, v⟩ : Tag).weak = true then [(87 : UInt8), 47] else []) ++ 34 :: (v.data.toList ++ [34]) ++ r = 34 :: (v.data.toList ++ 34 :: r) := by simp
    rw [e, if_neg (by simp [List.take])]
    exact hq false
theorem seps_tell (t : Tag) (r : List UInt8) : seps (tell t ++ r) = tell t ++ r ∧ Md.skip (tell t ++ r) = tell t ++ r := by
  unfold tell seps Md.skip
  have h1 : sepB 87 = false := by decide
  have h2 : sepB 34 = false := by decide
  have h3 : Md.blankB 87 = false := by decide
  have h4 : Md.blankB 34 = false := by decide
  cases t.weak with
  | true => simp [h1, h3]
  | false => simp [h2, h4]
theorem tell_ne (t : Tag) (r : List UInt8) : tell t ++ r ≠ [] := by
  unfold tell
  cases t.weak <;> simp
theorem tg_tell (acc : List Tag) (t : Tag) (h : may t = true) (r : List UInt8) (hr : Md.skip r = [] ∨ (Md.skip r).head? = some 44) : tagsG acc (tell t ++ r) = tagsG (acc ++ [t]) r :=
  tg_step (by rw [(seps_tell t r).1]; exact tell_ne t r) (by rw [(seps_tell t r).1]; exact take_tell t h r) hr
theorem seps_pass (p r : List UInt8) (h : p.all sepB = true) : seps (p ++ r) = seps r := by
  unfold seps
  induction p with
  | nil => rfl
  | cons b m ih =>
    rw [List.all_cons, Bool.and_eq_true] at h
    rw [List.cons_append, List.dropWhile_cons_of_pos h.1, ih h.2]
theorem star_tell (t : Tag) (r : List UInt8) : star (tell t ++ r) = false := by
  unfold star
  rw [(seps_tell t r).2]
  have : ¬ (tell t ++ r).head? = some 42 := by
    unfold tell
    cases t.weak <;> simp
  rw [decide_eq_false this]; rfl

theorem back {a b : Tag} (ha : may a = true) (hb : may b = true) : list ([32, 44, 9] ++ tell a ++ [32, 44, 44, 32] ++ tell b ++ [44]) = some ([a, b], false) := by
  have e : [32, 44, 9] ++ tell a ++ [32, 44, 44, 32] ++ tell b ++ [44] = [32, 44, 9] ++ (tell a ++ ([32, 44, 44, 32] ++ (tell b ++ [44]))) := by simp only [List.append_assoc]
  rw [e]
  have hs : star ([32, 44, 9] ++ (tell a ++ ([32, 44, 44, 32] ++ (tell b ++ [44])))) = false := by
    unfold star
    have : Md.skip ([32, 44, 9] ++ (tell a ++ ([32, 44, 44, 32] ++ (tell b ++ [44])))) = 44 :: 9 :: (tell a ++ ([32, 44, 44, 32] ++ (tell b ++ [44]))) := by
      rw [show [32, 44, 9] ++ (tell a ++ ([32, 44, 44, 32] ++ (tell b ++ [44]))) = 32 :: 44 :: 9 :: (tell a ++ ([32, 44, 44, 32] ++ (tell b ++ [44]))) from rfl, Md.skip_one _ _ (by decide), Md.skip_stop _ _ (by decide)]
    rw [this]; rfl
  have h1 : tagsG [] ([32, 44, 9] ++ (tell a ++ ([32, 44, 44, 32] ++ (tell b ++ [44])))) = some [a, b] := by
    rw [tg_sep _ _ _ (seps_pass [32, 44, 9] _ (by decide)), tg_tell _ a ha _ (.inr (by
      rw [show [32, 44, 44, 32] ++ (tell b ++ [44]) = 32 :: 44 :: 44 :: 32 :: (tell b ++ [44]) from rfl, Md.skip_one _ _ (by decide), Md.skip_stop _ _ (by decide)]; rfl)),
      tg_sep _ _ _ (seps_pass [32, 44, 44, 32] _ (by decide)), tg_tell _ b hb _ (.inr (by decide)), tg_end (by decide)]
    rfl
  unfold list
  rw [hs, if_neg (by simp), h1]
  simp

/-- Tags as they are told, each with a comma and a blank behind it. -/
def tells : List Tag → List UInt8
  | [] => []
  | t :: l => tell t ++ ([44, 32] ++ tells l)
theorem tells_snoc (l : List Tag) (t : Tag) : tells (l ++ [t]) = tells l ++ tell t ++ [44, 32] := by
  induction l with
  | nil => simp [tells]
  | cons a l ih => rw [List.cons_append, tells, tells, ih]; simp
theorem tg_tells : ∀ (l acc : List Tag), (∀ t ∈ l, may t = true) → tagsG acc (tells l) = some (acc ++ l)
  | [], acc, _ => by rw [tells, tg_end (by rfl), List.append_nil]
  | t :: l, acc, h => by
    rw [tells, tg_tell _ t (h t (by simp)) _ (.inr (by rw [List.cons_append, Md.skip_stop _ _ (by decide)]; rfl)), tg_sep _ _ _ (seps_pass [44, 32] _ (by decide)), tg_tells l _ (fun x hx => h x (by simp [hx]))]
    simp
theorem list_tells {l : List Tag} (h : ∀ t ∈ l, may t = true) (h0 : l ≠ []) : list (tells l) = some (l, false) := by
  unfold list
  rw [tg_tells l [] h]
  have : star (tells l) = false := by
    cases l with
    | nil => exact absurd rfl h0
    | cons t l => exact star_tell t _
  rw [this, if_neg (by simp), List.nil_append]
  simp [h0]
theorem tells_ne {l : List Tag} (h0 : l ≠ []) : tells l ≠ [] := by
  cases l with
  | nil => exact absurd rfl h0
  | cons t l => exact tell_ne t _
/-- SOMETHING IS DONE UPON A MATCH just if a tag of it is the one that is there, and something is there. -/
theorem may_tells {l : List Tag} (h : ∀ t ∈ l, may t = true) (h0 : l ≠ []) (t : Tag) (there get : Bool) :
    mayQ (tells l) [] t there get = if (l.any fun x => alike x t false) = true ∧ there = true then 0 else 412 := by
  unfold mayQ upon asks
  rw [list_tells h h0, if_neg (tells_ne h0)]
  unfold mayN upon
  simp only [Option.map_some, has]
  cases (l.any fun x => alike x t false) <;> cases there <;> simp
theorem may_star (t : Tag) (there get : Bool) : mayQ [42] [] t there get = if there = true then 0 else 412 := by
  have h : list [42] = some ([], true) := by decide
  unfold mayQ upon asks
  rw [h]
  unfold mayN upon
  cases there <;> simp [has]
theorem may_free (t : Tag) (there get : Bool) : mayQ [] [] t there get = 0 := by
  unfold mayQ upon mayN upon; simp
end Et
end Go.Proofs.YtojbhokneemeaaaDoor
