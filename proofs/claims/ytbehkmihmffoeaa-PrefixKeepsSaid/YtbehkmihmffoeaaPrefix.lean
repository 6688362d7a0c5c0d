/-
  Names with their spaces, in plain Lean: split, declare, resolve; names of other prefixes stay with pairs more behind; what is declared is resolved.
-/
import Derived.Test.YtbehkmihmffoeaaGlyph
import Derived.Test.YtbehkmihmffoeaaTexts
namespace Go.Proofs.Ytbehkmihmffoeaa

structure Pair where
  name : ByteArray
  value : ByteArray
  deriving DecidableEq, Inhabited

namespace P
def xmlS : ByteArray := ⟨#[104, 116, 116, 112, 58, 47, 47, 119, 119, 119, 46, 119, 51, 46, 111, 114, 103, 47, 88, 77, 76, 47, 49, 57, 57, 56, 47, 110, 97, 109, 101, 115, 112, 97, 99, 101]⟩
def xmlnsS : ByteArray := ⟨#[104, 116, 116, 112, 58, 47, 47, 119, 119, 119, 46, 119, 51, 46, 111, 114, 103, 47, 50, 48, 48, 48, 47, 120, 109, 108, 110, 115, 47]⟩
def xml : ByteArray := ⟨#[120, 109, 108]⟩
def xmlns : ByteArray := ⟨#[120, 109, 108, 110, 115]⟩
def plainB (s : ByteArray) : Bool := G.plain s.data.toList

/-- Where the first colon stands. -/
def colon (l : List UInt8) : Nat := (l.takeWhile (· ≠ 58)).length

def split (s : ByteArray) : Option (ByteArray × ByteArray) :=
  if colon s.data.toList < s.size then
    (if plainB (s.extract 0 (colon s.data.toList)) && plainB (s.extract (colon s.data.toList + 1) s.size) then some (s.extract 0 (colon s.data.toList), s.extract (colon s.data.toList + 1) s.size) else none)
  else if plainB s then some (ByteArray.empty, s) else none

def bound (p space : ByteArray) : Bool :=
  if p = xmlns then false else if p = xml then decide (space = xmlS) else if p = ByteArray.empty then decide (space ≠ xmlS) && decide (space ≠ xmlnsS) else decide (space ≠ ByteArray.empty) && decide (space ≠ xmlS) && decide (space ≠ xmlnsS)

/-- the prefix that is declared. -/
def key (p n : ByteArray) : ByteArray := if p = ByteArray.empty then ByteArray.empty else n

def declGo : List Pair → List Pair → List Pair → Option (List Pair × List Pair)
  | sc, re, [] => some (sc, re)
  | sc, re, a :: t => match split a.name with
    | none => none
    | some (p, n) =>
      if p ≠ xmlns ∧ (p ≠ ByteArray.empty ∨ n ≠ xmlns) then declGo sc (re ++ [a]) t
      else if bound (key p n) a.value then declGo (sc ++ [⟨key p n, a.value⟩]) re t else none
def declare (l : List Pair) : Option (List Pair × List Pair) := declGo [] [] l

/-- The last pair of a name. -/
def last (p : ByteArray) : List Pair → Option ByteArray
  | [] => none
  | a :: t => match last p t with
    | some v => some v
    | none => if a.name = p then some a.value else none

def resolve (scope : List Pair) (s : ByteArray) (attr : Bool) : Option (ByteArray × ByteArray) :=
  match split s with
  | none => none
  | some (p, n) =>
    if p = xml then some (xmlS, n) else if p = xmlns then none else if p = ByteArray.empty ∧ attr = true then some (ByteArray.empty, n)
    else match last p scope with
      | some v => if p ≠ ByteArray.empty ∧ v = ByteArray.empty then none else some (v, n)
      | none => if p ≠ ByteArray.empty then none else some (ByteArray.empty, n)

/-! ### laws -/
theorem last_append (p : ByteArray) (a b : List Pair) : last p (a ++ b) = match last p b with | some v => some v | none => last p a := by
  induction a with
  | nil =>
    show last p b = _
    cases last p b <;> rfl
  | cons x a ih =>
    simp only [List.cons_append, last, ih]
    cases last p b <;> rfl

theorem last_none (p : ByteArray) (l : List Pair) (h : ∀ x ∈ l, x.name ≠ p) : last p l = none := by
  induction l with
  | nil => rfl
  | cons x l ih => simp [last, ih (fun y hy => h y (by simp [hy])), h x (by simp)]

/-- WITH PAIRS MORE BEHIND A SCOPE NAMES OF OTHER PREFIXES STAY. -/
theorem resolve_more (scope more : List Pair) (s : ByteArray) (attr : Bool) {p n : ByteArray} (hs : split s = some (p, n)) : resolve (scope ++ more.filter (fun x => decide (x.name ≠ p))) s attr = resolve scope s attr := by
  unfold resolve
  rw [hs]
  simp only [last_append, last_none p (more.filter (fun x => decide (x.name ≠ p))) (fun x hx => by simpa using (List.mem_filter.1 hx).2)]

theorem colon_le (l : List UInt8) : colon l ≤ l.length := by
  unfold colon
  have := List.takeWhile_sublist (fun x => decide (x ≠ (58 : UInt8))) (l := l)
  exact this.length_le

theorem colon_no (l : List UInt8) (h : ∀ b ∈ l, b ≠ 58) : colon l = l.length := by
  unfold colon
  congr 1
  induction l with
  | nil => rfl
  | cons b t ih => rw [List.takeWhile_cons, if_pos (by simpa using h b (by simp)), ih (fun x hx => h x (by simp [hx]))]

theorem colon_mk (a b : List UInt8) (h : ∀ x ∈ a, x ≠ 58) : colon (a ++ 58 :: b) = a.length := by
  unfold colon
  rw [List.takeWhile_append_of_pos (by simpa using h)]
  simp

theorem plain_no58 {l : List UInt8} (h : G.plain l = true) : ∀ b ∈ l, b ≠ 58 := by
  unfold G.plain at h
  simp only [Bool.and_eq_true, List.all_eq_true, decide_eq_true_eq] at h
  exact h.2

theorem plain_ne {l : List UInt8} (h : G.plain l = true) : l ≠ [] := by
  unfold G.plain at h
  simp only [Bool.and_eq_true, decide_eq_true_eq] at h
  exact h.1.1

theorem split_plain {s : ByteArray} (h : plainB s = true) : split s = some (ByteArray.empty, s) := by
  unfold split
  rw [if_neg (by rw [colon_no _ (plain_no58 h), list_len]; omega), if_pos h]

/-- What split says: a prefix and a local name; both plain, or the one empty. -/
theorem split_of {s p n : ByteArray} (h : split s = some (p, n)) : plainB n = true ∧ (p = ByteArray.empty ∧ s = n ∨ plainB p = true ∧ s = p ++ ⟨#[58]⟩ ++ n) := by
  unfold split at h
  split at h
  · rename_i hc
    split at h
    · rename_i hp
      rw [Bool.and_eq_true] at hp
      simp only [Option.some.injEq, Prod.mk.injEq] at h
      obtain ⟨rfl, rfl⟩ := h
      refine ⟨hp.2, .inr ⟨hp.1, ?_⟩⟩
      apply bytes_eq
      rw [ByteArray.toList_data_append, ByteArray.toList_data_append, take_list, drop_list]
      have hlen : colon s.data.toList < s.data.toList.length := by rw [list_len]; exact hc
      have h58 : s.data.toList[colon s.data.toList] = 58 := by
        have := List.head?_dropWhile_not (fun x => decide (x ≠ (58 : UInt8))) s.data.toList
        have e : s.data.toList.dropWhile (fun x => decide (x ≠ (58 : UInt8))) = s.data.toList.drop (colon s.data.toList) := by
          have key : ∀ a d : List UInt8, a ++ d = s.data.toList → d = s.data.toList.drop a.length := by rintro a d h; rw [← h]; simp
          exact key _ _ List.takeWhile_append_dropWhile
        rw [e, List.drop_eq_getElem_cons hlen] at this
        simpa using this
      have h2 : s.data.toList.drop (colon s.data.toList) = 58 :: s.data.toList.drop (colon s.data.toList + 1) := by rw [List.drop_eq_getElem_cons hlen, h58]
      have h3 : (⟨#[58]⟩ : ByteArray).data.toList = [58] := rfl
      rw [h3, List.append_assoc, List.singleton_append, ← h2, List.take_append_drop]
    · cases h
  · split at h
    · rename_i hp
      simp only [Option.some.injEq, Prod.mk.injEq] at h
      obtain ⟨rfl, rfl⟩ := h
      exact ⟨hp, .inl ⟨rfl, rfl⟩⟩
    · cases h

theorem split_mk {p n : ByteArray} (hp : plainB p = true) (hn : plainB n = true) : split (p ++ ⟨#[58]⟩ ++ n) = some (p, n) := by
  have h3 : (⟨#[58]⟩ : ByteArray).data.toList = [58] := rfl
  have hl : (p ++ ⟨#[58]⟩ ++ n).data.toList = p.data.toList ++ 58 :: n.data.toList := by
    rw [ByteArray.toList_data_append, ByteArray.toList_data_append, h3, List.append_assoc]; rfl
  have hc : colon (p ++ ⟨#[58]⟩ ++ n).data.toList = p.size := by rw [hl, colon_mk _ _ (plain_no58 hp), list_len]
  have hz : (p ++ ⟨#[58]⟩ ++ n).size = p.size + 1 + n.size := by
    rw [ByteArray.size_append, ByteArray.size_append]; rfl
  have e1 : (p ++ ⟨#[58]⟩ ++ n).extract 0 p.size = p := by
    apply bytes_eq
    rw [take_list, hl, ← list_len p, List.take_left]
  have e2 : (p ++ ⟨#[58]⟩ ++ n).extract (p.size + 1) (p ++ ⟨#[58]⟩ ++ n).size = n := by
    apply bytes_eq
    rw [drop_list, hl, ← list_len p, ← List.drop_drop, List.drop_left]
    rfl
  unfold split
  rw [hc, if_pos (by rw [hz]; omega), e1, e2, hp, hn]
  rfl

/-- what stands in a scope that was declared. -/
def Good (x : Pair) : Prop := bound x.name x.value = true ∧ (x.name = ByteArray.empty ∨ plainB x.name = true)

theorem declGo_inv : ∀ (l sc re sc' re' : List Pair), declGo sc re l = some (sc', re') → (∀ x ∈ sc, Good x) →
    (∀ x ∈ sc', Good x) ∧ sc'.length + re'.length = sc.length + re.length + l.length ∧ ∃ m, re' = re ++ m ∧ m.Sublist l
  | [], sc, re, sc', re', h, hg => by
    cases h
    exact ⟨hg, by simp, [], by simp, List.Sublist.refl _⟩
  | a :: t, sc, re, sc', re', h, hg => by
    unfold declGo at h
    cases hs : split a.name with
    | none => rw [hs] at h; cases h
    | some x =>
      obtain ⟨p, n⟩ := x
      rw [hs] at h
      simp only at h
      split at h
      · obtain ⟨h1, h2, m, h3, h4⟩ := declGo_inv t sc (re ++ [a]) sc' re' h hg
        refine ⟨h1, by rw [h2]; simp; omega, a :: m, by rw [h3]; simp, h4.cons_cons a⟩
      · rename_i hno
        split at h
        · rename_i hb
          obtain ⟨h1, h2, m, h3, h4⟩ := declGo_inv t (sc ++ [⟨key p n, a.value⟩]) re sc' re' h (fun x hx => by
            rcases List.mem_append.1 hx with hx | hx
            · exact hg x hx
            · obtain rfl : x = _ := List.mem_singleton.1 hx
              refine ⟨hb, ?_⟩
              by_cases hp : p = ByteArray.empty
              · left; unfold key; rw [if_pos hp]
              · right
                have e : key p n = n := by unfold key; rw [if_neg hp]
                show plainB (key p n) = true
                rw [e]
                exact (split_of hs).1)
          refine ⟨h1, by rw [h2]; simp; omega, m, h3, h4.cons a⟩
        · cases h

theorem bound_ne {p v : ByteArray} (h : bound p v = true) : p ≠ xmlns ∧ (p = xml → v = xmlS) ∧ (p ≠ ByteArray.empty → v ≠ ByteArray.empty) := by
  unfold bound at h
  by_cases h1 : p = xmlns
  · rw [if_pos h1] at h; cases h
  rw [if_neg h1] at h
  by_cases h2 : p = xml
  · rw [if_pos h2] at h
    have hv : v = xmlS := by simpa using h
    exact ⟨h1, fun _ => hv, fun _ => by rw [hv]; decide⟩
  rw [if_neg h2] at h
  by_cases h3 : p = ByteArray.empty
  · exact ⟨h1, fun e => absurd e h2, fun e => absurd h3 e⟩
  rw [if_neg h3] at h
  simp only [Bool.and_eq_true, decide_eq_true_eq] at h
  exact ⟨h1, fun e => absurd e h2, fun _ => h.1.1⟩

/-- the last pair of its name. -/
theorem last_mid (a b : List Pair) (x : Pair) (h : ∀ y ∈ b, y.name ≠ x.name) : last x.name (a ++ x :: b) = some x.value := by
  have h0 := last_none x.name b h
  have h1 : last x.name (x :: b) = some x.value := by
    unfold last
    rw [h0]; simp
  rw [last_append, h1]
theorem last_at (l : List Pair) (i : Nat) (h : i < l.length) (hl : ∀ j (hj : j < l.length), i < j → l[j].name ≠ l[i].name) : last l[i].name l = some l[i].value := by
  have e : l.take i ++ l[i] :: l.drop (i + 1) = l := by rw [← List.drop_eq_getElem_cons h, List.take_append_drop]
  have := last_mid (l.take i) (l.drop (i + 1)) l[i] (fun x hx => by
    obtain ⟨j, hj, rfl⟩ := List.mem_iff_getElem.1 hx
    rw [List.getElem_drop]
    exact hl (i + 1 + j) (by rw [List.length_drop] at hj; omega) (by omega))
  rw [e] at this
  exact this

/-- WHAT IS DECLARED IS RESOLVED: the law's own question of the i-th pair. -/
theorem binds {l : List Pair} (hg : ∀ x ∈ l, Good x) (i : Nat) (h : i < l.length) (hl : ∀ j (hj : j < l.length), i < j → l[j].name ≠ l[i].name) {loc nm : ByteArray} (hf : (split loc).isSome = true)
    (hnm : nm = if l[i].name = ByteArray.empty then loc else l[i].name ++ ⟨#[58]⟩ ++ loc) (hh : (split nm).isSome = true) :
    resolve l nm false = some (l[i].value, loc) ∨ ∃ u m, resolve l nm false = some (u, m) ∧ m ≠ loc ∨ resolve l nm false = none ∧ loc ≠ ByteArray.empty := by
  have hla := last_at l i h hl
  obtain ⟨hb, hp⟩ := hg l[i] (List.getElem_mem h)
  obtain ⟨b1, b2, b3⟩ := bound_ne hb
  have hloc : loc ≠ ByteArray.empty := by
    rintro rfl
    revert hf
    decide +kernel
  cases hr : resolve l nm false with
  | none => exact .inr ⟨ByteArray.empty, ByteArray.empty, .inr ⟨rfl, hloc⟩⟩
  | some x =>
    obtain ⟨u, m⟩ := x
    by_cases hm : m = loc
    · left
      subst hm
      cases hs : split nm with
      | none => rw [hs] at hh; cases hh
      | some y =>
        obtain ⟨p, n⟩ := y
        have hso := split_of hs
        have hn : n = m := by
          unfold resolve at hr
          rw [hs] at hr
          simp only at hr
          repeat' split at hr
          all_goals first
            | (cases hr; done)
            | (simp only [Option.some.injEq, Prod.mk.injEq] at hr; exact hr.2)
        subst hn
        have hpn : p = l[i].name := by
          by_cases he : l[i].name = ByteArray.empty
          · rw [if_pos he] at hnm
            rcases hso.2 with ⟨h1, _⟩ | ⟨_, h2⟩
            · rw [h1, he]
            · have hz := congrArg ByteArray.size (hnm.symm.trans h2)
              rw [ByteArray.size_append, ByteArray.size_append] at hz
              have : (⟨#[58]⟩ : ByteArray).size = 1 := rfl
              omega
          · rw [if_neg he] at hnm
            have hq := hp.resolve_left he
            rw [hnm, split_mk hq hso.1] at hs
            simp only [Option.some.injEq, Prod.mk.injEq] at hs
            exact hs.1.symm
        subst hpn
        unfold resolve at hr
        rw [hs] at hr
        simp only at hr
        rw [if_neg b1, hla] at hr
        by_cases hx : l[i].name = xml
        · rw [if_pos hx] at hr
          rw [b2 hx]; exact hr.symm
        · rw [if_neg hx, if_neg (by simp)] at hr
          simp only at hr
          split at hr
          · cases hr
          · exact hr.symm
    · exact .inr ⟨u, m, .inl ⟨rfl, hm⟩⟩

/-- Gone over greedily, a part in its order is found whole. -/
def greedy : List Pair → List Pair → Nat
  | [], _ => 0
  | _ :: _, [] => 0
  | a :: t, b :: m => if a = b then greedy t m + 1 else greedy t (b :: m)
theorem greedy_nil (t : List Pair) : greedy t [] = 0 := by cases t <;> rfl
theorem sub_tail {a b : Pair} {t m : List Pair} (h : (b :: m).Sublist (a :: t)) : m.Sublist t := by
  cases h with
  | cons _ h => exact (List.sublist_cons_self b m).trans h
  | cons_cons _ h => exact h
theorem greedy_sub : ∀ (t m : List Pair), m.Sublist t → greedy t m = m.length
  | [], m, h => by rw [List.sublist_nil.1 h]; rfl
  | a :: t, [], _ => rfl
  | a :: t, b :: m, h => by
    unfold greedy
    by_cases e : a = b
    · rw [if_pos e, greedy_sub t m (sub_tail h)]; rfl
    · rw [if_neg e]
      cases h with
      | cons _ h => exact greedy_sub t (b :: m) h
      | cons_cons _ h => exact absurd rfl e
end P
end Go.Proofs.Ytbehkmihmffoeaa
