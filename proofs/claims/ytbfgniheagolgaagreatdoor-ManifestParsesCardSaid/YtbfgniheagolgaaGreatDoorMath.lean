/-
  Plain mathematics of a manifest's lines: no program text. What a name is, what rows may stand so, the text that tells them, what is read of a text; what is told is read; with one byte that is another one it is nothing, nor is a beginning.
-/
import Derived.Test.YtbfgniheagolgaaGreatDoorAdlerMath
import Derived.Lib.ItoaNum
import Derived.Lib.AtoiAll
import Derived.Lib.Split
import Derived.Lib.Strings
namespace Go.Proofs.YtbfgniheagolgaaGreatDoor.M

/-- A byte that may stand in a name. -/
def nameByte (c : UInt8) : Bool :=
  (decide (97 ≤ c.toNat) && decide (c.toNat ≤ 122)) || (decide (48 ≤ c.toNat) && decide (c.toNat ≤ 57)) || decide (c.toNat = 46) || decide (c.toNat = 45)
/-- A name. -/
def name (l : List UInt8) : Bool := decide (1 ≤ l.length) && decide (l.length ≤ 32) && l.all nameByte
def num (n : Int) : Bool := decide (0 ≤ n) && decide (n ≤ 1099511627776)

structure Row where
  name : ByteArray
  file : ByteArray
  size : Int
  sum : Int
  deriving Inhabited, DecidableEq

def line (s : List UInt8) (ns : List Int) : List UInt8 := s ++ ns.flatMap (fun n => 32 :: Lib.itoa n) ++ [10]
def gen : List UInt8 := [103, 101, 110, 101, 114, 97, 116, 105, 111, 110]
def sumw : List UInt8 := [115, 117, 109]
def rowLine (r : Row) : List UInt8 := line (r.name.data.toList ++ 32 :: r.file.data.toList) [r.size, r.sum]
def body (n : Int) (l : List Row) : List UInt8 := line gen [n] ++ l.flatMap rowLine
def text (n : Int) (l : List Row) : List UInt8 := body n l ++ line sumw [adl (body n l)]

/-- May the row stand so? -/
def okAt (l : List Row) (i : Nat) : Bool :=
  match l[i]? with
  | none => true
  | some r => name r.name.data.toList && name r.file.data.toList && num r.size && num r.sum &&
      (match i with
       | 0 => true
       | j + 1 => match l[j]? with
         | none => true
         | some p => !(Op.bytesLess r.name.toList p.name.toList || r.name.toList == p.name.toList))
def areRows (l : List Row) : Bool := (List.range l.length).all (okAt l)

def number (s : List UInt8) : Int := match Lib.atoiAll s with
  | .ok v => v
  | _ => -1
def row (s : List UInt8) : Option Row := match Lib.splitN s [32] 5 with
  | [a, b, c, d] => if num (number c) && num (number d) then some ⟨⟨a.toArray⟩, ⟨b.toArray⟩, number c, number d⟩ else none
  | _ => none

def readRows (s : List UInt8) : List Row :=
  match row (Lib.cut s [10]).1 with
  | none => []
  | some r => if _h : (Lib.cut s [10]).2.1.length < s.length then r :: readRows (Lib.cut s [10]).2.1 else [r]
termination_by s.length
def read (s : List UInt8) : Int × List Row := (number (Lib.trimPrefix (Lib.cut s [10]).1 (gen ++ [32])), readRows (Lib.cut s [10]).2.1)

def good (n : Int) (l : List Row) : Bool := num n && areRows l
def parses (s : List UInt8) : Bool := good (read s).1 (read s).2 && text (read s).1 (read s).2 == s

theorem good_num {n : Int} {l : List Row} (h : good n l = true) : 0 ≤ n ∧ n ≤ 1099511627776 := by
  simp [good, num] at h; exact h.1

theorem ok_of {l : List Row} (h : areRows l = true) (r : Row) (hr : r ∈ l) : name r.name.data.toList = true ∧ name r.file.data.toList = true ∧ num r.size = true ∧ num r.sum = true := by
  obtain ⟨i, hi, rfl⟩ := List.getElem_of_mem hr
  have := (List.all_eq_true.1 h) i (List.mem_range.2 hi)
  unfold okAt at this
  rw [List.getElem?_eq_getElem hi] at this
  simp only [Bool.and_eq_true] at this
  exact ⟨this.1.1.1.1, this.1.1.1.2, this.1.1.2, this.1.2⟩

theorem name_no {l : List UInt8} (h : name l = true) : 32 ∉ l ∧ 10 ∉ l ∧ l ≠ [] := by
  simp only [name, Bool.and_eq_true, decide_eq_true_eq, List.all_eq_true] at h
  refine ⟨fun m => ?_, fun m => ?_, fun e => by rw [e] at h; simp at h⟩
  · have := h.2 _ m; revert this; decide
  · have := h.2 _ m; revert this; decide

theorem digits_are : ∀ (u : Nat), ∀ c ∈ Lib.decDigits u, 48 ≤ c.toNat ∧ c.toNat ≤ 57 := by
  intro u
  induction u using Nat.strongRecOn with
  | _ u ih =>
    intro c hc
    rw [Lib.decDigits] at hc
    split at hc
    · simp at hc; subst hc
      simp; omega
    · rw [List.mem_append] at hc
      rcases hc with hc | hc
      · exact ih (u / 10) (by omega) c hc
      · simp at hc; subst hc
        simp; omega

theorem digits_no (u : Nat) : 32 ∉ Lib.decDigits u ∧ 10 ∉ Lib.decDigits u ∧ 115 ∉ Lib.decDigits u ∧ 43 ∉ Lib.decDigits u ∧ 45 ∉ Lib.decDigits u := by
  refine ⟨fun m => ?_, fun m => ?_, fun m => ?_, fun m => ?_, fun m => ?_⟩ <;> (have := digits_are u _ m; revert this; decide)

theorem digits_ne (u : Nat) : Lib.decDigits u ≠ [] := by
  rw [Lib.decDigits]; split <;> simp

theorem itoa_nn {n : Int} (h : 0 ≤ n) : Lib.itoa n = Lib.decDigits n.toNat := by
  unfold Lib.itoa; rw [if_neg (by omega)]

theorem parse_snoc : ∀ (l : List UInt8) (a u : Nat) (c : UInt8), Lib.parseUint10 a l = .ok u → 48 ≤ c.toNat → c.toNat ≤ 57 → u * 10 + (c.toNat - 48) < 18446744073709551616 → Lib.parseUint10 a (l ++ [c]) = .ok (u * 10 + (c.toNat - 48))
  | [], a, u, c, h, h1, h2, h3 => by
    simp only [Lib.parseUint10] at h
    cases h
    simp only [List.nil_append, Lib.parseUint10]
    rw [if_pos ⟨h1, h2⟩, if_neg (by omega), if_neg (by omega)]
  | d :: r, a, u, c, h, h1, h2, h3 => by
    simp only [Lib.parseUint10] at h
    split at h
    · split at h
      · cases h
      · split at h
        · cases h
        · have := parse_snoc r _ u c h h1 h2 h3
          simp only [List.cons_append, Lib.parseUint10]
          rename_i g1 g2 g3
          rw [if_pos g1, if_neg g2, if_neg g3]
          exact this
    · cases h

theorem parse_digits : ∀ (u : Nat), u < 18446744073709551616 → Lib.parseUint10 0 (Lib.decDigits u) = .ok u := by
  intro u
  induction u using Nat.strongRecOn with
  | _ u ih =>
    intro hu
    rw [Lib.decDigits]
    split
    · rename_i h
      have e : (UInt8.ofNat (48 + u)).toNat = 48 + u := by simp; omega
      simp only [Lib.parseUint10, e]
      rw [if_pos (by omega), if_neg (by omega), if_neg (by omega)]
      simp
    · rename_i h
      have e : (UInt8.ofNat (48 + u % 10)).toNat = 48 + u % 10 := by simp; omega
      have := parse_snoc (Lib.decDigits (u / 10)) 0 (u / 10) (UInt8.ofNat (48 + u % 10)) (ih _ (by omega) (by omega)) (by omega) (by omega) (by omega)
      rw [this, e]
      congr 1; omega

theorem number_itoa {n : Int} (h0 : 0 ≤ n) (h1 : n ≤ 1099511627776) : number (Lib.itoa n) = n := by
  rw [itoa_nn h0]
  unfold number Lib.atoiAll
  have hp := parse_digits n.toNat (by omega)
  have hs := digits_are n.toNat
  cases hd : Lib.decDigits n.toNat with
  | nil => exact absurd hd (digits_ne _)
  | cons c r =>
    rw [hd] at hp
    have hc := hs c (by rw [hd]; simp)
    simp only
    rw [if_neg (by omega)]
    unfold Lib.parseMag
    rw [if_neg (by simp), hp]
    simp only
    rw [if_neg (by omega), if_neg (by omega), if_neg (by omega)]
    show ((n.toNat : Nat) : Int) = n
    omega

theorem index_at : ∀ (a b : List UInt8) (c : UInt8), c ∉ a → Lib.index (a ++ c :: b) [c] = a.length
  | [], b, c, _ => by simp [Lib.index, List.isPrefixOf]
  | x :: a, b, c, h => by
    have hx : ¬ c = x := fun e => h (by simp [e])
    have ih := index_at a b c (fun m => h (by simp [m]))
    simp only [List.cons_append, Lib.index, List.isPrefixOf]
    rw [ih]
    have e : (c == x) = false := by simpa using hx
    have e2 : (((a.length : Nat) : Int) == -1) = false := by simp
    simp [e, e2]

theorem index_no : ∀ (a : List UInt8) (c : UInt8), c ∉ a → Lib.index a [c] = -1
  | [], c, _ => by simp [Lib.index]
  | x :: a, c, h => by
    have hx : ¬ c = x := fun e => h (by simp [e])
    have ih := index_no a c (fun m => h (by simp [m]))
    simp only [Lib.index, List.isPrefixOf]
    rw [ih]
    have e : (c == x) = false := by simpa using hx
    simp [e]

theorem cut_at (a b : List UInt8) (c : UInt8) (h : c ∉ a) : Lib.cut (a ++ c :: b) [c] = (a, b, true) := by
  unfold Lib.cut
  rw [index_at a b c h, if_pos (by omega)]
  simp

theorem cut_no (a : List UInt8) (c : UInt8) (h : c ∉ a) : Lib.cut a [c] = (a, [], false) := by
  unfold Lib.cut
  rw [index_no a c h, if_neg (by omega)]

theorem split_step (a b : List UInt8) (k : Nat) (h : 32 ∉ a) : Lib.splitK [32] 0 (k + 1) (a ++ 32 :: b) = a :: Lib.splitK [32] 0 k b := by
  rw [Lib.splitK, index_at a b 32 h]
  have e2 : (((a.length : Nat) : Int) == -1) = false := by simp
  simp [e2]

theorem split_end (a : List UInt8) (k : Nat) (h : 32 ∉ a) : Lib.splitK [32] 0 k a = [a] := by
  cases k with
  | zero => rfl
  | succ k => rw [Lib.splitK, index_no a 32 h]; simp

theorem split_two (a b : List UInt8) (ha : 32 ∉ a) (hb : 32 ∉ b) : Lib.splitN (a ++ 32 :: b) [32] 5 = [a, b] := by
  unfold Lib.splitN
  obtain ⟨k, hk⟩ : ∃ k, min 5 ((a ++ 32 :: b).length + 1) - 1 = k + 1 := ⟨min 5 ((a ++ 32 :: b).length + 1) - 2, by simp; omega⟩
  rw [hk, split_step a b k ha, split_end b k hb]

theorem split_four (a b c d : List UInt8) (ha : 32 ∉ a) (hb : 32 ∉ b) (hc : 32 ∉ c) (hd : 32 ∉ d) (hn : a ≠ []) : Lib.splitN (a ++ 32 :: (b ++ 32 :: (c ++ 32 :: d))) [32] 5 = [a, b, c, d] := by
  unfold Lib.splitN
  have : 1 ≤ a.length := by cases a with
    | nil => exact absurd rfl hn
    | cons => simp
  have hk : min 5 ((a ++ 32 :: (b ++ 32 :: (c ++ 32 :: d))).length + 1) - 1 = 4 := by simp; omega
  rw [hk, split_step a _ 3 ha, split_step b _ 2 hb, split_step c _ 1 hc, split_end d 1 hd]

theorem array_toList (b : ByteArray) : (⟨b.data.toList.toArray⟩ : ByteArray) = b := by
  cases b; simp

theorem row_told {r : Row} (hn : name r.name.data.toList = true) (hf : name r.file.data.toList = true) (hs : num r.size = true) (hm : num r.sum = true) :
    row (r.name.data.toList ++ 32 :: (r.file.data.toList ++ 32 :: (Lib.itoa r.size ++ 32 :: Lib.itoa r.sum))) = some r := by
  have h1 := hs; have h2 := hm
  simp [num] at h1 h2
  unfold row
  rw [split_four _ _ _ _ (name_no hn).1 (name_no hf).1 (by rw [itoa_nn h1.1]; exact (digits_no _).1) (by rw [itoa_nn h2.1]; exact (digits_no _).1) (name_no hn).2.2]
  simp only
  rw [number_itoa h1.1 h1.2, number_itoa h2.1 h2.2, hs, hm, array_toList, array_toList]
  simp

theorem row_sum (u : Nat) : row (sumw ++ 32 :: Lib.decDigits u) = none := by
  unfold row
  rw [split_two _ _ (by decide) (digits_no u).1]

theorem readRows_none {s : List UInt8} (h : row (Lib.cut s [10]).1 = none) : readRows s = [] := by
  rw [readRows, h]

theorem row_nil : row [] = none := by
  unfold row; rw [show Lib.splitN [] [32] 5 = [[]] from rfl]

theorem cut_shrinks (s : List UInt8) (h : s ≠ []) : (Lib.cut s [10]).2.1.length < s.length := by
  unfold Lib.cut
  have : 0 < s.length := by cases s with
    | nil => exact absurd rfl h
    | cons => simp
  split
  · simp; omega
  · simpa using this

theorem readRows_some {s : List UInt8} {r : Row} (h : row (Lib.cut s [10]).1 = some r) : s ≠ [] ∧ readRows s = r :: readRows (Lib.cut s [10]).2.1 := by
  have hne : s ≠ [] := by
    rintro rfl
    rw [show Lib.cut [] [10] = ([], [], false) from rfl] at h
    rw [row_nil] at h; cases h
  refine ⟨hne, ?_⟩
  rw [readRows, h]
  simp only
  rw [dif_pos (cut_shrinks s hne)]

theorem line_two (s : List UInt8) (a b : Int) : line s [a, b] = s ++ 32 :: (Lib.itoa a ++ 32 :: Lib.itoa b) ++ [10] := by simp [line]
theorem line_one (s : List UInt8) (a : Int) : line s [a] = s ++ 32 :: Lib.itoa a ++ [10] := by simp [line]

theorem not10 {l : List UInt8} {n : Int} (h : 0 ≤ n) (hl : 10 ∉ l) : 10 ∉ l ++ 32 :: Lib.itoa n := by
  rw [itoa_nn h]; have := (digits_no n.toNat).2.1
  simp [this, hl]

/-- Rows that stand so, and a line of a sum behind them, whatever is behind that: the rows are read. -/
theorem readRows_told (u : Nat) (v : List UInt8) : ∀ (l : List Row), (∀ r ∈ l, name r.name.data.toList = true ∧ name r.file.data.toList = true ∧ num r.size = true ∧ num r.sum = true) →
    readRows (l.flatMap rowLine ++ (sumw ++ 32 :: Lib.decDigits u ++ [10] ++ v)) = l
  | [], _ => by
    apply readRows_none
    have e : ([] : List Row).flatMap rowLine ++ (sumw ++ 32 :: Lib.decDigits u ++ [10] ++ v) = (sumw ++ 32 :: Lib.decDigits u) ++ 10 :: v := by simp
    have hd := (digits_no u).2.1
    rw [e, cut_at _ _ _ (by simp [sumw, hd])]
    exact row_sum u
  | r :: l, h => by
    obtain ⟨hn, hf, hs, hm⟩ := h r (by simp)
    have h1 := hs; have h2 := hm
    simp [num] at h1 h2
    have e : (r :: l).flatMap rowLine ++ (sumw ++ 32 :: Lib.decDigits u ++ [10] ++ v) = (r.name.data.toList ++ 32 :: (r.file.data.toList ++ 32 :: (Lib.itoa r.size ++ 32 :: Lib.itoa r.sum))) ++ 10 :: (l.flatMap rowLine ++ (sumw ++ 32 :: Lib.decDigits u ++ [10] ++ v)) := by
      simp [rowLine, line_two]
    have hno : 10 ∉ r.name.data.toList ++ 32 :: (r.file.data.toList ++ 32 :: (Lib.itoa r.size ++ 32 :: Lib.itoa r.sum)) := by
      rw [itoa_nn h1.1, itoa_nn h2.1]
      have d1 := (digits_no r.size.toNat).2.1
      have d2 := (digits_no r.sum.toNat).2.1
      have n1 := (name_no hn).2.1
      have n2 := (name_no hf).2.1
      simp [d1, d2]; exact ⟨by simpa using n1, by simpa using n2⟩
    rw [e]
    have hc := cut_at _ (l.flatMap rowLine ++ (sumw ++ 32 :: Lib.decDigits u ++ [10] ++ v)) _ hno
    obtain ⟨_, hr⟩ := readRows_some (s := (r.name.data.toList ++ 32 :: (r.file.data.toList ++ 32 :: (Lib.itoa r.size ++ 32 :: Lib.itoa r.sum))) ++ 10 :: (l.flatMap rowLine ++ (sumw ++ 32 :: Lib.decDigits u ++ [10] ++ v))) (r := r) (by rw [hc]; exact row_told hn hf hs hm)
    rw [hr, hc]
    simp only
    rw [readRows_told u v l (fun x hx => h x (by simp [hx]))]

theorem read_told {n : Int} {l : List Row} (h : good n l = true) (u : Nat) (v : List UInt8) : read (body n l ++ (sumw ++ 32 :: Lib.decDigits u ++ [10] ++ v)) = (n, l) := by
  obtain ⟨h0, h1⟩ := good_num h
  have ha : areRows l = true := by simp [good] at h; exact h.2
  have e : body n l ++ (sumw ++ 32 :: Lib.decDigits u ++ [10] ++ v) = (gen ++ 32 :: Lib.itoa n) ++ 10 :: (l.flatMap rowLine ++ (sumw ++ 32 :: Lib.decDigits u ++ [10] ++ v)) := by
    simp [body, line_one]
  unfold read
  rw [e, cut_at _ _ _ (not10 h0 (by decide))]
  simp only
  rw [readRows_told u v l (ok_of ha)]
  have e2 : Lib.trimPrefix (gen ++ 32 :: Lib.itoa n) (gen ++ [32]) = Lib.itoa n := by
    unfold Lib.trimPrefix Lib.hasPrefix
    simp [gen, List.isPrefixOf]
  rw [e2, number_itoa h0 h1]

theorem text_eq (n : Int) (l : List Row) : text n l = body n l ++ (sumw ++ 32 :: Lib.decDigits (adl (body n l)).toNat ++ [10] ++ []) := by
  unfold text
  rw [line_one, itoa_nn (adl_bd _).1]; simp

/-- What is told is read. -/
theorem read_text {n : Int} {l : List Row} (h : good n l = true) : read (text n l) = (n, l) := by
  rw [text_eq]; exact read_told h _ _

theorem parses_text {n : Int} {l : List Row} (h : good n l = true) : parses (text n l) = true := by
  unfold parses; rw [read_text h]; simp [h]

theorem parses_is {s : List UInt8} (h : parses s = true) : good (read s).1 (read s).2 = true ∧ text (read s).1 (read s).2 = s := by
  simp [parses] at h; exact h

theorem digits_inj {a b : Nat} (ha : a < 18446744073709551616) (hb : b < 18446744073709551616) (h : Lib.decDigits a = Lib.decDigits b) : a = b := by
  have h1 := parse_digits a ha
  have h2 := parse_digits b hb
  rw [h, h2] at h1
  cases h1; rfl

/-- A beginning of what is told is nothing. -/
theorem torn_head {n : Int} {l : List Row} (h : good n l = true) (k : Nat) (hk : k < (text n l).length) : parses ((text n l).take k) = false := by
  rw [← Bool.not_eq_true]
  intro hp
  obtain ⟨hg, he⟩ := parses_is hp
  generalize hn' : (read ((text n l).take k)).1 = n' at hg he
  generalize hl' : (read ((text n l).take k)).2 = l' at hg he
  have h1 := read_text h
  have e0 : text n l = text n' l' ++ (text n l).drop k := by rw [he]; exact (List.take_append_drop k _).symm
  have e : text n l = body n' l' ++ (sumw ++ 32 :: Lib.decDigits (adl (body n' l')).toNat ++ [10] ++ (text n l).drop k) := e0.trans (by rw [text_eq n' l']; simp)
  rw [e, read_told hg] at h1
  obtain ⟨a1, a2⟩ := Prod.mk.inj h1
  rw [a1, a2] at he
  have := congrArg List.length he
  simp at this; omega

structure Ends (s b V : List UInt8) : Prop where
  eq : s = b ++ 115 :: (V ++ [10])
  last : b[b.length - 1]? = some 10
  ne : 0 < b.length
  no10 : 10 ∉ V
  no115 : 115 ∉ V

theorem ends_text (n : Int) (l : List Row) : Ends (text n l) (body n l) ([117, 109, 32] ++ Lib.decDigits (adl (body n l)).toNat) := by
  have hl : ∃ c, body n l = c ++ [10] := by
    unfold body
    cases hh : l.reverse with
    | nil => simp at hh; subst hh; exact ⟨gen ++ 32 :: Lib.itoa n, by simp [line_one]⟩
    | cons r t =>
      have : l = t.reverse ++ [r] := by rw [← List.reverse_reverse l, hh]; simp
      refine ⟨line gen [n] ++ t.reverse.flatMap rowLine ++ (r.name.data.toList ++ 32 :: r.file.data.toList ++ 32 :: (Lib.itoa r.size ++ 32 :: Lib.itoa r.sum)), ?_⟩
      rw [this]; simp [rowLine, line_two]
  obtain ⟨c, hc⟩ := hl
  have d := digits_no (adl (body n l)).toNat
  refine ⟨by rw [text_eq]; simp [sumw], ?_, ?_, ?_, ?_⟩
  · rw [hc]; simp
  · rw [hc]; simp
  · have := d.2.1; simp [this]
  · have := d.2.2.1; simp [this]

theorem ends_apart {s b V s' b' V' : List UInt8} (h : Ends s b V) (h' : Ends s' b' V') (hlen : s.length = s'.length) (k : Nat) (hk : ∀ i, i ≠ k → s[i]? = s'[i]?) : ¬ b'.length < b.length := by
  intro hlt
  obtain ⟨eq, last, ne, _, _⟩ := h
  obtain ⟨eq', _, _, no10, no115⟩ := h'
  have l1 : s.length = b.length + (V.length + 2) := by rw [eq]; simp
  have l2 : s'.length = b'.length + (V'.length + 2) := by rw [eq']; simp
  by_cases e : b.length - 1 = k
  · have h1 := hk b.length (by omega)
    rw [eq, eq', List.getElem?_append_right (Nat.le_refl _), List.getElem?_append_right (by omega), Nat.sub_self] at h1
    obtain ⟨j, hj⟩ : ∃ j, b.length - b'.length = j + 1 := ⟨b.length - b'.length - 1, by omega⟩
    rw [hj] at h1
    simp only [List.getElem?_cons_zero, List.getElem?_cons_succ] at h1
    have hm := List.mem_of_getElem? h1.symm
    simp at hm
    exact no115 hm
  · have h1 := hk (b.length - 1) e
    rw [eq, eq', List.getElem?_append_left (by omega), last, List.getElem?_append_right (by omega)] at h1
    rw [← List.cons_append, List.getElem?_append_left (by simp; omega)] at h1
    have hm := List.mem_of_getElem? h1.symm
    simp at hm
    exact no10 hm

/-- With one byte that is another one it is nothing. -/
theorem torn_byte {n : Int} {l : List Row} {p q : List UInt8} {c x : UInt8} (hs : text n l = p ++ c :: q) (hx : c ≠ x) : parses (p ++ x :: q) = false := by
  rw [← Bool.not_eq_true]
  intro hp
  obtain ⟨hg, he⟩ := parses_is hp
  generalize hn' : (read (p ++ x :: q)).1 = n' at hg he
  generalize hl' : (read (p ++ x :: q)).2 = l' at hg he
  have E := ends_text n l
  have E' := ends_text n' l'
  rw [he] at E'
  have hlen : (text n l).length = (p ++ x :: q).length := by rw [hs]; simp
  have hk : ∀ i, i ≠ p.length → (text n l)[i]? = (p ++ x :: q)[i]? := by
    intro i hi
    rw [hs]
    by_cases h1 : i < p.length
    · rw [List.getElem?_append_left h1, List.getElem?_append_left h1]
    · rw [List.getElem?_append_right (by omega), List.getElem?_append_right (by omega)]
      obtain ⟨j, hj⟩ : ∃ j, i - p.length = j + 1 := ⟨i - p.length - 1, by omega⟩
      rw [hj]; simp
  have h1 := ends_apart E E' hlen p.length hk
  have h2 := ends_apart E' E hlen.symm p.length (fun i hi => (hk i hi).symm)
  have hb : (body n l).length = (body n' l').length := by omega
  have hT : (text n l).drop (body n l).length = 115 :: ([117, 109, 32] ++ Lib.decDigits (adl (body n l)).toNat ++ [10]) := by rw [E.eq]; simp
  have hT' : (p ++ x :: q).drop (body n' l').length = 115 :: ([117, 109, 32] ++ Lib.decDigits (adl (body n' l')).toNat ++ [10]) := by rw [E'.eq]; simp
  have hB : (text n l).take (body n l).length = body n l := by rw [E.eq]; simp
  have hB' : (p ++ x :: q).take (body n' l').length = body n' l' := by rw [E'.eq]; simp
  by_cases hin : p.length < (body n l).length
  · have e1 : (text n l).drop (body n l).length = (p ++ x :: q).drop (body n' l').length := by
      rw [hs, ← hb, List.drop_append, List.drop_append, List.drop_of_length_le (by omega), List.drop_cons (by omega), List.drop_cons (by omega)]
    rw [hT, hT'] at e1
    have e2 : Lib.decDigits (adl (body n l)).toNat = Lib.decDigits (adl (body n' l')).toNat := by simpa using e1
    have b1 := adl_bd (body n l)
    have b2 := adl_bd (body n' l')
    have e3 : adl (body n l) = adl (body n' l') := by
      have := digits_inj (by omega) (by omega) e2
      omega
    have tk : ∀ y, (p ++ y :: q).take (body n l).length = p ++ y :: q.take ((body n l).length - p.length - 1) := by
      intro y
      obtain ⟨j, hj⟩ : ∃ j, (body n l).length - p.length = j + 1 := ⟨(body n l).length - p.length - 1, by omega⟩
      rw [List.take_append, List.take_of_length_le (by omega), hj]; simp
    rw [hs, tk c] at hB
    rw [← hb, tk x] at hB'
    rw [← hB, ← hB'] at e3
    exact adl_other p (q.take ((body n l).length - p.length - 1)) c x hx e3
  · have e1 : body n l = body n' l' := by
      rw [← hB, ← hB', hs, ← hb, List.take_append_of_le_length (by omega), List.take_append_of_le_length (by omega)]
    have e2 := E.eq
    have e3 := E'.eq
    rw [← e1, ← e2, hs] at e3
    have := List.append_cancel_left e3
    simp at this
    exact hx this.symm
end Go.Proofs.YtbfgniheagolgaaGreatDoor.M
