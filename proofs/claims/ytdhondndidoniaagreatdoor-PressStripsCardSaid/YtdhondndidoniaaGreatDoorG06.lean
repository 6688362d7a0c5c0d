/-
  What the document's own word of the code point at a text's head comes to: contract of First.
  What the document's own words of texts come to: contracts of Check, Name, Plain.
  What the document's own words of texts come to: contracts of Plain, Lines.
  What the document's own words of references come to: contracts of Space, digit, number, utf8.
  What the document's own smallest words of tokens come to: contracts of begins, find, Skip, Blank.
  What the document's own word of a text without space about it comes to: Trim; Skip and Blank.
  How much there is in a tree.
  A node handed over by value; the document's words of a node, said of it.
  The calendar, in plain Lean: days from the first of January 1970 by a closed form; they rise with year, month and day; each day is one of them.
  What the document's own words of the calendar come to: contracts of leap, days, since.
  What the document's own words of the calendar come to: the days since 1970 (since), five loops.
  What the document's own words of numbers in texts come to: contracts of sign and number; the words themselves, in plain Lean.
  What the document's own words of fractions come to: the contract of fraction; the word itself, in plain Lean.
  What the document's own words of zones come to: the contract of zone; the word itself, in plain Lean.
  What the document's own Parse of dates comes to, in plain Lean.
  What the document's own Parse of dates comes to: its contract.
  References in plain Lean: the parts of a text, what is told of them, paths without dots, what is resolved.
  What the document's own words of references come to: letters and digits, among, first, begins, up.
  What the document's own words of references come to: signs, scheme.
  What the document's own words of references come to: a path without dots.
  A reference in memory: its nine cells; how a call ends that hands one back.
  What the document's own words of references come to: Split.
-/
import Derived.Test.YtdhondndidoniaaGreatDoorG05
import Derived.Test.YtdhondndidoniaaGreatDoorG01
import Derived.Lib.Hide
import Derived.Test.YtdhondndidoniaaGreatDoorG04
import Derived.Test.YtdhondndidoniaaGreatDoorG02
import Derived.Deep.DeepCutAuto
import Derived.BigQuiet
import Derived.WalkSmall
namespace Go.Proofs.YtdhondndidoniaaGreatDoor
open Go.RowKit

end Go.Proofs.YtdhondndidoniaaGreatDoor
namespace Go.Proofs.YtdhondndidoniaaGreatDoor
open Go.RowKit

namespace G
def checkN (l : List UInt8) : Int := if check l = true then 0 else 50
end G

namespace G
end G

/-- how far Name has come. -/
def NameAt (s t : ByteArray) (k : Nat) : Prop := s.size = k + t.size ∧ t.data.toList = s.data.toList.drop k ∧ (k = 0 ∨ G.name s.data.toList = k + G.span G.part t.data.toList)

theorem NameAt.stop {s t : ByteArray} {k : Nat} (h : NameAt s t k) (hk : k ≠ 0) (hs : (G.first t.data.toList).2 = 0 ∨ G.part (G.first t.data.toList).1 = false) : G.name s.data.toList = k := by
  rcases h.2.2 with h0 | h0
  · exact absurd h0 hk
  · rw [h0, G.span_stop _ _ hs]; rfl

end Go.Proofs.YtdhondndidoniaaGreatDoor
namespace Go.Proofs.YtdhondndidoniaaGreatDoor
open Go.RowKit

namespace G
end G

end Go.Proofs.YtdhondndidoniaaGreatDoor
namespace Go.Proofs.YtdhondndidoniaaGreatDoor
open Go.RowKit

namespace E
end E

end Go.Proofs.YtdhondndidoniaaGreatDoor
namespace Go.Proofs.YtdhondndidoniaaGreatDoor
open Go.RowKit

namespace T
end T

end Go.Proofs.YtdhondndidoniaaGreatDoor
namespace Go.Proofs.YtdhondndidoniaaGreatDoor
open Go.RowKit

def Am.trimR (l : List UInt8) : List UInt8 := (l.reverse.dropWhile Am.space).reverse
theorem Am.trim_is (l : List UInt8) : Am.trim l = Am.trimR (l.dropWhile Am.space) := rfl
theorem Am.trim_le (l : List UInt8) : (Am.trim l).length ≤ l.length := by
  rw [Am.trim_is]
  unfold Am.trimR
  rw [List.length_reverse]
  have h1 := (List.dropWhile_sublist (p := Am.space) (l := (l.dropWhile Am.space).reverse)).length_le
  have h2 := (List.dropWhile_sublist (p := Am.space) (l := l)).length_le
  rw [List.length_reverse] at h1
  omega
def trS (s : ByteArray) : ByteArray := ⟨(Am.trim s.data.toList).toArray⟩
theorem trS_list (s : ByteArray) : (trS s).data.toList = Am.trim s.data.toList := by simp [trS]
theorem trS_size (s : ByteArray) : (trS s).size ≤ s.size := by
  have := Am.trim_le s.data.toList
  rw [← trS_list, list_len, list_len] at this
  exact this
end Go.Proofs.YtdhondndidoniaaGreatDoor
namespace Go.Proofs.YtdhondndidoniaaGreatDoor
namespace Gv
def attW (a : Att) : Nat := a.space.size + a.name.size + a.value.size
mutual
def wt : Node → Nat
  | .mk _ sp nm as' kids d => 1 + as'.length + d.size + sp.size + nm.size + (as'.map attW).sum + wts kids
def wts : List Node → Nat
  | [] => 0
  | n :: l => wt n + wts l
end
theorem wt_pos (n : Node) : 1 ≤ wt n := by
  cases n
  unfold wt
  omega
theorem wts_append : ∀ a b : List Node, wts (a ++ b) = wts a + wts b
  | [], b => by simp [wts]
  | n :: a, b => by rw [List.cons_append, wts, wts, wts_append a b]; omega
theorem wts_take {l : List Node} {j : Nat} (h : j < l.length) : wts (l.take (j + 1)) = wts (l.take j) + wt l[j] := by
  rw [List.take_succ_eq_append_getElem h, wts_append]
  simp [wts]
theorem wts_len : ∀ l : List Node, l.length ≤ wts l
  | [] => Nat.zero_le _
  | n :: l => by have := wts_len l; have := wt_pos n; rw [wts, List.length_cons]; omega
theorem wts_mem : ∀ {l : List Node} {n : Node}, n ∈ l → wt n ≤ wts l
  | [], n, h => by cases h
  | m :: l, n, h => by
    rw [wts]
    rcases List.mem_cons.1 h with rfl | h
    · omega
    · have := wts_mem h; omega
theorem attW_mem : ∀ {l : List Att} {a : Att}, a ∈ l → attW a ≤ (l.map attW).sum
  | [], a, h => by cases h
  | m :: l, a, h => by
    rw [List.map_cons, List.sum_cons]
    rcases List.mem_cons.1 h with rfl | h
    · omega
    · have := attW_mem h; omega
end Gv
end Go.Proofs.YtdhondndidoniaaGreatDoor
namespace Go.Proofs.YtdhondndidoniaaGreatDoor
open Go.RowKit

/-- A NODE BY VALUE: its six cells, and what they lead to. -/
def Nd (w : World) (A : Array Value) (n : Gv.Node) : Prop := ∃ S, NodeAt S w A.toList n
theorem Nd.on {w w' : World} {A : Array Value} {n : Gv.Node} (h : Nd w A n) (hb : Below w.heap.size w w') : Nd w' A n := by
  obtain ⟨S, h⟩ := h
  exact ⟨S, h.on hb⟩
theorem Nd.form {w : World} {A : Array Value} {n : Gv.Node} (h : Nd w A n) : ∃ (S : Nat → Prop) (k : Int) (sp nm d : ByteArray) (as' : List Gv.Att) (kids : List Gv.Node) (ao bo : Option Addr) (ca cb : Nat),
    n = .mk k sp nm as' kids d ∧ A = #[.int .i64 k, .string sp, .string nm, .slice ao as'.length ca, .slice bo kids.length cb, .string d] ∧ AttsAt S w (.slice ao as'.length ca) as' ∧ KidsAt S w (.slice bo kids.length cb) kids ∧ as'.length ≤ maxLen ∧ kids.length ≤ maxLen := by
  obtain ⟨S, h⟩ := h
  obtain ⟨k, sp, nm, d, as', kids, ao, bo, ca, cb, cs, rfl, hA, ha, hk, hn, h1, h2⟩ := h.open'
  refine ⟨S, k, sp, nm, d, as', kids, ao, bo, ca, cb, rfl, ?_, ha, ⟨cs, hk, hn⟩, h1, h2⟩
  cases A
  simp only at hA
  rw [hA]
/-- One of the nodes of a row. -/
theorem KidsAt.nd {S : Nat → Prop} {w : World} {ao : Option Addr} {m cap : Nat} {l : List Gv.Node} (h : KidsAt S w (.slice ao m cap) l) {j : Nat} (hj : j < l.length) : ∃ (b off : Nat) (k : Int) (sp nm d : ByteArray) (x3 x4 : Value), ao = some ⟨b, off, none⟩ ∧
    w.cell? ⟨b, off + j * 6, none⟩ = some (.int .i64 k) ∧ w.cell? ⟨b, off + j * 6 + 1, none⟩ = some (.string sp) ∧ w.cell? ⟨b, off + j * 6 + 2, none⟩ = some (.string nm) ∧ w.cell? ⟨b, off + j * 6 + 3, none⟩ = some x3 ∧ w.cell? ⟨b, off + j * 6 + 4, none⟩ = some x4 ∧ w.cell? ⟨b, off + j * 6 + 5, none⟩ = some (.string d) ∧
    Nd w #[.int .i64 k, .string sp, .string nm, x3, x4, .string d] l[j] ∧ (∃ po pn pc, x3 = .slice po pn pc) ∧ (∃ qo qn qc, x4 = .slice qo qn qc) ∧ Am.kindOf l[j] = k ∧ (Am.dataOf l[j]) = d := by
  obtain ⟨b, off, k, sp, nm, d, as', kids, po, qo, pc, qc, e, e1, c0, c1, c2, c3, c4, c5, hn⟩ := h.node hj
  rw [e1]
  exact ⟨b, off, k, sp, nm, d, _, _, e, c0, c1, c2, c3, c4, c5, ⟨S, hn⟩, ⟨_, _, _, rfl⟩, ⟨_, _, _, rfl⟩, rfl, rfl⟩

theorem Gv.wt_mk (k : Int) (s nm : ByteArray) (a : List Gv.Att) (kids : List Gv.Node) (d : ByteArray) : Gv.wt (.mk k s nm a kids d) = 1 + a.length + d.size + s.size + nm.size + (a.map Gv.attW).sum + Gv.wts kids := by rw [Gv.wt]
namespace Am
theorem mem_kids {n x : Gv.Node} (h : x ∈ kidsOf n) : Gv.wt x ≤ Gv.wt n := by
  cases n with
  | mk k s nm a kids d =>
    have := Gv.wts_mem (show x ∈ kids from h)
    rw [Gv.wt_mk]
    omega
theorem data_wt (n : Gv.Node) : (dataOf n).size ≤ Gv.wt n := by
  cases n with
  | mk k s nm a kids d =>
    rw [Gv.wt_mk]
    show d.size ≤ _
    omega
theorem text_wt (n : Gv.Node) : (text n).length ≤ Gv.wt n := by
  cases n with
  | mk k s nm a kids d =>
    have key : ∀ l : List Gv.Node, (l.flatMap bit).length ≤ Gv.wts l := by
      intro l
      induction l with
      | nil => simp [Gv.wts]
      | cons x l ih =>
        rw [List.flatMap_cons, List.length_append, Gv.wts]
        have h1 : (bit x).length ≤ Gv.wt x := by
          unfold bit
          split
          · rw [list_len]; exact data_wt x
          · simp
        omega
    rw [text_is]
    have := key kids
    rw [Gv.wt_mk]
    show (kids.flatMap bit).length ≤ _
    omega
theorem attr_wt {n : Gv.Node} {name v : List UInt8} (h : attr n name = some v) : v.length ≤ Gv.wt n := by
  cases n with
  | mk k s nm a kids d =>
    unfold attr at h
    obtain ⟨x, hx, rfl⟩ := Option.map_eq_some_iff.1 h
    have hm : x ∈ a := List.mem_of_find?_eq_some hx
    have := Gv.attW_mem hm
    unfold Gv.attW at this
    rw [list_len, Gv.wt_mk]
    have e : (a.map Gv.attW).sum = (a.map fun a => a.space.size + a.name.size + a.value.size).sum := rfl
    omega
theorem kids_wt (n : Gv.Node) : (kidsOf n).length ≤ Gv.wt n := by
  cases n with
  | mk k s nm a kids d =>
    have := Gv.wts_len kids
    rw [Gv.wt_mk]
    show kids.length ≤ _
    omega
end Am
theorem atA_size {n : Gv.Node} {name : List UInt8} : (atA (Am.attr n name)).size ≤ Gv.wt n := by
  unfold atA
  cases h : Am.attr n name with
  | none => simp [ByteArray.size]
  | some v =>
    have := Am.attr_wt h
    simp only [Option.getD_some]
    rw [← list_len]
    simpa using this
def txS (n : Gv.Node) : ByteArray := ⟨(Am.text n).toArray⟩
theorem txS_list (n : Gv.Node) : (txS n).data.toList = Am.text n := by simp [txS]
theorem txS_size (n : Gv.Node) : (txS n).size ≤ Gv.wt n := by rw [← list_len, txS_list]; exact Am.text_wt n
end Go.Proofs.YtdhondndidoniaaGreatDoor
namespace Go.Proofs.YtdhondndidoniaaGreatDoor
namespace D

def leap (y : Int) : Bool := decide (y % 4 = 0) && (decide (y % 100 ≠ 0) || decide (y % 400 = 0))
def lp (y : Int) : Int := if leap y = true then 1 else 0
def mlen (y m : Int) : Int := if m = 4 ∨ m = 6 ∨ m = 9 ∨ m = 11 then 30 else if m = 2 then 28 + lp y else 31
def yd (y : Int) : Int := 365 * (y - 1970) + ((y - 1) / 4 - (y - 1) / 100 + (y - 1) / 400) - 477
def md0 (m : Int) : Int :=
  if m ≤ 1 then 0 else if m = 2 then 31 else if m = 3 then 59 else if m = 4 then 90 else if m = 5 then 120 else if m = 6 then 151 else if m = 7 then 181 else if m = 8 then 212 else if m = 9 then 243
  else if m = 10 then 273 else if m = 11 then 304 else 334
def md (y m : Int) : Int := md0 m + (if 2 < m then lp y else 0)
def days (y m d : Int) : Int := yd y + md y m + d - 1

theorem lp_01 (y : Int) : 0 ≤ lp y ∧ lp y ≤ 1 := by unfold lp; split <;> omega

theorem yd_succ (y : Int) : yd (y + 1) = yd y + 365 + lp y := by
  unfold yd lp leap
  simp only [Bool.and_eq_true, Bool.or_eq_true, decide_eq_true_eq]
  split <;> omega

theorem yd_mono {y z : Int} (h : y < z) : yd y + 365 + lp y ≤ yd z := by
  obtain ⟨n, rfl⟩ : ∃ n : Nat, z = y + 1 + n := ⟨(z - y - 1).toNat, by omega⟩
  rw [← yd_succ]
  clear h
  induction n with
  | zero => simp
  | succ n ih =>
    have := yd_succ (y + 1 + n)
    have h0 := lp_01 (y + 1 + n)
    have e : y + 1 + ((n + 1 : Nat) : Int) = y + 1 + n + 1 := by omega
    rw [e]; omega

theorem md_succ (y m : Int) (h1 : 1 ≤ m) (h2 : m < 12) : md y (m + 1) = md y m + mlen y m := by
  have : m = 1 ∨ m = 2 ∨ m = 3 ∨ m = 4 ∨ m = 5 ∨ m = 6 ∨ m = 7 ∨ m = 8 ∨ m = 9 ∨ m = 10 ∨ m = 11 := by omega
  rcases this with rfl | rfl | rfl | rfl | rfl | rfl | rfl | rfl | rfl | rfl | rfl <;> simp [md, md0, mlen] <;> omega

theorem md_12 (y : Int) : md y 12 + mlen y 12 = 365 + lp y := by simp [md, md0, mlen]; omega
theorem md_1 (y : Int) : md y 1 = 0 := by simp [md, md0]
theorem mlen_le (y m : Int) : 28 ≤ mlen y m ∧ mlen y m ≤ 31 := by
  have := lp_01 y
  unfold mlen
  repeat' split
  all_goals omega

theorem md_mono (y : Int) {m k : Int} (h1 : 1 ≤ m) (h : m < k) (h2 : k ≤ 12) : md y m + mlen y m ≤ md y k := by
  obtain ⟨n, rfl⟩ : ∃ n : Nat, k = m + 1 + n := ⟨(k - m - 1).toNat, by omega⟩
  rw [← md_succ y m h1 (by omega)]
  clear h
  induction n with
  | zero => simp
  | succ n ih =>
    have := md_succ y (m + 1 + n) (by omega) (by omega)
    have h0 := mlen_le y (m + 1 + n)
    have e : m + 1 + ((n + 1 : Nat) : Int) = m + 1 + n + 1 := by omega
    rw [e]
    have := ih (by omega)
    omega

theorem md_nonneg (y : Int) {m : Int} (h1 : 1 ≤ m) (h2 : m ≤ 12) : 0 ≤ md y m := by
  by_cases h : m = 1
  · rw [h, md_1]; omega
  · have := md_mono y (m := 1) (k := m) (by omega) (by omega) h2
    have := mlen_le y 1
    rw [md_1] at *; omega

theorem md_end (y : Int) {m : Int} (h1 : 1 ≤ m) (h2 : m ≤ 12) : md y m + mlen y m ≤ 365 + lp y := by
  by_cases h : m = 12
  · rw [h, md_12]; omega
  · have := md_mono y (m := m) (k := 12) h1 (by omega) (by omega)
    have := md_12 y
    have := mlen_le y 12
    omega

/-- A day of the calendar. -/
structure Day (y m d : Int) : Prop where
  m1 : 1 ≤ m
  m12 : m ≤ 12
  d1 : 1 ≤ d
  dl : d ≤ mlen y m

theorem Day.bounds {y m d : Int} (h : Day y m d) : yd y ≤ days y m d ∧ days y m d < yd (y + 1) := by
  have := md_nonneg y h.m1 h.m12
  have := md_end y h.m1 h.m12
  rw [yd_succ]
  have := h.d1
  have := h.dl
  unfold days
  omega

theorem Day.lt {y m d y' m' d' : Int} (h : Day y m d) (h' : Day y' m' d') (hl : y < y' ∨ y = y' ∧ (m < m' ∨ m = m' ∧ d < d')) : days y m d < days y' m' d' := by
  rcases hl with hl | ⟨rfl, hl | ⟨rfl, hl⟩⟩
  · have a := h.bounds
    have b := h'.bounds
    have c := yd_mono hl
    rw [yd_succ] at a
    omega
  · have a := md_mono y h.m1 hl h'.m12
    have b := h.dl
    have c := h'.d1
    unfold days
    omega
  · unfold days; omega

theorem Day.inj {y m d y' m' d' : Int} (h : Day y m d) (h' : Day y' m' d') (e : days y m d = days y' m' d') : y = y' ∧ m = m' ∧ d = d' := by
  have a := fun hl => h.lt h' hl
  have b := fun hl => h'.lt h hl
  by_cases h1 : y = y'
  · subst h1
    by_cases h2 : m = m'
    · subst h2
      refine ⟨rfl, rfl, ?_⟩
      rcases Int.lt_trichotomy d d' with hd | hd | hd
      · have := a (.inr ⟨rfl, .inr ⟨rfl, hd⟩⟩); omega
      · exact hd
      · have := b (.inr ⟨rfl, .inr ⟨rfl, hd⟩⟩); omega
    · rcases Int.lt_trichotomy m m' with hd | hd | hd
      · have := a (.inr ⟨rfl, .inl hd⟩); omega
      · exact absurd hd h2
      · have := b (.inr ⟨rfl, .inl hd⟩); omega
  · rcases Int.lt_trichotomy y y' with hd | hd | hd
    · have := a (.inl hd); omega
    · exact absurd hd h1
    · have := b (.inl hd); omega

end D
end Go.Proofs.YtdhondndidoniaaGreatDoor
namespace Go.Proofs.YtdhondndidoniaaGreatDoor
open Go.RowKit

end Go.Proofs.YtdhondndidoniaaGreatDoor
namespace Go.Proofs.YtdhondndidoniaaGreatDoor
open Go.RowKit

namespace D
theorem yd_bd {y : Int} (h0 : 0 ≤ y) (h1 : y ≤ 12000) : -1000000 ≤ yd y ∧ yd y ≤ 10000000 := by unfold yd; omega
theorem md_bd (y : Int) {m : Int} (h1 : 1 ≤ m) (h2 : m ≤ 12) : 0 ≤ md y m ∧ md y m ≤ 366 := by
  have a := md_nonneg y h1 h2
  have b := md_end y h1 h2
  have c := mlen_le y m
  have d := lp_01 y
  omega
end D

end Go.Proofs.YtdhondndidoniaaGreatDoor
namespace Go.Proofs.YtdhondndidoniaaGreatDoor
open Go.RowKit

namespace D
def dg (b : UInt8) : Bool := decide (48 ≤ b.toNat ∧ b.toNat ≤ 57)
def dv (l : List UInt8) : Nat := l.foldl (fun a b => a * 10 + (b.toNat - 48)) 0
/-- So many digits at a place. -/
def num (l : List UInt8) (a n : Nat) : Int := if l.length < a + n then -1 else if ((l.drop a).take n).all dg = true then (dv ((l.drop a).take n) : Int) else -1
/-- A byte at a place. -/
def sign (l : List UInt8) (a : Nat) (c : UInt8) : Bool := decide (l[a]? = some c)

theorem dv_snoc (l : List UInt8) (b : UInt8) : dv (l ++ [b]) = dv l * 10 + (b.toNat - 48) := by simp [dv]
theorem piece_succ {l : List UInt8} {a k : Nat} (h : a + k < l.length) : (l.drop a).take (k + 1) = (l.drop a).take k ++ [l[a + k]] := by
  rw [List.take_add_one]
  congr 1
  rw [List.getElem?_drop, List.getElem?_eq_getElem h]
  rfl

/-- So far: digits, and what they tell. -/
structure NumAt (l : List UInt8) (a k x : Nat) : Prop where
  dig : ((l.drop a).take k).all dg = true
  val : x = dv ((l.drop a).take k)
  lt : x < 10 ^ k

theorem NumAt.zero (l : List UInt8) (a : Nat) : NumAt l a 0 0 := ⟨by simp, by simp [dv], by simp⟩
theorem NumAt.succ {l : List UInt8} {a k x : Nat} (hk : NumAt l a k x) (h : a + k < l.length) (h1 : 48 ≤ l[a + k].toNat) (h2 : l[a + k].toNat ≤ 57) : NumAt l a (k + 1) (x * 10 + (l[a + k].toNat - 48)) := by
  refine ⟨?_, ?_, ?_⟩
  · rw [piece_succ h, List.all_append, hk.dig]; simp [dg, h1, h2]
  · rw [piece_succ h, dv_snoc, ← hk.val]
  · have := hk.lt
    rw [Nat.pow_succ]
    omega
theorem pow_le {k : Nat} (h : k ≤ 4) : 10 ^ k ≤ 10000 := Nat.pow_le_pow_right (n := 10) (by omega) h
end D

end Go.Proofs.YtdhondndidoniaaGreatDoor
namespace Go.Proofs.YtdhondndidoniaaGreatDoor
open Go.RowKit

namespace D
/-- The digits behind the point. -/
def fdig (l : List UInt8) (a : Nat) : List UInt8 := (l.drop (a + 1)).takeWhile dg
def fracN (l : List UInt8) (a : Nat) : Int := if sign l a 46 = true then (if (fdig l a).length = 0 then 0 else (dv ((fdig l a).take 9) * 10 ^ (9 - (fdig l a).length) : Nat)) else 0
def fracE (l : List UInt8) (a : Nat) : Int := if sign l a 46 = true then (if (fdig l a).length = 0 then -1 else (a + 1 + (fdig l a).length : Nat)) else (a : Int)

structure FracAt (l : List UInt8) (a k x : Nat) : Prop where
  dig : ((l.drop (a + 1)).take k).all dg = true
  val : x = dv ((l.drop (a + 1)).take (min k 9))
  lt : x < 10 ^ (min k 9)

theorem frac_none {l : List UInt8} {a : Nat} (h : sign l a 46 = false) : fracN l a = 0 ∧ fracE l a = a := by
  unfold fracN fracE
  rw [h]
  exact ⟨rfl, rfl⟩
theorem frac_bad {l : List UInt8} {a : Nat} (h : sign l a 46 = true) (h0 : (fdig l a).length = 0) : fracN l a = 0 ∧ fracE l a = -1 := by
  unfold fracN fracE
  rw [if_pos h, if_pos h, if_pos h0, if_pos h0]
  exact ⟨rfl, rfl⟩
/-- The filling up to nine digits. -/
structure PadAt (x k i y : Nat) : Prop where
  val : y = x * 10 ^ (i - k)
  lt : y < 10 ^ (min i 9)
end D

end Go.Proofs.YtdhondndidoniaaGreatDoor
namespace Go.Proofs.YtdhondndidoniaaGreatDoor
open Go.RowKit

namespace D
/-- Seconds ahead of UTC. -/
def zone (l : List UInt8) : Option Int :=
  if l = [90] then some 0
  else if l.length = 6 ∧ (l[0]? = some 43 ∨ l[0]? = some 45) ∧ l[3]? = some 58 then
    if num l 1 2 < 0 ∨ 23 < num l 1 2 ∨ num l 4 2 < 0 ∨ 59 < num l 4 2 then none
    else if l[0]? = some 45 then some (-num l 1 2 * 3600 - num l 4 2 * 60) else some (num l 1 2 * 3600 + num l 4 2 * 60)
  else none
def zoneN (l : List UInt8) : Int := (zone l).getD 0
def zoneB (l : List UInt8) : Bool := (zone l).isSome
theorem zone_none {l : List UInt8} (h : zone l = none) : zoneN l = 0 ∧ zoneB l = false := by unfold zoneN zoneB; rw [h]; exact ⟨rfl, rfl⟩
theorem zone_some {l : List UInt8} {z : Int} (h : zone l = some z) : zoneN l = z ∧ zoneB l = true := by unfold zoneN zoneB; rw [h]; exact ⟨rfl, rfl⟩
end D

theorem txt_ne {s : ByteArray} {l : List UInt8} (h : ¬ s.data.toList = l) : (s.toList == l) = false := by
  rw [ByteArray.toList_eq]; exact beq_false_of_ne h
theorem txt_is {s : ByteArray} {l : List UInt8} (h : s.data.toList = l) : (s.toList == l) = true := by
  rw [ByteArray.toList_eq, h]; exact beq_self_eq_true l
theorem ret_zone {a x : Int} {b y : Bool} (h1 : a = x) (h2 : b = y) : Ending.returned (.tuple #[.int .i64 a, .bool b]) = .returned (.tuple #[.int .i64 x, .bool y]) := by rw [h1, h2]
end Go.Proofs.YtdhondndidoniaaGreatDoor
namespace Go.Proofs.YtdhondndidoniaaGreatDoor
open Go.RowKit

namespace D
/-- The five signs between the numbers. -/
def signs (l : List UInt8) : Bool := sign l 4 45 && sign l 7 45 && sign l 10 84 && sign l 13 58 && sign l 16 58
/-- The six numbers are a day and a time of it. -/
def inBounds (y mo d h mi se : Int) : Bool :=
  decide (0 ≤ y) && decide (1 ≤ mo) && decide (mo ≤ 12) && decide (1 ≤ d) && decide (d ≤ mlen y mo) && decide (0 ≤ h) && decide (h ≤ 23) && decide (0 ≤ mi) && decide (mi ≤ 59) && decide (0 ≤ se) && decide (se ≤ 59)
/-- A text, read: seconds and billionths. -/
def parse (l : List UInt8) : Option (Int × Int) :=
  if signs l = true then
    if inBounds (num l 0 4) (num l 5 2) (num l 8 2) (num l 11 2) (num l 14 2) (num l 17 2) = true then
      if fracE l 19 < 0 then none
      else match zone (l.drop (fracE l 19).toNat) with
        | none => none
        | some z => some (days (num l 0 4) (num l 5 2) (num l 8 2) * 86400 + num l 11 2 * 3600 + num l 14 2 * 60 + num l 17 2 - z, fracN l 19)
    else none
  else none
def paS (l : List UInt8) : Int := ((parse l).map (·.1)).getD 0
def paN (l : List UInt8) : Int := ((parse l).map (·.2)).getD 0
def paE (l : List UInt8) : Int := if (parse l).isSome = true then 0 else 110
theorem pa_none {l : List UInt8} (h : parse l = none) : paS l = 0 ∧ paN l = 0 ∧ paE l = 110 := by unfold paS paN paE; rw [h]; exact ⟨rfl, rfl, rfl⟩
theorem pa_some {l : List UInt8} {x y : Int} (h : parse l = some (x, y)) : paS l = x ∧ paN l = y ∧ paE l = 0 := by unfold paS paN paE; rw [h]; exact ⟨rfl, rfl, rfl⟩
theorem pa_sign {l : List UInt8} (h : signs l = false) : parse l = none := by unfold parse; rw [if_neg (by rw [h]; simp)]
theorem pa_bound {l : List UInt8} (h : inBounds (num l 0 4) (num l 5 2) (num l 8 2) (num l 11 2) (num l 14 2) (num l 17 2) = false) : parse l = none := by
  unfold parse
  split
  · rw [if_neg (by rw [h]; simp)]
  · rfl
theorem pa_frac {l : List UInt8} (h : fracE l 19 < 0) : parse l = none := by
  unfold parse
  repeat' split
  all_goals first | rfl | omega
theorem pa_zone {l : List UInt8} (h : zone (l.drop (fracE l 19).toNat) = none) : parse l = none := by
  unfold parse
  rw [h]
  repeat' split
  all_goals first | rfl | contradiction
theorem pa_is {l : List UInt8} {z : Int} (h1 : signs l = true) (h2 : inBounds (num l 0 4) (num l 5 2) (num l 8 2) (num l 11 2) (num l 14 2) (num l 17 2) = true) (h3 : ¬ fracE l 19 < 0) (h4 : zone (l.drop (fracE l 19).toNat) = some z) :
    parse l = some (days (num l 0 4) (num l 5 2) (num l 8 2) * 86400 + num l 11 2 * 3600 + num l 14 2 * 60 + num l 17 2 - z, fracN l 19) := by
  unfold parse
  rw [if_pos h1, if_pos h2, if_neg h3, h4]
theorem zone_bd {l : List UInt8} {z : Int} (h : zone l = some z) : -86400 < z ∧ z < 86400 := by
  unfold zone at h
  split at h
  · have := Option.some.inj h; omega
  · split at h
    · split at h
      · cases h
      · split at h <;> · have := Option.some.inj h; omega
    · cases h
theorem days_bd {y m d : Int} (h0 : 0 ≤ y) (h1 : y ≤ 9999) (hm1 : 1 ≤ m) (hm2 : m ≤ 12) (hd1 : 1 ≤ d) (hd2 : d ≤ mlen y m) : -2000000 ≤ days y m d ∧ days y m d ≤ 20000000 := by
  have a := yd_bd (y := y) h0 (by omega)
  have b := md_bd y hm1 hm2
  have c := mlen_le y m
  unfold days
  omega
end D
end Go.Proofs.YtdhondndidoniaaGreatDoor
namespace Go.Proofs.YtdhondndidoniaaGreatDoor
open Go.RowKit

end Go.Proofs.YtdhondndidoniaaGreatDoor
namespace Go.Proofs.YtdhondndidoniaaGreatDoor
namespace Lc

/-- Ahead of the first of some bytes; from there on. -/
def cut (l m : List UInt8) : List UInt8 := l.takeWhile fun b => !m.contains b
def rest (l m : List UInt8) : List UInt8 := l.dropWhile fun b => !m.contains b
theorem cut_rest (l m : List UInt8) : cut l m ++ rest l m = l := List.takeWhile_append_dropWhile
theorem cut_len (l m : List UInt8) : (cut l m).length ≤ l.length := (List.takeWhile_sublist _).length_le
theorem rest_len (l m : List UInt8) : (rest l m).length ≤ l.length := (List.dropWhile_sublist _).length_le
theorem take_cut (l m : List UInt8) : l.take (cut l m).length = cut l m := by
  have h := cut_rest l m
  have : (cut l m ++ rest l m).take (cut l m).length = cut l m := by simp
  rwa [h] at this
theorem drop_cut (l m : List UInt8) : l.drop (cut l m).length = rest l m := by
  have h := cut_rest l m
  have : (cut l m ++ rest l m).drop (cut l m).length = rest l m := by simp
  rwa [h] at this
theorem rest_head {l m : List UInt8} {b : UInt8} {t : List UInt8} (h : rest l m = b :: t) : m.contains b = true := by
  induction l with
  | nil => simp [rest] at h
  | cons c l ih =>
    unfold rest at h
    rw [List.dropWhile_cons] at h
    split at h
    · exact ih h
    · rename_i hc
      injection h with h1 h2
      subst h1
      simpa using hc
theorem cut_not {l m : List UInt8} {b : UInt8} (h : b ∈ cut l m) : m.contains b = false := by
  induction l with
  | nil => simp [cut] at h
  | cons c l ih =>
    unfold cut at h
    rw [List.takeWhile_cons] at h
    split at h
    · rename_i hc
      rcases List.mem_cons.1 h with rfl | h
      · simpa using hc
      · exact ih h
    · cases h
theorem cut_full {t r m : List UInt8} (h : ∀ b ∈ t, m.contains b = false) (hr : r = [] ∨ ∃ b r', r = b :: r' ∧ m.contains b = true) : cut (t ++ r) m = t ∧ rest (t ++ r) m = r := by
  induction t with
  | nil =>
    rcases hr with rfl | ⟨b, r', rfl, hb⟩
    · exact ⟨rfl, rfl⟩
    · unfold cut rest
      rw [List.nil_append, List.takeWhile_cons, List.dropWhile_cons, hb]
      exact ⟨rfl, rfl⟩
  | cons c t ih =>
    have hc := h c (by simp)
    have := ih (fun b hb => h b (by simp [hb]))
    unfold cut rest at *
    rw [List.cons_append, List.takeWhile_cons, List.dropWhile_cons]
    simp only [hc, Bool.not_false, if_true]
    exact ⟨by rw [this.1], this.2⟩

/-- A REFERENCE's PARTS. -/
structure U where
  scheme : List UInt8
  host : List UInt8
  path : List UInt8
  query : List UInt8
  frag : List UInt8
  hasS : Bool
  hasH : Bool
  hasQ : Bool
  hasF : Bool

def scB (s : List UInt8) : Bool := (rest s [58, 47, 63, 35]).head? == some 58
def scA (s : List UInt8) : List UInt8 := if scB s then cut s [58, 47, 63, 35] else []
def scR (s : List UInt8) : List UInt8 := if scB s then (rest s [58, 47, 63, 35]).drop 1 else s
def hoB (s : List UInt8) : Bool := s.take 2 == [47, 47]
def hoA (s : List UInt8) : List UInt8 := if hoB s then cut (s.drop 2) [47, 63, 35] else []
def hoR (s : List UInt8) : List UInt8 := if hoB s then rest (s.drop 2) [47, 63, 35] else s
def paA (s : List UInt8) : List UInt8 := cut s [63, 35]
def paR (s : List UInt8) : List UInt8 := rest s [63, 35]
def quB (s : List UInt8) : Bool := s.head? == some 63
def quA (s : List UInt8) : List UInt8 := if quB s then (cut s [35]).drop 1 else []
def quR (s : List UInt8) : List UInt8 := if quB s then rest s [35] else s
def frB (s : List UInt8) : Bool := !s.isEmpty
def frA (s : List UInt8) : List UInt8 := s.drop 1
def split (s : List UInt8) : U :=
  ⟨scA s, hoA (scR s), paA (hoR (scR s)), quA (paR (hoR (scR s))), frA (quR (paR (hoR (scR s)))), scB s, hoB (scR s), quB (paR (hoR (scR s))), frB (quR (paR (hoR (scR s))))⟩

/-! Dots. -/
def begins (t s : List UInt8) : Bool := s.take t.length == t
def up (l : List UInt8) : List UInt8 := ((l.reverse.dropWhile fun b => b != 47).drop 1).reverse
def step (s out : List UInt8) : List UInt8 × List UInt8 :=
  if begins [46, 46, 47] s then (s.drop 3, out)
  else if begins [46, 47] s then (s.drop 2, out)
  else if begins [47, 46, 47] s then (s.drop 2, out)
  else if s = [47, 46] then ([47], out)
  else if begins [47, 46, 46, 47] s then (s.drop 3, up out)
  else if s = [47, 46, 46] then ([47], up out)
  else if s = [46] ∨ s = [46, 46] then ([], out)
  else (rest (s.drop 1) [47], out ++ s.take (1 + (cut (s.drop 1) [47]).length))
def go : Nat → List UInt8 → List UInt8 → List UInt8
  | 0, _, out => out
  | n + 1, s, out => if s = [] then out else go n (step s out).1 (step s out).2
def dots (s : List UInt8) : List UInt8 := go s.length s []
/-! Resolve. -/
def lead (p : List UInt8) : List UInt8 := (p.reverse.dropWhile fun b => b != 47).reverse
def resolve (b r : U) : U :=
  if r.hasS then { r with path := dots r.path }
  else if r.hasH then { scheme := b.scheme, hasS := b.hasS, host := r.host, hasH := true, path := dots r.path, query := r.query, hasQ := r.hasQ, frag := r.frag, hasF := r.hasF }
  else if r.path = [] then { scheme := b.scheme, hasS := b.hasS, host := b.host, hasH := b.hasH, path := b.path, query := if r.hasQ then r.query else b.query, hasQ := if r.hasQ then true else b.hasQ, frag := r.frag, hasF := r.hasF }
  else { scheme := b.scheme, hasS := b.hasS, host := b.host, hasH := b.hasH, query := r.query, hasQ := r.hasQ, frag := r.frag, hasF := r.hasF, path :=
    if begins [47] r.path then dots r.path else if b.hasH ∧ b.path = [] then dots (47 :: r.path) else dots (lead b.path ++ r.path) }
end Lc
end Go.Proofs.YtdhondndidoniaaGreatDoor
namespace Go.Proofs.YtdhondndidoniaaGreatDoor
open Go.RowKit

namespace Lc
def alphaB (b : UInt8) : Bool := decide ((65 ≤ b.toNat ∧ b.toNat ≤ 90) ∨ (97 ≤ b.toNat ∧ b.toNat ≤ 122))
def digitB (b : UInt8) : Bool := decide (48 ≤ b.toNat ∧ b.toNat ≤ 57)
def hexB (b : UInt8) : Bool := decide ((48 ≤ b.toNat ∧ b.toNat ≤ 57) ∨ (65 ≤ b.toNat ∧ b.toNat ≤ 70) ∨ (97 ≤ b.toNat ∧ b.toNat ≤ 102))
def str (l : List UInt8) : ByteArray := ⟨l.toArray⟩
def has (l : List UInt8) (c : UInt8) : Bool := l.contains c
theorem str_list (l : List UInt8) : (str l).data.toList = l := by simp [str]
theorem str_of {s : ByteArray} {l : List UInt8} (h : s.data.toList = l) : s = str l := bytes_eq (by rw [str_list, h])
theorem str_size (l : List UInt8) : (str l).size = l.length := by rw [← list_len, str_list]
end Lc

end Go.Proofs.YtdhondndidoniaaGreatDoor
namespace Go.Proofs.YtdhondndidoniaaGreatDoor
open Go.RowKit

namespace Lc
def marks : List UInt8 := [45, 46, 95, 126, 33, 36, 38, 39, 40, 41, 42, 43, 44, 59, 61, 58, 64]
def plainB (more : List UInt8) (b : UInt8) : Bool := alphaB b || digitB b || decide (127 < b.toNat) || has marks b || has more b
/-- May each byte be. -/
def signs (more : List UInt8) : List UInt8 → Bool
  | [] => true
  | b :: t => if plainB more b = true then signs more t else match t with
    | c :: d :: u => if b = 37 ∧ hexB c = true ∧ hexB d = true then signs more u else false
    | _ => false
def schB (b : UInt8) : Bool := alphaB b || digitB b || has [43, 45, 46] b
/-- May a text be a scheme. -/
def scheme : List UInt8 → Bool
  | [] => false
  | b :: t => alphaB b && (b :: t).all schB
theorem signs_plain {more t : List UInt8} {b : UInt8} (h : plainB more b = true) : signs more (b :: t) = signs more t := by
  conv => lhs; unfold signs
  rw [if_pos h]
theorem signs_hex {more t : List UInt8} {b c d : UInt8} (h : plainB more b = false) (h0 : b = 37) (h1 : hexB c = true) (h2 : hexB d = true) : signs more (b :: c :: d :: t) = signs more t := by
  conv => lhs; unfold signs
  rw [if_neg (by rw [h]; simp)]
  simp only
  rw [if_pos ⟨h0, h1, h2⟩]
theorem signs_no {more t : List UInt8} {b c d : UInt8} (h : plainB more b = false) (h0 : ¬ (b = 37 ∧ hexB c = true ∧ hexB d = true)) : signs more (b :: c :: d :: t) = false := by
  conv => lhs; unfold signs
  rw [if_neg (by rw [h]; simp)]
  simp only
  rw [if_neg h0]
theorem signs_short {more t : List UInt8} {b : UInt8} (h : plainB more b = false) (h0 : t.length < 2) : signs more (b :: t) = false := by
  conv => lhs; unfold signs
  rw [if_neg (by rw [h]; simp)]
  match t, h0 with
  | [], _ => rfl
  | [c], _ => rfl
theorem signs_other {more t : List UInt8} {b : UInt8} (h : plainB more b = false) (h0 : b ≠ 37) : signs more (b :: t) = false := by
  match t with
  | [] => exact signs_short h (by simp)
  | [c] => exact signs_short h (by simp)
  | c :: d :: t => exact signs_no h (fun e => h0 e.1)
end Lc
theorem lcons (s : ByteArray) (k : Nat) (h : k < s.size) : s.data.toList.drop k = s[k] :: s.data.toList.drop (k + 1) := by
  rw [List.drop_eq_getElem_cons (by rw [list_len]; exact h)]; rfl

end Go.Proofs.YtdhondndidoniaaGreatDoor
namespace Go.Proofs.YtdhondndidoniaaGreatDoor
open Go.RowKit

namespace Lc
end Lc

end Go.Proofs.YtdhondndidoniaaGreatDoor
namespace Go.Proofs.YtdhondndidoniaaGreatDoor
open Go.RowKit

def uArr (u : Lc.U) : Array Value := #[.string (Lc.str u.scheme), .string (Lc.str u.host), .string (Lc.str u.path), .string (Lc.str u.query), .string (Lc.str u.frag), .bool u.hasS, .bool u.hasH, .bool u.hasQ, .bool u.hasF]
namespace Lc
def none : U := ⟨[], [], [], [], [], false, false, false, false⟩
end Lc
theorem uri_open {w : World} {b : Nat} {u : Lc.U} (h : Cells w b 40 (uArr u)) :
    w.cell? ⟨b, 0, none⟩ = some (.string (Lc.str u.scheme)) ∧ w.cell? ⟨b, 1, none⟩ = some (.string (Lc.str u.host)) ∧ w.cell? ⟨b, 2, none⟩ = some (.string (Lc.str u.path)) ∧ w.cell? ⟨b, 3, none⟩ = some (.string (Lc.str u.query)) ∧ w.cell? ⟨b, 4, none⟩ = some (.string (Lc.str u.frag)) ∧ w.cell? ⟨b, 5, none⟩ = some (.bool u.hasS) ∧ w.cell? ⟨b, 6, none⟩ = some (.bool u.hasH) ∧ w.cell? ⟨b, 7, none⟩ = some (.bool u.hasQ) ∧ w.cell? ⟨b, 8, none⟩ = some (.bool u.hasF) :=
  ⟨h.cell rfl, h.cell rfl, h.cell rfl, h.cell rfl, h.cell rfl, h.cell rfl, h.cell rfl, h.cell rfl, h.cell rfl⟩
theorem zero_open {w : World} {b : Nat} (h : Cells w b 40 (uArr Lc.none)) :
    w.cell? ⟨b, 0, none⟩ = some (.string ⟨#[]⟩) ∧ w.cell? ⟨b, 1, none⟩ = some (.string ⟨#[]⟩) ∧ w.cell? ⟨b, 2, none⟩ = some (.string ⟨#[]⟩) ∧ w.cell? ⟨b, 3, none⟩ = some (.string ⟨#[]⟩) ∧ w.cell? ⟨b, 4, none⟩ = some (.string ⟨#[]⟩) ∧ w.cell? ⟨b, 5, none⟩ = some (.bool false) ∧ w.cell? ⟨b, 6, none⟩ = some (.bool false) ∧ w.cell? ⟨b, 7, none⟩ = some (.bool false) ∧ w.cell? ⟨b, 8, none⟩ = some (.bool false) :=
  ⟨h.cell rfl, h.cell rfl, h.cell rfl, h.cell rfl, h.cell rfl, h.cell rfl, h.cell rfl, h.cell rfl, h.cell rfl⟩
def nineSet (w : World) (b : Nat) (x0 x1 x2 x3 x4 x5 x6 x7 x8 : Value) : World := ((((((((w.setCell ⟨b, 0, none⟩ x0).setCell ⟨b, 1, none⟩ x1).setCell ⟨b, 2, none⟩ x2).setCell ⟨b, 3, none⟩ x3).setCell ⟨b, 4, none⟩ x4).setCell ⟨b, 5, none⟩ x5).setCell ⟨b, 6, none⟩ x6).setCell ⟨b, 7, none⟩ x7).setCell ⟨b, 8, none⟩ x8
theorem list_nine {c : List Value} (h : c.length = 9) : ∃ a0 a1 a2 a3 a4 a5 a6 a7 a8, c = [a0, a1, a2, a3, a4, a5, a6, a7, a8] := by
  match c, h with
  | [a0, a1, a2, a3, a4, a5, a6, a7, a8], _ => exact ⟨a0, a1, a2, a3, a4, a5, a6, a7, a8, rfl⟩
theorem nine_cells {w : World} {b : Nat} {A : Array Value} (hA : A.size = 9) (h : Cells w b 40 A) (x0 x1 x2 x3 x4 x5 x6 x7 x8 : Value) : Cells (nineSet w b x0 x1 x2 x3 x4 x5 x6 x7 x8) b 40 #[x0, x1, x2, x3, x4, x5, x6, x7, x8] := by
  obtain ⟨l⟩ := A
  obtain ⟨a0, a1, a2, a3, a4, a5, a6, a7, a8, rfl⟩ := list_nine (c := l) hA
  have h0 := h.set 0 x0
  rw [show (#[a0, a1, a2, a3, a4, a5, a6, a7, a8] : Array Value).setIfInBounds 0 x0 = #[x0, a1, a2, a3, a4, a5, a6, a7, a8] from rfl] at h0
  have h1 := h0.set 1 x1
  rw [show (#[x0, a1, a2, a3, a4, a5, a6, a7, a8] : Array Value).setIfInBounds 1 x1 = #[x0, x1, a2, a3, a4, a5, a6, a7, a8] from rfl] at h1
  have h2 := h1.set 2 x2
  rw [show (#[x0, x1, a2, a3, a4, a5, a6, a7, a8] : Array Value).setIfInBounds 2 x2 = #[x0, x1, x2, a3, a4, a5, a6, a7, a8] from rfl] at h2
  have h3 := h2.set 3 x3
  rw [show (#[x0, x1, x2, a3, a4, a5, a6, a7, a8] : Array Value).setIfInBounds 3 x3 = #[x0, x1, x2, x3, a4, a5, a6, a7, a8] from rfl] at h3
  have h4 := h3.set 4 x4
  rw [show (#[x0, x1, x2, x3, a4, a5, a6, a7, a8] : Array Value).setIfInBounds 4 x4 = #[x0, x1, x2, x3, x4, a5, a6, a7, a8] from rfl] at h4
  have h5 := h4.set 5 x5
  rw [show (#[x0, x1, x2, x3, x4, a5, a6, a7, a8] : Array Value).setIfInBounds 5 x5 = #[x0, x1, x2, x3, x4, x5, a6, a7, a8] from rfl] at h5
  have h6 := h5.set 6 x6
  rw [show (#[x0, x1, x2, x3, x4, x5, a6, a7, a8] : Array Value).setIfInBounds 6 x6 = #[x0, x1, x2, x3, x4, x5, x6, a7, a8] from rfl] at h6
  have h7 := h6.set 7 x7
  rw [show (#[x0, x1, x2, x3, x4, x5, x6, a7, a8] : Array Value).setIfInBounds 7 x7 = #[x0, x1, x2, x3, x4, x5, x6, x7, a8] from rfl] at h7
  have h8 := h7.set 8 x8
  rw [show (#[x0, x1, x2, x3, x4, x5, x6, x7, a8] : Array Value).setIfInBounds 8 x8 = #[x0, x1, x2, x3, x4, x5, x6, x7, x8] from rfl] at h8
  exact h8
theorem nine_below {B : Nat} {w0 w : World} {b : Nat} (h : Below B w0 w) (hb : B ≤ b) (x0 x1 x2 x3 x4 x5 x6 x7 x8 : Value) : Below B w0 (nineSet w b x0 x1 x2 x3 x4 x5 x6 x7 x8) := ((((((((h.setCell (p := ⟨b, 0, none⟩) hb x0).setCell (p := ⟨b, 1, none⟩) hb x1).setCell (p := ⟨b, 2, none⟩) hb x2).setCell (p := ⟨b, 3, none⟩) hb x3).setCell (p := ⟨b, 4, none⟩) hb x4).setCell (p := ⟨b, 5, none⟩) hb x5).setCell (p := ⟨b, 6, none⟩) hb x6).setCell (p := ⟨b, 7, none⟩) hb x7).setCell (p := ⟨b, 8, none⟩) hb x8
theorem uri_end {F : Func} {R : Ending → World → Prop} {tmps : Array Value} {w : World} {rb i : Nat} {u : Lc.U} (hres : F.results = #[ResultVar.cell i 40])
    (h2 : tmps[i]? = some (.pointer (some ⟨rb, 0, none⟩))) (hc : Cells w rb 40 (uArr u)) (hR : R (.returned (.agg (uArr u))) w) : bodyPost Tryz.prog F R .ret { tmps := tmps, defers := [] } w := by
  refine ⟨rfl, _, ?_, hR⟩
  have l2 : i < tmps.size := (Array.getElem?_eq_some_iff.1 h2).1
  have g2 : tmps[i] = .pointer (some ⟨rb, 0, none⟩) := (Array.getElem?_eq_some_iff.1 h2).2
  obtain ⟨x0, x1, x2, x3, x4, x5, x6, x7, x8⟩ := uri_open hc
  simp [results, hres, go_sem, l2, g2, x0, x1, x2, x3, x4, x5, x6, x7, x8]
  rfl
theorem uri_end2 {F : Func} {R : Ending → World → Prop} {tmps : Array Value} {w : World} {rb i k : Nat} {u : Lc.U} {y : Int} (hres : F.results = #[ResultVar.cell i 40, ResultVar.tmp k])
    (h2 : tmps[i]? = some (.pointer (some ⟨rb, 0, none⟩))) (h4 : tmps[k]? = some (.int .i64 y)) (hc : Cells w rb 40 (uArr u)) (hR : R (.returned (.tuple #[.agg (uArr u), .int .i64 y])) w) : bodyPost Tryz.prog F R .ret { tmps := tmps, defers := [] } w := by
  refine ⟨rfl, _, ?_, hR⟩
  have l2 : i < tmps.size := (Array.getElem?_eq_some_iff.1 h2).1
  have g2 : tmps[i] = .pointer (some ⟨rb, 0, none⟩) := (Array.getElem?_eq_some_iff.1 h2).2
  have l4 : k < tmps.size := (Array.getElem?_eq_some_iff.1 h4).1
  have g4 : tmps[k] = .int .i64 y := (Array.getElem?_eq_some_iff.1 h4).2
  obtain ⟨x0, x1, x2, x3, x4, x5, x6, x7, x8⟩ := uri_open hc
  simp [results, hres, go_sem, l2, g2, l4, g4, x0, x1, x2, x3, x4, x5, x6, x7, x8]
  rfl

/-- A reference that is being laid: the result's cells are as they were, the variable's hold this. -/
structure SP (w w' : World) (u : Lc.U) : Prop where
  low : Below w.heap.size w w'
  r : Cells w' w.heap.size 40 (uArr Lc.none)
  c : Cells w' (w.heap.size + 1) 40 (uArr u)
end Go.Proofs.YtdhondndidoniaaGreatDoor
namespace Go.Proofs.YtdhondndidoniaaGreatDoor
open Go.RowKit

namespace Lc
theorem cut_no {l m : List UInt8} (h : ¬ (cut l m).length < l.length) : rest l m = [] := by
  have := congrArg List.length (cut_rest l m)
  rw [List.length_append] at this
  exact List.length_eq_zero_iff.1 (by omega)
theorem sc_no {l : List UInt8} (h : ¬ (cut l [58, 47, 63, 35]).length < l.length) : scB l = false := by unfold scB; rw [cut_no h]; rfl
theorem sc_is {l : List UInt8} (h : (cut l [58, 47, 63, 35]).length < l.length) : scB l = (l[(cut l [58, 47, 63, 35]).length] == 58) := by
  unfold scB
  rw [← drop_cut, List.drop_eq_getElem_cons h]
  rfl
theorem sc_yes {l : List UInt8} (h : scB l = true) : (cut l [58, 47, 63, 35]).length < l.length ∧ l.take (cut l [58, 47, 63, 35]).length = scA l ∧ l.drop ((cut l [58, 47, 63, 35]).length + 1) = scR l := by
  refine ⟨?_, by rw [take_cut]; unfold scA; rw [if_pos h], ?_⟩
  · refine Classical.byContradiction fun h2 => ?_
    rw [sc_no h2] at h
    cases h
  unfold scR
  rw [if_pos h, ← drop_cut, List.drop_drop]
theorem scA_no {l : List UInt8} (h : scB l = false) : scA l = [] ∧ scR l = l := by unfold scA scR; rw [h]; exact ⟨rfl, rfl⟩
end Lc
theorem sub_list (s : ByteArray) (a b : Nat) : s.extract a b = Lc.str ((s.data.toList.take b).drop a) := Lc.str_of (extract_list s a b)
theorem one_byte {s : ByteArray} {k : Nat} (h : k < s.size) {c : UInt8} : (((s[k].toNat : Int) == (c.toNat : Int)) = (s.data.toList[k]'(by rw [list_len]; exact h) == c)) := by
  have e : s.data.toList[k]'(by rw [list_len]; exact h) = s[k] := rfl
  rw [e, Bool.eq_iff_iff, beq_iff_eq, beq_iff_eq]
  constructor
  · intro h; exact UInt8.toNat_inj.1 (by omega)
  · intro h; rw [h]

end Go.Proofs.YtdhondndidoniaaGreatDoor
