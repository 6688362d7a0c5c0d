/-
  The program's parser of media types, a text in a box: what takes, space, token and quotable come to.
-/
import Derived.Test.YtojbhokneemeaaaDoorRefLow
import Derived.Test.YtojbhokneemeaaaDoorCells
import Derived.Test.YtojbhokneemeaaaDoorShelf
import Derived.Lib.SlTrimSet
import Derived.Shelf.Strings.SlTrimAscii
namespace Go.Proofs.YtojbhokneemeaaaDoor
open Go.RowKit

theorem grown_then {a w w' : World} {row : Option Nat} (h : a.grownBy w row) (hb : Below w.heap.size w w') : a.grownBy w' row := h.trans (grown_of_below hb row)
theorem grown_set {a w : World} {b : Nat} (h : a.grownBy w (some b)) (v : Value) : a.grownBy (w.setCell ⟨b, 0, none⟩ v) (some b) :=
  h.trans ⟨rfl, rfl, rfl, by rw [World.size_setCell]; exact Nat.le_refl _, fun j hj hne => RowKit.Below.heap_setCell _ _ _ _ (by intro e; apply hne; rw [e])⟩
theorem grown_refl (w : World) (row : Option Nat) : w.grownBy w row := ⟨rfl, rfl, rfl, Nat.le_refl _, fun _ _ _ => rfl⟩

/-- A text at block b: what is left of it. -/
structure At (b : Nat) (s : ByteArray) (w : World) : Prop where
  box : Cells w b 42 #[.string s]
  small : s.size ≤ 100000
theorem At.cell {b : Nat} {s : ByteArray} {w : World} (h : At b s w) : w.cell? ⟨b, 0, none⟩ = some (.string s) := h.box.cell rfl
theorem At.free {b : Nat} {s : ByteArray} {w : World} (h : At b s w) : w.frozen? ⟨b, 0, none⟩ = false := h.box.free 0
theorem At.lt {b : Nat} {s : ByteArray} {w : World} (h : At b s w) : b < w.heap.size := h.box.lt
theorem At.below {b : Nat} {s : ByteArray} {w w' : World} (h : At b s w) (hb : Below w.heap.size w w') : At b s w' := ⟨h.box.on hb, h.small⟩
theorem At.put {b : Nat} {s : ByteArray} {w : World} (h : At b s w) {t : ByteArray} (ht : t.size ≤ 100000) : At b t (w.setCell ⟨b, 0, none⟩ (.string t)) := ⟨h.box.set 0 (.string t), ht⟩
theorem At.other {b c : Nat} {s : ByteArray} {w : World} (h : At b s w) (hne : b ≠ c) (i : Nat) (v : Value) : At b s (w.setCell ⟨c, i, none⟩ v) := ⟨h.box.other i v hne, h.small⟩
/-- Other boxes stay what they are while a text is read. -/
theorem Cells.grown {w w' : World} {b c : Nat} {t : TypeId} {cs : Array Value} (h : Cells w c t cs) (hg : w.grownBy w' (some b)) (hne : c ≠ b) : Cells w' c t cs :=
  (hg.block c h.lt (fun e => hne (Option.some.inj e))).trans h

/-! ### takes -/
def hdB (c : UInt8) (s : ByteArray) : Bool := decide (s.data.toList.head? = some c)
def hdR (c : UInt8) (s : ByteArray) : ByteArray := if hdB c s = true then s.extract 1 s.size else s
theorem hdB_iff {c : UInt8} {s : ByteArray} : hdB c s = true ↔ s.data.toList.head? = some c := by unfold hdB; rw [decide_eq_true_eq]
theorem hdR_size (c : UInt8) (s : ByteArray) : (hdR c s).size ≤ s.size := by
  unfold hdR
  split
  · rw [ByteArray.size_extract]; omega
  · exact Nat.le_refl _
theorem hdR_list {c : UInt8} {s : ByteArray} (h : hdB c s = true) : (hdR c s).data.toList = s.data.toList.drop 1 := by
  unfold hdR; rw [if_pos h, drop_list]
theorem hdR_same {c : UInt8} {s : ByteArray} (h : hdB c s = false) : hdR c s = s := by
  unfold hdR; rw [if_neg (by rw [h]; exact Bool.false_ne_true)]

set_option maxRecDepth 100000 in
set_option maxHeartbeats 3200000 in
theorem takes_any (b : Nat) (s : ByteArray) (c : UInt8) (x : Int) (w : World) (h : At b s w) (hx : x = (c.toNat : Int)) :
    Calls Tryd.prog 31 #[.pointer (some ⟨b, 0, none⟩), .int .u8 x] w fun e w' => e = .returned (.bool (hdB c s)) ∧ At b (hdR c s) w' ∧ w.grownBy w' (some b) := by
  have hA := Lib.hid h
  have hc := h.cell
  have hf := h.free
  have hsm := h.small
  clear h
  replace hx := Lib.hid hx
  go_enter Tryd.func31, Tryd.ntmps31
  by_cases h0 : s.size = 0
  · have he := empty_yes h0
    obtain rfl : s = ByteArray.empty := ByteArray.size_eq_zero_iff.1 h0
    have he3 : (ByteArray.empty.toList == []) = true := by rw [ByteArray.toList_eq]; rfl
    have he2 : ByteArray.empty.toList = [] := by rw [ByteArray.toList_eq]; rfl
    go_wp2_with fail
    go_ret
    exact ⟨rfl, hA.out, grown_refl _ _⟩
  · have hp : 0 < s.size := by omega
    have hne2 : (s.toList == []) = false := by
      rw [beq_eq_false_iff_ne, ByteArray.toList_eq]
      exact lst_ne hp
    have hne3 : ¬ s.toList = [] := by
      rw [ByteArray.toList_eq]
      exact lst_ne hp
    by_cases hq : s[0] = c
    · have hq1 : ((s[0].toNat : Int) != x) = false := by rw [hq, hx.out]; simp
      have hq2 : (s[0].toNat : Int) = x := by rw [hq, hx.out]
      have hb : hdB c s = true := by rw [hdB_iff, head_byte hp, hq]
      have hr : hdR c s = s.extract 1 s.size := by unfold hdR; rw [if_pos hb]
      rw [hb, hr]
      replace hb := Lib.hid hb
      replace hr := Lib.hid hr
      replace hq := Lib.hid hq
      replace hq2 := Lib.hid hq2
      go_wp2_with fail
      go_ret
      exact ⟨rfl, hA.out.put (by rw [ByteArray.size_extract]; omega), grown_set (grown_refl _ _) _⟩
    · have hq2 : ¬ (s[0].toNat : Int) = x := fun e => hq (byte_is (by have := hx.out; omega))
      have hq1 : ((s[0].toNat : Int) != x) = true := by rw [bne_iff_ne]; exact hq2
      have hb : hdB c s = false := by
        rw [← Bool.not_eq_true, hdB_iff, head_byte hp]
        exact fun e => hq (Option.some.inj e)
      have hr : hdR c s = s := hdR_same hb
      rw [hb, hr]
      replace hb := Lib.hid hb
      replace hr := Lib.hid hr
      replace hq := Lib.hid hq
      go_wp2_with fail
      go_ret
      exact ⟨rfl, hA.out, grown_refl _ _⟩

/-! ### space and token -/
theorem infoSet : (Tryd.prog.info? 62).map (fun i => (i.zero, i.size)) = some (some (.agg (Array.replicate 256 (.bool false))), 256) := by kernel_rfl
theorem trim_skip (l : List UInt8) : Lib.trimLeftS l [32, 9] = Md.skip l := by
  unfold Lib.trimLeftS Md.skip
  congr 1
  funext b
  have : ∀ n, n < 256 → ([32, 9] : List UInt8).contains (UInt8.ofNat n) = Md.blankB (UInt8.ofNat n) := by decide +kernel
  have := this b.toNat b.toNat_lt
  rwa [UInt8.ofNat_toNat] at this
def tokSet : List UInt8 := [65, 66, 67, 68, 69, 70, 71, 72, 73, 74, 75, 76, 77, 78, 79, 80, 81, 82, 83, 84, 85, 86, 87, 88, 89, 90, 97, 98, 99, 100, 101, 102, 103, 104, 105, 106, 107, 108] ++ [109, 110, 111, 112, 113, 114, 115, 116, 117, 118, 119, 120, 121, 122, 48, 49, 50, 51, 52, 53, 54, 55, 56, 57, 33, 35, 36, 37, 38, 39, 42, 43, 45, 46, 94, 95, 96, 124, 126]
theorem trim_tok (l : List UInt8) : Lib.trimLeftS l tokSet = Md.tokR l := by
  unfold Lib.trimLeftS Md.tokR
  congr 1
  funext b
  have : ∀ n, n < 256 → tokSet.contains (UInt8.ofNat n) = Md.tokB (UInt8.ofNat n) := by decide +kernel
  have := this b.toNat b.toNat_lt
  rwa [UInt8.ofNat_toNat] at this
theorem trimSkip_any (s : ByteArray) (w : World) :
    Calls Tryd.prog 34 #[.string s, .string ⟨#[32, 9]⟩] w fun e w' => e = .returned (.string (skA s)) ∧ Below w.heap.size w w' := by
  refine (Any.strings_TrimLeft_laid Tryd.lays161 infoSet s ⟨#[32, 9]⟩ w (by decide) (Go.Proofs.ascii_of_all (by decide))).mono ?_
  rintro e w' ⟨rfl, b⟩
  rw [show (⟨#[32, 9]⟩ : ByteArray).data.toList = [32, 9] from rfl, trim_skip]
  exact ⟨rfl, b⟩
theorem trimTok_any (s : ByteArray) {cut : ByteArray} (w : World) (hc : cut.data.toList = tokSet) :
    Calls Tryd.prog 34 #[.string s, .string cut] w fun e w' => e = .returned (.string (tkB s)) ∧ Below w.heap.size w w' := by
  refine (Any.strings_TrimLeft_laid Tryd.lays161 infoSet s cut w (by rw [← list_len, hc]; decide) (by rw [hc]; exact Go.Proofs.ascii_of_all (by decide))).mono ?_
  rintro e w' ⟨rfl, b⟩
  rw [hc, trim_tok]
  exact ⟨rfl, b⟩

theorem space_any (b : Nat) (s : ByteArray) (w : World) (h : At b s w) :
    Calls Tryd.prog 30 #[.pointer (some ⟨b, 0, none⟩)] w fun e w' => e = .returned (.tuple #[]) ∧ At b (skA s) w' ∧ w.grownBy w' (some b) := by
  have hsz := skA_size s
  have hA := Lib.hid h
  have hc := h.cell
  clear h
  go_enter Tryd.func30, Tryd.ntmps30
  go_wp2_with fail
  (with_reducible refine (trimSkip_any s _).mono ?_); rintro e w1 ⟨rfl, b1⟩
  have hA1 := hA.out.below b1
  have hf1 := hA1.free
  have hc1 := hA1.cell
  replace hA1 := Lib.hid hA1
  clear hA hc
  go_wp2_with fail
  go_end0
  exact ⟨rfl, hA1.out.put (by have := hA1.out.small; omega), grown_set (grown_of_below b1 _) _⟩

theorem tk_join (s : ByteArray) : (tkA s).size + (tkB s).size = s.size ∧ s.extract 0 (tkA s).size = tkA s := by
  have h := congrArg List.length (Md.tok_tokR s.data.toList)
  rw [List.length_append, ← tkA_list, ← tkB_list, list_len, list_len, list_len] at h
  refine ⟨h, bytes_eq ?_⟩
  rw [take_list, tkA_list, ← list_len, tkA_list]
  conv => lhs; rw [← Md.tok_tokR s.data.toList]
  rw [List.take_left']
  rw [Md.tok_tokR]

/-! ### quotable -/
/-- May the byte at the head be quoted, which is it. -/
def quB1 (s : ByteArray) : Bool := match s.data.toList with | [] => false | c :: _ => !Md.badB c
def quH (s : ByteArray) : Int := match s.data.toList with | [] => 0 | c :: _ => (c.toNat : Int)
theorem quB1_yes {s : ByteArray} (h : quB1 s = true) : ∃ c : UInt8, quH s = (c.toNat : Int) ∧ Md.badB c = false ∧ s.data.toList = c :: (s.extract 1 s.size).data.toList := by
  unfold quB1 at h
  rw [drop_list]
  unfold quH
  cases hl : s.data.toList with
  | nil => rw [hl] at h; cases h
  | cons c l =>
    rw [hl] at h
    exact ⟨c, rfl, by simpa using h, rfl⟩
theorem quB1_no {s : ByteArray} (h : quB1 s = false) : s.data.toList = [] ∨ ∃ c l, s.data.toList = c :: l ∧ Md.badB c = true := by
  unfold quB1 at h
  cases hl : s.data.toList with
  | nil => exact .inl rfl
  | cons c l =>
    rw [hl] at h
    exact .inr ⟨c, l, rfl, by simpa using h⟩
end Go.Proofs.YtojbhokneemeaaaDoor
