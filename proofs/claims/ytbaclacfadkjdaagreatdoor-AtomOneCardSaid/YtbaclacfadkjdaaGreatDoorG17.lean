/-
  The program's parser of media types, a text in a box: what takes, space, token and quotable come to.
  The program's own small letters: bytes of a text, changed where they lie.
  The program's own quoted texts, and values.
-/
import Derived.Test.YtbaclacfadkjdaaGreatDoorG11
import Derived.Test.YtbaclacfadkjdaaGreatDoorG03
import Derived.Test.YtbaclacfadkjdaaGreatDoorShelf
import Derived.Test.YtbaclacfadkjdaaGreatDoorShelf2
import Derived.Lib.SlTrimSet
import Derived.Shelf.Strings.SlTrimAscii
import Derived.Laws.IdiomStrings
namespace Go.Proofs.YtbaclacfadkjdaaGreatDoor
open Go.RowKit
theorem grown_then {a w w' : World} {row : Option Nat} (h : a.grownBy w row) (hb : Below w.heap.size w w') : a.grownBy w' row := h.trans (grown_of_below hb row)
theorem grown_set {a w : World} {b : Nat} (h : a.grownBy w (some b)) (v : Value) : a.grownBy (w.setCell ⟨b, 0, none⟩ v) (some b) :=
  h.trans ⟨rfl, rfl, rfl, by rw [World.size_setCell]; exact Nat.le_refl _, fun j hj hne => RowKit.Below.heap_setCell _ _ _ _ (by intro e; apply hne; rw [e])⟩
theorem grown_refl (w : World) (row : Option Nat) : w.grownBy w row := ⟨rfl, rfl, rfl, Nat.le_refl _, fun _ _ _ => rfl⟩
structure At (b : Nat) (s : ByteArray) (w : World) : Prop where
  box : Cells w b 122 #[.string s]
  small : s.size ≤ 100000
theorem At.cell {b : Nat} {s : ByteArray} {w : World} (h : At b s w) : w.cell? ⟨b, 0, none⟩ = some (.string s) := h.box.cell rfl
theorem At.free {b : Nat} {s : ByteArray} {w : World} (h : At b s w) : w.frozen? ⟨b, 0, none⟩ = false := h.box.free 0
theorem At.lt {b : Nat} {s : ByteArray} {w : World} (h : At b s w) : b < w.heap.size := h.box.lt
theorem At.below {b : Nat} {s : ByteArray} {w w' : World} (h : At b s w) (hb : Below w.heap.size w w') : At b s w' := ⟨h.box.on hb, h.small⟩
theorem At.put {b : Nat} {s : ByteArray} {w : World} (h : At b s w) {t : ByteArray} (ht : t.size ≤ 100000) : At b t (w.setCell ⟨b, 0, none⟩ (.string t)) := ⟨h.box.set 0 (.string t), ht⟩
theorem At.other {b c : Nat} {s : ByteArray} {w : World} (h : At b s w) (hne : b ≠ c) (i : Nat) (v : Value) : At b s (w.setCell ⟨c, i, none⟩ v) := ⟨h.box.other i v hne, h.small⟩
theorem Cells.grown {w w' : World} {b c : Nat} {t : TypeId} {cs : Array Value} (h : Cells w c t cs) (hg : w.grownBy w' (some b)) (hne : c ≠ b) : Cells w' c t cs :=
  (hg.block c h.lt (fun e => hne (Option.some.inj e))).trans h
/-! ### takes -/
def hdB (c : UInt8) (s : ByteArray) : Bool := decide (s.data.toList.head? = some c)
def hdR (c : UInt8) (s : ByteArray) : ByteArray := if hdB c s = true then s.extract 1 s.size else s
theorem hdB_iff {c : UInt8} {s : ByteArray} : hdB c s = true ↔ s.data.toList.head? = some c := by unfold hdB; rw [decide_eq_true_eq]
theorem hdR_size (c : UInt8) (s : ByteArray) : (hdR c s).size ≤ s.size := by
  unfold hdR
  split
  · rw [ByteArray.size_extract]; omega
  · exact Nat.le_refl _
theorem hdR_list {c : UInt8} {s : ByteArray} (h : hdB c s = true) : (hdR c s).data.toList = s.data.toList.drop 1 := by
  unfold hdR; rw [if_pos h, drop_list]
theorem hdR_same {c : UInt8} {s : ByteArray} (h : hdB c s = false) : hdR c s = s := by
  unfold hdR; rw [if_neg (by rw [h]; exact Bool.false_ne_true)]
set_option maxRecDepth 100000 in
set_option maxHeartbeats 3200000 in
theorem takes_any (b : Nat) (s : ByteArray) (c : UInt8) (x : Int) (w : World) (h : At b s w) (hx : x = (c.toNat : Int)) :
    Calls Tryz.prog 130 #[.pointer (some ⟨b, 0, none⟩), .int .u8 x] w fun e w' => e = .returned (.bool (hdB c s)) ∧ At b (hdR c s) w' ∧ w.grownBy w' (some b) := by
  have hA := Lib.hid h
  have hc := h.cell
  have hf := h.free
  have hsm := h.small
  clear h
  replace hx := Lib.hid hx
  go_enter Tryz.func130, Tryz.ntmps130
  by_cases h0 : s.size = 0
  · have he := empty_yes h0
    obtain rfl : s = ByteArray.empty := ByteArray.size_eq_zero_iff.1 h0
    have he3 : (ByteArray.empty.toList == []) = true := by rw [ByteArray.toList_eq]; rfl
    have he2 : ByteArray.empty.toList = [] := by rw [ByteArray.toList_eq]; rfl
    go_wp2_with fail
    go_ret
    exact ⟨rfl, hA.out, grown_refl _ _⟩
  · have hp : 0 < s.size := by omega
    have hne2 : (s.toList == []) = false := by
      rw [beq_eq_false_iff_ne, ByteArray.toList_eq]
      exact lst_ne hp
    have hne3 : ¬ s.toList = [] := by
      rw [ByteArray.toList_eq]
      exact lst_ne hp
    by_cases hq : s[0] = c
    · have hq1 : ((s[0].toNat : Int) != x) = false := by rw [hq, hx.out]; simp
      have hq2 : (s[0].toNat : Int) = x := by rw [hq, hx.out]
      have hb : hdB c s = true := by rw [hdB_iff, head_byte hp, hq]
      have hr : hdR c s = s.extract 1 s.size := by unfold hdR; rw [if_pos hb]
      rw [hb, hr]
      replace hb := Lib.hid hb
      replace hr := Lib.hid hr
      replace hq := Lib.hid hq
      replace hq2 := Lib.hid hq2
      go_wp2_with fail
      go_ret
      exact ⟨rfl, hA.out.put (by rw [ByteArray.size_extract]; omega), grown_set (grown_refl _ _) _⟩
    · have hq2 : ¬ (s[0].toNat : Int) = x := fun e => hq (byte_is (by have := hx.out; omega))
      have hq1 : ((s[0].toNat : Int) != x) = true := by rw [bne_iff_ne]; exact hq2
      have hb : hdB c s = false := by
        rw [← Bool.not_eq_true, hdB_iff, head_byte hp]
        exact fun e => hq (Option.some.inj e)
      have hr : hdR c s = s := hdR_same hb
      rw [hb, hr]
      replace hb := Lib.hid hb
      replace hr := Lib.hid hr
      replace hq := Lib.hid hq
      go_wp2_with fail
      go_ret
      exact ⟨rfl, hA.out, grown_refl _ _⟩
/-! ### space and token -/
theorem infoSet : (Tryz.prog.info? 144).map (fun i => (i.zero, i.size)) = some (some (.agg (Array.replicate 256 (.bool false))), 256) := by kernel_rfl
theorem trim_skip (l : List UInt8) : Lib.trimLeftS l [32, 9] = Md.skip l := by
  unfold Lib.trimLeftS Md.skip
  congr 1
  funext b
  have : ∀ n, n < 256 → ([32, 9] : List UInt8).contains (UInt8.ofNat n) = Md.blankB (UInt8.ofNat n) := by decide +kernel
  have := this b.toNat b.toNat_lt
  rwa [UInt8.ofNat_toNat] at this
def tokSet : List UInt8 := [65, 66, 67, 68, 69, 70, 71, 72, 73, 74, 75, 76, 77, 78, 79, 80, 81, 82, 83, 84, 85, 86, 87, 88, 89, 90, 97, 98, 99, 100, 101, 102, 103, 104, 105, 106, 107, 108] ++ [109, 110, 111, 112, 113, 114, 115, 116, 117, 118, 119, 120, 121, 122, 48, 49, 50, 51, 52, 53, 54, 55, 56, 57, 33, 35, 36, 37, 38, 39, 42, 43, 45, 46, 94, 95, 96, 124, 126]
theorem trim_tok (l : List UInt8) : Lib.trimLeftS l tokSet = Md.tokR l := by
  unfold Lib.trimLeftS Md.tokR
  congr 1
  funext b
  have : ∀ n, n < 256 → tokSet.contains (UInt8.ofNat n) = Md.tokB (UInt8.ofNat n) := by decide +kernel
  have := this b.toNat b.toNat_lt
  rwa [UInt8.ofNat_toNat] at this
theorem trimSkip_any (s : ByteArray) (w : World) :
    Calls Tryz.prog 110 #[.string s, .string ⟨#[32, 9]⟩] w fun e w' => e = .returned (.string (skA s)) ∧ Below w.heap.size w w' := by
  refine (Any.strings_TrimLeft_laid Tryz.lays161 infoSet s ⟨#[32, 9]⟩ w (by decide) (Go.Proofs.ascii_of_all (by decide))).mono ?_
  rintro e w' ⟨rfl, b⟩
  rw [show (⟨#[32, 9]⟩ : ByteArray).data.toList = [32, 9] from rfl, trim_skip]
  exact ⟨rfl, b⟩
theorem trimTok_any (s : ByteArray) {cut : ByteArray} (w : World) (hc : cut.data.toList = tokSet) :
    Calls Tryz.prog 110 #[.string s, .string cut] w fun e w' => e = .returned (.string (tkB s)) ∧ Below w.heap.size w w' := by
  refine (Any.strings_TrimLeft_laid Tryz.lays161 infoSet s cut w (by rw [← list_len, hc]; decide) (by rw [hc]; exact Go.Proofs.ascii_of_all (by decide))).mono ?_
  rintro e w' ⟨rfl, b⟩
  rw [hc, trim_tok]
  exact ⟨rfl, b⟩
theorem space_any (b : Nat) (s : ByteArray) (w : World) (h : At b s w) :
    Calls Tryz.prog 98 #[.pointer (some ⟨b, 0, none⟩)] w fun e w' => e = .returned (.tuple #[]) ∧ At b (skA s) w' ∧ w.grownBy w' (some b) := by
  have hsz := skA_size s
  have hA := Lib.hid h
  have hc := h.cell
  clear h
  go_enter Tryz.func98, Tryz.ntmps98
  go_wp2_with fail
  (with_reducible refine (trimSkip_any s _).mono ?_); rintro e w1 ⟨rfl, b1⟩
  have hA1 := hA.out.below b1
  have hf1 := hA1.free
  have hc1 := hA1.cell
  replace hA1 := Lib.hid hA1
  clear hA hc
  go_wp2_with fail
  go_end0
  exact ⟨rfl, hA1.out.put (by have := hA1.out.small; omega), grown_set (grown_of_below b1 _) _⟩
theorem tk_join (s : ByteArray) : (tkA s).size + (tkB s).size = s.size ∧ s.extract 0 (tkA s).size = tkA s := by
  have h := congrArg List.length (Md.tok_tokR s.data.toList)
  rw [List.length_append, ← tkA_list, ← tkB_list, list_len, list_len, list_len] at h
  refine ⟨h, bytes_eq ?_⟩
  rw [take_list, tkA_list, ← list_len, tkA_list]
  conv => lhs; rw [← Md.tok_tokR s.data.toList]
  rw [List.take_left']
  rw [Md.tok_tokR]
set_option maxRecDepth 100000 in
set_option maxHeartbeats 3200000 in
theorem token_any (b : Nat) (s : ByteArray) (w : World) (h : At b s w) :
    Calls Tryz.prog 129 #[.pointer (some ⟨b, 0, none⟩)] w fun e w' => e = .returned (.string (tkA s)) ∧ At b (tkB s) w' ∧ w.grownBy w' (some b) := by
  obtain ⟨hj, hx⟩ := tk_join s
  have hA := Lib.hid h
  have hc := h.cell
  clear h
  have hsub : (s.size : Int) - ((tkB s).size : Int) = ((tkA s).size : Int) := by omega
  have ht := Lib.hid (fun W (cut : ByteArray) (hc : cut.data.toList = tokSet) => trimTok_any s W hc)
  have hle : (tkA s).size ≤ s.size := by omega
  have hle2 : (tkB s).size ≤ s.size := by omega
  rw [← hx]
  generalize (tkA s).size = n at *
  generalize tkB s = t at *
  replace hx := Lib.hid hx
  replace hj := Lib.hid hj
  go_enter Tryz.func129, Tryz.ntmps129
  go_wp2_with fail
  (with_reducible refine (ht.out _ _ ?_).mono ?_)
  case refine_1 => rfl
  rintro e w1 ⟨rfl, b1⟩
  have hA1 := hA.out.below b1
  have hf1 := hA1.free
  have hc1 := hA1.cell
  have hsm := hA1.small
  replace hA1 := Lib.hid hA1
  clear hA hc
  go_wp2_with fail
  go_ret
  exact ⟨rfl, hA1.out.put (by omega), grown_set (grown_of_below b1 _) _⟩
/-! ### quotable -/
def quB1 (s : ByteArray) : Bool := match s.data.toList with | [] => false | c :: _ => !Md.badB c
def quH (s : ByteArray) : Int := match s.data.toList with | [] => 0 | c :: _ => (c.toNat : Int)
theorem quB1_yes {s : ByteArray} (h : quB1 s = true) : ∃ c : UInt8, quH s = (c.toNat : Int) ∧ Md.badB c = false ∧ s.data.toList = c :: (s.extract 1 s.size).data.toList := by
  unfold quB1 at h
  rw [drop_list]
  unfold quH
  cases hl : s.data.toList with
  | nil => rw [hl] at h; cases h
  | cons c l =>
    rw [hl] at h
    exact ⟨c, rfl, by simpa using h, rfl⟩
theorem quB1_no {s : ByteArray} (h : quB1 s = false) : s.data.toList = [] ∨ ∃ c l, s.data.toList = c :: l ∧ Md.badB c = true := by
  unfold quB1 at h
  cases hl : s.data.toList with
  | nil => exact .inl rfl
  | cons c l =>
    rw [hl] at h
    exact .inr ⟨c, l, rfl, by simpa using h⟩
set_option maxRecDepth 100000 in
set_option maxHeartbeats 3200000 in
theorem quotable_any (b : Nat) (s : ByteArray) (w : World) (h : At b s w) :
    Calls Tryz.prog 167 #[.pointer (some ⟨b, 0, none⟩)] w fun e w' => e = .returned (.tuple #[.int .u8 (quH s), .bool (quB1 s)]) ∧ At b (s.extract 1 s.size) w' ∧ w.grownBy w' (some b) := by
  have hA := Lib.hid h
  have hc := h.cell
  have hf := h.free
  have hsm := h.small
  clear h
  go_enter Tryz.func167, Tryz.ntmps167
  by_cases h0 : s.size = 0
  · have he := empty_yes h0
    obtain rfl : s = ByteArray.empty := ByteArray.size_eq_zero_iff.1 h0
    have he3 : (ByteArray.empty.toList == []) = true := by rw [ByteArray.toList_eq]; rfl
    have he2 : ByteArray.empty.toList = [] := by rw [ByteArray.toList_eq]; rfl
    go_wp2_with fail
    go_ret2
    exact ⟨rfl, hA.out, grown_refl _ _⟩
  · have hp : 0 < s.size := by omega
    have hne2 : (s.toList == []) = false := by
      rw [beq_eq_false_iff_ne, ByteArray.toList_eq]
      exact lst_ne hp
    have hne3 : ¬ s.toList = [] := by
      rw [ByteArray.toList_eq]
      exact lst_ne hp
    have hd := drop_cons s 0 hp
    rw [List.drop_zero] at hd
    have hq : quB1 s = !Md.badB s[0] := by unfold quB1; rw [hd]
    have hq2 : quH s = ((s[0]).toNat : Int) := by unfold quH; rw [hd]
    have hlt := (s[0]).toNat_lt
    rw [hq, hq2]
    clear hd hq hq2
    have hst := hA.out.put (t := s.extract 1 s.size) (by rw [ByteArray.size_extract]; omega)
    replace hst := Lib.hid hst
    obtain ⟨Q, hQ⟩ : ∃ Q, Q = !Md.badB s[0] := ⟨_, rfl⟩
    rw [← hQ]
    replace hQ := Lib.hid hQ
    by_cases h1 : (s[0]).toNat < 32
    · have e1 : ¬ (32 : Int) ≤ ((s[0]).toNat : Int) := by omega
      by_cases h9 : (s[0]).toNat = 9
      · obtain rfl : Q = true := by rw [hQ.out]; unfold Md.badB; simp [h9]
        have e9 : (((s[0]).toNat : Int) == 9) = true := by rw [beq_iff_eq]; omega
        replace h9 := Lib.hid h9
        go_wp2_with fail
        go_ret2
        exact ⟨rfl, hst.out, grown_set (grown_refl _ _) _⟩
      · obtain rfl : Q = false := by rw [hQ.out]; unfold Md.badB; simp [h9, h1]
        have e9 : (((s[0]).toNat : Int) == 9) = false := beq_false_of_ne (by omega)
        replace h9 := Lib.hid h9
        go_wp2_with fail
        go_ret2
        exact ⟨rfl, hst.out, grown_set (grown_refl _ _) _⟩
    · have e1 : (32 : Int) ≤ ((s[0]).toNat : Int) := by omega
      by_cases h7 : (s[0]).toNat = 127
      · obtain rfl : Q = false := by rw [hQ.out]; unfold Md.badB; simp [h7]
        have e7 : (((s[0]).toNat : Int) != 127) = false := by rw [bne_eq_false_iff_eq]; omega
        have e9 : (((s[0]).toNat : Int) == 9) = false := beq_false_of_ne (by omega)
        replace h7 := Lib.hid h7
        go_wp2_with fail
        go_ret2
        exact ⟨rfl, hst.out, grown_set (grown_refl _ _) _⟩
      · obtain rfl : Q = true := by rw [hQ.out]; unfold Md.badB; simp [h7]; omega
        have e7 : (((s[0]).toNat : Int) != 127) = true := by rw [bne_iff_ne]; omega
        go_wp2_with fail
        go_ret2
        exact ⟨rfl, hst.out, grown_set (grown_refl _ _) _⟩
end Go.Proofs.YtbaclacfadkjdaaGreatDoor
namespace Go.Proofs.YtbaclacfadkjdaaGreatDoor
open Go.RowKit
def LowAt (w : World) (g : Nat) (s : ByteArray) (k : Nat) : Prop := ∀ j (h : j < s.size), w.cell? ⟨g, j, none⟩ = some (.int .u8 ((if j < k then Md.lowB s[j] else s[j]).toNat : Int)) ∧ w.frozen? ⟨g, j, none⟩ = false
theorem LowAt.here {w : World} {g : Nat} {s : ByteArray} {k : Nat} (h : LowAt w g s k) (hk : k < s.size) : w.cell? ⟨g, k, none⟩ = some (.int .u8 (s[k].toNat : Int)) ∧ w.frozen? ⟨g, k, none⟩ = false := by
  have := h k hk
  rwa [if_neg (Nat.lt_irrefl k)] at this
theorem LowAt.same {w : World} {g : Nat} {s : ByteArray} {k : Nat} (h : LowAt w g s k) (hk : k < s.size) (hl : Md.lowB s[k] = s[k]) : LowAt w g s (k + 1) := by
  intro j hj
  have := h j hj
  by_cases e : j = k
  · subst e
    rw [if_neg (Nat.lt_irrefl j)] at this
    rw [if_pos (Nat.lt_succ_self j), hl]
    exact this
  · by_cases hlt : j < k
    · rw [if_pos hlt] at this; rw [if_pos (by omega)]; exact this
    · rw [if_neg hlt] at this; rw [if_neg (by omega)]; exact this
theorem LowAt.put {w : World} {g : Nat} {s : ByteArray} {k : Nat} (h : LowAt w g s k) (hk : k < s.size) {d : UInt8} (hl : Md.lowB s[k] = d) : LowAt (w.setCell ⟨g, k, none⟩ (.int .u8 (d.toNat : Int))) g s (k + 1) := by
  intro j hj
  have hh := h j hj
  refine ⟨?_, by rw [World.frozen?_setCell]; exact hh.2⟩
  by_cases e : j = k
  · subst e
    rw [if_pos (Nat.lt_succ_self j), hl]
    exact World.cell?_setCell_same _ _ _ hh.1
  · rw [World.cell?_setCell_other _ _ _ _ (by simp)]
    by_cases hlt : j < k
    · rw [if_pos (by omega)]; rw [if_pos hlt] at hh; exact hh.1
    · rw [if_neg (by omega)]; rw [if_neg hlt] at hh; exact hh.1
theorem bytes_laid (s : ByteArray) (w : World) : ∃ cap W, (convert 9 54 (.string s)).run Tryz.prog w = .ok (.slice (some ⟨w.heap.size, 0, none⟩) s.size cap) W ∧ Below w.heap.size w W ∧ LowAt W w.heap.size s 0 ∧ w.heap.size < W.heap.size := by
  refine ⟨_, _, run_bytes_of_string w 9 54 5 s Tryz.underlying9 Tryz.underlying54 Tryz.underlying5, ?_, fun j hj => ?_, ?_⟩
  · exact ((Below.refl _ _).drew).alloc (Nat.le_refl _) _
  · generalize hC : bytesRow s _ = C
    have h1 : C[j]? = some (.int .u8 (s[j].toNat : Int)) := by rw [← hC]; exact bytesRow_at s _ j hj
    have hl : j < C.size := (Array.getElem?_eq_some_iff.1 h1).1
    have hb : (w.drew.alloc (.cells C 5 (C.size, C.size + 1))).heap[w.heap.size]? = some (.cells C 5 (C.size, C.size + 1)) := heap_alloc_new w.drew _
    refine ⟨?_, ?_⟩
    · rw [if_neg (Nat.not_lt_zero j)]
      simp only [World.cell?, hb]
      exact h1
    · simp only [World.frozen?, hb]
      simp; omega
  · simp
theorem low_text {w : World} {s : ByteArray} {g cap : Nat} (h : LowAt w g s s.size) : (convert 54 9 (.slice (some ⟨g, 0, none⟩) s.size cap)).run Tryz.prog w = .ok (.string (loA s)) w := by
  have hl : (Md.lower s.data.toList).length = s.size := by unfold Md.lower; rw [List.length_map, list_len]
  have := run_convert_bytes_back (l := Md.lower s.data.toList) w 54 9 5 ⟨g, 0, none⟩ cap Tryz.underlying54 Tryz.underlying5 Tryz.underlying9 (fun j hj => by
    have hj' : j < s.size := by rw [← hl]; exact hj
    have hh := (h j hj').1
    rw [if_pos hj'] at hh
    rw [add_at, Nat.zero_add, hh]
    simp only [Md.lower, List.getElem_map]
    rfl)
  rw [hl] at this
  exact this
set_option maxRecDepth 100000 in
set_option maxHeartbeats 3200000 in
theorem mSmall_any (s : ByteArray) (w : World) (hs : s.size ≤ 70368744177664) :
    Calls Tryz.prog 128 #[.string s] w fun e w' => e = .returned (.string (loA s)) ∧ Below w.heap.size w w' := by
  obtain ⟨cap, W, hcv, bW, hL, hlt0⟩ := bytes_laid s w
  go_enter Tryz.func128, Tryz.ntmps128
  replace bW := Lib.hid bW
  replace hL := Lib.hid hL
  go_wp2_with fail
  clear hcv
  obtain ⟨g, hg⟩ : ∃ g, g = w.heap.size := ⟨_, rfl⟩
  rw [← hg] at hL hlt0 bW ⊢
  replace hg := Lib.hid hg
  go_loopw [4, 5, 10] (fun _ _ i wr => ∃ k : Nat, k ≤ s.size ∧ i = .int .i64 (k : Int) ∧ Hid (LowAt wr g s k) ∧ Hid (Below g w wr)) (fun _ _ i _ => s.size - (intOf i).toNat)
  case atStart => exact ⟨0, Nat.zero_le _, rfl, hL, bW⟩
  case round =>
    obtain ⟨k, hk, rfl, hA, bw⟩ := hrel
    by_cases hlt : k < s.size
    · obtain ⟨c0, f0⟩ := hA.out.here hlt
      have hb := (s[k]).toNat_lt
      obtain ⟨d, hd⟩ : ∃ d, Md.lowB s[k] = d := ⟨_, rfl⟩
      by_cases hq : 65 ≤ (s[k]).toNat ∧ (s[k]).toNat ≤ 90
      · have hn : ((s[k]).toNat : Int) - 65 + 97 = (d.toNat : Int) := by rw [← hd, Md.low_small hq]; omega
        obtain ⟨q1, q2⟩ := hq
        have hdl := d.toNat_lt
        have hP := Lib.hid (hA.out.put hlt hd)
        have bP := Lib.hid (bw.out.setCell (p := ⟨g, k, none⟩) (Nat.le_refl g) (.int .u8 (d.toNat : Int)))
        clear hd hA bw
        go_wp2_with fail
        go_roundw
        case rel => exact ⟨k + 1, by omega, by go_num, hP, bP⟩
        case measure => simp [intOf]; omega
      · have hP := Lib.hid (hA.out.same hlt (Md.low_same hq))
        have hq' : (s[k]).toNat < 65 ∨ (65 ≤ (s[k]).toNat ∧ 90 < (s[k]).toNat) := by omega
        clear hd hA hq
        rcases hq' with q1 | ⟨q1, q2⟩
        all_goals
          go_wp2_with fail
          go_roundw
          case rel => exact ⟨k + 1, by omega, by go_num, hP, bw⟩
          case measure => simp [intOf]; omega
    · obtain rfl : k = s.size := by omega
      have hcv := low_text (cap := cap) hA.out
      clear hA
      go_wp2_with fail
      go_ret
      exact ⟨rfl, by rw [← hg.out]; exact bw.out⟩
end Go.Proofs.YtbaclacfadkjdaaGreatDoor
namespace Go.Proofs.YtbaclacfadkjdaaGreatDoor
open Go.RowKit
theorem At.keep {b : Nat} {s : ByteArray} {w w' : World} {row : Option Nat} (h : At b s w) (hg : w.grownBy w' row) (hne : some b ≠ row) : At b s w' :=
  ⟨(hg.block b h.lt hne).trans h.box, h.small⟩
theorem grown_row {w w1 w2 : World} {b : Nat} {row : Option Nat} (h1 : w.grownBy w1 (some b)) (h2 : w1.grownBy w2 row) (hr : ∀ k, row = some k → w.heap.size ≤ k) : w.grownBy w2 (some b) :=
  ⟨h2.os.trans h1.os, h2.tape.trans h1.tape, h2.output.trans h1.output, Nat.le_trans h1.size h2.size, fun k hk hne =>
    (h2.block k (Nat.lt_of_lt_of_le hk h1.size) (fun e => absurd (hr k e.symm) (by omega))).trans (h1.block k hk hne)⟩
theorem owns_grown {B b : Nat} {v : Value} {l : List UInt8} {w w' : World} (h : Owns B v l w) (hg : w.grownBy w' (some b)) (hb : b < B) : Owns B v l w' := World.ownsRow.kept h hg (by
  obtain ⟨_, ⟨rfl, _⟩ | ⟨g, cap, cur, rfl, hB, _⟩⟩ := h
  · exact .inl rfl
  · right
    simp only [Value.ownBlock, ne_eq, Option.some.injEq]
    omega)
theorem own_low {B n sz : Nat} {t : TypeId} {v : Value} {xs : List Value} {w : World} (h : w.ownsRow B t sz v n xs) : ∀ k, v.ownBlock = some k → B ≤ k := by
  obtain ⟨_, ⟨rfl, _⟩ | ⟨g, cap, cur, rfl, hB, _⟩⟩ := h
  · intro k e; cases e
  · intro k e; cases e; exact hB
def Left (b : Nat) (s R : ByteArray) (C : Bool) (w : World) : Prop := ∃ t, At b t w ∧ t.size ≤ s.size ∧ (C = true → t = R)
def boxLen (b : Nat) (w : World) : Nat := match w.cell? ⟨b, 0, none⟩ with | some (.string t) => t.size | _ => 0
theorem boxLen_at {b : Nat} {s : ByteArray} {w : World} (h : At b s w) : boxLen b w = s.size := by unfold boxLen; rw [h.cell]
namespace Md
theorem quo_step {acc : List UInt8} {t : ByteArray} (h : hdB 34 t = false) :
    (quB1 (hdR 92 t) = false → quo acc t.data.toList = none) ∧ (∀ c, quB1 (hdR 92 t) = true → quH (hdR 92 t) = (c : UInt8).toNat → quo acc t.data.toList = quo (acc ++ [c]) ((hdR 92 t).extract 1 (hdR 92 t).size).data.toList) := by
  have h34 : t.data.toList.head? ≠ some 34 := fun e => by rw [hdB_iff.2 e] at h; cases h
  cases hl : t.data.toList with
  | nil =>
    have e92 : hdB 92 t = false := by rw [← Bool.not_eq_true, hdB_iff, hl]; simp
    have e1 := hdR_same e92
    have e2 : quB1 (hdR 92 t) = false := by rw [e1]; unfold quB1; rw [hl]
    refine ⟨fun _ => quo_nil acc, fun c hc _ => ?_⟩
    rw [e2] at hc; cases hc
  | cons x l =>
    rw [hl] at h34
    have hx34 : x ≠ 34 := fun e => h34 (by rw [e]; rfl)
    by_cases hx : x = 92
    · subst hx
      have e92 : hdB 92 t = true := by rw [hdB_iff, hl]; rfl
      have e1 : (hdR 92 t).data.toList = l := by rw [hdR_list e92, hl]; rfl
      refine ⟨fun hq => ?_, fun c hc hh => ?_⟩
      · rcases quB1_no hq with e | ⟨c, u, e, hb⟩
        · rw [e1] at e; rw [e, quo_esc_end]
        · rw [e1] at e; rw [e, quo_esc_bad _ _ _ hb]
      · obtain ⟨c', h1, h2, h3⟩ := quB1_yes hc
        have : c' = c := UInt8.toNat_inj.1 (by have := h1.symm.trans hh; omega)
        subst this
        rw [e1] at h3
        conv => lhs; rw [h3]
        rw [quo_esc _ _ _ h2]
    · have e92 : hdB 92 t = false := by
        rw [← Bool.not_eq_true, hdB_iff, hl]
        intro e; exact hx (Option.some.inj e)
      have e1 := hdR_same e92
      rw [e1]
      refine ⟨fun hq => ?_, fun c hc hh => ?_⟩
      · rcases quB1_no hq with e | ⟨c, u, e, hb⟩
        · rw [hl] at e; cases e
        · rw [hl] at e
          injection e with e _
          subst e
          exact quo_bad _ _ _ hx34 hx hb
      · obtain ⟨c', h1, h2, h3⟩ := quB1_yes hc
        have : c' = c := UInt8.toNat_inj.1 (by have := h1.symm.trans hh; omega)
        subst this
        rw [hl] at h3
        injection h3 with h3 h4
        subst h3
        rw [← h4, quo_one _ _ _ hx34 hx h2]
end Md
set_option maxRecDepth 100000 in
set_option maxHeartbeats 6400000 in
theorem quoted_any (b : Nat) (s : ByteArray) (w : World) (h : At b s w) :
    Calls Tryz.prog 157 #[.pointer (some ⟨b, 0, none⟩)] w fun e w' => e = .returned (.tuple #[.string (quA s), .bool (quC s)]) ∧ Left b s (quB s) (quC s) w' ∧ w.grownBy w' (some b) := by
  obtain ⟨i0, hi, hz0, hz1, hz2⟩ := info_parts infoByte
  have hsm := h.small
  have hbw := Lib.hid h.lt
  replace h := Lib.hid h
  have hnone := Lib.hid (fun e => @qu_none s e)
  have hsome := Lib.hid (fun v r e => @qu_some s v r e)
  generalize quA s = A at *
  generalize quB s = R at *
  generalize quC s = C at *
  go_enter Tryz.func157, Tryz.ntmps157
  go_wp2_with fail
  go_loopw [4, 5, 6] (fun v _ _ wr => ∃ (t : ByteArray) (acc : List UInt8), Hid (At b t wr) ∧ Hid (Md.quo [] s.data.toList = Md.quo acc t.data.toList) ∧ acc.length + t.size ≤ s.size ∧ Hid (acc = [] → v = .slice none 0 0) ∧ Hid (Owns w.heap.size v acc wr) ∧ Hid (w.grownBy wr (some b))) (fun _ _ _ wr => boxLen b wr)
  case atStart => exact ⟨s, [], h, Lib.hid rfl, by simp, Lib.hid (fun _ => rfl), Lib.hid (owns_nil _ _), Lib.hid (grown_refl _ _)⟩
  case round =>
    obtain ⟨t, acc, hA, hq, hlen, hnil, ho, hg⟩ := hrel
    have hmeas := Lib.hid (boxLen_at hA.out)
    have c34 := Lib.hid (takes_any b t 34 34 wr hA.out rfl)
    go_wp2_with fail
    (with_reducible refine (c34.out).mono ?_); rintro e w1 ⟨rfl, hA1, hg1⟩
    clear c34
    cases h34 : hdB 34 t
    case true =>
      have hqq : Md.quo [] s.data.toList = some (acc, (hdR 34 t).data.toList) := by
        rw [hq.out]
        have h1 := hdB_iff.1 h34
        rw [hdR_list h34]
        cases hl : t.data.toList with
        | nil => rw [hl] at h1; cases h1
        | cons x l =>
          rw [hl] at h1
          cases h1
          exact Md.quo_end acc l
      obtain ⟨r1, r2, r3⟩ := hsome.out _ _ hqq
      have hrt : hdR 34 t = R := by rw [r2]
      have hsz := hdR_size 34 t
      have ho1 := owns_grown ho.out hg1 hbw.out
      have hcv := owns_string ho1 hnil.out
      have hgf := Lib.hid (hg.out.trans hg1)
      replace hA1 := Lib.hid hA1
      replace hrt := Lib.hid hrt
      replace r1 := Lib.hid r1
      obtain rfl := r3
      clear r2 hqq ho1 hg1 hg ho hA hq hmeas
      replace h34 := Lib.hid h34
      go_wp2_with fail
      go_ret2
      exact ⟨by rw [r1.out]; rfl, ⟨_, hA1.out, by omega, fun _ => hrt.out⟩, hgf.out⟩
    case false =>
      have e34 := hdR_same h34
      rw [e34] at hA1
      obtain ⟨st1, st2⟩ := Md.quo_step (acc := acc) h34
      replace st1 := Lib.hid st1
      replace st2 := Lib.hid st2
      replace h34 := Lib.hid h34
      replace e34 := Lib.hid e34
      have ho1 := Lib.hid (owns_grown ho.out hg1 hbw.out)
      have hgf := Lib.hid (hg.out.trans hg1)
      have c92 := Lib.hid (takes_any b t 92 92 w1 hA1 rfl)
      clear hg1 hg ho hA hA1
      go_wp2_with fail
      (with_reducible refine (c92.out).mono ?_); rintro e w2 ⟨rfl, hA2, hg2⟩
      clear c92
      have hsz := hdR_size 92 t
      have ho2 := Lib.hid (owns_grown ho1.out hg2 hbw.out)
      have hgf2 := Lib.hid (hgf.out.trans hg2)
      clear ho1 hgf hg2
      generalize hdR 92 t = t1 at *
      have cq := Lib.hid (quotable_any b t1 w2 hA2)
      clear hA2
      go_wp2_with fail
      (with_reducible refine (cq.out).mono ?_); rintro e w3 ⟨rfl, hA3, hg3⟩
      clear cq
      have ho3 := owns_grown ho2.out hg3 hbw.out
      have hgf3 := Lib.hid (hgf2.out.trans hg3)
      clear ho2 hgf2 hg3
      have hsz3 : (t1.extract 1 t1.size).size ≤ t1.size := by rw [ByteArray.size_extract]; omega
      cases hb : quB1 t1
      case false =>
        obtain ⟨r1, r2, r3⟩ := hnone.out (hq.out.trans (st1.out hb))
        replace r1 := Lib.hid r1
        obtain rfl := r3
        replace hA3 := Lib.hid hA3
        replace hb := Lib.hid hb
        clear r2 ho3
        go_wp2_with fail
        go_ret2
        exact ⟨by rw [r1.out]; rfl, ⟨_, hA3.out, by omega, fun e => by cases e⟩, hgf3.out⟩
      case true =>
        obtain ⟨c, hc, _, hl⟩ := quB1_yes hb
        have hst := Lib.hid (hq.out.trans (st2.out c hb hc))
        have hlt : (t1.extract 1 t1.size).size < t1.size := by
          have := congrArg List.length hl
          rw [List.length_cons, list_len, list_len] at this
          omega
        rw [hc]
        replace hb := Lib.hid hb
        clear st1 st2 hl hq hc
        generalize t1.extract 1 t1.size = t2 at *
        have hcl := c.toNat_lt
        have hlen2 := Lib.hid hlen
        have hsz3' := w3.heap.size
        have hB3 : w.heap.size ≤ w3.heap.size := hgf3.out.size
        replace hA3 := Lib.hid hA3
        replace hnil := Lib.hid hnil.out
        go_wp2_with (at_builtin; refine wpList_append_own _ rfl _ _ 54 rfl w.heap.size 5 i0 (.int .u8 0) 1 1 Tryz.underlying54 hi hz0 hz1 hz2 rfl (by decide) _ _ _ rfl (World.ownsRow.alloc ho3 _) ⟨w3.heap.size, 0, none⟩ 1 1 [.int .u8 (c.toNat : Int)] rfl rfl (cell_one_new _ _ _) (fun u hu => by simp at hu; subst hu; rfl) (by have := hlen2.out; unfold maxLen; omega) (by have := hlen2.out; omega) (by simp; omega) ?_)
        intro v2 w4 hown2 hg4 hnil2
        have hga := (World.grownBy_alloc w3 _ _).trans hg4
        have ho4 : Owns w.heap.size v2 (acc ++ [c]) w4 := owns_of hown2 (by simp) (by simp [Lib.byteCells])
        have hlow := own_low ho3
        have hgf4 := Lib.hid (grown_row hgf3.out hga hlow)
        have hA4 := Lib.hid (hA3.out.keep hga (fun e => by have := hlow b e.symm; have := hbw.out; omega))
        have hm4 := boxLen_at hA4.out
        have hm0 := hmeas.out
        replace ho4 := Lib.hid ho4
        clear hown2 hg4 hnil2 hga ho3 hlow
        replace hm4 := Lib.hid hm4
        replace hm0 := Lib.hid hm0
        go_wp2_with fail
        go_roundw
        case rel => exact ⟨t2, acc ++ [c], hA4, hst, by rw [List.length_append, List.length_singleton]; omega, Lib.hid (fun e => by simp at e), ho4, hgf4⟩
        case measure => rw [hm4.out, hm0.out]; omega
set_option maxRecDepth 100000 in
set_option maxHeartbeats 6400000 in
theorem value_any (b : Nat) (s : ByteArray) (w : World) (h : At b s w) :
    Calls Tryz.prog 131 #[.pointer (some ⟨b, 0, none⟩)] w fun e w' => e = .returned (.tuple #[.string (vaA s), .bool (vaC s)]) ∧ Left b s (vaB s) (vaC s) w' ∧ w.grownBy w' (some b) := by
  have c34 := Lib.hid (takes_any b s 34 34 w h rfl)
  clear h
  have hy : Hid (hdB 34 s = true → vaA s = quA (s.extract 1 s.size) ∧ vaB s = quB (s.extract 1 s.size) ∧ vaC s = quC (s.extract 1 s.size) ∧ hdR 34 s = s.extract 1 s.size) := Lib.hid (fun h34 => by
    have h1 := hdB_iff.1 h34
    unfold vaA vaB vaC hdR
    rw [if_pos h1, if_pos h1, if_pos h1, if_pos h34]
    exact ⟨rfl, rfl, rfl, rfl⟩)
  obtain ⟨V, hV⟩ : ∃ V, V = tkA s := ⟨_, rfl⟩
  replace hV := Lib.hid hV
  have hn : Hid (hdB 34 s = false → vaA s = V ∧ vaB s = tkB s ∧ vaC s = !V.toList.isEmpty) := Lib.hid (fun h34 => by
    rw [hV.out]
    have h1 : ¬ s.data.toList.head? = some 34 := fun e => by rw [hdB_iff.2 e] at h34; cases h34
    unfold vaA vaB vaC
    rw [if_neg h1, if_neg h1, if_neg h1]
    exact ⟨rfl, rfl, rfl⟩)
  generalize vaA s = A at *
  generalize vaB s = R at *
  generalize vaC s = C at *
  go_enter Tryz.func131, Tryz.ntmps131
  go_wp2_with fail
  (with_reducible refine (c34.out).mono ?_); rintro e w1 ⟨rfl, hA1, hg1⟩
  clear c34
  cases h34 : hdB 34 s
  case true =>
    obtain ⟨rfl, rfl, rfl, e1⟩ := hy.out h34
    have hsz : (s.extract 1 s.size).size ≤ s.size := by rw [ByteArray.size_extract]; omega
    rw [e1] at hA1
    clear e1 hy hn
    replace h34 := Lib.hid h34
    have cq := Lib.hid (quoted_any b _ w1 hA1)
    clear hA1
    replace hg1 := Lib.hid hg1
    go_wp2_with fail
    (with_reducible refine (cq.out).mono ?_); rintro e w2 ⟨rfl, ⟨t, hA2, ht, hR⟩, hg2⟩
    replace hA2 := Lib.hid hA2
    replace hR := Lib.hid hR
    replace hg2 := Lib.hid (hg1.out.trans hg2)
    clear cq
    go_wp2_with fail
    go_ret2
    exact ⟨rfl, ⟨t, hA2.out, by omega, hR.out⟩, hg2.out⟩
  case false =>
    rw [hdR_same h34] at hA1
    obtain ⟨r1, rfl, r3⟩ := hn.out h34
    have hsz := tkB_size s
    replace r1 := Lib.hid r1
    clear hy hn
    replace h34 := Lib.hid h34
    have cq := token_any b _ w1 hA1
    rw [← hV.out] at cq
    replace cq := Lib.hid cq
    clear hA1
    replace hg1 := Lib.hid hg1
    go_wp2_with fail
    (with_reducible refine (cq.out).mono ?_); rintro e w2 ⟨rfl, hA2, hg2⟩
    replace hA2 := Lib.hid hA2
    replace hg2 := Lib.hid (hg1.out.trans hg2)
    clear cq
    by_cases h0 : V.size = 0
    · have he := empty_yes h0
      rw [he] at r3
      replace r3 := Lib.hid r3
      obtain rfl : V = ByteArray.empty := ByteArray.size_eq_zero_iff.1 h0
      have he3 : (ByteArray.empty.toList == []) = true := by rw [ByteArray.toList_eq]; rfl
      have he4 : (ByteArray.empty.toList != []) = false := by rw [ByteArray.toList_eq]; rfl
      have he2 : ByteArray.empty.toList = [] := by rw [ByteArray.toList_eq]; rfl
      go_wp2_with fail
      go_ret2
      exact ⟨by rw [r1.out, r3.out]; rfl, ⟨_, hA2.out, hsz, fun _ => rfl⟩, hg2.out⟩
    · have hp : 0 < V.size := by omega
      rw [ne_empty hp] at r3
      replace r3 := Lib.hid r3
      have hne3 : ¬ V.toList = [] := by
        rw [ByteArray.toList_eq]
        exact lst_ne hp
      have hne2 : (V.toList == []) = false := by
        rw [beq_eq_false_iff_ne]; exact hne3
      have hne4 : (V.toList != []) = true := by rw [bne, hne2]; rfl
      go_wp2_with fail
      go_ret2
      exact ⟨by rw [r1.out, r3.out]; rfl, ⟨_, hA2.out, hsz, fun _ => rfl⟩, hg2.out⟩
end Go.Proofs.YtbaclacfadkjdaaGreatDoor
