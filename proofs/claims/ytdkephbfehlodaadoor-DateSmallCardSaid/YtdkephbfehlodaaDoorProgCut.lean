/-
  What the program's own words of forms and numbers come to: contracts of isDigit, cut, number, minutes; the words themselves, in plain Lean.
-/
import Derived.Test.YtdkephbfehlodaaDoorProgCal
import Derived.Test.YtdkephbfehlodaaDoorRefParse
import Derived.Laws.IdiomStrings
import Derived.BigQuiet
namespace Go.Proofs.YtdkephbfehlodaaDoor
open Go.RowKit

namespace D
/-- A byte fits a sign of a form, in which a nought stands for any digit. -/
def okc (c b : UInt8) : Bool := if c = 48 then dg b else decide (c = b)
/-- A text begins with that form. -/
def Fits (f l : List UInt8) : Prop := ∃ h : f.length ≤ l.length, ∀ j (hj : j < f.length), okc f[j] (l[j]'(Nat.lt_of_lt_of_le hj h)) = true
theorem okc_dig {b : UInt8} (h : okc 48 b = dg b) : okc 48 b = dg b := h
end D

theorem gDigit_any (b : UInt8) (w : World) : Calls Tryd.prog 35 #[.int .u8 (b.toNat : Int)] w fun e w' => e = .returned (.bool (D.dg b)) ∧ w = w' := by
  have H := Lib.hid (show D.dg b = decide (48 ≤ b.toNat ∧ b.toNat ≤ 57) from rfl)
  have hb := b.toNat_lt
  go_enter Tryd.func35, Tryd.ntmps35
  by_cases h1 : 48 ≤ b.toNat
  · by_cases h2 : b.toNat ≤ 57
    · go_wp2
      go_ret
      exact ⟨ret_bool (by rw [H.out]; simp only [decide_eq_decide]; omega), rfl⟩
    · go_wp2
      go_ret
      exact ⟨ret_bool (by rw [H.out]; simp only [decide_eq_decide]; omega), rfl⟩
  · go_wp2
    go_ret
    exact ⟨ret_bool (by rw [H.out]; symm; apply decide_eq_false; omega), rfl⟩

theorem bytes_of_text (s : ByteArray) (w : World) : ∃ cap C, (convert 9 38 (.string s)).run Tryd.prog w = .ok (.slice (some ⟨w.heap.size, 0, none⟩) s.size cap) (w.drew.alloc (.cells C 5 (C.size, C.size + 1))) ∧
    ∀ j (h : j < s.size), (w.alloc (.cells C 5 (C.size, C.size + 1))).cell? ⟨w.heap.size, j, none⟩ = some (.int .u8 (s[j].toNat : Int)) :=
  ⟨_, _, run_bytes_of_string w 9 38 5 s Tryd.underlying9 Tryd.underlying38 Tryd.underlying5, fun j h => by
    rw [World.cell?_alloc_mark, bytesRow_at s _ j h]; rfl⟩
theorem bytes_of_part (s : ByteArray) (w : World) : ∃ cap C, (convert 43 38 (.string s)).run Tryd.prog w = .ok (.slice (some ⟨w.heap.size, 0, none⟩) s.size cap) (w.drew.alloc (.cells C 5 (C.size, C.size + 1))) ∧
    ∀ j (h : j < s.size), (w.alloc (.cells C 5 (C.size, C.size + 1))).cell? ⟨w.heap.size, j, none⟩ = some (.int .u8 (s[j].toNat : Int)) :=
  ⟨_, _, run_bytes_of_string w 43 38 5 s Tryd.underlying43 Tryd.underlying38 Tryd.underlying5, fun j h => by
    rw [World.cell?_alloc_mark, bytesRow_at s _ j h]; rfl⟩

theorem okc_zero {c b : UInt8} (h : c.toNat = 48) : D.okc c b = D.dg b := by
  unfold D.okc
  rw [if_pos (UInt8.toNat_inj.1 h)]
theorem okc_else {c b : UInt8} (h : ¬ c.toNat = 48) : D.okc c b = decide (c.toNat = b.toNat) := by
  unfold D.okc
  rw [if_neg (fun e => h (by rw [e]; rfl))]
  by_cases hc : c = b
  · rw [hc]; simp
  · rw [decide_eq_false hc, decide_eq_false (fun e => hc (UInt8.toNat_inj.1 e))]
/-- So far it fits. -/
def FitTo (f s : ByteArray) (k : Nat) : Prop := ∀ j (h1 : j < f.size) (h2 : j < s.size), j < k → D.okc f[j] s[j] = true
theorem FitTo.zero (f s : ByteArray) : FitTo f s 0 := fun _ _ _ h => absurd h (by omega)
theorem FitTo.succ {f s : ByteArray} {k : Nat} (h : FitTo f s k) (h1 : k < f.size) (h2 : k < s.size) (hk : D.okc f[k] s[k] = true) : FitTo f s (k + 1) := fun j a b c => by
  by_cases e : j = k
  · subst e; exact hk
  · exact h j a b (by omega)
theorem FitTo.fits {f s : ByteArray} (h : FitTo f s f.size) (hl : f.size ≤ s.size) : D.Fits f.data.toList s.data.toList :=
  ⟨by rw [list_len, list_len]; exact hl, fun j hj => by rw [list_len] at hj; exact h j hj (by omega) hj⟩
theorem not_fits {f s : ByteArray} {k : Nat} (h1 : k < f.size) (h2 : k < s.size) (hk : D.okc f[k] s[k] = false) : ¬ D.Fits f.data.toList s.data.toList := fun ⟨_, h⟩ => by
  have := h k (by rw [list_len]; exact h1)
  rw [show f.data.toList[k]'(by rw [list_len]; exact h1) = f[k] from rfl, show s.data.toList[k]'(by rw [list_len]; exact h2) = s[k] from rfl, hk] at this
  cases this
theorem fits_at {f s : ByteArray} (h : D.Fits f.data.toList s.data.toList) {k : Nat} (h1 : k < f.size) (h2 : k < s.size) : D.okc f[k] s[k] = true := h.2 k (by rw [list_len]; exact h1)
theorem fits_le {f s : ByteArray} (h : D.Fits f.data.toList s.data.toList) : f.size ≤ s.size := by have := h.1; rwa [list_len, list_len] at this

theorem ret_cut {a b c d : ByteArray} (h1 : a = c) (h2 : b = d) : Ending.returned (.tuple #[.string a, .string b, .bool true]) = .returned (.tuple #[.string c, .string d, .bool true]) := by rw [h1, h2]
theorem below_text (w : World) (C : Array Value) (t : TypeId) : Below w.heap.size w ((w.alloc (.cells C t (C.size, C.size + 1))).drew) := ((Below.refl _ _).alloc (Nat.le_refl _) _).drew

set_option maxRecDepth 100000 in
set_option maxHeartbeats 1600000 in
theorem gCut_no (s f : ByteArray) (w : World) (hs : s.size ≤ maxLen) (hf : f.size ≤ maxLen) (hn : ¬ D.Fits f.data.toList s.data.toList) :
    Calls Tryd.prog 18 #[.string s, .string f] w fun e w' => e = .returned (.tuple #[.string ⟨#[]⟩, .string ⟨#[]⟩, .bool false]) ∧ Below w.heap.size w w' := by
  have hsm : s.size ≤ 9223372036854775807 := hs
  have hfm : f.size ≤ 9223372036854775807 := hf
  have hn := Lib.hid hn
  obtain ⟨cap, C, hconv, hcell⟩ := bytes_of_text f w
  go_enter Tryd.func18, Tryd.ntmps18
  by_cases hlt : s.size < f.size
  · go_wp2
    go_ret3
    exact ⟨rfl, Below.refl _ _⟩
  go_wp2
  go_loop [17] (fun i => ∃ k : Nat, k ≤ f.size ∧ i = .int .i64 k ∧ Hid (FitTo f s k)) (fun i => f.size - (intOf i).toNat)
  case atStart => exact ⟨0, Nat.zero_le _, rfl, Lib.hid (FitTo.zero _ _)⟩
  case round =>
    obtain ⟨k, hk, rfl, hall⟩ := hrel
    by_cases hkf : k < f.size
    · have hc := hcell k hkf
      have hks : k < s.size := by omega
      have h1 := (f[k]).toNat_lt
      have h2 := (s[k]).toNat_lt
      have hst := Lib.hid (fun h => hall.out.succ hkf hks h)
      clear hall hcell hconv hn
      by_cases h48 : f[k].toNat = 48
      · rw [okc_zero h48] at hst
        cases hd : D.dg s[k] with
        | true =>
          rw [hd] at hst
          replace hst := Lib.hid (hst.out rfl)
          go_wp2_with fail
          (with_reducible refine (gDigit_any _ _).mono ?_); rintro e w1 ⟨rfl, rfl⟩
          rw [hd]
          clear hd
          go_wp2
          go_round
          case rel => exact ⟨k + 1, by omega, by go_num, hst⟩
          case measure => simp [intOf]; omega
        | false =>
          clear hst
          go_wp2_with fail
          (with_reducible refine (gDigit_any _ _).mono ?_); rintro e w1 ⟨rfl, rfl⟩
          rw [hd]
          clear hd
          go_wp2
          go_ret3
          exact ⟨rfl, below_text _ _ _⟩
      · rw [okc_else h48] at hst
        by_cases he : f[k].toNat = s[k].toNat
        · replace hst := Lib.hid (hst.out (decide_eq_true he))
          have h49 : ¬ s[k].toNat = 48 := by omega
          rw [he] at hc
          clear h48 he
          go_wp2
          go_round
          case rel => exact ⟨k + 1, by omega, by go_num, hst⟩
          case measure => simp [intOf]; omega
        · clear hst
          have n1 : ((f[k].toNat : Int) == 48) = false := by simp; omega
          have n2 : ((f[k].toNat : Int) != 48) = true := by simp; omega
          have n3 : ((f[k].toNat : Int) != (s[k].toNat : Int)) = true := by simp; omega
          clear h48 he
          go_wp2
          go_ret3
          exact ⟨rfl, below_text _ _ _⟩
    · obtain rfl : k = f.size := by omega
      exact absurd (hall.out.fits (by omega)) hn.out

set_option maxRecDepth 100000 in
set_option maxHeartbeats 1600000 in
theorem gCut_yes (s f p r : ByteArray) (w : World) (hs : s.size ≤ maxLen) (hf : f.size ≤ maxLen) (hn : D.Fits f.data.toList s.data.toList) (hp : p.data.toList = s.data.toList.take f.size) (hr : r.data.toList = s.data.toList.drop f.size) :
    Calls Tryd.prog 18 #[.string s, .string f] w fun e w' => e = .returned (.tuple #[.string p, .string r, .bool true]) ∧ Below w.heap.size w w' := by
  have hsm : s.size ≤ 9223372036854775807 := hs
  have hfm : f.size ≤ 9223372036854775807 := hf
  have hle := fits_le hn
  have hlt : ¬ s.size < f.size := by omega
  have hn := Lib.hid hn
  have hpp := Lib.hid (show s.extract 0 f.size = p from bytes_eq (by rw [take_list, hp]))
  have hrr := Lib.hid (show s.extract f.size s.size = r from bytes_eq (by rw [drop_list, hr]))
  clear hp hr
  obtain ⟨cap, C, hconv, hcell⟩ := bytes_of_text f w
  go_enter Tryd.func18, Tryd.ntmps18
  go_wp2
  go_loop [17] (fun i => ∃ k : Nat, k ≤ f.size ∧ i = .int .i64 k ∧ Hid (FitTo f s k)) (fun i => f.size - (intOf i).toNat)
  case atStart => exact ⟨0, Nat.zero_le _, rfl, Lib.hid (FitTo.zero _ _)⟩
  case round =>
    obtain ⟨k, hk, rfl, hall⟩ := hrel
    by_cases hkf : k < f.size
    · have hc := hcell k hkf
      have hks : k < s.size := by omega
      have h1 := (f[k]).toNat_lt
      have h2 := (s[k]).toNat_lt
      have hst := fits_at hn.out hkf hks
      replace hall := Lib.hid (hall.out.succ hkf hks hst)
      clear hcell hconv hn
      by_cases h48 : f[k].toNat = 48
      · rw [okc_zero h48] at hst
        go_wp2_with fail
        (with_reducible refine (gDigit_any _ _).mono ?_); rintro e w1 ⟨rfl, rfl⟩
        rw [hst]
        clear hst
        go_wp2
        go_round
        case rel => exact ⟨k + 1, by omega, by go_num, hall⟩
        case measure => simp [intOf]; omega
      · rw [okc_else h48] at hst
        have he := of_decide_eq_true hst
        have h49 : ¬ s[k].toNat = 48 := by omega
        rw [he] at hc
        clear h48 he hst
        go_wp2
        go_round
        case rel => exact ⟨k + 1, by omega, by go_num, hall⟩
        case measure => simp [intOf]; omega
    · clear hcell hconv
      go_wp2_with fail
      go_quiet (fail)
      go_wp2
      go_ret3
      exact ⟨ret_cut hpp.out hrr.out, (fun h => ⟨h.os, h.tape, h.output, h.size, h.block⟩ : ∀ {W : World}, Below w.heap.size w W → Below w.heap.size w (W.drewN _)) (below_text _ _ _)⟩

/-- Digits at a place. -/
theorem NumAll.at {l : List UInt8} {a n k : Nat} (h : ((l.drop a).take n).all D.dg = true) (hk : k < n) (hl : a + k < l.length) : 48 ≤ l[a + k].toNat ∧ l[a + k].toNat ≤ 57 := by
  rw [List.all_eq_true] at h
  have hm : l[a + k] ∈ (l.drop a).take n := by
    rw [List.mem_iff_getElem?]
    exact ⟨k, by rw [List.getElem?_take, if_pos hk, List.getElem?_drop, List.getElem?_eq_getElem hl]⟩
  have := h _ hm
  simp [D.dg] at this
  exact this
theorem pow_le9 {k : Nat} (h : k ≤ 9) : 10 ^ k ≤ 1000000000 := Nat.pow_le_pow_right (n := 10) (by omega) h

set_option maxRecDepth 100000 in
set_option maxHeartbeats 1600000 in
theorem gNumber_any (s : ByteArray) (a n : Nat) {x y : Int} (w : World) (hs : s.size ≤ maxLen) (h : a + n ≤ s.size) (hn : n ≤ 9) (hd : ((s.data.toList.drop a).take n).all D.dg = true) (hx : x = (a : Int)) (hy : y = ((a + n : Nat) : Int)) :
    Calls Tryd.prog 38 #[.string s, .int .i64 x, .int .i64 y] w fun e w' => e = .returned (.int .i64 (D.dv ((s.data.toList.drop a).take n) : Nat)) ∧ Below w.heap.size w w' := by
  subst hx hy
  unfold maxLen at hs
  obtain ⟨b, hb⟩ : ∃ b, a + n = b := ⟨_, rfl⟩
  have hab : a ≤ b := by omega
  have hbs : b ≤ s.size := by omega
  have hln : (s.extract a b).size = n := by rw [ByteArray.size_extract]; omega
  have hgt : ∀ k (hk : k < n), (s.extract a b)[k]'(by omega) = s[a + k]'(by omega) := fun k hk => by rw [ByteArray.getElem_extract]
  have hlen : s.data.toList.length = s.size := list_len s
  obtain ⟨t, ht⟩ : ∃ t, s.extract a b = t := ⟨_, rfl⟩
  obtain ⟨cap, C, hconv, hcell⟩ := bytes_of_part t w
  have hgt' : ∀ k (_ : k < n) (h2 : k < t.size) (h3 : a + k < s.size), t[k] = s[a + k] := fun k hk h2 h3 => by subst ht; exact hgt k hk
  rw [ht] at hln
  clear hgt
  replace hgt' := Lib.hid hgt'
  replace hlen := Lib.hid hlen
  replace hd := Lib.hid hd
  replace hcell := Lib.hid hcell
  rw [hb]
  have hb0 := Lib.hid hb
  clear hb
  go_enter Tryd.func38, Tryd.ntmps38
  go_wp2
  replace ht := Lib.hid ht
  clear hconv
  go_loop [7, 16] (fun nv iv => ∃ k x : Nat, k ≤ n ∧ nv = .int .i64 (x : Int) ∧ iv = .int .i64 (k : Int) ∧ Hid (D.NumAt s.data.toList a k x)) (fun _ iv => n - (intOf iv).toNat)
  case atStart => exact ⟨0, 0, Nat.zero_le _, rfl, rfl, Lib.hid (D.NumAt.zero _ _)⟩
  case round =>
    obtain ⟨k, x, hk, rfl, rfl, hx⟩ := hrel
    have hxb : x ≤ 1000000000 := by
      have a := hx.out.lt
      have b := pow_le9 (k := k) (by omega)
      omega
    by_cases hlt : k < n
    · have hkt : k < t.size := by omega
      have hin : a + k < s.data.toList.length := by rw [hlen.out]; omega
      obtain ⟨d1, d2⟩ := NumAll.at hd.out hlt hin
      have hst := Lib.hid (hx.out.succ hin d1 d2)
      have hgk : s.data.toList[a + k]'hin = t[k]'hkt := by rw [hgt'.out k hlt hkt (by omega)]; rfl
      rw [hgk] at d1 d2 hst
      have hc := hcell.out k hkt
      clear hgk hin hx hcell hgt' hlen hd ht
      go_wp2
      go_round
      case rel => exact ⟨k + 1, x * 10 + (t[k].toNat - 48), by omega, by go_num, by go_num, hst⟩
      case measure => simp [intOf]; omega
    · obtain rfl : k = n := by omega
      have hr := Lib.hid hx.out.val
      clear hcell hgt' hd ht hx
      go_wp2
      go_ret
      exact ⟨ret_int (by rw [hr.out]), below_text _ _ _⟩
end Go.Proofs.YtdkephbfehlodaaDoor
