/-
  What the program's own words of forms and numbers come to: contracts of isDigit, cut, number, minutes; the words themselves, in plain Lean.
  What the program's own words of fractions and zones come to: contracts of minutes, fraction, seconds.
-/
import Derived.Test.YtbaclacfadkjdaaGreatDoorG14
import Derived.Test.YtbaclacfadkjdaaGreatDoorG07
import Derived.Laws.IdiomStrings
import Derived.BigQuiet
import Derived.Test.YtbaclacfadkjdaaGreatDoorShelf
import Derived.Test.YtbaclacfadkjdaaGreatDoorShelf2
import Derived.Shelf.Strings.SlTrimAscii
namespace Go.Proofs.YtbaclacfadkjdaaGreatDoor
open Go.RowKit
namespace D
def okc (c b : UInt8) : Bool := if c = 48 then dg b else decide (c = b)
def Fits (f l : List UInt8) : Prop := ∃ h : f.length ≤ l.length, ∀ j (hj : j < f.length), okc f[j] (l[j]'(Nat.lt_of_lt_of_le hj h)) = true
end D
theorem gDigit_any (b : UInt8) (w : World) : Calls Tryz.prog 108 #[.int .u8 (b.toNat : Int)] w fun e w' => e = .returned (.bool (D.dg b)) ∧ w = w' := by
  have H := Lib.hid (show D.dg b = decide (48 ≤ b.toNat ∧ b.toNat ≤ 57) from rfl)
  have hb := b.toNat_lt
  go_enter Tryz.func108, Tryz.ntmps108
  by_cases h1 : 48 ≤ b.toNat
  · by_cases h2 : b.toNat ≤ 57
    · go_wp2
      go_ret
      exact ⟨ret_bool (by rw [H.out]; simp only [decide_eq_decide]; omega), rfl⟩
    · go_wp2
      go_ret
      exact ⟨ret_bool (by rw [H.out]; simp only [decide_eq_decide]; omega), rfl⟩
  · go_wp2
    go_ret
    exact ⟨ret_bool (by rw [H.out]; symm; apply decide_eq_false; omega), rfl⟩
theorem bytes_of_text (s : ByteArray) (w : World) : ∃ cap C, (convert 9 54 (.string s)).run Tryz.prog w = .ok (.slice (some ⟨w.heap.size, 0, none⟩) s.size cap) (w.drew.alloc (.cells C 5 (C.size, C.size + 1))) ∧
    ∀ j (h : j < s.size), (w.alloc (.cells C 5 (C.size, C.size + 1))).cell? ⟨w.heap.size, j, none⟩ = some (.int .u8 (s[j].toNat : Int)) :=
  ⟨_, _, run_bytes_of_string w 9 54 5 s Tryz.underlying9 Tryz.underlying54 Tryz.underlying5, fun j h => by
    rw [World.cell?_alloc_mark, bytesRow_at s _ j h]; rfl⟩
theorem bytes_of_part (s : ByteArray) (w : World) : ∃ cap C, (convert 101 54 (.string s)).run Tryz.prog w = .ok (.slice (some ⟨w.heap.size, 0, none⟩) s.size cap) (w.drew.alloc (.cells C 5 (C.size, C.size + 1))) ∧
    ∀ j (h : j < s.size), (w.alloc (.cells C 5 (C.size, C.size + 1))).cell? ⟨w.heap.size, j, none⟩ = some (.int .u8 (s[j].toNat : Int)) :=
  ⟨_, _, run_bytes_of_string w 101 54 5 s Tryz.underlying101 Tryz.underlying54 Tryz.underlying5, fun j h => by
    rw [World.cell?_alloc_mark, bytesRow_at s _ j h]; rfl⟩
theorem okc_zero {c b : UInt8} (h : c.toNat = 48) : D.okc c b = D.dg b := by
  unfold D.okc
  rw [if_pos (UInt8.toNat_inj.1 h)]
theorem okc_else {c b : UInt8} (h : ¬ c.toNat = 48) : D.okc c b = decide (c.toNat = b.toNat) := by
  unfold D.okc
  rw [if_neg (fun e => h (by rw [e]; rfl))]
  by_cases hc : c = b
  · rw [hc]; simp
  · rw [decide_eq_false hc, decide_eq_false (fun e => hc (UInt8.toNat_inj.1 e))]
def FitTo (f s : ByteArray) (k : Nat) : Prop := ∀ j (h1 : j < f.size) (h2 : j < s.size), j < k → D.okc f[j] s[j] = true
theorem FitTo.zero (f s : ByteArray) : FitTo f s 0 := fun _ _ _ h => absurd h (by omega)
theorem FitTo.succ {f s : ByteArray} {k : Nat} (h : FitTo f s k) (h1 : k < f.size) (h2 : k < s.size) (hk : D.okc f[k] s[k] = true) : FitTo f s (k + 1) := fun j a b c => by
  by_cases e : j = k
  · subst e; exact hk
  · exact h j a b (by omega)
theorem FitTo.fits {f s : ByteArray} (h : FitTo f s f.size) (hl : f.size ≤ s.size) : D.Fits f.data.toList s.data.toList :=
  ⟨by rw [list_len, list_len]; exact hl, fun j hj => by rw [list_len] at hj; exact h j hj (by omega) hj⟩
theorem fits_at {f s : ByteArray} (h : D.Fits f.data.toList s.data.toList) {k : Nat} (h1 : k < f.size) (h2 : k < s.size) : D.okc f[k] s[k] = true := h.2 k (by rw [list_len]; exact h1)
theorem fits_le {f s : ByteArray} (h : D.Fits f.data.toList s.data.toList) : f.size ≤ s.size := by have := h.1; rwa [list_len, list_len] at this
theorem ret_cut {a b c d : ByteArray} (h1 : a = c) (h2 : b = d) : Ending.returned (.tuple #[.string a, .string b, .bool true]) = .returned (.tuple #[.string c, .string d, .bool true]) := by rw [h1, h2]
theorem below_dateText (w : World) (C : Array Value) (t : TypeId) : Below w.heap.size w ((w.alloc (.cells C t (C.size, C.size + 1))).drew) := ((Below.refl _ _).alloc (Nat.le_refl _) _).drew
set_option maxRecDepth 100000 in
set_option maxHeartbeats 1600000 in
theorem gCut_no (s f : ByteArray) (w : World) (hs : s.size ≤ maxLen) (hf : f.size ≤ maxLen) (hn : ¬ D.Fits f.data.toList s.data.toList) :
    Calls Tryz.prog 76 #[.string s, .string f] w fun e w' => e = .returned (.tuple #[.string ⟨#[]⟩, .string ⟨#[]⟩, .bool false]) ∧ Below w.heap.size w w' := by
  have hsm : s.size ≤ 9223372036854775807 := hs
  have hfm : f.size ≤ 9223372036854775807 := hf
  have hn := Lib.hid hn
  obtain ⟨cap, C, hconv, hcell⟩ := bytes_of_text f w
  go_enter Tryz.func76, Tryz.ntmps76
  by_cases hlt : s.size < f.size
  · go_wp2
    go_ret3
    exact ⟨rfl, Below.refl _ _⟩
  go_wp2
  go_loop [17] (fun i => ∃ k : Nat, k ≤ f.size ∧ i = .int .i64 k ∧ Hid (FitTo f s k)) (fun i => f.size - (intOf i).toNat)
  case atStart => exact ⟨0, Nat.zero_le _, rfl, Lib.hid (FitTo.zero _ _)⟩
  case round =>
    obtain ⟨k, hk, rfl, hall⟩ := hrel
    by_cases hkf : k < f.size
    · have hc := hcell k hkf
      have hks : k < s.size := by omega
      have h1 := (f[k]).toNat_lt
      have h2 := (s[k]).toNat_lt
      have hst := Lib.hid (fun h => hall.out.succ hkf hks h)
      clear hall hcell hconv hn
      by_cases h48 : f[k].toNat = 48
      · rw [okc_zero h48] at hst
        cases hd : D.dg s[k] with
        | true =>
          rw [hd] at hst
          replace hst := Lib.hid (hst.out rfl)
          go_wp2_with fail
          (with_reducible refine (gDigit_any _ _).mono ?_); rintro e w1 ⟨rfl, rfl⟩
          rw [hd]
          clear hd
          go_wp2
          go_round
          case rel => exact ⟨k + 1, by omega, by go_num, hst⟩
          case measure => simp [intOf]; omega
        | false =>
          clear hst
          go_wp2_with fail
          (with_reducible refine (gDigit_any _ _).mono ?_); rintro e w1 ⟨rfl, rfl⟩
          rw [hd]
          clear hd
          go_wp2
          go_ret3
          exact ⟨rfl, below_dateText _ _ _⟩
      · rw [okc_else h48] at hst
        by_cases he : f[k].toNat = s[k].toNat
        · replace hst := Lib.hid (hst.out (decide_eq_true he))
          have h49 : ¬ s[k].toNat = 48 := by omega
          rw [he] at hc
          clear h48 he
          go_wp2
          go_round
          case rel => exact ⟨k + 1, by omega, by go_num, hst⟩
          case measure => simp [intOf]; omega
        · clear hst
          have n1 : ((f[k].toNat : Int) == 48) = false := by simp; omega
          have n2 : ((f[k].toNat : Int) != 48) = true := by simp; omega
          have n3 : ((f[k].toNat : Int) != (s[k].toNat : Int)) = true := by simp; omega
          clear h48 he
          go_wp2
          go_ret3
          exact ⟨rfl, below_dateText _ _ _⟩
    · obtain rfl : k = f.size := by omega
      exact absurd (hall.out.fits (by omega)) hn.out
set_option maxRecDepth 100000 in
set_option maxHeartbeats 1600000 in
theorem gCut_yes (s f p r : ByteArray) (w : World) (hs : s.size ≤ maxLen) (hf : f.size ≤ maxLen) (hn : D.Fits f.data.toList s.data.toList) (hp : p.data.toList = s.data.toList.take f.size) (hr : r.data.toList = s.data.toList.drop f.size) :
    Calls Tryz.prog 76 #[.string s, .string f] w fun e w' => e = .returned (.tuple #[.string p, .string r, .bool true]) ∧ Below w.heap.size w w' := by
  have hsm : s.size ≤ 9223372036854775807 := hs
  have hfm : f.size ≤ 9223372036854775807 := hf
  have hle := fits_le hn
  have hlt : ¬ s.size < f.size := by omega
  have hn := Lib.hid hn
  have hpp := Lib.hid (show s.extract 0 f.size = p from bytes_eq (by rw [take_list, hp]))
  have hrr := Lib.hid (show s.extract f.size s.size = r from bytes_eq (by rw [drop_list, hr]))
  clear hp hr
  obtain ⟨cap, C, hconv, hcell⟩ := bytes_of_text f w
  go_enter Tryz.func76, Tryz.ntmps76
  go_wp2
  go_loop [17] (fun i => ∃ k : Nat, k ≤ f.size ∧ i = .int .i64 k ∧ Hid (FitTo f s k)) (fun i => f.size - (intOf i).toNat)
  case atStart => exact ⟨0, Nat.zero_le _, rfl, Lib.hid (FitTo.zero _ _)⟩
  case round =>
    obtain ⟨k, hk, rfl, hall⟩ := hrel
    by_cases hkf : k < f.size
    · have hc := hcell k hkf
      have hks : k < s.size := by omega
      have h1 := (f[k]).toNat_lt
      have h2 := (s[k]).toNat_lt
      have hst := fits_at hn.out hkf hks
      replace hall := Lib.hid (hall.out.succ hkf hks hst)
      clear hcell hconv hn
      by_cases h48 : f[k].toNat = 48
      · rw [okc_zero h48] at hst
        go_wp2_with fail
        (with_reducible refine (gDigit_any _ _).mono ?_); rintro e w1 ⟨rfl, rfl⟩
        rw [hst]
        clear hst
        go_wp2
        go_round
        case rel => exact ⟨k + 1, by omega, by go_num, hall⟩
        case measure => simp [intOf]; omega
      · rw [okc_else h48] at hst
        have he := of_decide_eq_true hst
        have h49 : ¬ s[k].toNat = 48 := by omega
        rw [he] at hc
        clear h48 he hst
        go_wp2
        go_round
        case rel => exact ⟨k + 1, by omega, by go_num, hall⟩
        case measure => simp [intOf]; omega
    · clear hcell hconv
      go_wp2_with fail
      go_quiet (fail)
      go_wp2
      go_ret3
      exact ⟨ret_cut hpp.out hrr.out, (fun h => ⟨h.os, h.tape, h.output, h.size, h.block⟩ : ∀ {W : World}, Below w.heap.size w W → Below w.heap.size w (W.drewN _)) (below_dateText _ _ _)⟩
theorem NumAll.at {l : List UInt8} {a n k : Nat} (h : ((l.drop a).take n).all D.dg = true) (hk : k < n) (hl : a + k < l.length) : 48 ≤ l[a + k].toNat ∧ l[a + k].toNat ≤ 57 := by
  rw [List.all_eq_true] at h
  have hm : l[a + k] ∈ (l.drop a).take n := by
    rw [List.mem_iff_getElem?]
    exact ⟨k, by rw [List.getElem?_take, if_pos hk, List.getElem?_drop, List.getElem?_eq_getElem hl]⟩
  have := h _ hm
  simp [D.dg] at this
  exact this
theorem pow_le9 {k : Nat} (h : k ≤ 9) : 10 ^ k ≤ 1000000000 := Nat.pow_le_pow_right (n := 10) (by omega) h
set_option maxRecDepth 100000 in
set_option maxHeartbeats 1600000 in
theorem gNumber_any (s : ByteArray) (a n : Nat) {x y : Int} (w : World) (hs : s.size ≤ maxLen) (h : a + n ≤ s.size) (hn : n ≤ 9) (hd : ((s.data.toList.drop a).take n).all D.dg = true) (hx : x = (a : Int)) (hy : y = ((a + n : Nat) : Int)) :
    Calls Tryz.prog 111 #[.string s, .int .i64 x, .int .i64 y] w fun e w' => e = .returned (.int .i64 (D.dv ((s.data.toList.drop a).take n) : Nat)) ∧ Below w.heap.size w w' := by
  subst hx hy
  unfold maxLen at hs
  obtain ⟨b, hb⟩ : ∃ b, a + n = b := ⟨_, rfl⟩
  have hab : a ≤ b := by omega
  have hbs : b ≤ s.size := by omega
  have hln : (s.extract a b).size = n := by rw [ByteArray.size_extract]; omega
  have hgt : ∀ k (hk : k < n), (s.extract a b)[k]'(by omega) = s[a + k]'(by omega) := fun k hk => by rw [ByteArray.getElem_extract]
  have hlen : s.data.toList.length = s.size := list_len s
  obtain ⟨t, ht⟩ : ∃ t, s.extract a b = t := ⟨_, rfl⟩
  obtain ⟨cap, C, hconv, hcell⟩ := bytes_of_part t w
  have hgt' : ∀ k (_ : k < n) (h2 : k < t.size) (h3 : a + k < s.size), t[k] = s[a + k] := fun k hk h2 h3 => by subst ht; exact hgt k hk
  rw [ht] at hln
  clear hgt
  replace hgt' := Lib.hid hgt'
  replace hlen := Lib.hid hlen
  replace hd := Lib.hid hd
  replace hcell := Lib.hid hcell
  rw [hb]
  have hb0 := Lib.hid hb
  clear hb
  go_enter Tryz.func111, Tryz.ntmps111
  go_wp2
  replace ht := Lib.hid ht
  clear hconv
  go_loop [7, 16] (fun nv iv => ∃ k x : Nat, k ≤ n ∧ nv = .int .i64 (x : Int) ∧ iv = .int .i64 (k : Int) ∧ Hid (D.NumAt s.data.toList a k x)) (fun _ iv => n - (intOf iv).toNat)
  case atStart => exact ⟨0, 0, Nat.zero_le _, rfl, rfl, Lib.hid (D.NumAt.zero _ _)⟩
  case round =>
    obtain ⟨k, x, hk, rfl, rfl, hx⟩ := hrel
    have hxb : x ≤ 1000000000 := by
      have a := hx.out.lt
      have b := pow_le9 (k := k) (by omega)
      omega
    by_cases hlt : k < n
    · have hkt : k < t.size := by omega
      have hin : a + k < s.data.toList.length := by rw [hlen.out]; omega
      obtain ⟨d1, d2⟩ := NumAll.at hd.out hlt hin
      have hst := Lib.hid (hx.out.succ hin d1 d2)
      have hgk : s.data.toList[a + k]'hin = t[k]'hkt := by rw [hgt'.out k hlt hkt (by omega)]; rfl
      rw [hgk] at d1 d2 hst
      have hc := hcell.out k hkt
      clear hgk hin hx hcell hgt' hlen hd ht
      go_wp2
      go_round
      case rel => exact ⟨k + 1, x * 10 + (t[k].toNat - 48), by omega, by go_num, by go_num, hst⟩
      case measure => simp [intOf]; omega
    · obtain rfl : k = n := by omega
      have hr := Lib.hid hx.out.val
      clear hcell hgt' hd ht hx
      go_wp2
      go_ret
      exact ⟨ret_int (by rw [hr.out]), below_dateText _ _ _⟩
end Go.Proofs.YtbaclacfadkjdaaGreatDoor
namespace Go.Proofs.YtbaclacfadkjdaaGreatDoor
open Go.RowKit
theorem ret_num {a x : Int} {b : Bool} (h1 : a = x) : Ending.returned (.tuple #[.int .i64 a, .bool b]) = .returned (.tuple #[.int .i64 x, .bool b]) := by rw [h1]
theorem dv_two {l : List UInt8} (h : l.all D.dg = true) (hl : l.length ≤ 2) : D.dv l ≤ 99 := by
  match l, hl with
  | [], _ => decide
  | [a], _ =>
    simp [D.dg] at h
    simp [D.dv]; omega
  | [a, b], _ =>
    simp [D.dg] at h
    simp [D.dv]; omega
set_option maxRecDepth 100000 in
set_option maxHeartbeats 1600000 in
theorem gMinutes_any (s : ByteArray) (a h m : Nat) {x : Int} (w : World) (hs : s.size ≤ maxLen) (ha : a + 5 ≤ s.size) (ha1 : a ≤ 100) (h1 : ((s.data.toList.drop a).take 2).all D.dg = true) (h2 : ((s.data.toList.drop (a + 3)).take 2).all D.dg = true)
    (hh : D.dv ((s.data.toList.drop a).take 2) = h) (hm : D.dv ((s.data.toList.drop (a + 3)).take 2) = m) (hx : x = (a : Int)) :
    Calls Tryz.prog 112 #[.string s, .int .i64 x] w fun e w' => e = .returned (.tuple #[.int .i64 (if h ≤ 23 ∧ m ≤ 59 then ((h * 3600 + m * 60 : Nat) : Int) else 0), .bool (decide (h ≤ 23 ∧ m ≤ 59))]) ∧ Below w.heap.size w w' := by
  subst hx
  have hsm : s.size ≤ 9223372036854775807 := hs
  have b1 := dv_two h1 (by simp; omega)
  have b2 := dv_two h2 (by simp; omega)
  have c1 := fun (x y : Int) (w : World) (hx : x = (a : Int)) (hy : y = (a : Int) + 2) => gNumber_any (x := x) (y := y) s a 2 w hs (by omega) (by omega) h1 hx (by omega)
  have c2 := fun (x y : Int) (w : World) (hx : x = (a : Int) + 3) (hy : y = (a : Int) + 5) => gNumber_any (x := x) (y := y) s (a + 3) 2 w hs (by omega) (by omega) h2 (by omega) (by omega)
  rw [hh] at b1 c1
  rw [hm] at b2 c2
  clear hh hm h1 h2
  generalize hr : (if h ≤ 23 ∧ m ≤ 59 then ((h * 3600 + m * 60 : Nat) : Int) else 0) = r
  generalize hq : decide (h ≤ 23 ∧ m ≤ 59) = q
  have hr := Lib.hid hr
  have hq := Lib.hid hq
  go_enter Tryz.func112, Tryz.ntmps112
  go_wp2_with fail
  (with_reducible refine (c1 _ _ _ rfl rfl).mono ?_); rintro e w1 ⟨rfl, b3⟩
  go_wp2_with fail
  (with_reducible refine (c2 _ _ _ rfl rfl).mono ?_); rintro e w2 ⟨rfl, b4⟩
  have bb := b3.trans (b4.mono b3.size)
  clear c1 c2 b3 b4
  by_cases n1 : h ≤ 23
  · by_cases n2 : m ≤ 59
    · have r1 : ((h * 3600 + m * 60 : Nat) : Int) = r := by rw [← hr.out, if_pos ⟨n1, n2⟩]
      have q1 : true = q := by rw [← hq.out]; symm; exact decide_eq_true ⟨n1, n2⟩
      subst q1
      replace r1 := Lib.hid r1
      clear hq
      go_wp2
      go_ret2
      exact ⟨ret_num (by rw [← r1.out]; omega), bb⟩
    · have r1 : 0 = r := by rw [← hr.out, if_neg (fun e => n2 e.2)]
      have q1 : false = q := by rw [← hq.out]; symm; exact decide_eq_false (fun e => n2 e.2)
      subst q1 r1
      clear hq hr
      go_wp2
      go_ret2
      exact ⟨rfl, bb⟩
  · have r1 : 0 = r := by rw [← hr.out, if_neg (fun e => n1 e.1)]
    have q1 : false = q := by rw [← hq.out]; symm; exact decide_eq_false (fun e => n1 e.1)
    subst q1 r1
    clear hq hr
    go_wp2
    go_ret2
    exact ⟨rfl, bb⟩
/-! ### fractions -/
theorem trim_digits (l : List UInt8) : Lib.trimLeftS l [48, 49, 50, 51, 52, 53, 54, 55, 56, 57] = l.dropWhile D.dg := by
  unfold Lib.trimLeftS
  congr 1
  funext b
  have : ∀ n, n < 256 → ([48, 49, 50, 51, 52, 53, 54, 55, 56, 57] : List UInt8).contains (UInt8.ofNat n) = D.dg (UInt8.ofNat n) := by decide +kernel
  have := this b.toNat b.toNat_lt
  rwa [UInt8.ofNat_toNat] at this
theorem infoSetD : (Tryz.prog.info? 144).map (fun i => (i.zero, i.size)) = some (some (.agg (Array.replicate 256 (.bool false))), 256) := by kernel_rfl
theorem trimDigits_any (s t : ByteArray) (w : World) (ht : t.data.toList = s.data.toList.dropWhile D.dg) :
    Calls Tryz.prog 110 #[.string s, .string ⟨#[48, 49, 50, 51, 52, 53, 54, 55, 56, 57]⟩] w fun e w' => e = .returned (.string t) ∧ Below w.heap.size w w' := by
  refine (Any.strings_TrimLeft_laid Tryz.lays161 infoSetD s ⟨#[48, 49, 50, 51, 52, 53, 54, 55, 56, 57]⟩ w (by decide) (Go.Proofs.ascii_of_all (by decide))).mono ?_
  rintro e w' ⟨rfl, b⟩
  rw [show (⟨#[48, 49, 50, 51, 52, 53, 54, 55, 56, 57]⟩ : ByteArray).data.toList = [48, 49, 50, 51, 52, 53, 54, 55, 56, 57] from rfl, trim_digits, ← ht]
  exact ⟨rfl, b⟩
theorem while_len (p : UInt8 → Bool) (l : List UInt8) : (l.takeWhile p).length + (l.dropWhile p).length = l.length := by
  rw [← List.length_append, List.takeWhile_append_dropWhile]
theorem point_yes {s : ByteArray} {m : List UInt8} (h : s.data.toList = 46 :: m) : Lib.hasPrefix s.data.toList (⟨#[46]⟩ : ByteArray).data.toList = true := by rw [h]; simp [Lib.hasPrefix]
theorem point_no {s : ByteArray} (h : s.data.toList.head? ≠ some 46) : Lib.hasPrefix s.data.toList (⟨#[46]⟩ : ByteArray).data.toList = false := by
  cases hl : s.data.toList with
  | nil => rfl
  | cons a m =>
    rw [hl] at h
    have e : ¬ a = 46 := fun e => h (by rw [e]; rfl)
    show ((46 : UInt8) == a && ([] : List UInt8).isPrefixOf m) = false
    rw [show ((46 : UInt8) == a) = false from by simp; exact fun x => e x.symm]
    rfl
theorem gFraction_none (s : ByteArray) (w : World) (h : s.data.toList.head? ≠ some 46) :
    Calls Tryz.prog 77 #[.string s] w fun e w' => e = .returned (.tuple #[.int .i64 0, .string s, .bool true]) ∧ w = w' := by
  have hp := Lib.hid (point_no h)
  go_enter Tryz.func77, Tryz.ntmps77
  go_wp2_with fail
  (with_reducible refine (Tryz.strings_HasPrefix s _ _).mono ?_); rintro e w1 ⟨rfl, rfl⟩
  rw [hp.out]
  go_wp2
  go_ret3
  exact ⟨rfl, rfl⟩
theorem ret_fr {a x : Int} {t u : ByteArray} (h1 : a = x) (h2 : t = u) : Ending.returned (.tuple #[.int .i64 a, .string t, .bool true]) = .returned (.tuple #[.int .i64 x, .string u, .bool true]) := by rw [h1, h2]
set_option maxRecDepth 100000 in
set_option maxHeartbeats 1600000 in
theorem gFraction_bad (s : ByteArray) (m : List UInt8) (w : World) (hs : s.size ≤ maxLen) (h : s.data.toList = 46 :: m) (h0 : (m.takeWhile D.dg).length = 0) :
    Calls Tryz.prog 77 #[.string s] w fun e w' => e = .returned (.tuple #[.int .i64 0, .string ⟨#[]⟩, .bool false]) ∧ Below w.heap.size w w' := by
  have hsm : s.size ≤ 9223372036854775807 := hs
  have hp := Lib.hid (point_yes h)
  have hsz : s.size = m.length + 1 := by rw [← list_len s, h]; rfl
  have htl : (s.extract 1 s.size).data.toList = m := by rw [drop_list, h]; rfl
  have hwl := while_len D.dg m
  obtain ⟨u, hu⟩ : ∃ u : ByteArray, u.data.toList = m.dropWhile D.dg := ⟨⟨(m.dropWhile D.dg).toArray⟩, rfl⟩
  have hul : u.size = (m.dropWhile D.dg).length := by rw [← hu, list_len]
  have hus : s.size = u.size + 1 := by omega
  have c1 := fun w => trimDigits_any (s.extract 1 s.size) u w (by rw [htl, hu])
  have h1 : 1 ≤ s.size := by omega
  clear h h0 htl hwl hul hsz hu
  replace hus := Lib.hid hus
  go_enter Tryz.func77, Tryz.ntmps77
  go_wp2_with fail
  (with_reducible refine (Tryz.strings_HasPrefix s _ _).mono ?_); rintro e w1 ⟨rfl, rfl⟩
  rw [hp.out]
  go_wp2_with fail
  (with_reducible refine (c1 _).mono ?_); rintro e w1 ⟨rfl, b1⟩
  have e1 : wrap64 (wrap64 ((s.size : Int) - (u.size : Int)) - 1) = 0 := by
    have := hus.out
    rw [show wrap64 ((s.size : Int) - (u.size : Int)) = 1 by (rw [IntWalk.wrap64_in _ (by omega)]; omega), IntWalk.wrap64_in _ (by omega)]
    rfl
  clear c1
  go_wp2
  go_ret3
  exact ⟨rfl, b1⟩
theorem dv_lt {q : List UInt8} (h : q.all D.dg = true) : D.dv q < 10 ^ q.length := by
  have key : ∀ (q : List UInt8) (a : Nat), q.all D.dg = true → q.foldl (fun a b => a * 10 + (b.toNat - 48)) a < (a + 1) * 10 ^ q.length := by
    intro q
    induction q with
    | nil => intro a _; simp
    | cons b q ih =>
      intro a hq
      simp only [List.all_cons, Bool.and_eq_true] at hq
      have hb := hq.1
      simp [D.dg] at hb
      refine Nat.lt_of_lt_of_le (ih (a * 10 + (b.toNat - 48)) hq.2) ?_
      rw [List.length_cons, Nat.pow_succ, Nat.mul_comm (10 ^ q.length) 10, ← Nat.mul_assoc]
      exact Nat.mul_le_mul_right _ (by omega)
  have := key q 0 h
  rwa [Nat.zero_add, Nat.one_mul] at this
structure FillAt (x n i y : Nat) : Prop where
  val : y = x * 10 ^ i
  lt : y < 10 ^ (n + i)
theorem FillAt.succ {x n i y : Nat} (h : FillAt x n i y) : FillAt x n (i + 1) (y * 10) :=
  ⟨by rw [h.val, Nat.pow_succ, Nat.mul_assoc], by have := h.lt; rw [← Nat.add_assoc, Nat.pow_succ]; omega⟩
set_option maxRecDepth 100000 in
set_option maxHeartbeats 3200000 in
theorem gFraction_some (s u : ByteArray) (m : List UInt8) (k : Nat) (w : World) (hs : s.size ≤ maxLen) (h : s.data.toList = 46 :: m) (hk : (m.takeWhile D.dg).length = k) (h0 : 0 < k) (hu : u.data.toList = m.dropWhile D.dg) :
    Calls Tryz.prog 77 #[.string s] w fun e w' => e = .returned (.tuple #[.int .i64 ((D.dv ((m.takeWhile D.dg).take 9) * 10 ^ (9 - k) : Nat) : Int), .string u, .bool true]) ∧ Below w.heap.size w w' := by
  have hsm : s.size ≤ 9223372036854775807 := hs
  have hp := Lib.hid (point_yes h)
  have hsz : s.size = m.length + 1 := by rw [← list_len s, h]; rfl
  have htl : (s.extract 1 s.size).data.toList = m := by rw [drop_list, h]; rfl
  have hwl := while_len D.dg m
  have hul : u.size = (m.dropWhile D.dg).length := by rw [← hu, list_len]
  have hus : s.size = u.size + 1 + k := by omega
  have c1 := fun w => trimDigits_any (s.extract 1 s.size) u w (by rw [htl, hu])
  have h1 : 1 ≤ s.size := by omega
  obtain ⟨n, hn⟩ : ∃ n, min k 9 = n := ⟨_, rfl⟩
  have hn0 : 0 < n ∧ n ≤ 9 ∧ n ≤ k := by omega
  have hpre : (s.data.toList.drop 1).take n = (m.takeWhile D.dg).take 9 := by
    rw [h, List.drop_succ_cons, List.drop_zero, ← hn, ← hk]
    conv => lhs; arg 2; rw [← List.takeWhile_append_dropWhile (p := D.dg) (l := m)]
    rw [List.take_append_of_le_length (Nat.min_le_left _ _), Nat.min_comm, ← List.take_take, List.take_length]
  have hdg : ((s.data.toList.drop 1).take n).all D.dg = true := by
    rw [hpre, List.all_eq_true]
    intro x hx
    exact List.all_eq_true.1 List.all_takeWhile x (List.mem_of_mem_take hx)
  have c2 := fun (x y : Int) (w : World) (hx : x = 1) (hy : y = 1 + (n : Int)) => gNumber_any (x := x) (y := y) s 1 n w hs (by omega) (by omega) hdg hx (by omega)
  rw [hpre] at c2
  have e1 : min (wrap64 (wrap64 ((s.size : Int) - (u.size : Int)) - 1)) 9 = (n : Int) := by
    rw [show wrap64 ((s.size : Int) - (u.size : Int)) = 1 + (k : Int) by (rw [IntWalk.wrap64_in _ (by omega)]; omega), IntWalk.wrap64_in _ (by omega)]
    omega
  have hxl := dv_lt hdg
  rw [hpre] at hxl
  have hln : ((m.takeWhile D.dg).take 9).length = n := by rw [List.length_take, hk]; omega
  rw [hln] at hxl
  obtain ⟨x, hx⟩ : ∃ x, D.dv ((m.takeWhile D.dg).take 9) = x := ⟨_, rfl⟩
  rw [hx] at c2 hxl ⊢
  have hend : 9 - k = 9 - n := by omega
  rw [hend]
  have hx9 : x < 1000000000 := Nat.lt_of_lt_of_le hxl (Nat.pow_le_pow_right (n := 10) (by omega) hn0.2.1)
  have hf0 : FillAt x n 0 x := ⟨by simp, by rw [Nat.add_zero]; exact hxl⟩
  obtain ⟨hn0, hn9, hnk⟩ := hn0
  clear h hk h0 hu htl hwl hul hpre hdg hln hx hend hxl hn
  replace hsz := Lib.hid hsz
  replace hus := Lib.hid hus
  replace hf0 := Lib.hid hf0
  go_enter Tryz.func77, Tryz.ntmps77
  go_wp2_with fail
  (with_reducible refine (Tryz.strings_HasPrefix s _ _).mono ?_); rintro e w1 ⟨rfl, rfl⟩
  rw [hp.out]
  go_wp2_with fail
  (with_reducible refine (c1 _).mono ?_); rintro e w1 ⟨rfl, b1⟩
  clear c1
  go_wp2_with fail
  (with_reducible refine (c2 _ _ _ rfl rfl).mono ?_); rintro e w2 ⟨rfl, b2⟩
  have bb := b1.trans (b2.mono b1.size)
  clear c2 b1 b2
  go_wp2_with fail
  go_loop [2, 28] (fun nv iv => ∃ i y : Nat, i ≤ 9 - n ∧ nv = .int .i64 (y : Int) ∧ iv = .int .i64 (i : Int) ∧ Hid (FillAt x n i y)) (fun _ iv => 9 - (intOf iv).toNat)
  case atStart => exact ⟨0, x, Nat.zero_le _, rfl, rfl, hf0⟩
  case round =>
    obtain ⟨i, y, hi, rfl, rfl, hy⟩ := hrel
    have hyb : y < 1000000000 := Nat.lt_of_lt_of_le hy.out.lt (Nat.pow_le_pow_right (n := 10) (by omega) (show n + i ≤ 9 by omega))
    by_cases hlt : i < 9 - n
    · have hlt' : (i : Int) < 9 - (n : Int) := by omega
      have hst := Lib.hid hy.out.succ
      clear hy
      go_wp2
      go_round
      case rel => exact ⟨i + 1, y * 10, by omega, by go_num, by go_num, hst⟩
      case measure => simp [intOf]; omega
    · have hlt' : ¬ (i : Int) < 9 - (n : Int) := by omega
      have hie : i = 9 - n := by omega
      have hv := hy.out.val
      rw [hie] at hv
      replace hv := Lib.hid hv
      clear hy hie hlt
      go_wp2
      go_ret3
      exact ⟨ret_fr (by rw [hv.out]; simp) rfl, bb⟩
/-! ### zones -/
theorem word_size (f : ByteArray) (l : List UInt8) (h : f.data.toList = l) : f.size = l.length := by rw [← h, list_len]
abbrev aheadForm : ByteArray := ⟨#[43, 48, 48, 58, 48, 48]⟩
abbrev behindForm : ByteArray := ⟨#[45, 48, 48, 58, 48, 48]⟩
theorem zone_fits {c : UInt8} (h48 : c ≠ 48) (l : List UInt8) : D.Fits [c, 48, 48, 58, 48, 48] l ↔ 6 ≤ l.length ∧ l[0]? = some c ∧ l[3]? = some 58 ∧ ((l.drop 1).take 2).all D.dg = true ∧ ((l.drop 4).take 2).all D.dg = true := by
  constructor
  · rintro ⟨h, hf⟩
    match l, h with
    | x0 :: x1 :: x2 :: x3 :: x4 :: x5 :: l, _ =>
      have a0 := hf 0 (by simp)
      have a1 := hf 1 (by simp)
      have a2 := hf 2 (by simp)
      have a3 := hf 3 (by simp)
      have a4 := hf 4 (by simp)
      have a5 := hf 5 (by simp)
      simp [D.okc, h48] at a0 a1 a2 a3 a4 a5
      subst a0 a3
      refine ⟨by simp, rfl, rfl, ?_, ?_⟩ <;> simp [*]
  · rintro ⟨h, h0, h3, h1, h4⟩
    refine ⟨h, ?_⟩
    match l, h with
    | x0 :: x1 :: x2 :: x3 :: x4 :: x5 :: l, _ =>
      simp at h0 h3 h1 h4
      subst h0 h3
      obtain ⟨a1, a2⟩ := h1
      obtain ⟨a4, a5⟩ := h4
      intro j hj
      have : j = 0 ∨ j = 1 ∨ j = 2 ∨ j = 3 ∨ j = 4 ∨ j = 5 := by simp at hj; omega
      rcases this with rfl | rfl | rfl | rfl | rfl | rfl <;> simp [D.okc, *]
theorem num_is {l : List UInt8} {a n : Nat} (h : a + n ≤ l.length) (hd : ((l.drop a).take n).all D.dg = true) : D.num l a n = (D.dv ((l.drop a).take n) : Int) := by
  unfold D.num
  rw [if_neg (by omega), if_pos hd]
theorem num_ge {l : List UInt8} {a n : Nat} (h : 0 ≤ D.num l a n) : a + n ≤ l.length ∧ ((l.drop a).take n).all D.dg = true := by
  unfold D.num at h
  split at h
  · omega
  · split at h
    · exact ⟨by omega, by assumption⟩
    · omega
theorem zone_six {l : List UInt8} {c : UInt8} {h m : Nat} (hc : c = 43 ∨ c = 45) (hl : l.length = 6) (hf : D.Fits [c, 48, 48, 58, 48, 48] l) (hh : D.dv ((l.drop 1).take 2) = h) (hm : D.dv ((l.drop 4).take 2) = m) :
    D.zone l = if h ≤ 23 ∧ m ≤ 59 then some (if c = 45 then -((h * 3600 + m * 60 : Nat) : Int) else ((h * 3600 + m * 60 : Nat) : Int)) else none := by
  have h48 : c ≠ 48 := by rcases hc with rfl | rfl <;> decide
  obtain ⟨-, h0, h3, d1, d4⟩ := (zone_fits h48 l).1 hf
  have n1 := num_is (l := l) (a := 1) (n := 2) (by omega) d1
  have n4 := num_is (l := l) (a := 4) (n := 2) (by omega) d4
  rw [hh] at n1
  rw [hm] at n4
  unfold D.zone
  rw [if_neg (by intro e; rw [e] at hl; simp at hl), if_pos ⟨hl, by rw [h0]; rcases hc with rfl | rfl <;> simp, h3⟩, n1, n4]
  by_cases hb : h ≤ 23 ∧ m ≤ 59
  · rw [if_neg (by omega), if_pos hb, h0]
    rcases hc with rfl | rfl
    · rw [if_neg (by decide), if_neg (by decide)]; first | rfl | (congr 1; omega)
    · rw [if_pos rfl, if_pos rfl]; first | rfl | (congr 1; omega)
  · rw [if_pos (by omega), if_neg hb]
theorem zone_other {l : List UInt8} (hz : l ≠ [90]) (h : ¬ (l.length = 6 ∧ (D.Fits [43, 48, 48, 58, 48, 48] l ∨ D.Fits [45, 48, 48, 58, 48, 48] l))) : D.zone l = none := by
  unfold D.zone
  rw [if_neg hz]
  split
  · rename_i hq
    rw [if_pos]
    refine Classical.byContradiction (fun hn => h ⟨hq.1, ?_⟩)
    have a := num_ge (l := l) (a := 1) (n := 2) (by omega)
    have b := num_ge (l := l) (a := 4) (n := 2) (by omega)
    rcases hq.2.1 with h0 | h0
    · exact .inl ((zone_fits (by decide) l).2 ⟨by omega, h0, hq.2.2, a.2, b.2⟩)
    · exact .inr ((zone_fits (by decide) l).2 ⟨by omega, h0, hq.2.2, a.2, b.2⟩)
  · rfl
set_option maxRecDepth 100000 in
set_option maxHeartbeats 3200000 in
theorem gSeconds_six (s f : ByteArray) (c : UInt8) (w : World) (hs : s.size = 6) (hcf : c = 43 ∧ f = aheadForm ∨ c = 45 ∧ f = behindForm) (hf : D.Fits f.data.toList s.data.toList) :
    Calls Tryz.prog 78 #[.string s] w fun e w' => e = .returned (.tuple #[.int .i64 (D.zoneN s.data.toList), .bool (D.zoneB s.data.toList)]) ∧ Below w.heap.size w w' := by
  have hsm : s.size ≤ maxLen := by rw [hs]; unfold maxLen; omega
  have hzt : ¬ s.data.toList = [90] := by intro e; have := congrArg List.length e; rw [list_len, hs] at this; simp at this
  have hz := txt_ne hzt
  have hfl : f.data.toList = [c, 48, 48, 58, 48, 48] := by rcases hcf with ⟨rfl, rfl⟩ | ⟨rfl, rfl⟩ <;> rfl
  have hfit : D.Fits [c, 48, 48, 58, 48, 48] s.data.toList := by rw [← hfl]; exact hf
  have hc : c = 43 ∨ c = 45 := by rcases hcf with ⟨rfl, _⟩ | ⟨rfl, _⟩ <;> simp
  have h48 : c ≠ 48 := by rcases hc with rfl | rfl <;> decide
  obtain ⟨-, h0, -, d1, d4⟩ := (zone_fits h48 _).1 hfit
  obtain ⟨h, hh⟩ : ∃ h, D.dv ((s.data.toList.drop 1).take 2) = h := ⟨_, rfl⟩
  obtain ⟨m, hm⟩ : ∃ m, D.dv ((s.data.toList.drop 4).take 2) = m := ⟨_, rfl⟩
  have hzone := zone_six hc (by rw [list_len]; exact hs) hfit hh hm
  have b1 := dv_two d1 (by simp; omega)
  have b2 := dv_two d4 (by simp; omega)
  rw [hh] at b1
  rw [hm] at b2
  have cm := fun (w : World) => gMinutes_any (x := 1) s 1 h m w hsm (by omega) (by omega) d1 d4 hh hm rfl
  have f6 : f.size = 6 := by rw [word_size f _ hfl]; rfl
  have cy := fun (w : World) => gCut_yes s f s ⟨#[]⟩ w hsm (by rw [f6]; unfold maxLen; omega) hf (by rw [f6, ← hs, ← list_len s, List.take_length]) (by rw [f6, ← hs, ← list_len s, List.drop_length])
  have cn := fun (w : World) (hc45 : c = 45) => gCut_no s aheadForm w hsm (by decide) (fun hb => by
    have hx := ((zone_fits (c := 43) (by decide) _).1 hb).2.1
    rw [h0, hc45] at hx
    exact absurd (Option.some.inj hx) (by decide))
  have hzN : D.zoneN s.data.toList = if h ≤ 23 ∧ m ≤ 59 then (if c = 45 then -((h * 3600 + m * 60 : Nat) : Int) else ((h * 3600 + m * 60 : Nat) : Int)) else 0 := by
    unfold D.zoneN; rw [hzone]; split <;> rfl
  have hzB : D.zoneB s.data.toList = decide (h ≤ 23 ∧ m ≤ 59) := by
    unfold D.zoneB; rw [hzone]; split <;> simp [*]
  rw [hzN, hzB]
  generalize hr : (if h ≤ 23 ∧ m ≤ 59 then ((h * 3600 + m * 60 : Nat) : Int) else 0) = r at cm
  generalize hq : decide (h ≤ 23 ∧ m ≤ 59) = q at cm
  have hrb : 0 ≤ r ∧ r ≤ 1000000 := by rw [← hr]; split <;> omega
  obtain ⟨hrb0, hrb1⟩ := hrb
  generalize hz2 : (if h ≤ 23 ∧ m ≤ 59 then (if c = 45 then -((h * 3600 + m * 60 : Nat) : Int) else ((h * 3600 + m * 60 : Nat) : Int)) else 0) = z
  have z43 : c = 43 → r = z := fun e => by rw [← hr, ← hz2, e]; rfl
  have z45 : c = 45 → -r = z := fun e => by rw [← hr, ← hz2, e]; split <;> rfl
  clear hz2 hr hzN hzB hzone hh hm d1 d4 h0 hfit hf hfl f6 hzt hq hc h48
  go_enter Tryz.func78, Tryz.ntmps78
  rcases hcf with ⟨rfl, rfl⟩ | ⟨rfl, rfl⟩
  · have z1 := Lib.hid (z43 rfl)
    clear z43 z45 cn
    go_wp2_with fail
    (with_reducible refine (cy _).mono ?_); rintro e w1 ⟨rfl, b3⟩
    go_wp2_with fail
    (with_reducible refine (cm _).mono ?_); rintro e w2 ⟨rfl, b4⟩
    clear cm cy
    have bb := b3.trans (b4.mono b3.size)
    go_wp2
    go_ret2
    exact ⟨ret_zone z1.out rfl, bb⟩
  · have z1 := Lib.hid (z45 rfl)
    have cn2 := fun w => cn w rfl
    clear cn
    clear z43 z45
    go_wp2_with fail
    (with_reducible refine (cn2 _).mono ?_); rintro e w1 ⟨rfl, b2⟩
    go_wp2_with fail
    (with_reducible refine (cy _).mono ?_); rintro e w2 ⟨rfl, b3⟩
    go_wp2_with fail
    (with_reducible refine (cm _).mono ?_); rintro e w3 ⟨rfl, b4⟩
    clear cm cy cn2
    have b5 := b2.trans (b3.mono b2.size)
    have bb := b5.trans (b4.mono b5.size)
    go_wp2
    go_ret2
    exact ⟨ret_zone z1.out rfl, bb⟩
set_option maxRecDepth 100000 in
set_option maxHeartbeats 3200000 in
theorem gSeconds_any (s : ByteArray) (w : World) (hs : s.size ≤ maxLen) :
    Calls Tryz.prog 78 #[.string s] w fun e w' => e = .returned (.tuple #[.int .i64 (D.zoneN s.data.toList), .bool (D.zoneB s.data.toList)]) ∧ Below w.heap.size w w' := by
  have hsm : s.size ≤ 9223372036854775807 := hs
  by_cases hz : s.data.toList = [90]
  · go_enter Tryz.func78, Tryz.ntmps78
    obtain ⟨r1, r2⟩ := D.zone_some (l := s.data.toList) (if_pos hz)
    replace r1 := Lib.hid r1
    replace r2 := Lib.hid r2
    have hz' := txt_is hz
    clear hz
    go_wp2
    go_ret2
    exact ⟨ret_zone r1.out.symm r2.out.symm, Below.refl _ _⟩
  by_cases ha : D.Fits aheadForm.data.toList s.data.toList
  · by_cases h6 : s.size = 6
    · exact gSeconds_six s aheadForm 43 w h6 (.inl ⟨rfl, rfl⟩) ha
    · have h6l := fits_le ha
      have hb : ¬ D.Fits behindForm.data.toList s.data.toList := fun hb => by
        have hx := ((zone_fits (c := 43) (by decide) _).1 ha).2.1
        have hy := ((zone_fits (c := 45) (by decide) _).1 hb).2.1
        rw [hx] at hy
        exact absurd (Option.some.inj hy) (by decide)
      obtain ⟨r1, r2⟩ := D.zone_none (zone_other hz (fun e => h6 (by rw [← list_len s]; exact e.1)))
      have c1 := fun w => gCut_yes s aheadForm (s.extract 0 6) (s.extract 6 s.size) w hs (by decide) ha (take_list s 6) (drop_list s 6)
      have c2 := fun w => gCut_no s behindForm w hs (by decide) hb
      have hr : ¬ (s.extract 6 s.size).data.toList = [] := by
        rw [drop_list]
        intro e
        have := congrArg List.length e
        rw [List.length_drop, list_len] at this
        have h7 : aheadForm.size = 6 := rfl
        simp at this
        omega
      have hr1 := txt_ne hr
      have hz' := txt_ne hz
      generalize s.extract 6 s.size = u at *
      generalize s.extract 0 6 = v at *
      replace r1 := Lib.hid r1
      replace r2 := Lib.hid r2
      clear hz hb ha hr
      go_enter Tryz.func78, Tryz.ntmps78
      go_wp2_with fail
      (with_reducible refine (c1 _).mono ?_); rintro e w1 ⟨rfl, b1⟩
      go_wp2_with fail
      (with_reducible refine (c2 _).mono ?_); rintro e w2 ⟨rfl, b2⟩
      have bb := b1.trans (b2.mono b1.size)
      clear c1 c2
      go_wp2
      go_ret2
      exact ⟨ret_zone r1.out.symm r2.out.symm, bb⟩
  · have c1 := fun w => gCut_no s aheadForm w hs (by decide) ha
    by_cases hb : D.Fits behindForm.data.toList s.data.toList
    · by_cases h6 : s.size = 6
      · exact gSeconds_six s behindForm 45 w h6 (.inr ⟨rfl, rfl⟩) hb
      · have h6l := fits_le hb
        obtain ⟨r1, r2⟩ := D.zone_none (zone_other hz (fun e => h6 (by rw [← list_len s]; exact e.1)))
        have c2 := fun w => gCut_yes s behindForm (s.extract 0 6) (s.extract 6 s.size) w hs (by decide) hb (take_list s 6) (drop_list s 6)
        have hr : ¬ (s.extract 6 s.size).data.toList = [] := by
          rw [drop_list]
          intro e
          have := congrArg List.length e
          rw [List.length_drop, list_len] at this
          have h7 : behindForm.size = 6 := rfl
          simp at this
          omega
        have hr1 := txt_ne hr
        have hz' := txt_ne hz
        generalize s.extract 6 s.size = u at *
        generalize s.extract 0 6 = v at *
        replace r1 := Lib.hid r1
        replace r2 := Lib.hid r2
        clear hz hb ha hr
        go_enter Tryz.func78, Tryz.ntmps78
        go_wp2_with fail
        (with_reducible refine (c1 _).mono ?_); rintro e w1 ⟨rfl, b1⟩
        go_wp2_with fail
        (with_reducible refine (c2 _).mono ?_); rintro e w2 ⟨rfl, b2⟩
        have bb := b1.trans (b2.mono b1.size)
        clear c1 c2
        go_wp2
        go_ret2
        exact ⟨ret_zone r1.out.symm r2.out.symm, bb⟩
    · have c2 := fun w => gCut_no s behindForm w hs (by decide) hb
      obtain ⟨r1, r2⟩ := D.zone_none (zone_other hz (fun e => e.2.elim ha hb))
      have hz' := txt_ne hz
      replace r1 := Lib.hid r1
      replace r2 := Lib.hid r2
      clear hz hb ha
      go_enter Tryz.func78, Tryz.ntmps78
      go_wp2_with fail
      (with_reducible refine (c1 _).mono ?_); rintro e w1 ⟨rfl, b1⟩
      go_wp2_with fail
      (with_reducible refine (c2 _).mono ?_); rintro e w2 ⟨rfl, b2⟩
      have bb := b1.trans (b2.mono b1.size)
      clear c1 c2
      go_wp2
      go_ret2
      exact ⟨ret_zone r1.out.symm r2.out.symm, bb⟩
end Go.Proofs.YtbaclacfadkjdaaGreatDoor
