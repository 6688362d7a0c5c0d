/-
  What the document's own words of references come to: signs, scheme.
  What the document's own words of references come to: a path without dots.
  A reference in memory: its nine cells; how a call ends that hands one back.
-/
import Derived.Test.YtbaclacfadkjdaaGreatDoorG07
import Derived.Test.YtbaclacfadkjdaaGreatDoorG03
namespace Go.Proofs.YtbaclacfadkjdaaGreatDoor
open Go.RowKit
namespace Lc
def marks : List UInt8 := [45, 46, 95, 126, 33, 36, 38, 39, 40, 41, 42, 43, 44, 59, 61, 58, 64]
def plainB (more : List UInt8) (b : UInt8) : Bool := alphaB b || digitB b || decide (127 < b.toNat) || has marks b || has more b
def signs (more : List UInt8) : List UInt8 → Bool
  | [] => true
  | b :: t => if plainB more b = true then signs more t else match t with
    | c :: d :: u => if b = 37 ∧ hexB c = true ∧ hexB d = true then signs more u else false
    | _ => false
def schB (b : UInt8) : Bool := alphaB b || digitB b || has [43, 45, 46] b
def scheme : List UInt8 → Bool
  | [] => false
  | b :: t => alphaB b && (b :: t).all schB
theorem signs_plain {more t : List UInt8} {b : UInt8} (h : plainB more b = true) : signs more (b :: t) = signs more t := by
  conv => lhs; unfold signs
  rw [if_pos h]
theorem signs_hex {more t : List UInt8} {b c d : UInt8} (h : plainB more b = false) (h0 : b = 37) (h1 : hexB c = true) (h2 : hexB d = true) : signs more (b :: c :: d :: t) = signs more t := by
  conv => lhs; unfold signs
  rw [if_neg (by rw [h]; simp)]
  simp only
  rw [if_pos ⟨h0, h1, h2⟩]
theorem signs_no {more t : List UInt8} {b c d : UInt8} (h : plainB more b = false) (h0 : ¬ (b = 37 ∧ hexB c = true ∧ hexB d = true)) : signs more (b :: c :: d :: t) = false := by
  conv => lhs; unfold signs
  rw [if_neg (by rw [h]; simp)]
  simp only
  rw [if_neg h0]
theorem signs_short {more t : List UInt8} {b : UInt8} (h : plainB more b = false) (h0 : t.length < 2) : signs more (b :: t) = false := by
  conv => lhs; unfold signs
  rw [if_neg (by rw [h]; simp)]
  match t, h0 with
  | [], _ => rfl
  | [c], _ => rfl
theorem signs_other {more t : List UInt8} {b : UInt8} (h : plainB more b = false) (h0 : b ≠ 37) : signs more (b :: t) = false := by
  match t with
  | [] => exact signs_short h (by simp)
  | [c] => exact signs_short h (by simp)
  | c :: d :: t => exact signs_no h (fun e => h0 e.1)
end Lc
theorem lcons (s : ByteArray) (k : Nat) (h : k < s.size) : s.data.toList.drop k = s[k] :: s.data.toList.drop (k + 1) := by
  rw [List.drop_eq_getElem_cons (by rw [list_len]; exact h)]; rfl
set_option maxRecDepth 100000 in
set_option maxHeartbeats 12800000 in
theorem lSigns_any (s m : ByteArray) (more : List UInt8) (w : World) (hs : s.size ≤ 1000000) (hm : m.size ≤ maxLen) (hl : m.data.toList = more) : Calls Tryz.prog 91 #[.string s, .string m] w fun e w' => e = .returned (.bool (Lc.signs more s.data.toList)) ∧ w = w' := by
  obtain ⟨Q, hQ⟩ : ∃ Q, Q = Lc.signs more s.data.toList := ⟨_, rfl⟩
  rw [← hQ]
  replace hQ := Lib.hid hQ
  have hlen := Lib.hid (list_len s)
  have hmore := fun c W => lAmong_any c m W hm
  rw [hl] at hmore
  replace hmore := Lib.hid hmore
  have hmark := Lib.hid (fun c W => lAmong_any c ⟨#[45, 46, 95, 126, 33, 36, 38, 39, 40, 41, 42, 43, 44, 59, 61, 58, 64]⟩ W (by decide))
  clear hl
  go_enter Tryz.func91, Tryz.ntmps91
  go_wp2_with fail
  go_loop [5] (fun i => ∃ k : Nat, k ≤ s.size ∧ i = .int .i64 k ∧ Hid (Q = Lc.signs more (s.data.toList.drop k))) (fun i => s.size - (intOf i).toNat)
  case atStart => exact ⟨0, Nat.zero_le _, rfl, Lib.hid (by rw [List.drop_zero]; exact hQ.out)⟩
  case round =>
    obtain ⟨k, hk, rfl, hq⟩ := hrel
    by_cases hlt : k < s.size
    · have hpl : Hid (Lc.plainB more s[k] = true → Q = Lc.signs more (s.data.toList.drop (k + 1))) := Lib.hid (fun h => by rw [hq.out, lcons s k hlt, Lc.signs_plain h])
      go_wp2_with fail
      (with_reducible refine (lAlpha_any s[k] _).mono ?_); rintro e w1 ⟨rfl, rfl⟩
      cases ha : Lc.alphaB s[k]
      case true =>
        replace ha := Lib.hid ha
        have hnx := Lib.hid (hpl.out (by unfold Lc.plainB; rw [ha.out]; simp))
        go_wp2_with fail
        go_round
        case rel => exact ⟨k + 1, by omega, by go_num, hnx⟩
        case measure => simp [intOf]; omega
      replace ha := Lib.hid ha
      go_wp2_with fail
      (with_reducible refine (lDigit_any s[k] _).mono ?_); rintro e w1 ⟨rfl, rfl⟩
      cases hd : Lc.digitB s[k]
      case true =>
        replace hd := Lib.hid hd
        have hnx := Lib.hid (hpl.out (by unfold Lc.plainB; rw [hd.out]; simp))
        go_wp2_with fail
        go_round
        case rel => exact ⟨k + 1, by omega, by go_num, hnx⟩
        case measure => simp [intOf]; omega
      replace hd := Lib.hid hd
      by_cases h7 : 127 < s[k].toNat
      case pos =>
        have h7i : (127 : Int) < (s[k].toNat : Int) := by omega
        have hnx := Lib.hid (hpl.out (by unfold Lc.plainB; rw [decide_eq_true h7]; simp))
        go_wp2_with fail
        go_round
        case rel => exact ⟨k + 1, by omega, by go_num, hnx⟩
        case measure => simp [intOf]; omega
      have h7i : ¬ (127 : Int) < (s[k].toNat : Int) := by omega
      have h7b : decide ((127 : Int) < (s[k].toNat : Int)) = false := by simpa using h7i
      go_wp2_with fail
      (with_reducible refine (hmark.out s[k] _).mono ?_); rintro e w1 ⟨rfl, rfl⟩
      rw [show Lc.has (⟨#[45, 46, 95, 126, 33, 36, 38, 39, 40, 41, 42, 43, 44, 59, 61, 58, 64]⟩ : ByteArray).data.toList s[k] = Lc.has Lc.marks s[k] from rfl]
      cases hx : Lc.has Lc.marks s[k]
      case true =>
        replace hx := Lib.hid hx
        have hnx := Lib.hid (hpl.out (by unfold Lc.plainB; rw [hx.out]; simp))
        go_wp2_with fail
        go_round
        case rel => exact ⟨k + 1, by omega, by go_num, hnx⟩
        case measure => simp [intOf]; omega
      replace hx := Lib.hid hx
      go_wp2_with fail
      (with_reducible refine (hmore.out s[k] _).mono ?_); rintro e w1 ⟨rfl, rfl⟩
      cases hy : Lc.has more s[k]
      case true =>
        replace hy := Lib.hid hy
        have hnx := Lib.hid (hpl.out (by unfold Lc.plainB; rw [hy.out]; simp))
        go_wp2_with fail
        go_round
        case rel => exact ⟨k + 1, by omega, by go_num, hnx⟩
        case measure => simp [intOf]; omega
      have hno : Hid (Lc.plainB more s[k] = false) := Lib.hid (by unfold Lc.plainB; rw [ha.out, hd.out, hx.out, hy, decide_eq_false h7]; rfl)
      replace hy := Lib.hid hy
      by_cases e37 : s[k] = 37
      case neg =>
        have hb : ((s[k].toNat : Int) == 37) = false := by
          rw [beq_eq_false_iff_ne]
          exact fun e => e37 (UInt8.toNat_inj.1 (by have : (37 : UInt8).toNat = 37 := rfl; omega))
        have hfin : Hid (Q = false) := Lib.hid (by rw [hq.out, lcons s k hlt, Lc.signs_other hno.out e37])
        clear e37
        go_wp2_with fail
        go_ret
        exact ⟨ret_bool hfin.out.symm, rfl⟩
      have hb : ((s[k].toNat : Int) == 37) = true := by rw [e37]; rfl
      by_cases h2 : k + 2 < s.size
      case neg =>
        have h2i : ¬ (k : Int) + 2 < (s.size : Int) := by omega
        have h2b : decide ((k : Int) + 2 < (s.size : Int)) = false := by simpa using h2i
        have hfin : Hid (Q = false) := Lib.hid (by rw [hq.out, lcons s k hlt, Lc.signs_short hno.out (by rw [List.length_drop, hlen.out]; omega)])
        replace e37 := Lib.hid e37
        go_wp2_with fail
        go_ret
        exact ⟨ret_bool hfin.out.symm, rfl⟩
      have h2i : (k : Int) + 2 < (s.size : Int) := by omega
      have h1n : k + 1 < s.size := by omega
      have hdr : Hid (s.data.toList.drop k = s[k] :: s[k + 1] :: s[k + 2] :: s.data.toList.drop (k + 3)) := Lib.hid (by rw [lcons s k hlt, lcons s (k + 1) h1n, lcons s (k + 2) h2])
      replace e37 := Lib.hid e37
      go_wp2_with fail
      (with_reducible refine (lHex_any s[k + 1] _).mono ?_); rintro e w1 ⟨rfl, rfl⟩
      cases hx1 : Lc.hexB s[k + 1]
      case false =>
        have hfin : Hid (Q = false) := Lib.hid (by rw [hq.out, hdr.out, Lc.signs_no hno.out (by rw [hx1]; simp)])
        replace hx1 := Lib.hid hx1
        go_wp2_with fail
        go_ret
        exact ⟨ret_bool hfin.out.symm, rfl⟩
      replace hx1 := Lib.hid hx1
      go_wp2_with fail
      (with_reducible refine (lHex_any s[k + 2] _).mono ?_); rintro e w1 ⟨rfl, rfl⟩
      cases hx2 : Lc.hexB s[k + 2]
      case false =>
        have hfin : Hid (Q = false) := Lib.hid (by rw [hq.out, hdr.out, Lc.signs_no hno.out (by rw [hx2]; simp)])
        replace hx2 := Lib.hid hx2
        go_wp2_with fail
        go_ret
        exact ⟨ret_bool hfin.out.symm, rfl⟩
      have hnx : Hid (Q = Lc.signs more (s.data.toList.drop (k + 3))) := Lib.hid (by rw [hq.out, hdr.out, Lc.signs_hex hno.out e37.out hx1.out hx2])
      replace hx2 := Lib.hid hx2
      go_wp2_with fail
      go_round
      case rel => exact ⟨k + 3, by omega, by go_num, hnx⟩
      case measure => simp [intOf]; omega
    · have hfin : Hid (Q = true) := Lib.hid (by rw [hq.out, List.drop_of_length_le (by rw [hlen.out]; omega)]; rfl)
      go_wp2_with fail
      go_ret
      exact ⟨ret_bool hfin.out.symm, rfl⟩
set_option maxRecDepth 100000 in
set_option maxHeartbeats 12800000 in
theorem lScheme_any (s : ByteArray) (w : World) (hs : s.size ≤ 1000000) : Calls Tryz.prog 90 #[.string s] w fun e w' => e = .returned (.bool (Lc.scheme s.data.toList)) ∧ w = w' := by
  obtain ⟨Q, hQ⟩ : ∃ Q, Q = Lc.scheme s.data.toList := ⟨_, rfl⟩
  rw [← hQ]
  have hlen := Lib.hid (list_len s)
  have hmark := Lib.hid (fun c W => lAmong_any c ⟨#[43, 45, 46]⟩ W (by decide))
  go_enter Tryz.func90, Tryz.ntmps90
  by_cases h0 : s.size = 0
  · obtain rfl : s = ByteArray.empty := ByteArray.size_eq_zero_iff.1 h0
    have hfin : Hid (Q = false) := Lib.hid hQ
    clear hQ h0
    have he : (ByteArray.empty.toList == []) = true := by rw [ByteArray.toList_eq]; rfl
    have he2 : ByteArray.empty.toList = [] := by rw [ByteArray.toList_eq]; rfl
    go_wp2_with fail
    go_ret
    exact ⟨ret_bool hfin.out.symm, rfl⟩
  have hp : 0 < s.size := by omega
  have hq0 : Hid (Q = (Lc.alphaB s[0] && s.data.toList.all Lc.schB)) := Lib.hid (by
    rw [hQ]
    have := lcons s 0 hp
    rw [List.drop_zero] at this
    rw [this]
    rfl)
  have hne := ne_empty hp
  have hne2 : (s.toList == []) = false := by
    rw [beq_eq_false_iff_ne]
    rw [ByteArray.toList_eq]
    exact lst_ne hp
  have hne3 : ¬ s.toList = [] := by
    rw [ByteArray.toList_eq]
    exact lst_ne hp
  replace hQ := Lib.hid hQ
  go_wp2_with fail
  (with_reducible refine (lAlpha_any s[0] _).mono ?_); rintro e w1 ⟨rfl, rfl⟩
  cases ha : Lc.alphaB s[0]
  case false =>
    have hfin : Hid (Q = false) := Lib.hid (by rw [hq0.out, ha]; rfl)
    replace ha := Lib.hid ha
    go_wp2_with fail
    go_ret
    exact ⟨ret_bool hfin.out.symm, rfl⟩
  have hq1 : Hid (Q = s.data.toList.all Lc.schB) := Lib.hid (by rw [hq0.out, ha, Bool.true_and])
  replace ha := Lib.hid ha
  clear hq0 hne hne2 hne3
  go_wp2_with fail
  go_loop [3] (fun i => ∃ k : Nat, k ≤ s.size ∧ i = .int .i64 k ∧ Hid ((s.data.toList.take k).all Lc.schB = true)) (fun i => s.size - (intOf i).toNat)
  case atStart => exact ⟨0, Nat.zero_le _, rfl, Lib.hid (by simp)⟩
  case round =>
    obtain ⟨k, hk, rfl, hall⟩ := hrel
    by_cases hlt : k < s.size
    · have hnx : Hid (Lc.schB s[k] = true → (s.data.toList.take (k + 1)).all Lc.schB = true) := Lib.hid (fun h => by
        rw [all_take Lc.schB s.data.toList k (by rw [hlen.out]; exact hlt), hall.out]
        exact h)
      have hbad : Hid (Lc.schB s[k] = false → Q = false) := Lib.hid (fun h => by
        rw [hq1.out, Bool.eq_false_iff]
        intro e
        have := List.all_eq_true.1 e (s.data.toList[k]'(by rw [hlen.out]; exact hlt)) (List.getElem_mem _)
        have e2 : s.data.toList[k]'(by rw [hlen.out]; exact hlt) = s[k] := rfl
        rw [e2, h] at this
        cases this)
      go_wp2_with fail
      (with_reducible refine (lAlpha_any s[k] _).mono ?_); rintro e w1 ⟨rfl, rfl⟩
      cases hb : Lc.alphaB s[k]
      case true =>
        replace hb := Lib.hid hb
        have hn2 := Lib.hid (hnx.out (by unfold Lc.schB; rw [hb.out]; simp))
        go_wp2_with fail
        go_round
        case rel => exact ⟨k + 1, by omega, by go_num, hn2⟩
        case measure => simp [intOf]; omega
      replace hb := Lib.hid hb
      go_wp2_with fail
      (with_reducible refine (lDigit_any s[k] _).mono ?_); rintro e w1 ⟨rfl, rfl⟩
      cases hd : Lc.digitB s[k]
      case true =>
        replace hd := Lib.hid hd
        have hn2 := Lib.hid (hnx.out (by unfold Lc.schB; rw [hd.out]; simp))
        go_wp2_with fail
        go_round
        case rel => exact ⟨k + 1, by omega, by go_num, hn2⟩
        case measure => simp [intOf]; omega
      replace hd := Lib.hid hd
      go_wp2_with fail
      (with_reducible refine (hmark.out s[k] _).mono ?_); rintro e w1 ⟨rfl, rfl⟩
      rw [show Lc.has (⟨#[43, 45, 46]⟩ : ByteArray).data.toList s[k] = Lc.has [43, 45, 46] s[k] from rfl]
      cases hx : Lc.has [43, 45, 46] s[k]
      case true =>
        replace hx := Lib.hid hx
        have hn2 := Lib.hid (hnx.out (by unfold Lc.schB; rw [hx.out]; simp))
        go_wp2_with fail
        go_round
        case rel => exact ⟨k + 1, by omega, by go_num, hn2⟩
        case measure => simp [intOf]; omega
      have hfin := Lib.hid (hbad.out (by unfold Lc.schB; rw [hb.out, hd.out, hx]; rfl))
      replace hx := Lib.hid hx
      go_wp2_with fail
      go_ret
      exact ⟨ret_bool hfin.out.symm, rfl⟩
    · have hfin : Hid (Q = true) := Lib.hid (by rw [hq1.out, ← hall.out, List.take_of_length_le (by rw [hlen.out]; omega)])
      go_wp2_with fail
      go_ret
      exact ⟨ret_bool hfin.out.symm, rfl⟩
end Go.Proofs.YtbaclacfadkjdaaGreatDoor
namespace Go.Proofs.YtbaclacfadkjdaaGreatDoor
open Go.RowKit
namespace Lc
end Lc
end Go.Proofs.YtbaclacfadkjdaaGreatDoor
namespace Go.Proofs.YtbaclacfadkjdaaGreatDoor
open Go.RowKit
def uArr (u : Lc.U) : Array Value := #[.string (Lc.str u.scheme), .string (Lc.str u.host), .string (Lc.str u.path), .string (Lc.str u.query), .string (Lc.str u.frag), .bool u.hasS, .bool u.hasH, .bool u.hasQ, .bool u.hasF]
namespace Lc
def none : U := ⟨[], [], [], [], [], false, false, false, false⟩
end Lc
theorem uri_open {w : World} {b : Nat} {u : Lc.U} (h : Cells w b 83 (uArr u)) :
    w.cell? ⟨b, 0, none⟩ = some (.string (Lc.str u.scheme)) ∧ w.cell? ⟨b, 1, none⟩ = some (.string (Lc.str u.host)) ∧ w.cell? ⟨b, 2, none⟩ = some (.string (Lc.str u.path)) ∧ w.cell? ⟨b, 3, none⟩ = some (.string (Lc.str u.query)) ∧ w.cell? ⟨b, 4, none⟩ = some (.string (Lc.str u.frag)) ∧ w.cell? ⟨b, 5, none⟩ = some (.bool u.hasS) ∧ w.cell? ⟨b, 6, none⟩ = some (.bool u.hasH) ∧ w.cell? ⟨b, 7, none⟩ = some (.bool u.hasQ) ∧ w.cell? ⟨b, 8, none⟩ = some (.bool u.hasF) :=
  ⟨h.cell rfl, h.cell rfl, h.cell rfl, h.cell rfl, h.cell rfl, h.cell rfl, h.cell rfl, h.cell rfl, h.cell rfl⟩
theorem zero_open {w : World} {b : Nat} (h : Cells w b 83 (uArr Lc.none)) :
    w.cell? ⟨b, 0, none⟩ = some (.string ⟨#[]⟩) ∧ w.cell? ⟨b, 1, none⟩ = some (.string ⟨#[]⟩) ∧ w.cell? ⟨b, 2, none⟩ = some (.string ⟨#[]⟩) ∧ w.cell? ⟨b, 3, none⟩ = some (.string ⟨#[]⟩) ∧ w.cell? ⟨b, 4, none⟩ = some (.string ⟨#[]⟩) ∧ w.cell? ⟨b, 5, none⟩ = some (.bool false) ∧ w.cell? ⟨b, 6, none⟩ = some (.bool false) ∧ w.cell? ⟨b, 7, none⟩ = some (.bool false) ∧ w.cell? ⟨b, 8, none⟩ = some (.bool false) :=
  ⟨h.cell rfl, h.cell rfl, h.cell rfl, h.cell rfl, h.cell rfl, h.cell rfl, h.cell rfl, h.cell rfl, h.cell rfl⟩
def nineSet (w : World) (b : Nat) (x0 x1 x2 x3 x4 x5 x6 x7 x8 : Value) : World := ((((((((w.setCell ⟨b, 0, none⟩ x0).setCell ⟨b, 1, none⟩ x1).setCell ⟨b, 2, none⟩ x2).setCell ⟨b, 3, none⟩ x3).setCell ⟨b, 4, none⟩ x4).setCell ⟨b, 5, none⟩ x5).setCell ⟨b, 6, none⟩ x6).setCell ⟨b, 7, none⟩ x7).setCell ⟨b, 8, none⟩ x8
theorem list_nine {c : List Value} (h : c.length = 9) : ∃ a0 a1 a2 a3 a4 a5 a6 a7 a8, c = [a0, a1, a2, a3, a4, a5, a6, a7, a8] := by
  match c, h with
  | [a0, a1, a2, a3, a4, a5, a6, a7, a8], _ => exact ⟨a0, a1, a2, a3, a4, a5, a6, a7, a8, rfl⟩
theorem nine_cells {w : World} {b : Nat} {A : Array Value} (hA : A.size = 9) (h : Cells w b 83 A) (x0 x1 x2 x3 x4 x5 x6 x7 x8 : Value) : Cells (nineSet w b x0 x1 x2 x3 x4 x5 x6 x7 x8) b 83 #[x0, x1, x2, x3, x4, x5, x6, x7, x8] := by
  obtain ⟨l⟩ := A
  obtain ⟨a0, a1, a2, a3, a4, a5, a6, a7, a8, rfl⟩ := list_nine (c := l) hA
  have h0 := h.set 0 x0
  rw [show (#[a0, a1, a2, a3, a4, a5, a6, a7, a8] : Array Value).setIfInBounds 0 x0 = #[x0, a1, a2, a3, a4, a5, a6, a7, a8] from rfl] at h0
  have h1 := h0.set 1 x1
  rw [show (#[x0, a1, a2, a3, a4, a5, a6, a7, a8] : Array Value).setIfInBounds 1 x1 = #[x0, x1, a2, a3, a4, a5, a6, a7, a8] from rfl] at h1
  have h2 := h1.set 2 x2
  rw [show (#[x0, x1, a2, a3, a4, a5, a6, a7, a8] : Array Value).setIfInBounds 2 x2 = #[x0, x1, x2, a3, a4, a5, a6, a7, a8] from rfl] at h2
  have h3 := h2.set 3 x3
  rw [show (#[x0, x1, x2, a3, a4, a5, a6, a7, a8] : Array Value).setIfInBounds 3 x3 = #[x0, x1, x2, x3, a4, a5, a6, a7, a8] from rfl] at h3
  have h4 := h3.set 4 x4
  rw [show (#[x0, x1, x2, x3, a4, a5, a6, a7, a8] : Array Value).setIfInBounds 4 x4 = #[x0, x1, x2, x3, x4, a5, a6, a7, a8] from rfl] at h4
  have h5 := h4.set 5 x5
  rw [show (#[x0, x1, x2, x3, x4, a5, a6, a7, a8] : Array Value).setIfInBounds 5 x5 = #[x0, x1, x2, x3, x4, x5, a6, a7, a8] from rfl] at h5
  have h6 := h5.set 6 x6
  rw [show (#[x0, x1, x2, x3, x4, x5, a6, a7, a8] : Array Value).setIfInBounds 6 x6 = #[x0, x1, x2, x3, x4, x5, x6, a7, a8] from rfl] at h6
  have h7 := h6.set 7 x7
  rw [show (#[x0, x1, x2, x3, x4, x5, x6, a7, a8] : Array Value).setIfInBounds 7 x7 = #[x0, x1, x2, x3, x4, x5, x6, x7, a8] from rfl] at h7
  have h8 := h7.set 8 x8
  rw [show (#[x0, x1, x2, x3, x4, x5, x6, x7, a8] : Array Value).setIfInBounds 8 x8 = #[x0, x1, x2, x3, x4, x5, x6, x7, x8] from rfl] at h8
  exact h8
theorem nine_below {B : Nat} {w0 w : World} {b : Nat} (h : Below B w0 w) (hb : B ≤ b) (x0 x1 x2 x3 x4 x5 x6 x7 x8 : Value) : Below B w0 (nineSet w b x0 x1 x2 x3 x4 x5 x6 x7 x8) := ((((((((h.setCell (p := ⟨b, 0, none⟩) hb x0).setCell (p := ⟨b, 1, none⟩) hb x1).setCell (p := ⟨b, 2, none⟩) hb x2).setCell (p := ⟨b, 3, none⟩) hb x3).setCell (p := ⟨b, 4, none⟩) hb x4).setCell (p := ⟨b, 5, none⟩) hb x5).setCell (p := ⟨b, 6, none⟩) hb x6).setCell (p := ⟨b, 7, none⟩) hb x7).setCell (p := ⟨b, 8, none⟩) hb x8
theorem uri_end {F : Func} {R : Ending → World → Prop} {tmps : Array Value} {w : World} {rb i : Nat} {u : Lc.U} (hres : F.results = #[ResultVar.cell i 83])
    (h2 : tmps[i]? = some (.pointer (some ⟨rb, 0, none⟩))) (hc : Cells w rb 83 (uArr u)) (hR : R (.returned (.agg (uArr u))) w) : bodyPost Tryz.prog F R .ret { tmps := tmps, defers := [] } w := by
  refine ⟨rfl, _, ?_, hR⟩
  have l2 : i < tmps.size := (Array.getElem?_eq_some_iff.1 h2).1
  have g2 : tmps[i] = .pointer (some ⟨rb, 0, none⟩) := (Array.getElem?_eq_some_iff.1 h2).2
  obtain ⟨x0, x1, x2, x3, x4, x5, x6, x7, x8⟩ := uri_open hc
  simp [results, hres, go_sem, l2, g2, x0, x1, x2, x3, x4, x5, x6, x7, x8]
  rfl
theorem uri_end2 {F : Func} {R : Ending → World → Prop} {tmps : Array Value} {w : World} {rb i k : Nat} {u : Lc.U} {y : Int} (hres : F.results = #[ResultVar.cell i 83, ResultVar.tmp k])
    (h2 : tmps[i]? = some (.pointer (some ⟨rb, 0, none⟩))) (h4 : tmps[k]? = some (.int .i64 y)) (hc : Cells w rb 83 (uArr u)) (hR : R (.returned (.tuple #[.agg (uArr u), .int .i64 y])) w) : bodyPost Tryz.prog F R .ret { tmps := tmps, defers := [] } w := by
  refine ⟨rfl, _, ?_, hR⟩
  have l2 : i < tmps.size := (Array.getElem?_eq_some_iff.1 h2).1
  have g2 : tmps[i] = .pointer (some ⟨rb, 0, none⟩) := (Array.getElem?_eq_some_iff.1 h2).2
  have l4 : k < tmps.size := (Array.getElem?_eq_some_iff.1 h4).1
  have g4 : tmps[k] = .int .i64 y := (Array.getElem?_eq_some_iff.1 h4).2
  obtain ⟨x0, x1, x2, x3, x4, x5, x6, x7, x8⟩ := uri_open hc
  simp [results, hres, go_sem, l2, g2, l4, g4, x0, x1, x2, x3, x4, x5, x6, x7, x8]
  rfl
structure SP (w w' : World) (u : Lc.U) : Prop where
  low : Below w.heap.size w w'
  r : Cells w' w.heap.size 83 (uArr Lc.none)
  c : Cells w' (w.heap.size + 1) 83 (uArr u)
theorem SP.first (w : World) : SP w ((w.alloc (.cells (uArr Lc.none) 83)).alloc (.cells (uArr Lc.none) 83)) Lc.none := by
  refine ⟨((Below.refl _ _).alloc (Nat.le_refl _) _).alloc (by simp) _, (Cells.new w 83 (uArr Lc.none)).alloc _, ?_⟩
  have := Cells.new (w.alloc (.cells (uArr Lc.none) 83)) 83 (uArr Lc.none)
  rwa [World.size_alloc] at this
theorem SP.set {w w' : World} {u u' : Lc.U} (h : SP w w' u) (i : Nat) (v : Value) (hA : (uArr u).setIfInBounds i v = uArr u') : SP w (w'.setCell ⟨w.heap.size + 1, i, none⟩ v) u' :=
  ⟨h.low.setCell (p := ⟨w.heap.size + 1, i, none⟩) (by show w.heap.size ≤ w.heap.size + 1; omega) _, h.r.other i v (by omega), by have := h.c.set i v; rwa [hA] at this⟩
theorem SP.set2 {w w' : World} {u u' : Lc.U} (h : SP w w' u) (i j : Nat) (v x : Value) (hA : ((uArr u).setIfInBounds i v).setIfInBounds j x = uArr u') : SP w ((w'.setCell ⟨w.heap.size + 1, i, none⟩ v).setCell ⟨w.heap.size + 1, j, none⟩ x) u' :=
  ⟨(h.low.setCell (p := ⟨w.heap.size + 1, i, none⟩) (by show w.heap.size ≤ w.heap.size + 1; omega) _).setCell (p := ⟨w.heap.size + 1, j, none⟩) (by show w.heap.size ≤ w.heap.size + 1; omega) _, (h.r.other i v (by omega)).other j x (by omega), by have := (h.c.set i v).set j x; rwa [hA] at this⟩
end Go.Proofs.YtbaclacfadkjdaaGreatDoor
