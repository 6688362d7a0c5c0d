/-
  What the document's own words of texts come to: contracts of Check, Name, Plain.
  What the document's own words of texts come to: contracts of Plain, Lines.
  What the document's own words of texts come to: contract of Lines.
-/
import Derived.Test.YtcjlhdmekhifaaaGreatDoorD09
import Derived.Lib.Hide
import Derived.Test.YtcjlhdmekhifaaaGreatDoorD03
namespace Go.Proofs.YtcjlhdmekhifaaaGreatDoor
open Go.RowKit

namespace G
def checkN (l : List UInt8) : Int := if check l = true then 0 else 50
theorem check_stop (l : List UInt8) (hl : l ≠ []) (h : (first l).2 = 0 ∨ char (first l).1 = false) : check l = false := by
  unfold check
  rw [span_stop char l h]
  have := List.length_pos_iff.2 hl
  rw [decide_eq_false_iff_not]; omega
theorem checkN_stop (l : List UInt8) (hl : l ≠ []) (h : (first l).2 = 0 ∨ char (first l).1 = false) : checkN l = 50 := by
  unfold checkN; rw [check_stop l hl h]; rfl
theorem check_step (l : List UInt8) (h0 : (first l).2 ≠ 0) (hp : char (first l).1 = true) : check (l.drop (first l).2) = check l := by
  unfold check
  rw [span_step char l h0 hp, List.length_drop]
  have := first_le l
  rw [Bool.eq_iff_iff, decide_eq_true_eq, decide_eq_true_eq]
  omega
theorem checkN_step (l : List UInt8) (h0 : (first l).2 ≠ 0) (hp : char (first l).1 = true) : checkN (l.drop (first l).2) = checkN l := by
  unfold checkN; rw [check_step l h0 hp]
end G

theorem first_size (s : ByteArray) : (G.first s.data.toList).2 ≤ s.size := by
  have := G.first_le s.data.toList
  rw [list_len] at this; exact this

set_option maxRecDepth 100000 in
set_option maxHeartbeats 800000 in
theorem refCheck_any (s : ByteArray) (w : World) (hs : s.size ≤ maxLen) :
    Calls Tryz.prog 23 #[.string s] w fun e w' => e = .returned (.int .i64 (G.checkN s.data.toList)) ∧ Below w.heap.size w w' := by
  go_enter Tryz.func23, Tryz.ntmps23
  go_wp2_with fail
  go_loopw [0, 3, 4] (fun v c n w' => ∃ t : ByteArray, v = .string t ∧ t.size ≤ s.size ∧ Hid (G.checkN t.data.toList = G.checkN s.data.toList) ∧ Below w.heap.size w w') (fun v _ _ _ => strLen v)
  case atStart => exact ⟨s, rfl, Nat.le_refl _, Lib.hid rfl, Below.refl _ _⟩
  case round =>
    obtain ⟨t, rfl, ht, hc, bw⟩ := hrel
    have htm : t.size ≤ maxLen := by omega
    have hsm : s.size ≤ 9223372036854775807 := hs
    by_cases h0 : t.size = 0
    · obtain rfl : t = ByteArray.empty := ByteArray.size_eq_zero_iff.1 h0
      go_wp2
      go_ret
      exact ⟨ret_int (by rw [← hc.out]; rfl), bw⟩
    · have hne := lst_ne (s := t) (by omega)
      have hle := first_size t
      go_wp2_with fail
      (with_reducible refine (refFirst_any t _ htm).mono ?_); rintro e w1 ⟨rfl, rfl⟩
      have hstop := Lib.hid (G.checkN_stop t.data.toList hne)
      have hstep := Lib.hid (G.checkN_step t.data.toList)
      have hdl := Lib.hid (drop_list t (G.first t.data.toList).2)
      generalize G.first t.data.toList = r at *
      obtain ⟨c, n⟩ := r
      dsimp only at *
      clear hne
      by_cases hn : n = 0
      · have hr := Lib.hid (hstop.out (.inl hn))
        subst hn
        go_wp2
        go_ret
        exact ⟨ret_int (by rw [← hc.out, hr.out]), bw⟩
      · go_wp2_with fail
        (with_reducible refine (refChar_any c _).mono ?_); rintro e w2 ⟨rfl, b2⟩
        have b3 := bw.trans (b2.mono bw.size)
        cases hch : G.char c
        · have hr := Lib.hid (hstop.out (.inr hch))
          go_wp2
          go_ret
          exact ⟨ret_int (by rw [← hc.out, hr.out]), b3⟩
        · have hr := Lib.hid (hstep.out hn hch)
          go_wp2
          go_roundw
          case rel => exact ⟨_, rfl, by simp; omega, Lib.hid (by rw [← hc.out, ← hr.out, hdl.out]), b3⟩
          case measure => simp [strLen]; omega

namespace G
/-- Name's answers. -/
def nmA (s : ByteArray) : ByteArray := s.extract 0 (name s.data.toList)
def nmB (s : ByteArray) : ByteArray := if name s.data.toList = 0 then ByteArray.empty else s.extract (name s.data.toList) s.size
def nmE (s : ByteArray) : Int := if name s.data.toList = 0 then 51 else 0
theorem nm_none {s : ByteArray} (h : name s.data.toList = 0) : nmA s = ByteArray.empty ∧ nmB s = ByteArray.empty ∧ nmE s = 51 := by
  refine ⟨?_, ?_, ?_⟩
  · apply bytes_eq
    unfold nmA
    rw [h, take_list]; rfl
  · unfold nmB; rw [if_pos h]
  · unfold nmE; rw [if_pos h]
theorem nm_some {s : ByteArray} {k : Nat} (h : name s.data.toList = k) (h0 : k ≠ 0) : nmA s = s.extract 0 k ∧ nmB s = s.extract k s.size ∧ nmE s = 0 := by
  subst h
  exact ⟨rfl, if_neg h0, if_neg h0⟩

theorem name_stop (l : List UInt8) (h : (first l).2 = 0 ∨ start (first l).1 = false) : name l = 0 := by
  unfold name
  rw [if_neg]
  rintro ⟨h0, h1⟩
  rcases h with h | h
  · exact h0 h
  · rw [h] at h1; cases h1
theorem name_begin (l : List UInt8) (h0 : (first l).2 ≠ 0) (h1 : start (first l).1 = true) : name l = (first l).2 + span part (l.drop (first l).2) := by
  unfold name; rw [if_pos ⟨h0, h1⟩]
theorem start_no {c : Int} (h : part c = false) : start c = false := by
  cases hs : start c with
  | false => rfl
  | true => rw [part_of_start hs] at h; cases h
end G

/-- how far Name has come. -/
def NameAt (s t : ByteArray) (k : Nat) : Prop := s.size = k + t.size ∧ t.data.toList = s.data.toList.drop k ∧ (k = 0 ∨ G.name s.data.toList = k + G.span G.part t.data.toList)

theorem NameAt.same {s t : ByteArray} (h : NameAt s t 0) : t = s := by
  obtain ⟨_, h, _⟩ := h
  exact bytes_eq (by rw [h, List.drop_zero])

theorem NameAt.rest {s t : ByteArray} {k : Nat} (h : NameAt s t k) : t = s.extract k s.size := bytes_eq (by rw [drop_list]; exact h.2.1)

theorem NameAt.none {s t : ByteArray} (h : NameAt s t 0) (hs : (G.first t.data.toList).2 = 0 ∨ G.start (G.first t.data.toList).1 = false) : G.name s.data.toList = 0 := by
  rw [← h.same]; exact G.name_stop _ hs

theorem NameAt.stop {s t : ByteArray} {k : Nat} (h : NameAt s t k) (hk : k ≠ 0) (hs : (G.first t.data.toList).2 = 0 ∨ G.part (G.first t.data.toList).1 = false) : G.name s.data.toList = k := by
  rcases h.2.2 with h0 | h0
  · exact absurd h0 hk
  · rw [h0, G.span_stop _ _ hs]; rfl

theorem NameAt.step {s t : ByteArray} {k : Nat} (h : NameAt s t k) (h0 : (G.first t.data.toList).2 ≠ 0) (hp : G.part (G.first t.data.toList).1 = true) (hs : k = 0 → G.start (G.first t.data.toList).1 = true) :
    NameAt s (t.extract (G.first t.data.toList).2 t.size) (k + (G.first t.data.toList).2) := by
  have hle := first_size t
  obtain ⟨h1, h2, h3⟩ := h
  refine ⟨by simp; omega, by rw [drop_list, h2, List.drop_drop], .inr ?_⟩
  rw [drop_list]
  rcases h3 with rfl | h3
  · have e := G.name_begin t.data.toList h0 (hs rfl)
    rw [h2, List.drop_zero] at e ⊢
    rw [h2, List.drop_zero] at h0 
    rw [e]; omega
  · rw [h3, G.span_step _ _ h0 hp]; omega

theorem ret_name {a b : ByteArray} {e : Int} {s : ByteArray} (ha : a = G.nmA s) (hb : b = G.nmB s) (he : e = G.nmE s) : Ending.returned (.tuple #[.string a, .string b, .int .i64 e]) = .returned (.tuple #[.string (G.nmA s), .string (G.nmB s), .int .i64 (G.nmE s)]) := by
  rw [ha, hb, he]

set_option maxRecDepth 100000 in
set_option maxHeartbeats 1600000 in
theorem refName_any (s : ByteArray) (w : World) (hs : s.size ≤ maxLen) :
    Calls Tryz.prog 27 #[.string s] w fun e w' => e = .returned (.tuple #[.string (G.nmA s), .string (G.nmB s), .int .i64 (G.nmE s)]) ∧ Below w.heap.size w w' := by
  go_enter Tryz.func27, Tryz.ntmps27
  go_wp2_with fail
  go_loopw [5, 6, 7] (fun v c n w' => ∃ (t : ByteArray) (k : Nat), v = .string t ∧ s.size = k + t.size ∧ Hid (NameAt s t k) ∧ Below w.heap.size w w') (fun v _ _ _ => strLen v)
  case atStart => exact ⟨s, 0, rfl, by omega, Lib.hid ⟨by omega, by simp, .inl rfl⟩, Below.refl _ _⟩
  case round =>
    obtain ⟨t, k, rfl, ht, hc, bw⟩ := hrel
    have htm : t.size ≤ maxLen := by omega
    have hsm : s.size ≤ 9223372036854775807 := hs
    by_cases hk : k = 0
    · subst hk
      obtain rfl : t = s := hc.out.same
      clear ht hsm
      have htm' : t.size ≤ 9223372036854775807 := htm
      by_cases h0 : t.size = 0
      · obtain rfl : t = ByteArray.empty := ByteArray.size_eq_zero_iff.1 h0
        have hr := Lib.hid (G.nm_none (s := ByteArray.empty) rfl)
        go_wp2
        go_ret3
        exact ⟨ret_name hr.out.1.symm hr.out.2.1.symm hr.out.2.2.symm, bw⟩
      · have hle := first_size t
        go_wp2_with fail
        (with_reducible refine (refFirst_any t _ htm).mono ?_); rintro e w1 ⟨rfl, rfl⟩
        have hnone := Lib.hid (hc.out.none)
        have hstep := Lib.hid (hc.out.step)
        generalize G.first t.data.toList = r at *
        obtain ⟨c, n⟩ := r
        dsimp only at *
        by_cases hn : n = 0
        · subst hn
          have hr := Lib.hid (G.nm_none (hnone.out (.inl rfl)))
          go_wp2
          go_ret3
          exact ⟨ret_name hr.out.1.symm hr.out.2.1.symm hr.out.2.2.symm, bw⟩
        · go_wp2_with fail
          (with_reducible refine (refPart_any c _).mono ?_); rintro e w2 ⟨rfl, b2⟩
          have b3 := bw.trans (b2.mono bw.size)
          cases hp : G.part c
          · have hr := Lib.hid (G.nm_none (hnone.out (.inr (G.start_no hp))))
            have hp := Lib.hid hp
            go_wp2
            go_ret3
            exact ⟨ret_name hr.out.1.symm hr.out.2.1.symm hr.out.2.2.symm, b3⟩
          · go_wp2_with fail
            (with_reducible refine (refStart_any c _).mono ?_); rintro e w3 ⟨rfl, b4⟩
            have b5 := b3.trans (b4.mono b3.size)
            cases hst : G.start c
            · have hr := Lib.hid (G.nm_none (hnone.out (.inr hst)))
              have hst := Lib.hid hst
              go_wp2
              go_ret3
              exact ⟨ret_name hr.out.1.symm hr.out.2.1.symm hr.out.2.2.symm, b5⟩
            · have hr := Lib.hid (hstep.out hn hp (fun _ => hst))
              have hst := Lib.hid hst
              go_wp2
              go_roundw
              case rel => exact ⟨_, 0 + n, rfl, hr.out.1, hr, b5⟩
              case measure => simp [strLen]; omega
    · have hts : t.size < s.size := by omega
      have hcs := hc.out.stop hk
      have hrest := Lib.hid hc.out.rest
      by_cases h0 : t.size = 0
      · obtain rfl : t = ByteArray.empty := ByteArray.size_eq_zero_iff.1 h0
        have hr := Lib.hid (G.nm_some (hcs (.inl rfl)) hk)
        clear hcs hts h0
        have hks : k = s.size := by rw [ht]; rfl
        subst hks
        clear ht
        go_wp2
        go_ret3
        exact ⟨ret_name (by rw [hr.out.1, extract_full]) (by rw [hr.out.2.1]; exact hrest.out) hr.out.2.2.symm, bw⟩
      · have hle := first_size t
        go_wp2_with fail
        (with_reducible refine (refFirst_any t _ htm).mono ?_); rintro e w1 ⟨rfl, rfl⟩
        have hstop := Lib.hid hcs
        have hstep := Lib.hid (hc.out.step)
        clear hcs
        generalize G.first t.data.toList = r at *
        obtain ⟨c, n⟩ := r
        dsimp only at *
        by_cases hn : n = 0
        · subst hn
          have hr := Lib.hid (G.nm_some (hstop.out (.inl rfl)) hk)
          go_wp2
          go_ret3
          exact ⟨ret_name hr.out.1.symm (by rw [hr.out.2.1]; exact hrest.out) hr.out.2.2.symm, bw⟩
        · go_wp2_with fail
          (with_reducible refine (refPart_any c _).mono ?_); rintro e w2 ⟨rfl, b2⟩
          have b3 := bw.trans (b2.mono bw.size)
          cases hp : G.part c
          · have hr := Lib.hid (G.nm_some (hstop.out (.inr hp)) hk)
            have hp := Lib.hid hp
            go_wp2
            go_ret3
            exact ⟨ret_name hr.out.1.symm (by rw [hr.out.2.1]; exact hrest.out) hr.out.2.2.symm, b3⟩
          · have hr := Lib.hid (hstep.out hn hp (fun e => absurd e hk))
            have hp := Lib.hid hp
            go_wp2
            go_roundw
            case rel => exact ⟨_, k + n, rfl, hr.out.1, hr, b3⟩
            case measure => simp [strLen]; omega
end Go.Proofs.YtcjlhdmekhifaaaGreatDoor
namespace Go.Proofs.YtcjlhdmekhifaaaGreatDoor
open Go.RowKit

namespace G
theorem plain_no (l : List UInt8) (h : name l = 0 ∨ name l ≠ l.length) : plain l = false := by
  unfold plain
  rcases h with h | h
  · by_cases hl : l = []
    · simp [hl]
    · have := List.length_pos_iff.2 hl
      simp [h]; intro _ h1; omega
  · simp [h]
theorem plain_all (l : List UInt8) (h : name l = l.length) (h0 : name l ≠ 0) : plain l = l.all (fun b => decide (b ≠ 58)) := by
  have hl : l ≠ [] := by rintro rfl; exact h0 rfl
  unfold plain
  simp [h, hl]
end G

set_option maxRecDepth 100000 in
set_option maxHeartbeats 1600000 in
theorem refPlain_any (s : ByteArray) (w : World) (hs : s.size ≤ maxLen) :
    Calls Tryz.prog 13 #[.string s] w fun e w' => e = .returned (.bool (G.plain s.data.toList)) ∧ Below w.heap.size w w' := by
  have hsm : s.size ≤ 9223372036854775807 := hs
  have hlen := list_len s
  have hle := G.name_le s.data.toList
  rw [hlen] at hle
  go_enter Tryz.func13, Tryz.ntmps13
  go_wp2_with fail
  (with_reducible refine (refName_any s _ hs).mono ?_); rintro e w1 ⟨rfl, b1⟩
  by_cases h0 : G.name s.data.toList = 0
  · have hr := Lib.hid (G.plain_no s.data.toList (.inl h0))
    obtain ⟨e1, e2, e3⟩ := G.nm_none h0
    rw [e1, e2, e3]
    clear e1 e2 e3 h0 hle hlen
    go_wp2
    go_ret
    exact ⟨ret_bool' hr.out.symm, b1⟩
  · by_cases hk : G.name s.data.toList = s.size
    · obtain ⟨e1, e2, e3⟩ := G.nm_some rfl h0
      have hall := Lib.hid (G.plain_all s.data.toList (by rw [hk, hlen]) h0)
      rw [e1, e2, e3, hk, extract_full]
      have e4 : s.extract s.size s.size = ByteArray.empty := bytes_eq (by rw [drop_list, List.drop_of_length_le (by rw [hlen]; exact Nat.le_refl _)]; rfl)
      rw [e4]
      have hlen := Lib.hid hlen
      clear e1 e2 e3 e4 h0 hle hk
      go_wp2_with fail
      go_loop [6] (fun i => ∃ k : Nat, k ≤ s.size ∧ i = .int .i64 k ∧ Hid ((s.data.toList.take k).all (fun b => decide (b ≠ 58)) = true)) (fun i => s.size - (intOf i).toNat)
      case atStart => exact ⟨0, Nat.zero_le _, rfl, Lib.hid (by simp)⟩
      case round =>
        obtain ⟨k, hk, rfl, hall1⟩ := hrel
        by_cases hlt : k < s.size
        · have hst := Lib.hid (all_take (fun b => decide (b ≠ 58)) s.data.toList k (by rw [hlen.out]; exact hlt))
          have hno := Lib.hid (all_not (fun b => decide (b ≠ 58)) s.data.toList k (by rw [hlen.out]; exact hlt))
          have hgk : s.data.toList[k]'(by rw [hlen.out]; exact hlt) = s[k] := rfl
          rw [hgk] at hst hno
          clear hgk
          by_cases hq : s[k] = 58
          · have hr := Lib.hid (hno.out (by rw [hq]; rfl))
            have hq1 : (s[k]).toNat = 58 := by rw [hq]; rfl
            clear hno hst hq
            go_wp2
            go_ret
            exact ⟨ret_bool' (by rw [hall.out]; exact hr.out.symm), b1⟩
          · have hr := Lib.hid (hst.out.trans (show _ = true by rw [hall1.out]; simp [hq]))
            have hq1 : (s[k]).toNat ≠ 58 := fun e => hq (UInt8.toNat_inj.1 e)
            have hq2 : ¬ ((s[k]).toNat : Int) = 58 := by omega
            clear hno hst hq
            go_wp2
            go_round
            case rel => exact ⟨k + 1, by omega, by go_num, hr⟩
            case measure => simp [intOf]; omega
        · have hfull : s.data.toList.take k = s.data.toList := List.take_of_length_le (by rw [hlen.out]; omega)
          rw [hfull] at hall1
          clear hfull
          go_wp2
          go_ret
          exact ⟨ret_bool' (by rw [hall.out]; exact hall1.out.symm), b1⟩
    · have hr := Lib.hid (G.plain_no s.data.toList (.inr (by rw [hlen]; exact hk)))
      obtain ⟨e1, e2, e3⟩ := G.nm_some rfl h0
      rw [e1, e2, e3]
      generalize G.name s.data.toList = n at *
      have hsz : 0 < (s.extract n s.size).size := by simp; omega
      have hne := ne_empty hsz
      clear hlen
      generalize s.extract n s.size = t at *
      clear e1 e2 e3
      go_wp2
      go_ret
      exact ⟨ret_bool' hr.out.symm, b1⟩
end Go.Proofs.YtcjlhdmekhifaaaGreatDoor
namespace Go.Proofs.YtcjlhdmekhifaaaGreatDoor
open Go.RowKit

namespace G
theorem lines_at (s : ByteArray) (k : Nat) (h : k < s.size) (hb : (s[k]).toNat ≠ 13) : lines (s.data.toList.drop k) = s[k] :: lines (s.data.toList.drop (k + 1)) := by
  rw [drop_cons s k h, lines_cons _ _ (fun e => hb (by rw [e]; rfl))]
theorem lines_two (s : ByteArray) (k : Nat) (h : k < s.size) (h1 : k + 1 < s.size) (hb : (s[k]).toNat = 13) (hc : (s[k + 1]).toNat = 10) : lines (s.data.toList.drop k) = 10 :: lines (s.data.toList.drop (k + 2)) := by
  rw [drop_cons s k h, drop_cons s (k + 1) h1, byte_is (c := 13) hb, byte_is (c := 10) hc, lines_crlf]
theorem lines_one (s : ByteArray) (k : Nat) (h : k < s.size) (hb : (s[k]).toNat = 13) (hc : (h1 : k + 1 < s.size) → (s[k + 1]).toNat ≠ 10) : lines (s.data.toList.drop k) = 10 :: lines (s.data.toList.drop (k + 1)) := by
  rw [drop_cons s k h, byte_is (c := 13) hb, lines_cr]
  by_cases h1 : k + 1 < s.size
  · rw [drop_cons s (k + 1) h1, List.head?_cons]
    intro e
    exact hc h1 (by rw [Option.some.inj e]; rfl)
  · rw [List.drop_of_length_le (by rw [list_len]; omega)]; simp
theorem acc_step {L acc : List UInt8} {x y : List UInt8} {b : UInt8} (h : L = acc ++ x) (e : x = b :: y) : L = (acc ++ [b]) ++ y := by rw [h, e]; simp
theorem acc_end {L acc x : List UInt8} (h : L = acc ++ lines x) (e : x = []) : L = acc := by rw [h, e]; simp [lines]
end G

set_option maxRecDepth 100000 in
set_option maxHeartbeats 1600000 in
theorem refLines_any (s : ByteArray) (w : World) (hs : s.size ≤ 70368744177664) :
    Calls Tryz.prog 24 #[.string s] w fun e w' => e = .returned (.string ⟨(G.lines s.data.toList).toArray⟩) ∧ Below w.heap.size w w' := by
  obtain ⟨i0, hi, hz0, hz1, hz2⟩ := info_parts infoByte
  have hlen := Lib.hid (list_len s)
  go_enter Tryz.func24, Tryz.ntmps24
  go_wp2_with fail
  go_loopw [3, 4] (fun v i wr => ∃ (k : Nat) (acc : List UInt8), k ≤ s.size ∧ i = .int .i64 k ∧ Hid (G.lines s.data.toList = acc ++ G.lines (s.data.toList.drop k)) ∧ acc.length ≤ k ∧ (acc = [] → v = .slice none 0 0) ∧ Owns w.heap.size v acc wr ∧ Below w.heap.size w wr) (fun _ i _ => s.size - (intOf i).toNat)
  case atStart => exact ⟨0, [], Nat.zero_le _, rfl, Lib.hid (by simp), by simp, fun _ => rfl, owns_nil _ _, Below.refl _ _⟩
  case round =>
    obtain ⟨k, acc, hk, rfl, hL, hacc, hnil, ho, bw⟩ := hrel
    have hsz := bw.size
    have hacch := Lib.hid hacc
    have hnilh := Lib.hid hnil
    clear hnil
    by_cases hlt : k < s.size
    · by_cases hq : (s[k]).toNat = 13
      · have hqi : ((s[k]).toNat : Int) = 13 := by omega
        by_cases h1 : k + 1 < s.size
        · by_cases hd : (s[k + 1]).toNat = 10
          · have hr := Lib.hid (G.acc_step hL.out (G.lines_two s k hlt h1 hq hd))
            have hdi : ((s[k + 1]).toNat : Int) = 10 := by omega
            clear hL hd hq
            go_wp2_with (at_builtin; refine wpList_append_own _ rfl _ _ 78 rfl w.heap.size 5 i0 (.int .u8 0) 1 1 Tryz.underlying78 hi hz0 hz1 hz2 rfl (by decide) _ _ _ rfl (World.ownsRow.alloc ho _) ⟨wr.heap.size, 0, none⟩ 1 1 [.int .u8 10] rfl rfl (cell_one_new _ _ _) (fun u hu => by simp at hu; subst hu; rfl) (by have := hacch.out; unfold maxLen; omega) (by have := hacch.out; omega) (by simp; omega) ?_)
            intro v2 w2 hown2 hg2 hnil2
            have hga : wr.grownBy w2 u3.ownBlock := (World.grownBy_alloc wr _ _).trans hg2
            have b2 := ho.below hga (by omega)
            have ho2 : Owns w.heap.size v2 (acc ++ [10]) w2 := owns_of hown2 (by simp) (by simp [Lib.byteCells])
            have hlen2 : (acc ++ [10]).length ≤ k + 1 := by rw [List.length_append, List.length_singleton]; omega
            clear hown2 hg2 hnil2 hga ho
            go_wp2_with fail
            go_round
            case rel => exact ⟨k + 2, acc ++ [10], by omega, by go_num, hr, by omega, fun e => by simp at e, ho2, bw.trans b2⟩
            case measure => simp [intOf]; omega
          · have hr := Lib.hid (G.acc_step hL.out (G.lines_one s k hlt hq (fun _ => hd)))
            have hdi : ¬ ((s[k + 1]).toNat : Int) = 10 := by omega
            clear hL hd hq
            go_wp2_with (at_builtin; refine wpList_append_own _ rfl _ _ 78 rfl w.heap.size 5 i0 (.int .u8 0) 1 1 Tryz.underlying78 hi hz0 hz1 hz2 rfl (by decide) _ _ _ rfl (World.ownsRow.alloc ho _) ⟨wr.heap.size, 0, none⟩ 1 1 [.int .u8 10] rfl rfl (cell_one_new _ _ _) (fun u hu => by simp at hu; subst hu; rfl) (by have := hacch.out; unfold maxLen; omega) (by have := hacch.out; omega) (by simp; omega) ?_)
            intro v2 w2 hown2 hg2 hnil2
            have hga : wr.grownBy w2 u3.ownBlock := (World.grownBy_alloc wr _ _).trans hg2
            have b2 := ho.below hga (by omega)
            have ho2 : Owns w.heap.size v2 (acc ++ [10]) w2 := owns_of hown2 (by simp) (by simp [Lib.byteCells])
            have hlen2 : (acc ++ [10]).length ≤ k + 1 := by rw [List.length_append, List.length_singleton]; omega
            clear hown2 hg2 hnil2 hga ho
            go_wp2_with fail
            go_round
            case rel => exact ⟨k + 1, acc ++ [10], by omega, by go_num, hr, by omega, fun e => by simp at e, ho2, bw.trans b2⟩
            case measure => simp [intOf]; omega
        · have hr := Lib.hid (G.acc_step hL.out (G.lines_one s k hlt hq (fun h2 => absurd h2 h1)))
          clear hL hq
          go_wp2_with (at_builtin; refine wpList_append_own _ rfl _ _ 78 rfl w.heap.size 5 i0 (.int .u8 0) 1 1 Tryz.underlying78 hi hz0 hz1 hz2 rfl (by decide) _ _ _ rfl (World.ownsRow.alloc ho _) ⟨wr.heap.size, 0, none⟩ 1 1 [.int .u8 10] rfl rfl (cell_one_new _ _ _) (fun u hu => by simp at hu; subst hu; rfl) (by have := hacch.out; unfold maxLen; omega) (by have := hacch.out; omega) (by simp; omega) ?_)
          intro v2 w2 hown2 hg2 hnil2
          have hga : wr.grownBy w2 u3.ownBlock := (World.grownBy_alloc wr _ _).trans hg2
          have b2 := ho.below hga (by omega)
          have ho2 : Owns w.heap.size v2 (acc ++ [10]) w2 := owns_of hown2 (by simp) (by simp [Lib.byteCells])
          have hlen2 : (acc ++ [10]).length ≤ k + 1 := by rw [List.length_append, List.length_singleton]; omega
          clear hown2 hg2 hnil2 hga ho
          go_wp2_with fail
          go_round
          case rel => exact ⟨k + 1, acc ++ [10], by omega, by go_num, hr, by omega, fun e => by simp at e, ho2, bw.trans b2⟩
          case measure => simp [intOf]; omega
      · have hr := Lib.hid (G.acc_step hL.out (G.lines_at s k hlt hq))
        have hqi : ¬ ((s[k]).toNat : Int) = 13 := by omega
        clear hL hq
        go_wp2_with (at_builtin; refine wpList_append_own _ rfl _ _ 78 rfl w.heap.size 5 i0 (.int .u8 0) 1 1 Tryz.underlying78 hi hz0 hz1 hz2 rfl (by decide) _ _ _ rfl (World.ownsRow.alloc ho _) ⟨wr.heap.size, 0, none⟩ 1 1 [.int .u8 ((s[k]).toNat : Int)] rfl rfl (cell_one_new _ _ _) (fun u hu => by simp at hu; subst hu; rfl) (by have := hacch.out; unfold maxLen; omega) (by have := hacch.out; omega) (by simp; omega) ?_)
        intro v2 w2 hown2 hg2 hnil2
        have hga : wr.grownBy w2 u3.ownBlock := (World.grownBy_alloc wr _ _).trans hg2
        have b2 := ho.below hga (by omega)
        have ho2 : Owns w.heap.size v2 (acc ++ [s[k]]) w2 := owns_of hown2 (by simp) (by simp [Lib.byteCells])
        have hlen2 : (acc ++ [s[k]]).length ≤ k + 1 := by rw [List.length_append, List.length_singleton]; omega
        clear hown2 hg2 hnil2 hga ho
        go_wp2_with fail
        go_round
        case rel => exact ⟨k + 1, acc ++ [s[k]], by omega, by go_num, hr, by omega, fun e => by simp at e, ho2, bw.trans b2⟩
        case measure => simp [intOf]; omega
    · have hfull : s.data.toList.drop k = [] := List.drop_of_length_le (by rw [hlen.out]; omega)
      have hcv := owns_string ho hnilh.out
      have hr := Lib.hid (G.acc_end hL.out hfull)
      clear hfull hL
      go_wp2
      go_ret
      exact ⟨ret_str (by rw [hr.out]), bw⟩
end Go.Proofs.YtcjlhdmekhifaaaGreatDoor
