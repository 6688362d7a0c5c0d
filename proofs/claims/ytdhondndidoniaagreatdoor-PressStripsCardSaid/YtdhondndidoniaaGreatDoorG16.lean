/-
  What the program's own words of signs come to: letters, digits, one of a text, two digits of the base 16, signs; a scheme; a text of signs.
  What strings.IndexAny says of the four signs that part a reference; how many bytes stand ahead of a sign between.
-/
import Derived.Test.YtdhondndidoniaaGreatDoorG15
import Derived.Test.YtdhondndidoniaaGreatDoorShelf
import Derived.Laws.IdiomStrings
import Derived.WalkSmall
import Derived.Laws.Runes
import Derived.Lib.IndexAny
import Derived.Lib.SpaceUEq
import Derived.Lib.MapLaws
import Derived.Lib.OthersKept
import Derived.BigQuiet
import Derived.Deep.QuietTactic
import Derived.Deep.WholeRow
namespace Go.Proofs.YtdhondndidoniaaGreatDoor
open Go.RowKit

namespace Lc
def signB (b : UInt8) : Bool := alphaB b || digitB b || decide (127 < b.toNat) || has marks b
theorem plain_sign (more : List UInt8) (b : UInt8) : plainB more b = (signB b || has more b) := rfl
end Lc
set_option maxRecDepth 100000 in
set_option maxHeartbeats 3200000 in
theorem pLetter_any (b : UInt8) (w : World) : Calls Tryz.prog 203 #[.int .u8 (b.toNat : Int)] w fun e w' => e = .returned (.bool (Lc.alphaB b)) ∧ w = w' := by
  obtain ⟨Q, hQ⟩ : ∃ Q, Q = Lc.alphaB b := ⟨_, rfl⟩
  rw [← hQ]
  unfold Lc.alphaB at hQ
  have hb := b.toNat_lt
  generalize b.toNat = n at *
  replace hQ := Lib.hid hQ
  go_enter Tryz.func203, Tryz.ntmps203
  go_wp2
  all_goals
      go_ret
      refine ⟨ret_bool ?_, rfl⟩
      rw [hQ.out]
      first
        | (rw [eq_comm, decide_eq_true_eq]; omega)
        | (rw [eq_comm, decide_eq_false_iff_not]; omega)
        | (rw [Bool.eq_iff_iff]; simp only [Bool.or_eq_true, decide_eq_true_eq]; omega)

set_option maxRecDepth 100000 in
set_option maxHeartbeats 3200000 in
theorem pDigit_any (b : UInt8) (w : World) : Calls Tryz.prog 204 #[.int .u8 (b.toNat : Int)] w fun e w' => e = .returned (.bool (Lc.digitB b)) ∧ w = w' := by
  obtain ⟨Q, hQ⟩ : ∃ Q, Q = Lc.digitB b := ⟨_, rfl⟩
  rw [← hQ]
  unfold Lc.digitB at hQ
  have hb := b.toNat_lt
  generalize b.toNat = n at *
  replace hQ := Lib.hid hQ
  go_enter Tryz.func204, Tryz.ntmps204
  go_wp2
  all_goals
      go_ret
      refine ⟨ret_bool ?_, rfl⟩
      rw [hQ.out]
      first
        | (rw [eq_comm, decide_eq_true_eq]; omega)
        | (rw [eq_comm, decide_eq_false_iff_not]; omega)
        | (rw [Bool.eq_iff_iff]; simp only [decide_eq_true_eq]; omega)

set_option maxRecDepth 100000 in
set_option maxHeartbeats 3200000 in
theorem pHex_any (b : UInt8) (w : World) : Calls Tryz.prog 224 #[.int .u8 (b.toNat : Int)] w fun e w' => e = .returned (.bool (Lc.hexB b)) ∧ w = w' := by
  obtain ⟨Q, hQ⟩ : ∃ Q, Q = Lc.hexB b := ⟨_, rfl⟩
  rw [← hQ]
  unfold Lc.hexB at hQ
  obtain ⟨D, hD⟩ : ∃ D, D = Lc.digitB b := ⟨_, rfl⟩
  have hd := pDigit_any b
  rw [← hD] at hd
  unfold Lc.digitB at hD
  have hb := b.toNat_lt
  generalize b.toNat = n at *
  replace hQ := Lib.hid hQ
  replace hD := Lib.hid hD
  replace hd := Lib.hid hd
  go_enter Tryz.func224, Tryz.ntmps224
  go_wp2_with fail
  (refine (hd.out _).mono ?_); rintro e w1 ⟨rfl, rfl⟩
  cases D
  · have hn : ¬ (48 ≤ n ∧ n ≤ 57) := of_decide_eq_false hD.out.symm
    clear hD
    go_wp2
    all_goals
      go_ret
      refine ⟨ret_bool ?_, rfl⟩
      rw [hQ.out]
      first
        | (rw [eq_comm, decide_eq_true_eq]; omega)
        | (rw [eq_comm, decide_eq_false_iff_not]; omega)
        | (rw [Bool.eq_iff_iff]; simp only [Bool.or_eq_true, decide_eq_true_eq]; omega)
  · have hn : 48 ≤ n ∧ n ≤ 57 := of_decide_eq_true hD.out.symm
    clear hD
    go_wp2
    all_goals
      go_ret
      refine ⟨ret_bool ?_, rfl⟩
      rw [hQ.out]
      first
        | (rw [eq_comm, decide_eq_true_eq]; omega)
        | (rw [eq_comm, decide_eq_false_iff_not]; omega)
        | (rw [Bool.eq_iff_iff]; simp only [Bool.or_eq_true, Bool.and_eq_true, decide_eq_true_eq]; omega)

set_option maxRecDepth 100000 in
set_option maxHeartbeats 3200000 in
theorem pOneOf_any (c : UInt8) (m : ByteArray) (l : List UInt8) (w : World) (hl : m.data.toList = l) : Calls Tryz.prog 205 #[.int .u8 (c.toNat : Int), .string m] w fun e w' => e = .returned (.bool (Lc.has l c)) ∧ w = w' := by
  subst hl
  have hb : ((c.toNat : Int)).toNat.toUInt8 = c := by simp
  have hcon := Lib.hid (Lib.contains_iff_indexByte m.data.toList c)
  go_enter Tryz.func205, Tryz.ntmps205
  go_wp2_with fail
  (refine (Tryz.strings_IndexByte m _ _).mono ?_); rintro e w1 ⟨rfl, rfl⟩
  rw [hb]
  generalize Lib.indexByte m.data.toList c = i at *
  go_wp2_with fail
  go_ret
  exact ⟨ret_bool hcon.out.symm, rfl⟩

set_option maxRecDepth 100000 in
set_option maxHeartbeats 3200000 in
theorem pHexPair_any (s : ByteArray) (w : World) (hs : s.size ≤ maxLen) : Calls Tryz.prog 206 #[.string s] w fun e w' => e = .returned (.bool (Lc.hexPair s.data.toList)) ∧ w = w' := by
  have hsm : s.size ≤ 9223372036854775807 := hs
  obtain ⟨Q, hQ⟩ : ∃ Q, Q = Lc.hexPair s.data.toList := ⟨_, rfl⟩
  rw [← hQ]
  go_enter Tryz.func206, Tryz.ntmps206
  by_cases h2 : 2 ≤ s.size
  · have h0 : 0 < s.size := by omega
    have h1 : 1 < s.size := by omega
    have hq : Hid (Q = (Lc.hexB s[0] && Lc.hexB s[1])) := Lib.hid (by
      have e := lcons s 0 h0
      rw [List.drop_zero, lcons s (0 + 1) h1] at e
      rw [hQ, e]
      rfl)
    clear hQ
    go_wp2_with fail
    (refine (pHex_any s[0] _).mono ?_); rintro e w1 ⟨rfl, rfl⟩
    cases hx : Lc.hexB s[0]
    · have hfin : Hid (Q = false) := Lib.hid (by rw [hq.out, hx]; rfl)
      replace hx := Lib.hid hx
      go_wp2_with fail
      go_ret
      exact ⟨ret_bool hfin.out.symm, rfl⟩
    · have hfin : Hid (Q = Lc.hexB s[1]) := Lib.hid (by rw [hq.out, hx]; rfl)
      replace hx := Lib.hid hx
      go_wp2_with fail
      (refine (pHex_any s[1] _).mono ?_); rintro e w1 ⟨rfl, rfl⟩
      go_wp2_with fail
      go_ret
      exact ⟨ret_bool hfin.out.symm, rfl⟩
  · have hfin : Hid (Q = false) := Lib.hid (by
      rw [hQ]
      have hl := list_len s
      match h : s.data.toList with
      | [] => rfl
      | [c] => rfl
      | c :: d :: u => rw [h] at hl; simp at hl; omega)
    clear hQ
    go_wp2_with fail
    go_ret
    exact ⟨ret_bool hfin.out.symm, rfl⟩

set_option maxRecDepth 100000 in
set_option maxHeartbeats 3200000 in
theorem pSign_any (b : UInt8) (w : World) : Calls Tryz.prog 207 #[.int .u8 (b.toNat : Int)] w fun e w' => e = .returned (.bool (Lc.signB b)) ∧ w = w' := by
  obtain ⟨Q, hQ⟩ : ∃ Q, Q = Lc.signB b := ⟨_, rfl⟩
  rw [← hQ]
  have hm := Lib.hid (fun W => pOneOf_any b ⟨#[45, 46, 95, 126, 33, 36, 38, 39, 40, 41, 42, 43, 44, 59, 61, 58, 64]⟩ Lc.marks W rfl)
  unfold Lc.signB at hQ
  have hb := b.toNat_lt
  replace hQ := Lib.hid hQ
  go_enter Tryz.func207, Tryz.ntmps207
  go_wp2_with fail
  (refine (pLetter_any b _).mono ?_); rintro e w1 ⟨rfl, rfl⟩
  cases ha : Lc.alphaB b
  case true =>
    have hfin : Hid (Q = true) := Lib.hid (by rw [hQ.out, ha]; rfl)
    replace ha := Lib.hid ha
    go_wp2_with fail
    go_ret
    exact ⟨ret_bool hfin.out.symm, rfl⟩
  replace ha := Lib.hid ha
  go_wp2_with fail
  (refine (pDigit_any b _).mono ?_); rintro e w1 ⟨rfl, rfl⟩
  cases hd : Lc.digitB b
  case true =>
    have hfin : Hid (Q = true) := Lib.hid (by rw [hQ.out, ha.out, hd]; rfl)
    replace hd := Lib.hid hd
    go_wp2_with fail
    go_ret
    exact ⟨ret_bool hfin.out.symm, rfl⟩
  replace hd := Lib.hid hd
  by_cases h7 : 127 < b.toNat
  case pos =>
    have h7i : (127 : Int) < (b.toNat : Int) := by omega
    have h7b : decide ((127 : Int) < (b.toNat : Int)) = true := by simpa using h7i
    have hfin : Hid (Q = true) := Lib.hid (by rw [hQ.out, ha.out, hd.out, decide_eq_true h7]; rfl)
    go_wp2_with fail
    go_ret
    exact ⟨ret_bool hfin.out.symm, rfl⟩
  have h7i : ¬ (127 : Int) < (b.toNat : Int) := by omega
  have h7b : decide ((127 : Int) < (b.toNat : Int)) = false := by simpa using h7i
  have hfin : Hid (Q = Lc.has Lc.marks b) := Lib.hid (by rw [hQ.out, ha.out, hd.out, decide_eq_false h7]; rfl)
  go_wp2_with fail
  (refine (hm.out _).mono ?_); rintro e w1 ⟨rfl, rfl⟩
  go_wp2_with fail
  go_ret
  exact ⟨ret_bool hfin.out.symm, rfl⟩

theorem bytes_of_string (s : ByteArray) (w : World) : ∃ cap C, (convert 9 123 (.string s)).run Tryz.prog w = .ok (.slice (some ⟨w.heap.size, 0, none⟩) s.size cap) (w.drew.alloc (.cells C 5 (C.size, C.size + 1))) ∧
    ∀ j (h : j < s.size), (w.alloc (.cells C 5 (C.size, C.size + 1))).cell? ⟨w.heap.size, j, none⟩ = some (.int .u8 (s[j].toNat : Int)) :=
  ⟨_, _, run_bytes_of_string w 9 123 5 s Tryz.underlying9 Tryz.underlying123 Tryz.underlying5, fun j h => by
    rw [World.cell?_alloc_mark, bytesRow_at s _ j h]; rfl⟩
theorem below_text (w : World) (C : Array Value) (t : TypeId) : Below w.heap.size w ((w.alloc (.cells C t (C.size, C.size + 1))).drew) := ((Below.refl _ _).alloc (Nat.le_refl _) _).drew

set_option maxRecDepth 100000 in
set_option maxHeartbeats 12800000 in
theorem pOfSigns_any (s m : ByteArray) (more : List UInt8) (w : World) (hs : s.size ≤ 1000000) (hm : m.data.toList = more) (h37 : more.contains 37 = false) : Calls Tryz.prog 177 #[.string s, .string m] w fun e w' => e = .returned (.bool (Lc.signs more s.data.toList)) ∧ Below w.heap.size w w' := by
  obtain ⟨Q, hQ⟩ : ∃ Q, Q = Lc.signs more s.data.toList := ⟨_, rfl⟩
  rw [← hQ]
  replace hQ := Lib.hid hQ
  have hlen := Lib.hid (list_len s)
  have hmore := Lib.hid (fun c W => pOneOf_any c m more W hm)
  have hpair := Lib.hid (fun k W => pHexPair_any (s.extract k s.size) W (by unfold maxLen; rw [ByteArray.size_extract]; omega))
  replace h37 := Lib.hid h37
  clear hm
  obtain ⟨cap, C, hconv, hcell⟩ := bytes_of_string s w
  go_enter Tryz.func177, Tryz.ntmps177
  go_wp2_with fail
  go_loop [10] (fun i => ∃ k : Nat, k ≤ s.size ∧ i = .int .i64 k ∧ Hid (Q = Lc.signs more (s.data.toList.drop k))) (fun i => s.size - (intOf i).toNat)
  case atStart => exact ⟨0, Nat.zero_le _, rfl, Lib.hid (by rw [List.drop_zero]; exact hQ.out)⟩
  case round =>
    obtain ⟨k, hk, rfl, hq⟩ := hrel
    by_cases hlt : k < s.size
    · have hc := hcell k hlt
      have hb := (s[k]).toNat_lt
      have hst := Lib.hid (hq.out.trans ((congrArg (Lc.signs more) (lcons s k hlt)).trans (Lc.signs_step h37.out s[k] (s.data.toList.drop (k + 1)))))
      clear hcell hconv
      by_cases e37 : s[k] = 37
      · have hb1 : ((s[k].toNat : Int) == 37) = true := by rw [e37]; rfl
        have hb2 : ((s[k].toNat : Int) != 37) = false := by rw [e37]; rfl
        have hb3 : (s[k].toNat : Int) = 37 := by rw [e37]; rfl
        have hp := hpair.out (k + 1)
        rw [drop_list] at hp
        have hst2 : Hid (Q = (Lc.hexPair (s.data.toList.drop (k + 1)) && Lc.signs more (s.data.toList.drop (k + 1)))) := Lib.hid (by rw [hst.out, if_pos e37])
        generalize Lc.hexPair (s.data.toList.drop (k + 1)) = hx at *
        replace hp := Lib.hid hp
        replace hb3 := Lib.hid hb3
        replace e37 := Lib.hid e37
        clear hst
        have k1 : (k : Int) + 1 ≤ (s.size : Int) := by omega
        go_wp2_with fail
        (refine (hp.out _).mono ?_); rintro e w1 ⟨rfl, rfl⟩
        cases hx
        · have hfin : Hid (Q = false) := Lib.hid (by rw [hst2.out]; rfl)
          go_wp2_with fail
          go_ret
          exact ⟨ret_bool hfin.out.symm, below_text _ _ _⟩
        · have hnx : Hid (Q = Lc.signs more (s.data.toList.drop (k + 1))) := Lib.hid (by rw [hst2.out]; rfl)
          go_wp2_with fail
          go_round
          case rel => exact ⟨k + 1, by omega, by go_num, hnx⟩
          case measure => simp [intOf]; omega
      · have hb1 : ((s[k].toNat : Int) == 37) = false := by
          rw [beq_eq_false_iff_ne]
          exact fun e => e37 (UInt8.toNat_inj.1 (by have : (37 : UInt8).toNat = 37 := rfl; omega))
        have hb2 : ((s[k].toNat : Int) != 37) = true := by rw [bne, hb1]; rfl
        have hst2 : Hid (Q = (Lc.plainB more s[k] && Lc.signs more (s.data.toList.drop (k + 1)))) := Lib.hid (by rw [hst.out, if_neg e37])
        rw [Lc.plain_sign] at hst2
        replace e37 := Lib.hid e37
        clear hst
        go_wp2_with fail
        (refine (pSign_any s[k] _).mono ?_); rintro e w1 ⟨rfl, rfl⟩
        cases hx : Lc.signB s[k]
        case true =>
          have hnx : Hid (Q = Lc.signs more (s.data.toList.drop (k + 1))) := Lib.hid (by rw [hst2.out, hx]; simp)
          replace hx := Lib.hid hx
          go_wp2_with fail
          go_round
          case rel => exact ⟨k + 1, by omega, by go_num, hnx⟩
          case measure => simp [intOf]; omega
        replace hx := Lib.hid hx
        go_wp2_with fail
        (refine (hmore.out s[k] _).mono ?_); rintro e w1 ⟨rfl, rfl⟩
        cases hy : Lc.has more s[k]
        case true =>
          have hnx : Hid (Q = Lc.signs more (s.data.toList.drop (k + 1))) := Lib.hid (by rw [hst2.out, hy]; simp)
          replace hy := Lib.hid hy
          go_wp2_with fail
          go_round
          case rel => exact ⟨k + 1, by omega, by go_num, hnx⟩
          case measure => simp [intOf]; omega
        have hfin : Hid (Q = false) := Lib.hid (by rw [hst2.out, hx.out, hy]; rfl)
        replace hy := Lib.hid hy
        go_wp2_with fail
        go_ret
        exact ⟨ret_bool hfin.out.symm, below_text _ _ _⟩
    · have hfin : Hid (Q = true) := Lib.hid (by rw [hq.out, List.drop_of_length_le (by rw [hlen.out]; omega)]; rfl)
      go_wp2_with fail
      go_ret
      exact ⟨ret_bool hfin.out.symm, below_text _ _ _⟩

set_option maxRecDepth 100000 in
set_option maxHeartbeats 12800000 in
theorem pScheme_any (s : ByteArray) (w : World) (hs : s.size ≤ 1000000) : Calls Tryz.prog 176 #[.string s] w fun e w' => e = .returned (.bool (Lc.scheme s.data.toList)) ∧ Below w.heap.size w w' := by
  obtain ⟨Q, hQ⟩ : ∃ Q, Q = Lc.scheme s.data.toList := ⟨_, rfl⟩
  rw [← hQ]
  have hlen := Lib.hid (list_len s)
  have hmark := Lib.hid (fun c W => pOneOf_any c ⟨#[43, 45, 46]⟩ [43, 45, 46] W rfl)
  have hq0 : Hid (∀ h : 0 < s.size, Q = (Lc.alphaB s[0] && s.data.toList.all Lc.schB)) := Lib.hid (fun h => by
    rw [hQ]
    have := lcons s 0 h
    rw [List.drop_zero] at this
    rw [this]
    rfl)
  have hqn : Hid (s.size = 0 → Q = false) := Lib.hid (fun h => by
    obtain rfl : s = ByteArray.empty := ByteArray.size_eq_zero_iff.1 h
    exact hQ)
  clear hQ
  obtain ⟨cap, C, hconv, hcell⟩ := bytes_of_string s w
  go_enter Tryz.func176, Tryz.ntmps176
  go_wp2_with fail
  go_loop [8] (fun i => ∃ k : Nat, k ≤ s.size ∧ i = .int .i64 k ∧ Hid ((s.data.toList.take k).all Lc.schB = true) ∧ Hid (∀ _ : 0 < k, ∀ h : 0 < s.size, Lc.alphaB s[0] = true)) (fun i => s.size - (intOf i).toNat)
  case atStart => exact ⟨0, Nat.zero_le _, rfl, Lib.hid (by simp), Lib.hid (fun h => absurd h (by omega))⟩
  case round =>
    obtain ⟨k, hk, rfl, hall, hfst⟩ := hrel
    by_cases hlt : k < s.size
    · have hc := hcell k hlt
      have hb := (s[k]).toNat_lt
      have hnx : Hid (Lc.schB s[k] = true → (s.data.toList.take (k + 1)).all Lc.schB = true) := Lib.hid (fun h => by
        rw [all_take Lc.schB s.data.toList k (by rw [hlen.out]; exact hlt), hall.out]
        exact h)
      have hbad : Hid (Lc.schB s[k] = false → Q = false) := Lib.hid (fun h => by
        rw [hq0.out (by omega), Bool.eq_false_iff]
        intro e
        rw [Bool.and_eq_true] at e
        have := List.all_eq_true.1 e.2 (s.data.toList[k]'(by rw [hlen.out]; exact hlt)) (List.getElem_mem _)
        have e2 : s.data.toList[k]'(by rw [hlen.out]; exact hlt) = s[k] := rfl
        rw [e2, h] at this
        cases this)
      have hbad0 : Hid (∀ _ : k = 0, Lc.alphaB s[k] = false → Q = false) := Lib.hid (fun h0 h => by
        subst h0
        rw [hq0.out (by omega), h]
        rfl)
      have hkp : Hid (∀ _ : Lc.alphaB s[k] = true ∨ 0 < k, ∀ _ : 0 < k + 1, ∀ h : 0 < s.size, Lc.alphaB s[0] = true) := Lib.hid (fun h _ h0 => by
        by_cases e : k = 0
        · subst e
          rcases h with h | h
          · exact h
          · omega
        · exact hfst.out (by omega) h0)
      clear hcell hconv
      go_wp2_with fail
      (refine (pLetter_any s[k] _).mono ?_); rintro e w1 ⟨rfl, rfl⟩
      cases hx : Lc.alphaB s[k]
      case true =>
        have hn2 := Lib.hid (hnx.out (by unfold Lc.schB; rw [hx]; rfl))
        have hk2 := Lib.hid (hkp.out (.inl hx))
        replace hx := Lib.hid hx
        go_wp2_with fail
        go_round
        case rel => exact ⟨k + 1, by omega, by go_num, hn2, hk2⟩
        case measure => simp [intOf]; omega
      by_cases hk0 : k = 0
      · have hfin := Lib.hid (hbad0.out hk0 hx)
        have k0 : ((k : Int) == 0) = true := by rw [hk0]; rfl
        replace hk0 := Lib.hid hk0
        replace hx := Lib.hid hx
        go_wp2_with fail
        go_ret
        exact ⟨ret_bool hfin.out.symm, below_text _ _ _⟩
      have k0 : ((k : Int) == 0) = false := by rw [beq_eq_false_iff_ne]; omega
      have hk2 := Lib.hid (hkp.out (.inr (by omega)))
      replace hk0 := Lib.hid hk0
      replace hx := Lib.hid hx
      go_wp2_with fail
      (refine (pDigit_any s[k] _).mono ?_); rintro e w1 ⟨rfl, rfl⟩
      cases hd : Lc.digitB s[k]
      case true =>
        have hn2 := Lib.hid (hnx.out (by unfold Lc.schB; rw [hd]; simp))
        replace hd := Lib.hid hd
        go_wp2_with fail
        go_round
        case rel => exact ⟨k + 1, by omega, by go_num, hn2, hk2⟩
        case measure => simp [intOf]; omega
      replace hd := Lib.hid hd
      go_wp2_with fail
      (refine (hmark.out s[k] _).mono ?_); rintro e w1 ⟨rfl, rfl⟩
      cases hy : Lc.has [43, 45, 46] s[k]
      case true =>
        have hn2 := Lib.hid (hnx.out (by unfold Lc.schB; rw [hy]; simp))
        replace hy := Lib.hid hy
        go_wp2_with fail
        go_round
        case rel => exact ⟨k + 1, by omega, by go_num, hn2, hk2⟩
        case measure => simp [intOf]; omega
      have hfin := Lib.hid (hbad.out (by unfold Lc.schB; rw [hx.out, hd.out, hy]; rfl))
      replace hy := Lib.hid hy
      go_wp2_with fail
      go_ret
      exact ⟨ret_bool hfin.out.symm, below_text _ _ _⟩
    · by_cases h0 : s.size = 0
      · have hfin := Lib.hid (hqn.out h0)
        obtain rfl : s = ByteArray.empty := ByteArray.size_eq_zero_iff.1 h0
        have he : (ByteArray.empty.toList != []) = false := by rw [ByteArray.toList_eq]; rfl
        have he3 : (ByteArray.empty.toList == []) = true := by rw [ByteArray.toList_eq]; rfl
        have he2 : ByteArray.empty.toList = [] := by rw [ByteArray.toList_eq]; rfl
        clear hq0 hqn hfst hcell
        go_wp2_with fail
        go_ret
        exact ⟨ret_bool hfin.out.symm, below_text _ _ _⟩
      · have hp : 0 < s.size := by omega
        have hfin : Hid (Q = true) := Lib.hid (by rw [hq0.out hp, hfst.out (by omega) hp, ← hall.out, List.take_of_length_le (by rw [hlen.out]; omega)]; simp)
        have hne2 : (s.toList == []) = false := by
          rw [beq_eq_false_iff_ne]
          rw [ByteArray.toList_eq]
          exact lst_ne hp
        have hne3 : ¬ s.toList = [] := by
          rw [ByteArray.toList_eq]
          exact lst_ne hp
        have hne4 : (s.toList != []) = true := by rw [bne, hne2]; rfl
        clear hq0 hqn hfst hcell
        go_wp2_with fail
        go_ret
        exact ⟨ret_bool hfin.out.symm, below_text _ _ _⟩
end Go.Proofs.YtdhondndidoniaaGreatDoor
namespace Go.Proofs.YtdhondndidoniaaGreatDoor
open Go.RowKit

theorem valid_any (r : Int) (w : World) (h0 : 0 ≤ r) (h1 : r ≤ 1114111) : Calls Tryz.prog 218 #[.int .i32 r] w fun e w' => e = .returned (.bool (validRune r)) ∧ w = w' := by
  have hv : Hid (validRune r = decide (r < 55296 ∨ 57343 < r)) := Lib.hid (by
    unfold validRune
    by_cases h : r < 55296 ∨ 57343 < r
    · rw [decide_eq_true h]; simp; omega
    · rw [decide_eq_false h]; simp; omega)
  go_enter Tryz.func218, Tryz.ntmps218
  go_wp2
  all_goals
    go_ret
    refine ⟨ret_bool ?_, rfl⟩
    rw [hv.out]
    first
      | (rw [eq_comm, decide_eq_true_eq]; omega)
      | (rw [eq_comm, decide_eq_false_iff_not]; omega)

theorem index_none {l : List UInt8} {c : UInt8} (h : ∀ b ∈ l, b ≠ c) : Lib.indexByte l c = -1 := by
  have h1 := Lib.contains_iff_indexByte l c
  have h2 := Lib.indexByte_ge l c
  have h3 : l.contains c = false := by
    rw [Bool.eq_false_iff, Ne, List.contains_iff_mem]
    exact fun hm => h c hm rfl
  rw [h3] at h1
  have := of_decide_eq_false h1.symm
  omega
theorem iter_below (w : World) (s : ByteArray) (i : Nat) : Below w.heap.size w (w.iter s i) := (Below.refl _ _).alloc (Nat.le_refl _) _
set_option maxRecDepth 100000 in
set_option maxHeartbeats 3200000 in
/-- A code point from 128 on is none of a few ASCII bytes. -/
theorem runeNone_any (cs : ByteArray) (r : Int) (w : World) (h0 : 128 ≤ r) (h1 : r ≤ 1114111) (hz : cs.size = 4) (hc : ∀ b ∈ cs.data.toList, b.toNat < 128) :
    Calls Tryz.prog 191 #[.string cs, .int .i32 r] w fun e w' => e = .returned (.int .i64 (-1)) ∧ Below w.heap.size w w' := by
  replace hc := Lib.hid hc
  have hcb : Hid (∀ k (h : k < cs.size), (cs[k]).toNat < 128) := Lib.hid (fun k h => hc.out _ (by
    have : cs.data.toList[k]'(by rw [list_len]; exact h) = cs[k] := rfl
    rw [← this]; exact List.getElem_mem _))
  go_enter Tryz.func191, Tryz.ntmps191
  by_cases he : r = 65533
  · subst he
    replace hz := Lib.hid hz
    go_wp2_with fail
    go_loopg [5, 6] cs.size (fun g _ _ wx => ∃ i : Nat, i + g = cs.size ∧ wx = w.iter cs i)
    case atStart => exact ⟨0, by omega, rfl⟩
    case round =>
      obtain ⟨i, hig, rfl⟩ := hrel
      cases gk with
      | zero =>
        obtain rfl : i = cs.size := by omega
        have hnx := fun ty => run_next_end (P := Tryz.prog) w cs cs.size ty (by omega)
        go_wp2_with fail
        go_ret
        exact ⟨rfl, iter_below _ _ _⟩
      | succ g =>
        have hi : i < cs.size := by omega
        have hx := hcb.out i hi
        have hnx := fun ty => run_next_ascii (P := Tryz.prog) w cs i ty hi hx
        have hne : ((cs[i].toNat : Int) == 65533) = false := by rw [beq_eq_false_iff_ne]; omega
        go_wp2_with fail
        go_roundg g
        case measure => omega
        case rel => exact ⟨i + 1, by omega, rfl⟩
  · have heb : (r == 65533) = false := by rw [beq_eq_false_iff_ne]; exact he
    go_wp2_with fail
    (refine (valid_any r _ (by omega) h1).mono ?_); rintro e w1 ⟨rfl, rfl⟩
    cases hv : validRune r
    · replace hv := Lib.hid hv
      go_wp2_with fail
      go_ret
      exact ⟨rfl, Below.refl _ _⟩
    · obtain ⟨z1, z2, z3⟩ := encode_facts r ((validRune_eq r).trans hv) h0
      obtain ⟨rs, hrs⟩ : ∃ rs, rs = Utf8.encode r := ⟨_, rfl⟩
      rw [← hrs] at z1 z2 z3
      replace hrs := Lib.hid hrs
      replace hv := Lib.hid hv
      obtain ⟨n, hn⟩ : ∃ n, rs.size = n + 1 := ⟨rs.size - 1, by omega⟩
      have hn0 : n < rs.size := by omega
      have z4 : 128 ≤ (rs[n]'hn0).toNat := by
        have := z3 (by omega)
        have e : rs.size - 1 = n := by omega
        rw [← show rs[rs.size - 1]'(by omega) = rs[n]'hn0 from by congr]
        exact this
      have hconv : (convert 21 9 (.int .i32 r)).run Tryz.prog w = .ok (.string rs) w := by
        rw [hrs.out]
        exact run_convert_int_string w _ _ _ _ (by kernel_rfl) (by kernel_rfl)
      have n1 : 1 ≤ n := by omega
      have n2 : n ≤ 3 := by omega
      have hi : n < cs.size := by omega
      have hb := hcb.out n hi
      have hib : Hid (Lib.indexByte (cs.extract (n + 1) cs.size).data.toList (rs[n]'hn0) = -1) := Lib.hid (index_none fun b hb e => by
        have := hc.out b (mem_extract hb)
        rw [e] at this
        omega)
      have hbk : (((rs[n]'hn0).toNat : Int)).toNat.toUInt8 = rs[n]'hn0 := by simp
      have hne : ((cs[n].toNat : Int) != ((rs[n]'hn0).toNat : Int)) = true := by
        rw [bne, Bool.not_eq_true', beq_eq_false_iff_ne]
        omega
      have hi2 : (n : Int) + 1 ≤ (cs.size : Int) := by omega
      have hi3 : (n : Int) < (cs.size : Int) := by omega
      replace hz := Lib.hid hz
      have hlst : (rs.size : Int) - 1 = (n : Int) := by omega
      have hn1 : (n : Int) < (rs.size : Int) := by omega
      have hwr : IntKind.i64.wrap ((n : Int) + 1) = (n : Int) + 1 := wrap_small _ (by omega) (by omega)
      have hi0 : (0 : Int) ≤ (n : Int) + 1 := by omega
      replace hn := Lib.hid hn
      clear z1 z2 z3
      go_wp2_with fail
      refine wp_scope_straight ?_
      go_wp2_with fail
      refine wp_loop_rounds 1 ?_
      rw [rounds_succ]
      go_wp2_with fail
      refine wp_scope_straight ?_
      go_wp2_with fail
      go_quiet (fail)
      have b2 := Cells.below_drewN (Below.refl w.heap.size w) nq
      generalize w.drewN nq = w2 at *
      go_wp2_with fail
      go_quiet (exact Calls.quiet_of_same (Tryz.strings_IndexByte _ _ _))
      rw [hbk, hib.out]
      have b3 := b2.trans ((Cells.below_drewN (Below.refl w2.heap.size w2) nq).mono b2.size)
      go_wp2_with fail
      change bodyPost Tryz.prog Tryz.f191 (fun e w' => e = .returned (.int .i64 (-1)) ∧ Below w.heap.size w w') .ret _ _
      go_ret
      exact ⟨rfl, b3⟩

theorem NoAny_more {s chars : List UInt8} {i n : Nat} (h : Lib.NoAny s chars i) (hn : ∀ j, i ≤ j → j < i + n → ∀ b, s[j]? = some b → chars.contains b = false) : Lib.NoAny s chars (i + n) := fun j b hj hb => by
  by_cases e : j < i
  · exact h j b e hb
  · exact hn j (by omega) hj b hb
theorem big_none {chars : List UInt8} (hc : ∀ b ∈ chars, b.toNat < 128) {b : UInt8} (hb : 128 ≤ b.toNat) : chars.contains b = false := by
  rw [Bool.eq_false_iff, Ne, List.contains_iff_mem]
  exact fun hm => by have := hc b hm; omega
/-- The bytes of a code point that does not begin below 128 stand from 128 on. -/
theorem rune_bytes (s : ByteArray) (pos : Nat) (hp : pos < s.size) (hb : 128 ≤ (s[pos]).toNat) : 128 ≤ (Utf8.decode s pos).1 ∧ ∀ j, pos ≤ j → j < pos + (Utf8.decode s pos).2 → ∀ b, s.data.toList[j]? = some b → 128 ≤ b.toNat := by
  rw [Lib.decode_N]
  have h0 : (s.data.toList.getD pos 0).toNat = (s[pos]).toNat := by rw [getD_of s pos hp]
  obtain ⟨c1, c2, c3, c4⟩ := Lib.decodeN_conts (s.data.toList.length - pos) (s.data.toList.getD pos 0).toNat (s.data.toList.getD (pos + 1) 0).toNat (s.data.toList.getD (pos + 2) 0).toNat (s.data.toList.getD (pos + 3) 0).toNat
  refine ⟨?_, fun j h1 h2 b hj => ?_⟩
  · rcases Lib.decodeN_cases (s.data.toList.length - pos) (s.data.toList.getD pos 0).toNat (s.data.toList.getD (pos + 1) 0).toNat (s.data.toList.getD (pos + 2) 0).toNat (s.data.toList.getD (pos + 3) 0).toNat with h | h | h | h | h
    · omega
    · rw [h.2.2.2.2]; exact h.2.2.2.1
    · rw [h.2.2.2.2.2]; dsimp only; omega
    · omega
    · rw [h]; decide
  · have hd : ∀ k, s.data.toList[k]? = some b → s.data.toList.getD k 0 = b := fun k hk => by rw [List.getD_eq_getElem?_getD, hk]; rfl
    have e := hd j hj
    by_cases e0 : j = pos
    · subst e0; rw [← e, h0]; exact hb
    by_cases e1 : j = pos + 1
    · subst e1; have := (c1 (by omega)).1; rw [e] at this; omega
    by_cases e2 : j = pos + 2
    · subst e2; have := (c2 (by omega)).1; rw [e] at this; omega
    by_cases e3 : j = pos + 3
    · subst e3; have := (c3 (by omega)).1; rw [e] at this; omega
    omega

set_option maxRecDepth 100000 in
set_option maxHeartbeats 3200000 in
theorem indexAny_any (s cs : ByteArray) (w : World) (hs : s.size ≤ 1000000) (hz : cs.size = 4) (hc : ∀ b ∈ cs.data.toList, b.toNat < 128) :
    Calls Tryz.prog 173 #[.string s, .string cs] w fun e w' => e = .returned (.int .i64 (Lib.indexAny s.data.toList cs.data.toList)) ∧ Below w.heap.size w w' := by
  by_cases h8 : 8 < s.size
  · refine (Tryz.strings_IndexAny_long (zero_of_info (n := 256) (by kernel_rfl)).1 s cs w (by omega) h8 (by omega) (by omega) (fun j b hj => hc b (List.mem_of_getElem? hj))).mono ?_
    rintro e w' ⟨rfl, rfl⟩
    exact ⟨rfl, ((Below.refl _ _).alloc (Nat.le_refl _) _).alloc (by simp) _⟩
  · have hnone := Lib.hid (fun r W h0 h1 => runeNone_any cs r W h0 h1 hz hc)
    have hbig := Lib.hid (fun (b : UInt8) h => big_none (b := b) hc h)
    have hemp := ne_empty (s := cs) (by omega)
    have hn1 : ((cs.size : Int) == 1) = false := beq_eq_false_iff_ne.2 (by omega)
    have h8z : decide ((8 : Int) < (s.size : Int)) = false := decide_eq_false (by omega)
    clear hc hz
    go_enter Tryz.func173, Tryz.ntmps173
    go_wp2_with fail
    (refine (Tryz.strings_shouldUseASCIISet _ _).mono ?_); rintro e w1 ⟨rfl, hw⟩; obtain rfl := hw.symm
    rw [h8z]
    go_wp2_with fail
    go_loopw [9, 10] (fun _ _ wr => ∃ pos : Nat, pos ≤ s.size ∧ wr.heap[w.heap.size]? = some (.stringIter s pos) ∧ Hid (Lib.NoAny s.data.toList cs.data.toList pos) ∧ Below w.heap.size w wr) (fun _ _ wr => s.size - wr.iterPos w.heap.size)
    case atStart => exact ⟨0, Nat.zero_le _, World.iter_heap w s 0, Lib.hid (Lib.NoAny.zero _ _), (Below.refl _ _).alloc (Nat.le_refl _) _⟩
    case round =>
      obtain ⟨pos, hp, hk, hno, bw⟩ := hrel
      by_cases hlt : pos < s.size
      · have hnx : ∀ ty, (Instr.next (.pointer (some ⟨w.heap.size, 0, none⟩)) true ty).run Tryz.prog wr = _ := fun ty => Lib.run_next_any_at wr w.heap.size s pos ty hk hlt
        have hk2 := Lib.iterAt_heap wr w.heap.size s pos (pos + (Utf8.decode s pos).2) hk
        have b2 := Lib.below_iterAt bw (k := w.heap.size) (Nat.le_refl _) s (pos + (Utf8.decode s pos).2)
        by_cases h128 : 128 ≤ (s[pos]).toNat
        · obtain ⟨r1, r2⟩ := rune_bytes s pos hlt h128
          have r3 := Lib.rune_le s pos
          have r4 := Lib.width_pos s pos
          have r5 := Lib.decodeL_le (s.data.toList.drop pos) (by rw [lcons s pos hlt]; simp)
          rw [Lib.decodeL_drop, List.length_drop, list_len] at r5
          have hn2 := Lib.hid (NoAny_more hno.out fun j h1 h2 b hb => hbig.out b (r2 j h1 h2 b hb))
          clear r2 hno
          generalize Utf8.decode s pos = d at *
          obtain ⟨r, n⟩ := d
          dsimp only at *
          go_wp2_with fail
          (refine (hnone.out _ _ (by omega) (by omega)).mono ?_); rintro e w1 ⟨rfl, b3⟩
          have b4 := b2.trans (b3.mono b2.size)
          have hkl : w.heap.size < (wr.iterAt w.heap.size s (pos + n)).heap.size := (Array.getElem?_eq_some_iff.1 hk2).1
          have hk4 := (b3.block w.heap.size hkl).trans hk2
          go_wp2_with fail
          go_roundw
          case rel => exact ⟨pos + n, by omega, hk4, hn2, b4⟩
          case measure => simp [World.iterPos, hk4, hk]; omega
        · have hd : Utf8.decode s pos = ((s[pos]).toNat, 1) := by
            rw [Lib.decode_N, getD_of s pos hlt]
            exact Lib.decodeN_ascii _ _ _ _ _ (by omega)
          rw [hd] at hnx hk2 b2
          have hxl : s.data.toList[pos]? = some s[pos] := by rw [List.getElem?_eq_getElem (by rw [list_len]; exact hlt)]; rfl
          have hcon := Lib.contains_iff_indexByte cs.data.toList s[pos]
          have hback : ((s[pos].toNat : Int)).toNat.toUInt8 = s[pos] := by simp
          clear hd
          dsimp only at *
          cases hin : cs.data.toList.contains s[pos]
          · rw [hin] at hcon
            have hlt2 : ¬ ((0 : Int) ≤ Lib.indexByte cs.data.toList s[pos]) := of_decide_eq_false hcon.symm
            have hn2 := Lib.hid (hno.out.succ hxl hin)
            clear hcon hin hxl
            go_wp2_with fail
            (refine (Tryz.strings_IndexRune_ascii _ _ _ (by omega) (by omega)).mono ?_); rintro e w1 ⟨rfl, hw⟩; obtain rfl := hw.symm
            rw [hback]
            go_wp2_with fail
            go_roundw
            case rel => exact ⟨pos + 1, by omega, hk2, hn2, b2⟩
            case measure => simp [World.iterPos, hk2, hk]; omega
          · rw [hin] at hcon
            have hge : (0 : Int) ≤ Lib.indexByte cs.data.toList s[pos] := of_decide_eq_true hcon.symm
            have hfin := Lib.hid (Lib.indexAny_hit hno.out hxl hin)
            clear hcon hin hxl
            go_wp2_with fail
            (refine (Tryz.strings_IndexRune_ascii _ _ _ (by omega) (by omega)).mono ?_); rintro e w1 ⟨rfl, hw⟩; obtain rfl := hw.symm
            rw [hback]
            go_wp2_with fail
            go_ret
            exact ⟨ret_int hfin.out.symm, b2⟩
      · have hnx : ∀ ty, (Instr.next (.pointer (some ⟨w.heap.size, 0, none⟩)) true ty).run Tryz.prog wr = _ := fun ty => Lib.run_next_end_at wr w.heap.size s pos ty hk hlt
        obtain rfl : pos = s.size := by omega
        have hfin : Hid (Lib.indexAny s.data.toList cs.data.toList = -1) := Lib.hid (Lib.indexAny_none (by rw [list_len]; exact hno.out))
        go_wp2_with fail
        go_ret
        exact ⟨ret_int hfin.out.symm, bw⟩
end Go.Proofs.YtdhondndidoniaaGreatDoor
