/-
  What the program's own words of signs come to: letters, digits, one of a text, two digits of the base 16, signs; a scheme; a text of signs.
-/
import Derived.Test.YtmfmgbjkbadndaaLocMore
import Derived.Test.YtmfmgbjkbadndaaShelf
import Derived.Laws.IdiomStrings
import Derived.WalkSmall
namespace Go.Proofs.Ytmfmgbjkbadndaa
open Go.RowKit

namespace Lc
def signB (b : UInt8) : Bool := alphaB b || digitB b || decide (127 < b.toNat) || has marks b
theorem plain_sign (more : List UInt8) (b : UInt8) : plainB more b = (signB b || has more b) := rfl
end Lc
set_option maxRecDepth 100000 in
set_option maxHeartbeats 3200000 in
theorem pLetter_any (b : UInt8) (w : World) : Calls Try.prog 66 #[.int .u8 (b.toNat : Int)] w fun e w' => e = .returned (.bool (Lc.alphaB b)) ∧ w = w' := by
  obtain ⟨Q, hQ⟩ : ∃ Q, Q = Lc.alphaB b := ⟨_, rfl⟩
  rw [← hQ]
  unfold Lc.alphaB at hQ
  have hb := b.toNat_lt
  generalize b.toNat = n at *
  replace hQ := Lib.hid hQ
  go_enter Try.func66, Try.ntmps66
  go_wp2
  all_goals
      go_ret
      refine ⟨ret_bool ?_, rfl⟩
      rw [hQ.out]
      first
        | (rw [eq_comm, decide_eq_true_eq]; omega)
        | (rw [eq_comm, decide_eq_false_iff_not]; omega)
        | (rw [Bool.eq_iff_iff]; simp only [Bool.or_eq_true, decide_eq_true_eq]; omega)

set_option maxRecDepth 100000 in
set_option maxHeartbeats 3200000 in
theorem pDigit_any (b : UInt8) (w : World) : Calls Try.prog 67 #[.int .u8 (b.toNat : Int)] w fun e w' => e = .returned (.bool (Lc.digitB b)) ∧ w = w' := by
  obtain ⟨Q, hQ⟩ : ∃ Q, Q = Lc.digitB b := ⟨_, rfl⟩
  rw [← hQ]
  unfold Lc.digitB at hQ
  have hb := b.toNat_lt
  generalize b.toNat = n at *
  replace hQ := Lib.hid hQ
  go_enter Try.func67, Try.ntmps67
  go_wp2
  all_goals
      go_ret
      refine ⟨ret_bool ?_, rfl⟩
      rw [hQ.out]
      first
        | (rw [eq_comm, decide_eq_true_eq]; omega)
        | (rw [eq_comm, decide_eq_false_iff_not]; omega)
        | (rw [Bool.eq_iff_iff]; simp only [decide_eq_true_eq]; omega)

set_option maxRecDepth 100000 in
set_option maxHeartbeats 3200000 in
theorem pHex_any (b : UInt8) (w : World) : Calls Try.prog 81 #[.int .u8 (b.toNat : Int)] w fun e w' => e = .returned (.bool (Lc.hexB b)) ∧ w = w' := by
  obtain ⟨Q, hQ⟩ : ∃ Q, Q = Lc.hexB b := ⟨_, rfl⟩
  rw [← hQ]
  unfold Lc.hexB at hQ
  obtain ⟨D, hD⟩ : ∃ D, D = Lc.digitB b := ⟨_, rfl⟩
  have hd := pDigit_any b
  rw [← hD] at hd
  unfold Lc.digitB at hD
  have hb := b.toNat_lt
  generalize b.toNat = n at *
  replace hQ := Lib.hid hQ
  replace hD := Lib.hid hD
  replace hd := Lib.hid hd
  go_enter Try.func81, Try.ntmps81
  go_wp2_with fail
  (refine (hd.out _).mono ?_); rintro e w1 ⟨rfl, rfl⟩
  cases D
  · have hn : ¬ (48 ≤ n ∧ n ≤ 57) := of_decide_eq_false hD.out.symm
    clear hD
    go_wp2
    all_goals
      go_ret
      refine ⟨ret_bool ?_, rfl⟩
      rw [hQ.out]
      first
        | (rw [eq_comm, decide_eq_true_eq]; omega)
        | (rw [eq_comm, decide_eq_false_iff_not]; omega)
        | (rw [Bool.eq_iff_iff]; simp only [Bool.or_eq_true, decide_eq_true_eq]; omega)
  · have hn : 48 ≤ n ∧ n ≤ 57 := of_decide_eq_true hD.out.symm
    clear hD
    go_wp2
    all_goals
      go_ret
      refine ⟨ret_bool ?_, rfl⟩
      rw [hQ.out]
      first
        | (rw [eq_comm, decide_eq_true_eq]; omega)
        | (rw [eq_comm, decide_eq_false_iff_not]; omega)
        | (rw [Bool.eq_iff_iff]; simp only [Bool.or_eq_true, Bool.and_eq_true, decide_eq_true_eq]; omega)

set_option maxRecDepth 100000 in
set_option maxHeartbeats 3200000 in
theorem pOneOf_any (c : UInt8) (m : ByteArray) (l : List UInt8) (w : World) (hl : m.data.toList = l) : Calls Try.prog 68 #[.int .u8 (c.toNat : Int), .string m] w fun e w' => e = .returned (.bool (Lc.has l c)) ∧ w = w' := by
  subst hl
  have hb : ((c.toNat : Int)).toNat.toUInt8 = c := by simp
  have hcon := Lib.hid (Lib.contains_iff_indexByte m.data.toList c)
  go_enter Try.func68, Try.ntmps68
  go_wp2_with fail
  (refine (Try.strings_IndexByte m _ _).mono ?_); rintro e w1 ⟨rfl, rfl⟩
  rw [hb]
  generalize Lib.indexByte m.data.toList c = i at *
  go_wp2_with fail
  go_ret
  exact ⟨ret_bool hcon.out.symm, rfl⟩

set_option maxRecDepth 100000 in
set_option maxHeartbeats 3200000 in
theorem pHexPair_any (s : ByteArray) (w : World) (hs : s.size ≤ maxLen) : Calls Try.prog 69 #[.string s] w fun e w' => e = .returned (.bool (Lc.hexPair s.data.toList)) ∧ w = w' := by
  have hsm : s.size ≤ 9223372036854775807 := hs
  obtain ⟨Q, hQ⟩ : ∃ Q, Q = Lc.hexPair s.data.toList := ⟨_, rfl⟩
  rw [← hQ]
  go_enter Try.func69, Try.ntmps69
  by_cases h2 : 2 ≤ s.size
  · have h0 : 0 < s.size := by omega
    have h1 : 1 < s.size := by omega
    have hq : Hid (Q = (Lc.hexB s[0] && Lc.hexB s[1])) := Lib.hid (by
      have e := lcons s 0 h0
      rw [List.drop_zero, lcons s (0 + 1) h1] at e
      rw [hQ, e]
      rfl)
    clear hQ
    go_wp2_with fail
    (refine (pHex_any s[0] _).mono ?_); rintro e w1 ⟨rfl, rfl⟩
    cases hx : Lc.hexB s[0]
    · have hfin : Hid (Q = false) := Lib.hid (by rw [hq.out, hx]; rfl)
      replace hx := Lib.hid hx
      go_wp2_with fail
      go_ret
      exact ⟨ret_bool hfin.out.symm, rfl⟩
    · have hfin : Hid (Q = Lc.hexB s[1]) := Lib.hid (by rw [hq.out, hx]; rfl)
      replace hx := Lib.hid hx
      go_wp2_with fail
      (refine (pHex_any s[1] _).mono ?_); rintro e w1 ⟨rfl, rfl⟩
      go_wp2_with fail
      go_ret
      exact ⟨ret_bool hfin.out.symm, rfl⟩
  · have hfin : Hid (Q = false) := Lib.hid (by
      rw [hQ]
      have hl := list_len s
      match h : s.data.toList with
      | [] => rfl
      | [c] => rfl
      | c :: d :: u => rw [h] at hl; simp at hl; omega)
    clear hQ
    go_wp2_with fail
    go_ret
    exact ⟨ret_bool hfin.out.symm, rfl⟩

set_option maxRecDepth 100000 in
set_option maxHeartbeats 3200000 in
theorem pSign_any (b : UInt8) (w : World) : Calls Try.prog 70 #[.int .u8 (b.toNat : Int)] w fun e w' => e = .returned (.bool (Lc.signB b)) ∧ w = w' := by
  obtain ⟨Q, hQ⟩ : ∃ Q, Q = Lc.signB b := ⟨_, rfl⟩
  rw [← hQ]
  have hm := Lib.hid (fun W => pOneOf_any b ⟨#[45, 46, 95, 126, 33, 36, 38, 39, 40, 41, 42, 43, 44, 59, 61, 58, 64]⟩ Lc.marks W rfl)
  unfold Lc.signB at hQ
  have hb := b.toNat_lt
  replace hQ := Lib.hid hQ
  go_enter Try.func70, Try.ntmps70
  go_wp2_with fail
  (refine (pLetter_any b _).mono ?_); rintro e w1 ⟨rfl, rfl⟩
  cases ha : Lc.alphaB b
  case true =>
    have hfin : Hid (Q = true) := Lib.hid (by rw [hQ.out, ha]; rfl)
    replace ha := Lib.hid ha
    go_wp2_with fail
    go_ret
    exact ⟨ret_bool hfin.out.symm, rfl⟩
  replace ha := Lib.hid ha
  go_wp2_with fail
  (refine (pDigit_any b _).mono ?_); rintro e w1 ⟨rfl, rfl⟩
  cases hd : Lc.digitB b
  case true =>
    have hfin : Hid (Q = true) := Lib.hid (by rw [hQ.out, ha.out, hd]; rfl)
    replace hd := Lib.hid hd
    go_wp2_with fail
    go_ret
    exact ⟨ret_bool hfin.out.symm, rfl⟩
  replace hd := Lib.hid hd
  by_cases h7 : 127 < b.toNat
  case pos =>
    have h7i : (127 : Int) < (b.toNat : Int) := by omega
    have h7b : decide ((127 : Int) < (b.toNat : Int)) = true := by simpa using h7i
    have hfin : Hid (Q = true) := Lib.hid (by rw [hQ.out, ha.out, hd.out, decide_eq_true h7]; rfl)
    go_wp2_with fail
    go_ret
    exact ⟨ret_bool hfin.out.symm, rfl⟩
  have h7i : ¬ (127 : Int) < (b.toNat : Int) := by omega
  have h7b : decide ((127 : Int) < (b.toNat : Int)) = false := by simpa using h7i
  have hfin : Hid (Q = Lc.has Lc.marks b) := Lib.hid (by rw [hQ.out, ha.out, hd.out, decide_eq_false h7]; rfl)
  go_wp2_with fail
  (refine (hm.out _).mono ?_); rintro e w1 ⟨rfl, rfl⟩
  go_wp2_with fail
  go_ret
  exact ⟨ret_bool hfin.out.symm, rfl⟩

theorem bytes_of_string (s : ByteArray) (w : World) : ∃ cap C, (convert 9 36 (.string s)).run Try.prog w = .ok (.slice (some ⟨w.heap.size, 0, none⟩) s.size cap) (w.drew.alloc (.cells C 5 (C.size, C.size + 1))) ∧
    ∀ j (h : j < s.size), (w.alloc (.cells C 5 (C.size, C.size + 1))).cell? ⟨w.heap.size, j, none⟩ = some (.int .u8 (s[j].toNat : Int)) :=
  ⟨_, _, run_bytes_of_string w 9 36 5 s Try.underlying9 Try.underlying36 Try.underlying5, fun j h => by
    rw [World.cell?_alloc_mark, bytesRow_at s _ j h]; rfl⟩
theorem below_text (w : World) (C : Array Value) (t : TypeId) : Below w.heap.size w ((w.alloc (.cells C t (C.size, C.size + 1))).drew) := ((Below.refl _ _).alloc (Nat.le_refl _) _).drew

set_option maxRecDepth 100000 in
set_option maxHeartbeats 12800000 in
theorem pOfSigns_any (s m : ByteArray) (more : List UInt8) (w : World) (hs : s.size ≤ 1000000) (hm : m.data.toList = more) (h37 : more.contains 37 = false) : Calls Try.prog 46 #[.string s, .string m] w fun e w' => e = .returned (.bool (Lc.signs more s.data.toList)) ∧ Below w.heap.size w w' := by
  obtain ⟨Q, hQ⟩ : ∃ Q, Q = Lc.signs more s.data.toList := ⟨_, rfl⟩
  rw [← hQ]
  replace hQ := Lib.hid hQ
  have hlen := Lib.hid (list_len s)
  have hmore := Lib.hid (fun c W => pOneOf_any c m more W hm)
  have hpair := Lib.hid (fun k W => pHexPair_any (s.extract k s.size) W (by unfold maxLen; rw [ByteArray.size_extract]; omega))
  replace h37 := Lib.hid h37
  clear hm
  obtain ⟨cap, C, hconv, hcell⟩ := bytes_of_string s w
  go_enter Try.func46, Try.ntmps46
  go_wp2_with fail
  go_loop [10] (fun i => ∃ k : Nat, k ≤ s.size ∧ i = .int .i64 k ∧ Hid (Q = Lc.signs more (s.data.toList.drop k))) (fun i => s.size - (intOf i).toNat)
  case atStart => exact ⟨0, Nat.zero_le _, rfl, Lib.hid (by rw [List.drop_zero]; exact hQ.out)⟩
  case round =>
    obtain ⟨k, hk, rfl, hq⟩ := hrel
    by_cases hlt : k < s.size
    · have hc := hcell k hlt
      have hb := (s[k]).toNat_lt
      have hst := Lib.hid (hq.out.trans ((congrArg (Lc.signs more) (lcons s k hlt)).trans (Lc.signs_step h37.out s[k] (s.data.toList.drop (k + 1)))))
      clear hcell hconv
      by_cases e37 : s[k] = 37
      · have hb1 : ((s[k].toNat : Int) == 37) = true := by rw [e37]; rfl
        have hb2 : ((s[k].toNat : Int) != 37) = false := by rw [e37]; rfl
        have hb3 : (s[k].toNat : Int) = 37 := by rw [e37]; rfl
        have hp := hpair.out (k + 1)
        rw [drop_list] at hp
        have hst2 : Hid (Q = (Lc.hexPair (s.data.toList.drop (k + 1)) && Lc.signs more (s.data.toList.drop (k + 1)))) := Lib.hid (by rw [hst.out, if_pos e37])
        generalize Lc.hexPair (s.data.toList.drop (k + 1)) = hx at *
        replace hp := Lib.hid hp
        replace hb3 := Lib.hid hb3
        replace e37 := Lib.hid e37
        clear hst
        have k1 : (k : Int) + 1 ≤ (s.size : Int) := by omega
        go_wp2_with fail
        (refine (hp.out _).mono ?_); rintro e w1 ⟨rfl, rfl⟩
        cases hx
        · have hfin : Hid (Q = false) := Lib.hid (by rw [hst2.out]; rfl)
          go_wp2_with fail
          go_ret
          exact ⟨ret_bool hfin.out.symm, below_text _ _ _⟩
        · have hnx : Hid (Q = Lc.signs more (s.data.toList.drop (k + 1))) := Lib.hid (by rw [hst2.out]; rfl)
          go_wp2_with fail
          go_round
          case rel => exact ⟨k + 1, by omega, by go_num, hnx⟩
          case measure => simp [intOf]; omega
      · have hb1 : ((s[k].toNat : Int) == 37) = false := by
          rw [beq_eq_false_iff_ne]
          exact fun e => e37 (UInt8.toNat_inj.1 (by have : (37 : UInt8).toNat = 37 := rfl; omega))
        have hb2 : ((s[k].toNat : Int) != 37) = true := by rw [bne, hb1]; rfl
        have hst2 : Hid (Q = (Lc.plainB more s[k] && Lc.signs more (s.data.toList.drop (k + 1)))) := Lib.hid (by rw [hst.out, if_neg e37])
        rw [Lc.plain_sign] at hst2
        replace e37 := Lib.hid e37
        clear hst
        go_wp2_with fail
        (refine (pSign_any s[k] _).mono ?_); rintro e w1 ⟨rfl, rfl⟩
        cases hx : Lc.signB s[k]
        case true =>
          have hnx : Hid (Q = Lc.signs more (s.data.toList.drop (k + 1))) := Lib.hid (by rw [hst2.out, hx]; simp)
          replace hx := Lib.hid hx
          go_wp2_with fail
          go_round
          case rel => exact ⟨k + 1, by omega, by go_num, hnx⟩
          case measure => simp [intOf]; omega
        replace hx := Lib.hid hx
        go_wp2_with fail
        (refine (hmore.out s[k] _).mono ?_); rintro e w1 ⟨rfl, rfl⟩
        cases hy : Lc.has more s[k]
        case true =>
          have hnx : Hid (Q = Lc.signs more (s.data.toList.drop (k + 1))) := Lib.hid (by rw [hst2.out, hy]; simp)
          replace hy := Lib.hid hy
          go_wp2_with fail
          go_round
          case rel => exact ⟨k + 1, by omega, by go_num, hnx⟩
          case measure => simp [intOf]; omega
        have hfin : Hid (Q = false) := Lib.hid (by rw [hst2.out, hx.out, hy]; rfl)
        replace hy := Lib.hid hy
        go_wp2_with fail
        go_ret
        exact ⟨ret_bool hfin.out.symm, below_text _ _ _⟩
    · have hfin : Hid (Q = true) := Lib.hid (by rw [hq.out, List.drop_of_length_le (by rw [hlen.out]; omega)]; rfl)
      go_wp2_with fail
      go_ret
      exact ⟨ret_bool hfin.out.symm, below_text _ _ _⟩

theorem Lc.scheme_cons {b : UInt8} {t : List UInt8} : Lc.scheme (b :: t) = (Lc.alphaB b && (b :: t).all Lc.schB) := rfl
set_option maxRecDepth 100000 in
set_option maxHeartbeats 12800000 in
theorem pScheme_any (s : ByteArray) (w : World) (hs : s.size ≤ 1000000) : Calls Try.prog 45 #[.string s] w fun e w' => e = .returned (.bool (Lc.scheme s.data.toList)) ∧ Below w.heap.size w w' := by
  obtain ⟨Q, hQ⟩ : ∃ Q, Q = Lc.scheme s.data.toList := ⟨_, rfl⟩
  rw [← hQ]
  have hlen := Lib.hid (list_len s)
  have hmark := Lib.hid (fun c W => pOneOf_any c ⟨#[43, 45, 46]⟩ [43, 45, 46] W rfl)
  have hq0 : Hid (∀ h : 0 < s.size, Q = (Lc.alphaB s[0] && s.data.toList.all Lc.schB)) := Lib.hid (fun h => by
    rw [hQ]
    have := lcons s 0 h
    rw [List.drop_zero] at this
    rw [this]
    rfl)
  have hqn : Hid (s.size = 0 → Q = false) := Lib.hid (fun h => by
    obtain rfl : s = ByteArray.empty := ByteArray.size_eq_zero_iff.1 h
    exact hQ)
  clear hQ
  obtain ⟨cap, C, hconv, hcell⟩ := bytes_of_string s w
  go_enter Try.func45, Try.ntmps45
  go_wp2_with fail
  go_loop [8] (fun i => ∃ k : Nat, k ≤ s.size ∧ i = .int .i64 k ∧ Hid ((s.data.toList.take k).all Lc.schB = true) ∧ Hid (∀ _ : 0 < k, ∀ h : 0 < s.size, Lc.alphaB s[0] = true)) (fun i => s.size - (intOf i).toNat)
  case atStart => exact ⟨0, Nat.zero_le _, rfl, Lib.hid (by simp), Lib.hid (fun h => absurd h (by omega))⟩
  case round =>
    obtain ⟨k, hk, rfl, hall, hfst⟩ := hrel
    by_cases hlt : k < s.size
    · have hc := hcell k hlt
      have hb := (s[k]).toNat_lt
      have hnx : Hid (Lc.schB s[k] = true → (s.data.toList.take (k + 1)).all Lc.schB = true) := Lib.hid (fun h => by
        rw [all_take Lc.schB s.data.toList k (by rw [hlen.out]; exact hlt), hall.out]
        exact h)
      have hbad : Hid (Lc.schB s[k] = false → Q = false) := Lib.hid (fun h => by
        rw [hq0.out (by omega), Bool.eq_false_iff]
        intro e
        rw [Bool.and_eq_true] at e
        have := List.all_eq_true.1 e.2 (s.data.toList[k]'(by rw [hlen.out]; exact hlt)) (List.getElem_mem _)
        have e2 : s.data.toList[k]'(by rw [hlen.out]; exact hlt) = s[k] := rfl
        rw [e2, h] at this
        cases this)
      have hbad0 : Hid (∀ _ : k = 0, Lc.alphaB s[k] = false → Q = false) := Lib.hid (fun h0 h => by
        subst h0
        rw [hq0.out (by omega), h]
        rfl)
      have hkp : Hid (∀ _ : Lc.alphaB s[k] = true ∨ 0 < k, ∀ _ : 0 < k + 1, ∀ h : 0 < s.size, Lc.alphaB s[0] = true) := Lib.hid (fun h _ h0 => by
        by_cases e : k = 0
        · subst e
          rcases h with h | h
          · exact h
          · omega
        · exact hfst.out (by omega) h0)
      clear hcell hconv
      go_wp2_with fail
      (refine (pLetter_any s[k] _).mono ?_); rintro e w1 ⟨rfl, rfl⟩
      cases hx : Lc.alphaB s[k]
      case true =>
        have hn2 := Lib.hid (hnx.out (by unfold Lc.schB; rw [hx]; rfl))
        have hk2 := Lib.hid (hkp.out (.inl hx))
        replace hx := Lib.hid hx
        go_wp2_with fail
        go_round
        case rel => exact ⟨k + 1, by omega, by go_num, hn2, hk2⟩
        case measure => simp [intOf]; omega
      by_cases hk0 : k = 0
      · have hfin := Lib.hid (hbad0.out hk0 hx)
        have k0 : ((k : Int) == 0) = true := by rw [hk0]; rfl
        replace hk0 := Lib.hid hk0
        replace hx := Lib.hid hx
        go_wp2_with fail
        go_ret
        exact ⟨ret_bool hfin.out.symm, below_text _ _ _⟩
      have k0 : ((k : Int) == 0) = false := by rw [beq_eq_false_iff_ne]; omega
      have hk2 := Lib.hid (hkp.out (.inr (by omega)))
      replace hk0 := Lib.hid hk0
      replace hx := Lib.hid hx
      go_wp2_with fail
      (refine (pDigit_any s[k] _).mono ?_); rintro e w1 ⟨rfl, rfl⟩
      cases hd : Lc.digitB s[k]
      case true =>
        have hn2 := Lib.hid (hnx.out (by unfold Lc.schB; rw [hd]; simp))
        replace hd := Lib.hid hd
        go_wp2_with fail
        go_round
        case rel => exact ⟨k + 1, by omega, by go_num, hn2, hk2⟩
        case measure => simp [intOf]; omega
      replace hd := Lib.hid hd
      go_wp2_with fail
      (refine (hmark.out s[k] _).mono ?_); rintro e w1 ⟨rfl, rfl⟩
      cases hy : Lc.has [43, 45, 46] s[k]
      case true =>
        have hn2 := Lib.hid (hnx.out (by unfold Lc.schB; rw [hy]; simp))
        replace hy := Lib.hid hy
        go_wp2_with fail
        go_round
        case rel => exact ⟨k + 1, by omega, by go_num, hn2, hk2⟩
        case measure => simp [intOf]; omega
      have hfin := Lib.hid (hbad.out (by unfold Lc.schB; rw [hx.out, hd.out, hy]; rfl))
      replace hy := Lib.hid hy
      go_wp2_with fail
      go_ret
      exact ⟨ret_bool hfin.out.symm, below_text _ _ _⟩
    · by_cases h0 : s.size = 0
      · have hfin := Lib.hid (hqn.out h0)
        obtain rfl : s = ByteArray.empty := ByteArray.size_eq_zero_iff.1 h0
        have he : (ByteArray.empty.toList != []) = false := by rw [ByteArray.toList_eq]; rfl
        have he3 : (ByteArray.empty.toList == []) = true := by rw [ByteArray.toList_eq]; rfl
        have he2 : ByteArray.empty.toList = [] := by rw [ByteArray.toList_eq]; rfl
        clear hq0 hqn hfst hcell
        go_wp2_with fail
        go_ret
        exact ⟨ret_bool hfin.out.symm, below_text _ _ _⟩
      · have hp : 0 < s.size := by omega
        have hfin : Hid (Q = true) := Lib.hid (by rw [hq0.out hp, hfst.out (by omega) hp, ← hall.out, List.take_of_length_le (by rw [hlen.out]; omega)]; simp)
        have hne2 : (s.toList == []) = false := by
          rw [beq_eq_false_iff_ne]
          rw [ByteArray.toList_eq]
          exact lst_ne hp
        have hne3 : ¬ s.toList = [] := by
          rw [ByteArray.toList_eq]
          exact lst_ne hp
        have hne4 : (s.toList != []) = true := by rw [bne, hne2]; rfl
        clear hq0 hqn hfst hcell
        go_wp2_with fail
        go_ret
        exact ⟨ret_bool hfin.out.symm, below_text _ _ _⟩
end Go.Proofs.Ytmfmgbjkbadndaa
