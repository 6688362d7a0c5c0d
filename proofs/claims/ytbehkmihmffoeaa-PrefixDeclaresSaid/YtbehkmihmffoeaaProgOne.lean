/-
  What the program's own isOneOf, mayBind, declared come to.
-/
import Derived.Test.YtbehkmihmffoeaaProgSplit
namespace Go.Proofs.Ytbehkmihmffoeaa
open Go.RowKit

/-- Where a text stands in a row of texts. -/
def Cu.at (L : List ByteArray) (s : ByteArray) : Bool := L.any (fun x => decide (s = x))

set_option maxRecDepth 100000 in
set_option maxHeartbeats 1600000 in
theorem index_any (L : List ByteArray) (s : ByteArray) (b n cap : Nat) (w : World) (hL : StrsAt b L w) (hn : n ≤ 1000) (hln : L.length = n) :
    Calls Try.prog 47 #[.slice (some ⟨b, 0, none⟩) n cap, .string s] w fun e w' => (∃ i : Int, e = .returned (.int .i64 i) ∧ (0 ≤ i ↔ Cu.at L s = true)) ∧ Below w.heap.size w w' := by
  have hln := Lib.hid hln
  go_enter Try.func47, Try.ntmps47
  go_wp2_with fail
  go_loopw [5, 8] (fun _ i wr => ∃ k : Nat, k ≤ n ∧ i = .int .i64 (k : Int) ∧ Hid (Cu.at (L.take k) s = false) ∧ Below w.heap.size w wr) (fun _ i _ => n - (intOf i).toNat)
  case atStart => exact ⟨0, Nat.zero_le _, rfl, Lib.hid rfl, Below.refl _ _⟩
  case round =>
    obtain ⟨k, hk, rfl, hall, bw⟩ := hrel
    by_cases hlt : k < n
    · have hkl : k < L.length := by rw [hln.out]; exact hlt
      have c0 := hL k hkl
      have c1 := (bw.cell (World.block_lt_of_cell? w _ c0)).trans c0
      have ht : L.take (k + 1) = L.take k ++ [L[k]] := by rw [List.take_succ_eq_append_getElem hkl]
      have hst : Cu.at (L.take (k + 1)) s = (Cu.at (L.take k) s || decide (s = L[k])) := by rw [ht]; unfold Cu.at; rw [List.any_append]; simp only [List.any_cons, List.any_nil, Bool.or_false]
      have hwh : s = L[k] → Cu.at L s = true := fun e => by
        unfold Cu.at
        rw [List.any_eq_true]
        exact ⟨_, List.getElem_mem hkl, by simp [e]⟩
      rw [hall.out, Bool.false_or] at hst
      generalize L[k] = x at *
      clear ht c0
      by_cases hx : s = x
      · have q1 : (s.toList == x.toList) = true := by rw [hx]; exact beq_self_eq_true _
        have hr := Lib.hid (hwh hx)
        clear hst hwh hx hall
        go_wp2
        go_ret
        exact ⟨⟨_, rfl, by rw [hr.out]; simp⟩, bw⟩
      · have q1 := var_ne hx
        have hr := Lib.hid (hst.trans (decide_eq_false hx))
        clear hst hwh hx hall
        go_wp2
        go_roundw
        case rel => exact ⟨k + 1, by omega, by go_num, hr, bw⟩
        case measure => simp [intOf] <;> omega
    · have hfull : L.take k = L := List.take_of_length_le (by rw [hln.out]; omega)
      rw [hfull] at hall
      clear hfull
      go_wp2
      go_ret
      exact ⟨⟨_, rfl, by rw [hall.out]; simp⟩, bw⟩

set_option maxRecDepth 100000 in
set_option maxHeartbeats 1600000 in
theorem contains_any (L : List ByteArray) (s : ByteArray) (b n cap : Nat) (w : World) (hL : StrsAt b L w) (hn : n ≤ 1000) (hln : L.length = n) :
    Calls Try.prog 38 #[.slice (some ⟨b, 0, none⟩) n cap, .string s] w fun e w' => e = .returned (.bool (Cu.at L s)) ∧ Below w.heap.size w w' := by
  have hln := Lib.hid hln
  go_enter Try.func38, Try.ntmps38
  go_wp2_with fail
  (with_reducible refine (index_any L s b n cap _ hL hn hln.out).mono ?_); rintro e w1 ⟨⟨i, rfl, hi⟩, b1⟩
  cases hc : Cu.at L s
  · have h0 : ¬ (0 : Int) ≤ i := by rw [hi, hc]; simp
    replace hc := Lib.hid hc
    clear hi
    go_wp2
    go_ret
    exact ⟨ret_bool (by rw [hc.out]; simpa using h0), b1⟩
  · have h0 : (0 : Int) ≤ i := by rw [hi, hc]
    replace hc := Lib.hid hc
    clear hi
    go_wp2
    go_ret
    exact ⟨ret_bool hc.out.symm, b1⟩

set_option maxRecDepth 100000 in
set_option maxHeartbeats 1600000 in
theorem isOneOf_any (L : List ByteArray) (s : ByteArray) (b n cap : Nat) (w : World) (hL : StrsAt b L w) (hn : n ≤ 1000) (hln : L.length = n) :
    Calls Try.prog 28 #[.string s, .slice (some ⟨b, 0, none⟩) n cap] w fun e w' => e = .returned (.bool (Cu.at L s)) ∧ Below w.heap.size w w' := by
  have hln := Lib.hid hln
  go_enter Try.func28, Try.ntmps28
  go_wp2_with fail
  (with_reducible refine (contains_any L s b n cap _ hL hn hln.out).mono ?_); rintro e w1 ⟨rfl, b1⟩
  go_wp2
  go_ret
  exact ⟨rfl, b1⟩

set_option maxRecDepth 100000 in
set_option maxHeartbeats 3200000 in
theorem mayBind_any (p v : ByteArray) (w : World) :
    Calls Try.prog 21 #[.string p, .string v] w fun e w' => e = .returned (.bool (P.bound p v)) ∧ Below w.heap.size w w' := by
  go_enter Try.func21, Try.ntmps21
  by_cases h1 : p = P.xmlns
  · have hr := Lib.hid (show P.bound p v = false by unfold P.bound; rw [if_pos h1])
    have n1 : (p.toList == [120, 109, 108, 110, 115]) = true := str_is (by rw [h1]; rfl)
    clear h1
    go_wp2
    go_ret
    exact ⟨ret_bool hr.out.symm, Below.refl _ _⟩
  have n1 : (p.toList == [120, 109, 108, 110, 115]) = false := str_ne (fun e => h1 (bytes_eq e))
  by_cases h2 : p = P.xml
  · have n2 : (p.toList == [120, 109, 108]) = true := str_is (by rw [h2]; rfl)
    have hb : P.bound p v = decide (v = P.xmlS) := by unfold P.bound; rw [if_neg h1, if_pos h2]
    clear h1 h2
    by_cases hv : v = P.xmlS
    · have m1 : (v.toList == [104, 116, 116, 112, 58, 47, 47, 119, 119, 119, 46, 119, 51, 46, 111, 114, 103, 47, 88, 77, 76, 47, 49, 57, 57, 56, 47, 110, 97, 109, 101, 115, 112, 97, 99, 101]) = true := str_is (by rw [hv]; rfl)
      have hr := Lib.hid (hb.trans (decide_eq_true hv))
      clear hb hv
      go_wp2
      go_ret
      exact ⟨ret_bool hr.out.symm, Below.refl _ _⟩
    · have m1 : (v.toList == [104, 116, 116, 112, 58, 47, 47, 119, 119, 119, 46, 119, 51, 46, 111, 114, 103, 47, 88, 77, 76, 47, 49, 57, 57, 56, 47, 110, 97, 109, 101, 115, 112, 97, 99, 101]) = false := str_ne (fun e => hv (bytes_eq e))
      have hr := Lib.hid (hb.trans (decide_eq_false hv))
      clear hb hv
      go_wp2
      go_ret
      exact ⟨ret_bool hr.out.symm, Below.refl _ _⟩
  have n2 : (p.toList == [120, 109, 108]) = false := str_ne (fun e => h2 (bytes_eq e))
  have b0 := fun o => (Below.refl w.heap.size w).alloc (Nat.le_refl _) o
  by_cases h3 : p = ByteArray.empty
  · have n3 : p.toList.isEmpty = true := by rw [h3]; exact empty_is
    have hb : P.bound p v = !Cu.at [P.xmlS, P.xmlnsS] v := by
      unfold P.bound; rw [if_neg h1, if_neg h2, if_pos h3]; simp [Cu.at]
    replace hb := Lib.hid hb
    clear h1 h2 h3
    go_wp2_with fail
    (with_reducible refine (isOneOf_any [P.xmlS, P.xmlnsS] v w.heap.size 2 _ _ ?_ (by decide) rfl).mono ?_)
    · exact strsAt_cells (heap_alloc_new w _)
    rintro e w1 ⟨rfl, b1⟩
    go_wp2
    go_ret
    exact ⟨ret_bool hb.out.symm, (b0 _).trans (b1.mono (b0 _).size)⟩
  · have n3 : p.toList.isEmpty = false := empty_no h3
    have hb : P.bound p v = !Cu.at [P.xmlS, P.xmlnsS, ByteArray.empty] v := by
      unfold P.bound; rw [if_neg h1, if_neg h2, if_neg h3]
      by_cases x1 : v = P.xmlS <;> by_cases x2 : v = P.xmlnsS <;> by_cases x3 : v = ByteArray.empty <;> simp [Cu.at, x1, x2, x3]
    replace hb := Lib.hid hb
    clear h1 h2 h3
    go_wp2_with fail
    (with_reducible refine (isOneOf_any [P.xmlS, P.xmlnsS, ByteArray.empty] v w.heap.size 3 _ _ ?_ (by decide) rfl).mono ?_)
    · exact strsAt_cells (heap_alloc_new w _)
    rintro e w1 ⟨rfl, b1⟩
    go_wp2
    go_ret
    exact ⟨ret_bool hb.out.symm, (b0 _).trans (b1.mono (b0 _).size)⟩

namespace P
/-- what an attribute's name declares. -/
def dcA (s : ByteArray) : ByteArray := match split s with | some (p, n) => if p = xmlns then n else ByteArray.empty | none => ByteArray.empty
def dcB (s : ByteArray) : Bool := match split s with | some (p, _) => decide (p = xmlns) || decide (s = xmlns) | none => false
theorem dc_none {s : ByteArray} (h : split s = none) : dcA s = ByteArray.empty ∧ dcB s = false ∧ spE s = 80 := by unfold dcA dcB; rw [h]; exact ⟨rfl, rfl, (sp_none h).2.2⟩
theorem dc_some {s p n : ByteArray} (h : split s = some (p, n)) : dcA s = (if p = xmlns then n else ByteArray.empty) ∧ dcB s = (decide (p = xmlns) || decide (s = xmlns)) ∧ spE s = 0 := by unfold dcA dcB; rw [h]; exact ⟨rfl, rfl, (sp_some h).2.2⟩
end P
theorem ret_sbi {a a' : ByteArray} {b b' : Bool} {e e' : Int} (h1 : a = a') (h2 : b = b') (h3 : e = e') : Ending.returned (.tuple #[.string a, .bool b, .int .i64 e]) = .returned (.tuple #[.string a', .bool b', .int .i64 e']) := by rw [h1, h2, h3]

set_option maxRecDepth 100000 in
set_option maxHeartbeats 3200000 in
theorem declared_any (s : ByteArray) (w : World) (hs : s.size ≤ 1000000) (hE : Env w) :
    Calls Try.prog 20 #[.string s] w fun e w' => e = .returned (.tuple #[.string (P.dcA s), .bool (P.dcB s), .int .i64 (P.spE s)]) ∧ Below w.heap.size w w' := by
  go_enter Try.func20, Try.ntmps20
  go_wp2_with fail
  (with_reducible refine (pSplit_any s _ hs hE).mono ?_); rintro e w1 ⟨rfl, b1⟩
  cases hsp : P.split s with
  | none =>
    obtain ⟨e1, e2, e3⟩ := P.sp_none hsp
    obtain ⟨r1, r2, r3⟩ := P.dc_none hsp
    rw [e1, e2, e3]
    clear e1 e2 e3 hsp
    replace r1 := Lib.hid r1
    replace r2 := Lib.hid r2
    replace r3 := Lib.hid r3
    go_wp2
    go_ret3
    exact ⟨ret_sbi r1.out.symm r2.out.symm r3.out.symm, b1⟩
  | some x =>
    obtain ⟨p, m⟩ := x
    obtain ⟨e1, e2, e3⟩ := P.sp_some hsp
    obtain ⟨r1, r2, r3⟩ := P.dc_some hsp
    rw [e1, e2, e3]
    clear e1 e2 e3 hsp
    by_cases h1 : p = P.xmlns
    · have n1 : (p.toList == [120, 109, 108, 110, 115]) = true := str_is (by rw [h1]; rfl)
      rw [if_pos h1] at r1
      rw [decide_eq_true h1, Bool.true_or] at r2
      clear h1
      replace r1 := Lib.hid r1
      replace r2 := Lib.hid r2
      replace r3 := Lib.hid r3
      go_wp2
      go_ret3
      exact ⟨ret_sbi r1.out.symm r2.out.symm r3.out.symm, b1⟩
    · have n1 : (p.toList == [120, 109, 108, 110, 115]) = false := str_ne (fun e => h1 (bytes_eq e))
      rw [if_neg h1] at r1
      rw [decide_eq_false h1, Bool.false_or] at r2
      clear h1
      by_cases h2 : s = P.xmlns
      · have n2 : (s.toList == [120, 109, 108, 110, 115]) = true := str_is (by rw [h2]; rfl)
        rw [decide_eq_true h2] at r2
        clear h2
        replace r1 := Lib.hid r1
        replace r2 := Lib.hid r2
        replace r3 := Lib.hid r3
        go_wp2
        go_ret3
        exact ⟨ret_sbi r1.out.symm r2.out.symm r3.out.symm, b1⟩
      · have n2 : (s.toList == [120, 109, 108, 110, 115]) = false := str_ne (fun e => h2 (bytes_eq e))
        rw [decide_eq_false h2] at r2
        clear h2
        replace r1 := Lib.hid r1
        replace r2 := Lib.hid r2
        replace r3 := Lib.hid r3
        go_wp2
        go_ret3
        exact ⟨ret_sbi r1.out.symm r2.out.symm r3.out.symm, b1⟩
end Go.Proofs.Ytbehkmihmffoeaa
