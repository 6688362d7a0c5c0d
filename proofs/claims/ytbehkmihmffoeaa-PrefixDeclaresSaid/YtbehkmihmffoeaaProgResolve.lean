/-
  What the program's own Resolve comes to.
-/
import Derived.Test.YtbehkmihmffoeaaProgBack
namespace Go.Proofs.Ytbehkmihmffoeaa
open Go.RowKit

namespace P
/-- the space that a prefix means, and whether it means one. -/
def soA (l : List Pair) (p : ByteArray) : ByteArray := if p = xmlns then ByteArray.empty else if p = xml then xmlS else bnd l p
def soB (l : List Pair) (p : ByteArray) : Bool := if p = xmlns then false else if p = xml then true else decide (p = ByteArray.empty) || decide (bnd l p ≠ ByteArray.empty)
end P
theorem ret_sb {a a' : ByteArray} {b b' : Bool} (h1 : a = a') (h2 : b = b') : Ending.returned (.tuple #[.string a, .bool b]) = .returned (.tuple #[.string a', .bool b']) := by rw [h1, h2]

set_option maxRecDepth 100000 in
set_option maxHeartbeats 3200000 in
theorem spaceOf_any {ao : Option Addr} {cap k : Nat} (l : List Pair) (p : ByteArray) (w : World) (hl : PairsIn w ao l) (hk : l.length = k) (hk2 : k ≤ 1000000) :
    Calls Try.prog 19 #[.slice ao k cap, .string p] w fun e W' => e = .returned (.tuple #[.string (P.soA l p), .bool (P.soB l p)]) ∧ Below w.heap.size w W' := by
  have hk := Lib.hid hk
  go_enter Try.func19, Try.ntmps19
  by_cases h1 : p = P.xmlns
  · have r1 := Lib.hid (show P.soA l p = ByteArray.empty by unfold P.soA; rw [if_pos h1])
    have r2 := Lib.hid (show P.soB l p = false by unfold P.soB; rw [if_pos h1])
    have n1 : (p.toList == [120, 109, 108, 110, 115]) = true := str_is (by rw [h1]; rfl)
    clear h1 hl
    go_wp2
    go_ret2
    exact ⟨ret_sb r1.out.symm r2.out.symm, Below.refl _ _⟩
  have n1 : (p.toList == [120, 109, 108, 110, 115]) = false := str_ne (fun e => h1 (bytes_eq e))
  by_cases h2 : p = P.xml
  · have r1 := Lib.hid (show P.soA l p = P.xmlS by unfold P.soA; rw [if_neg h1, if_pos h2])
    have r2 := Lib.hid (show P.soB l p = true by unfold P.soB; rw [if_neg h1, if_pos h2])
    have n2 : (p.toList == [120, 109, 108]) = true := str_is (by rw [h2]; rfl)
    clear h1 h2 hl
    go_wp2
    go_ret2
    exact ⟨ret_sb r1.out.symm r2.out.symm, Below.refl _ _⟩
  have n2 : (p.toList == [120, 109, 108]) = false := str_ne (fun e => h2 (bytes_eq e))
  have r1 := Lib.hid (show P.soA l p = P.bnd l p by unfold P.soA; rw [if_neg h1, if_neg h2])
  have r2 := Lib.hid (show P.soB l p = (decide (p = ByteArray.empty) || decide (P.bnd l p ≠ ByteArray.empty)) by unfold P.soB; rw [if_neg h1, if_neg h2])
  clear h1 h2
  go_wp2_with fail
  (with_reducible refine (pBound_any l p _ hl hk.out hk2).mono ?_); rintro e w1 ⟨rfl, b1⟩
  generalize hv : P.bnd l p = v at *
  have hv := Lib.hid hv
  clear hl
  by_cases h3 : p = ByteArray.empty
  · have n3 : p.toList.isEmpty = true := by rw [h3]; exact empty_is
    have r3 := Lib.hid (r2.out.trans (by rw [decide_eq_true h3, Bool.true_or]))
    clear h3
    go_wp2
    go_ret2
    exact ⟨ret_sb r1.out.symm r3.out.symm, b1⟩
  · have n3 := empty_no h3
    by_cases h4 : v = ByteArray.empty
    · have n4 : v.toList.isEmpty = true := by rw [h4]; exact empty_is
      have r3 := Lib.hid (r2.out.trans (show _ = false by rw [decide_eq_false h3, h4]; rfl))
      clear h3 h4
      go_wp2
      go_ret2
      exact ⟨ret_sb r1.out.symm r3.out.symm, b1⟩
    · have n4 := empty_no h4
      have r3 := Lib.hid (r2.out.trans (show _ = true by rw [decide_eq_true h4, Bool.or_true]))
      clear h3 h4
      go_wp2
      go_ret2
      exact ⟨ret_sb r1.out.symm r3.out.symm, b1⟩

theorem P.resolve_so {l : List Pair} {s p n : ByteArray} {attr : Bool} (h : P.split s = some (p, n)) (h3 : ¬ (p = ByteArray.empty ∧ attr = true)) : P.resolve l s attr = if P.soB l p then some (P.soA l p, n) else none := by
  rw [P.resolve_of h]
  unfold P.soA P.soB P.bnd
  by_cases h1 : p = P.xml
  · subst h1
    have hne : P.xml ≠ P.xmlns := by decide
    simp [hne]
  rw [if_neg h1]
  by_cases h2 : p = P.xmlns
  · rw [if_pos h2, if_pos h2]; rfl
  rw [if_neg h2, if_neg h3, if_neg h2, if_neg h1, if_neg h2, if_neg h1]
  by_cases h4 : p = ByteArray.empty
  · cases P.last p l <;> simp [h4]
  · cases P.last p l with
    | none => simp [h4]
    | some v => by_cases h5 : v = ByteArray.empty <;> simp [h4, h5]

set_option maxRecDepth 100000 in
set_option maxHeartbeats 3200000 in
theorem pResolve_any {ao : Option Addr} {cap n : Nat} (l : List Pair) (s : ByteArray) (attr : Bool) (w : World) (hl : PairsIn w ao l) (hn : l.length = n) (hnl : n ≤ 1000) (hs : s.size ≤ 1000000) (hE : Env w) :
    Calls Try.prog 11 #[.slice ao n cap, .string s, .bool attr] w fun e w' => e = .returned (.tuple #[.string (P.reA l s attr), .string (P.reB l s attr), .int .i64 (P.reE l s attr)]) ∧ Below w.heap.size w w' := by
  have hn := Lib.hid hn
  go_enter Try.func11, Try.ntmps11
  go_wp2_with fail
  (with_reducible refine (pSplit_any s _ hs hE).mono ?_); rintro e w1 ⟨rfl, b1⟩
  cases hsp : P.split s with
  | none =>
    obtain ⟨e1, e2, e3⟩ := P.sp_none hsp
    obtain ⟨r1, r2, r3⟩ := P.re_none (l := l) (s := s) (attr := attr) (by unfold P.resolve; rw [hsp])
    rw [e1, e2, e3]
    clear e1 e2 e3 hl hsp
    replace r1 := Lib.hid r1
    replace r2 := Lib.hid r2
    replace r3 := Lib.hid r3
    go_wp2
    go_ret3
    exact ⟨ret_three r1.out.symm r2.out.symm r3.out.symm, b1⟩
  | some x =>
    obtain ⟨p, m⟩ := x
    obtain ⟨e1, e2, e3⟩ := P.sp_some hsp
    rw [e1, e2, e3]
    clear e1 e2 e3
    have go : ∀ h3 : ¬ (p = ByteArray.empty ∧ attr = true), Hid (P.resolve l s attr = if P.soB l p then some (P.soA l p, m) else none) := fun h3 => Lib.hid (P.resolve_so hsp h3)
    by_cases h3 : p = ByteArray.empty
    · have n3 : p.toList.isEmpty = true := by rw [h3]; exact empty_is
      cases attr
      · have hR := go (fun c => by cases c.2)
        clear go h3 hsp
        go_wp2_with fail
        (with_reducible refine (spaceOf_any l p _ (hl.below b1) hn.out (by omega)).mono ?_); rintro e w2 ⟨rfl, b2⟩
        have c2 := b1.trans (b2.mono b1.size)
        generalize P.soA l p = v at *
        cases hb : P.soB l p
        · obtain ⟨r1, r2, r3⟩ := P.re_none (hR.out.trans (by rw [hb]; rfl))
          clear hR hl hb
          replace r1 := Lib.hid r1
          replace r2 := Lib.hid r2
          replace r3 := Lib.hid r3
          go_wp2
          go_ret3
          exact ⟨ret_three r1.out.symm r2.out.symm r3.out.symm, c2⟩
        · obtain ⟨r1, r2, r3⟩ := P.re_some (hR.out.trans (by rw [hb]; rfl))
          clear hR hl hb
          replace r1 := Lib.hid r1
          replace r2 := Lib.hid r2
          replace r3 := Lib.hid r3
          go_wp2
          go_ret3
          exact ⟨ret_three r1.out.symm r2.out.symm r3.out.symm, c2⟩
      · obtain ⟨r1, r2, r3⟩ := P.re_some (l := l) (attr := true) (by rw [P.resolve_of hsp, if_neg (by rw [h3]; decide), if_neg (by rw [h3]; decide), if_pos ⟨h3, rfl⟩])
        clear go h3 hsp hl
        replace r1 := Lib.hid r1
        replace r2 := Lib.hid r2
        replace r3 := Lib.hid r3
        go_wp2
        go_ret3
        exact ⟨ret_three r1.out.symm r2.out.symm r3.out.symm, b1⟩
    · have n3 := empty_no h3
      have hR := go (fun c => h3 c.1)
      clear go h3 hsp
      go_wp2_with fail
      (with_reducible refine (spaceOf_any l p _ (hl.below b1) hn.out (by omega)).mono ?_); rintro e w2 ⟨rfl, b2⟩
      have c2 := b1.trans (b2.mono b1.size)
      generalize P.soA l p = v at *
      cases hb : P.soB l p
      · obtain ⟨r1, r2, r3⟩ := P.re_none (hR.out.trans (by rw [hb]; rfl))
        clear hR hl hb
        replace r1 := Lib.hid r1
        replace r2 := Lib.hid r2
        replace r3 := Lib.hid r3
        go_wp2
        go_ret3
        exact ⟨ret_three r1.out.symm r2.out.symm r3.out.symm, c2⟩
      · obtain ⟨r1, r2, r3⟩ := P.re_some (hR.out.trans (by rw [hb]; rfl))
        clear hR hl hb
        replace r1 := Lib.hid r1
        replace r2 := Lib.hid r2
        replace r3 := Lib.hid r3
        go_wp2
        go_ret3
        exact ⟨ret_three r1.out.symm r2.out.symm r3.out.symm, c2⟩
end Go.Proofs.Ytbehkmihmffoeaa
