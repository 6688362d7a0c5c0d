/-
  What the document's own words of prefixes come to: contracts of bound, Resolve.
-/
import Derived.Test.YtcjlhdmekhifaaaGreatDoorD12
namespace Go.Proofs.YtcjlhdmekhifaaaGreatDoor
open Go.RowKit

theorem var_ne {a b : ByteArray} (h : ¬ a = b) : (a.toList == b.toList) = false := by
  rw [ByteArray.toList_eq, ByteArray.toList_eq]
  exact beq_false_of_ne (fun e => h (bytes_eq e))
theorem pempty_is : ByteArray.empty.toList.isEmpty = true := by rw [ByteArray.toList_eq]; rfl
theorem empty_no {s : ByteArray} (h : ¬ s = ByteArray.empty) : s.toList.isEmpty = false := ne_empty (by
  rw [Nat.pos_iff_ne_zero]
  exact fun e => h (ByteArray.size_eq_zero_iff.1 e))

set_option maxRecDepth 100000 in
set_option maxHeartbeats 3200000 in
theorem refBound_any (p v : ByteArray) (w : World) :
    Calls Tryz.prog 99 #[.string p, .string v] w fun e w' => e = .returned (.bool (P.bound p v)) ∧ w = w' := by
  go_enter Tryz.func99, Tryz.ntmps99
  by_cases h1 : p = P.xmlns
  · have hr := Lib.hid (show P.bound p v = false by unfold P.bound; rw [if_pos h1])
    have n1 : (p.toList == [120, 109, 108, 110, 115]) = true := str_is (by rw [h1]; rfl)
    clear h1
    go_wp2
    go_ret
    exact ⟨ret_bool hr.out.symm, rfl⟩
  have n1 : (p.toList == [120, 109, 108, 110, 115]) = false := str_ne (fun e => h1 (bytes_eq e))
  by_cases h2 : p = P.xml
  · have n2 : (p.toList == [120, 109, 108]) = true := str_is (by rw [h2]; rfl)
    have hb : P.bound p v = decide (v = P.xmlS) := by unfold P.bound; rw [if_neg h1, if_pos h2]
    clear h1 h2
    by_cases hv : v = P.xmlS
    · have m1 : (v.toList == [104, 116, 116, 112, 58, 47, 47, 119, 119, 119, 46, 119, 51, 46, 111, 114, 103, 47, 88, 77, 76, 47, 49, 57, 57, 56, 47, 110, 97, 109, 101, 115, 112, 97, 99, 101]) = true := str_is (by rw [hv]; rfl)
      have hr := Lib.hid (hb.trans (decide_eq_true hv))
      clear hb hv
      go_wp2
      go_ret
      exact ⟨ret_bool hr.out.symm, rfl⟩
    · have m1 : (v.toList == [104, 116, 116, 112, 58, 47, 47, 119, 119, 119, 46, 119, 51, 46, 111, 114, 103, 47, 88, 77, 76, 47, 49, 57, 57, 56, 47, 110, 97, 109, 101, 115, 112, 97, 99, 101]) = false := str_ne (fun e => hv (bytes_eq e))
      have hr := Lib.hid (hb.trans (decide_eq_false hv))
      clear hb hv
      go_wp2
      go_ret
      exact ⟨ret_bool hr.out.symm, rfl⟩
  have n2 : (p.toList == [120, 109, 108]) = false := str_ne (fun e => h2 (bytes_eq e))
  have key : ∃ x y z : Bool, (v.toList == [104, 116, 116, 112, 58, 47, 47, 119, 119, 119, 46, 119, 51, 46, 111, 114, 103, 47, 88, 77, 76, 47, 49, 57, 57, 56, 47, 110, 97, 109, 101, 115, 112, 97, 99, 101]) = x ∧
      (v.toList == [104, 116, 116, 112, 58, 47, 47, 119, 119, 119, 46, 119, 51, 46, 111, 114, 103, 47, 50, 48, 48, 48, 47, 120, 109, 108, 110, 115, 47]) = y ∧ v.toList.isEmpty = z ∧
      decide (v ≠ P.xmlS) = !x ∧ decide (v ≠ P.xmlnsS) = !y ∧ decide (v ≠ ByteArray.empty) = !z := by
    have a : ∀ (t : ByteArray) (l : List UInt8), t.data.toList = l → ∃ x : Bool, (v.toList == l) = x ∧ decide (v ≠ t) = !x := fun t l ht => by
      by_cases h : v = t
      · exact ⟨true, str_is (by rw [h, ht]), by simp [h]⟩
      · exact ⟨false, str_ne (fun e => h (bytes_eq (by rw [e, ht]))), by simp [h]⟩
    obtain ⟨x, x1, x2⟩ := a P.xmlS _ rfl
    obtain ⟨y, y1, y2⟩ := a P.xmlnsS _ rfl
    by_cases h : v = ByteArray.empty
    · exact ⟨x, y, true, x1, y1, by rw [h]; exact pempty_is, x2, y2, by simp [h]⟩
    · exact ⟨x, y, false, x1, y1, empty_no h, x2, y2, by simp [h]⟩
  obtain ⟨x, y, z, m1, m2, m3, d1, d2, d3⟩ := key
  by_cases h3 : p = ByteArray.empty
  · have hb : P.bound p v = (!x && !y) := by unfold P.bound; rw [if_neg h1, if_neg h2, if_pos h3, d1, d2]
    have n3 : p.toList.isEmpty = true := by rw [h3]; exact pempty_is
    have hr := Lib.hid hb
    clear h1 h2 h3 hb d1 d2 d3 m3
    cases x <;> cases y <;> go_wp2 <;> go_ret <;> exact ⟨ret_bool (by rw [hr.out]; rfl), rfl⟩
  · have hb : P.bound p v = (!z && !x && !y) := by unfold P.bound; rw [if_neg h1, if_neg h2, if_neg h3, d1, d2, d3]
    have n3 : p.toList.isEmpty = false := empty_no h3
    have hr := Lib.hid hb
    clear h1 h2 h3 hb d1 d2 d3
    cases x <;> cases y <;> cases z <;> go_wp2 <;> go_ret <;> exact ⟨ret_bool (by rw [hr.out]; rfl), rfl⟩

namespace P
/-- Resolve's answers. -/
def reA (l : List Pair) (s : ByteArray) (attr : Bool) : ByteArray := match resolve l s attr with | some x => x.1 | none => ByteArray.empty
def reB (l : List Pair) (s : ByteArray) (attr : Bool) : ByteArray := match resolve l s attr with | some x => x.2 | none => ByteArray.empty
def reE (l : List Pair) (s : ByteArray) (attr : Bool) : Int := match resolve l s attr with | some _ => 0 | none => 80
theorem re_none {l : List Pair} {s : ByteArray} {attr : Bool} (h : resolve l s attr = none) : reA l s attr = ByteArray.empty ∧ reB l s attr = ByteArray.empty ∧ reE l s attr = 80 := by unfold reA reB reE; rw [h]; exact ⟨rfl, rfl, rfl⟩
theorem re_some {l : List Pair} {s p n : ByteArray} {attr : Bool} (h : resolve l s attr = some (p, n)) : reA l s attr = p ∧ reB l s attr = n ∧ reE l s attr = 0 := by unfold reA reB reE; rw [h]; exact ⟨rfl, rfl, rfl⟩
theorem resolve_of {l : List Pair} {s p n : ByteArray} {attr : Bool} (h : split s = some (p, n)) : resolve l s attr =
    if p = xml then some (xmlS, n) else if p = xmlns then none else if p = ByteArray.empty ∧ attr = true then some (ByteArray.empty, n)
    else match last p l with
      | some v => if p ≠ ByteArray.empty ∧ v = ByteArray.empty then none else some (v, n)
      | none => if p ≠ ByteArray.empty then none else some (ByteArray.empty, n) := by unfold resolve; rw [h]; rfl
theorem last_drop {p : ByteArray} {l : List Pair} {k : Nat} (hk : k < l.length) (h : last p (l.drop (k + 1)) = none) : last p (l.drop k) = if l[k].name = p then some l[k].value else none := by
  rw [List.drop_eq_getElem_cons hk]
  simp only [last, h]
theorem last_found {p : ByteArray} {l : List Pair} {k : Nat} (hk : k < l.length) (h : last p (l.drop (k + 1)) = none) (hn : l[k].name = p) : last p l = some l[k].value := by
  have e : l.take k ++ l.drop k = l := List.take_append_drop k l
  have := last_append p (l.take k) (l.drop k)
  rw [e, last_drop hk h, if_pos hn] at this
  exact this
end P

set_option maxRecDepth 100000 in
set_option maxHeartbeats 6400000 in
theorem refResolve_any {ao : Option Addr} {cap n : Nat} (l : List Pair) (s : ByteArray) (attr : Bool) (w : World) (hl : PairsIn w ao l) (hn : l.length = n) (hnl : n ≤ 1000000) (hs : s.size ≤ maxLen) :
    Calls Tryz.prog 59 #[.slice ao n cap, .string s, .bool attr] w fun e w' => e = .returned (.tuple #[.string (P.reA l s attr), .string (P.reB l s attr), .int .i64 (P.reE l s attr)]) ∧ Below w.heap.size w w' := by
  have hn := Lib.hid hn
  go_enter Tryz.func59, Tryz.ntmps59
  go_wp2_with fail
  (with_reducible refine (refSplit_any s _ hs).mono ?_); rintro e w1 ⟨rfl, b1⟩
  cases hsp : P.split s with
  | none =>
    obtain ⟨e1, e2, e3⟩ := P.sp_none hsp
    obtain ⟨r1, r2, r3⟩ := P.re_none (l := l) (s := s) (attr := attr) (by unfold P.resolve; rw [hsp])
    rw [e1, e2, e3]
    clear e1 e2 e3 hl hsp
    replace r1 := Lib.hid r1
    replace r2 := Lib.hid r2
    replace r3 := Lib.hid r3
    go_wp2
    go_ret3
    exact ⟨ret_three r1.out.symm r2.out.symm r3.out.symm, b1⟩
  | some x =>
    obtain ⟨p, m⟩ := x
    obtain ⟨e1, e2, e3⟩ := P.sp_some hsp
    have hR := P.resolve_of (l := l) (attr := attr) hsp
    rw [e1, e2, e3]
    clear e1 e2 e3 hsp
    by_cases h1 : p = P.xml
    · rw [if_pos h1] at hR
      obtain ⟨r1, r2, r3⟩ := P.re_some hR
      have n1 : (p.toList == [120, 109, 108]) = true := str_is (by rw [h1]; rfl)
      clear hR h1 hl
      replace r1 := Lib.hid r1
      replace r2 := Lib.hid r2
      replace r3 := Lib.hid r3
      go_wp2
      go_ret3
      exact ⟨ret_three r1.out.symm r2.out.symm r3.out.symm, b1⟩
    have n1 : (p.toList == [120, 109, 108]) = false := str_ne (fun e => h1 (bytes_eq e))
    rw [if_neg h1] at hR
    by_cases h2 : p = P.xmlns
    · rw [if_pos h2] at hR
      obtain ⟨r1, r2, r3⟩ := P.re_none hR
      have n2 : (p.toList == [120, 109, 108, 110, 115]) = true := str_is (by rw [h2]; rfl)
      clear hR h1 h2 hl
      replace r1 := Lib.hid r1
      replace r2 := Lib.hid r2
      replace r3 := Lib.hid r3
      go_wp2
      go_ret3
      exact ⟨ret_three r1.out.symm r2.out.symm r3.out.symm, b1⟩
    have n2 : (p.toList == [120, 109, 108, 110, 115]) = false := str_ne (fun e => h2 (bytes_eq e))
    rw [if_neg h2] at hR
    clear h1 h2
    by_cases h3 : p = ByteArray.empty ∧ attr = true
    · rw [if_pos h3] at hR
      obtain ⟨rfl, rfl⟩ := h3
      obtain ⟨r1, r2, r3⟩ := P.re_some hR
      have n3 := pempty_is
      clear hR hl
      replace r1 := Lib.hid r1
      replace r2 := Lib.hid r2
      replace r3 := Lib.hid r3
      go_wp2
      go_ret3
      exact ⟨ret_three r1.out.symm r2.out.symm r3.out.symm, b1⟩
    rw [if_neg h3] at hR
    have hR := Lib.hid hR
    have hcase : (∃ z, p.toList.isEmpty = z ∧ (z = true → attr = false)) := by
      by_cases he : p = ByteArray.empty
      · refine ⟨true, by rw [he]; exact pempty_is, fun _ => ?_⟩
        cases attr
        · rfl
        · exact absurd ⟨he, rfl⟩ h3
      · exact ⟨false, empty_no he, fun e => by cases e⟩
    obtain ⟨z, n3, hz⟩ := hcase
    have hpz : Hid ((p = ByteArray.empty) ↔ z = true) := Lib.hid (by
      constructor
      · rintro rfl; rw [← n3]; exact pempty_is
      · intro e
        by_cases he : p = ByteArray.empty
        · exact he
        · rw [empty_no he] at n3; rw [← n3] at e; cases e)
    clear h3
    have entry : (z = true ∧ attr = false) ∨ z = false := by
      cases z
      · exact .inr rfl
      · exact .inl ⟨rfl, hz rfl⟩
    clear hz
    rcases entry with ⟨rfl, rfl⟩ | rfl
    · go_wp2_with fail
      go_loopw [12] (fun i wr => ∃ k : Nat, k ≤ n ∧ i = .int .i64 ((k : Int) - 1) ∧ Hid (P.last p (l.drop k) = none) ∧ Below w.heap.size w wr) (fun i _ => (intOf i + 1).toNat)
      case atStart => exact ⟨n, Nat.le_refl _, by go_num, Lib.hid (by rw [List.drop_of_length_le (by rw [hn.out]; exact Nat.le_refl _)]; rfl), b1⟩
      case round =>
        obtain ⟨k, hk, rfl, hL, bw⟩ := hrel
        cases k with
        | zero =>
          have hL0 := hL.out
          rw [List.drop_zero] at hL0
          have hR2 := hR.out
          rw [hL0] at hR2
          simp only at hR2
          rw [if_neg (fun c => c (hpz.out.2 trivial))] at hR2
          obtain ⟨r1, r2, r3⟩ := P.re_some hR2
          clear hR2 hL0 hl
          replace r1 := Lib.hid r1
          replace r2 := Lib.hid r2
          replace r3 := Lib.hid r3
          go_wp2
          go_ret3
          exact ⟨ret_three r1.out.symm r2.out.symm r3.out.symm, bw⟩
        | succ k =>
          obtain ⟨b, off, rfl, c0, c1⟩ := (hl.below bw) k (by rw [hn.out]; omega)
          have hkl : k < l.length := by rw [hn.out]; omega
          have hfd := P.last_found hkl hL.out
          have hdr := P.last_drop hkl hL.out
          have hi : ((k + 1 : Nat) : Int) - 1 = (k : Int) := by omega
          have hkn : (k : Int) < (n : Int) := by omega
          rw [hi]
          generalize l[k].name = x at *
          generalize l[k].value = v at *
          by_cases hx : x = p
          · have hR2 := hR.out
            rw [hfd hx] at hR2
            simp only at hR2
            subst hx
            rw [if_neg (fun c => c.1 (hpz.out.2 trivial))] at hR2
            obtain ⟨r1, r2, r3⟩ := P.re_some hR2
            clear hR2 hfd hdr hL hl hi
            replace r1 := Lib.hid r1
            replace r2 := Lib.hid r2
            replace r3 := Lib.hid r3
            go_wp2
            go_ret3
            exact ⟨ret_three r1.out.symm r2.out.symm r3.out.symm, bw⟩
          · rw [if_neg hx] at hdr
            have q1 := var_ne hx
            have hdr := Lib.hid hdr
            clear hfd hL hi hx
            go_wp2
            go_roundw
            case rel => exact ⟨k, by omega, by go_num, hdr, bw⟩
            case measure => simp [intOf] <;> omega
    · go_wp2_with fail
      go_loopw [12] (fun i wr => ∃ k : Nat, k ≤ n ∧ i = .int .i64 ((k : Int) - 1) ∧ Hid (P.last p (l.drop k) = none) ∧ Below w.heap.size w wr) (fun i _ => (intOf i + 1).toNat)
      case atStart => exact ⟨n, Nat.le_refl _, by go_num, Lib.hid (by rw [List.drop_of_length_le (by rw [hn.out]; exact Nat.le_refl _)]; rfl), b1⟩
      case round =>
        obtain ⟨k, hk, rfl, hL, bw⟩ := hrel
        cases k with
        | zero =>
          have hL0 := hL.out
          rw [List.drop_zero] at hL0
          have hR2 := hR.out
          rw [hL0] at hR2
          simp only at hR2
          rw [if_pos (fun c => (by have := hpz.out.1 c; cases this))] at hR2
          obtain ⟨r1, r2, r3⟩ := P.re_none hR2
          clear hR2 hL0 hl
          replace r1 := Lib.hid r1
          replace r2 := Lib.hid r2
          replace r3 := Lib.hid r3
          go_wp2
          go_ret3
          exact ⟨ret_three r1.out.symm r2.out.symm r3.out.symm, bw⟩
        | succ k =>
          obtain ⟨b, off, rfl, c0, c1⟩ := (hl.below bw) k (by rw [hn.out]; omega)
          have hkl : k < l.length := by rw [hn.out]; omega
          have hfd := P.last_found hkl hL.out
          have hdr := P.last_drop hkl hL.out
          have hi : ((k + 1 : Nat) : Int) - 1 = (k : Int) := by omega
          have hkn : (k : Int) < (n : Int) := by omega
          rw [hi]
          generalize l[k].name = x at *
          generalize l[k].value = v at *
          by_cases hx : x = p
          · have hR2 := hR.out
            rw [hfd hx] at hR2
            simp only at hR2
            subst hx
            by_cases hv : v = ByteArray.empty
            · rw [if_pos ⟨fun c => (by have := hpz.out.1 c; cases this), hv⟩] at hR2
              obtain ⟨r1, r2, r3⟩ := P.re_none hR2
              have n4 : v.toList.isEmpty = true := by rw [hv]; exact pempty_is
              clear hR2 hfd hdr hL hl hi hv
              replace r1 := Lib.hid r1
              replace r2 := Lib.hid r2
              replace r3 := Lib.hid r3
              go_wp2
              go_ret3
              exact ⟨ret_three r1.out.symm r2.out.symm r3.out.symm, bw⟩
            · rw [if_neg (fun c => hv c.2)] at hR2
              obtain ⟨r1, r2, r3⟩ := P.re_some hR2
              have n4 := empty_no hv
              clear hR2 hfd hdr hL hl hi hv
              replace r1 := Lib.hid r1
              replace r2 := Lib.hid r2
              replace r3 := Lib.hid r3
              go_wp2
              go_ret3
              exact ⟨ret_three r1.out.symm r2.out.symm r3.out.symm, bw⟩
          · rw [if_neg hx] at hdr
            have q1 := var_ne hx
            have hdr := Lib.hid hdr
            clear hfd hL hi hx
            go_wp2
            go_roundw
            case rel => exact ⟨k, by omega, by go_num, hdr, bw⟩
            case measure => simp [intOf] <;> omega
end Go.Proofs.YtcjlhdmekhifaaaGreatDoor
