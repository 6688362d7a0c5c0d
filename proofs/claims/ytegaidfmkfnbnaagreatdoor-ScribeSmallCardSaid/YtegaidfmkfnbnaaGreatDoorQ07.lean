/-
  What the document's own words of tokens come to: attr, word, version.
-/
import Derived.Test.YtegaidfmkfnbnaaGreatDoorQ06
import Derived.Test.YtegaidfmkfnbnaaGreatDoorQ05
namespace Go.Proofs.YtegaidfmkfnbnaaGreatDoor
open Go.RowKit

namespace T
theorem quoted_size {l a r : List UInt8} (h : quoted l = some (a, r)) : a.length + r.length + 2 ≤ l.length := by
  unfold quoted at h
  split at h
  · cases h
  · split at h
    · have := congrArg List.length (cutAt_eq h)
      simp at this ⊢; omega
    · cases h
theorem attr_none {l : List UInt8} (h : nameAt l = none) : attr l = .error 70 := by unfold attr; rw [h]
theorem attr_eq {l n r : List UInt8} (h : nameAt l = some (n, r)) (hb : begins [61] (skip r) = false) : attr l = .error 70 := by
  unfold attr; rw [h]; simp only
  split
  · rename_i e; rw [e] at hb; cases hb
  · rfl
theorem attr_of {l n r t : List UInt8} (h : nameAt l = some (n, r)) (hb : skip r = 61 :: t) : attr l = match quoted (skip t) with | none => .error 70 | some (q, r) => if 60 ∈ q then .error 70 else match E.expand true q with | none => .error 60 | some v => .ok ((n, v), r) := by
  unfold attr; rw [h]; simp only; rw [hb]; rfl
/-- attr's answers. -/
def attrE (l : List UInt8) : Int := match attr l with | .ok _ => 0 | .error e => (e : Int)
def attrN (l : List UInt8) : ByteArray := match attr l with | .ok x => ⟨x.1.1.toArray⟩ | .error _ => ⟨#[]⟩
def attrV (l : List UInt8) : ByteArray := match attr l with | .ok x => ⟨x.1.2.toArray⟩ | .error _ => ⟨#[]⟩
def attrR (l : List UInt8) : ByteArray := match attr l with | .ok x => ⟨x.2.toArray⟩ | .error _ => ⟨#[]⟩
theorem attr_told_err {l : List UInt8} {e : Nat} (h : attr l = .error e) : attrE l = (e : Int) ∧ attrN l = ⟨#[]⟩ ∧ attrV l = ⟨#[]⟩ ∧ attrR l = ⟨#[]⟩ := by unfold attrE attrN attrV attrR; rw [h]; exact ⟨rfl, rfl, rfl, rfl⟩
theorem attr_told_ok {l n v r : List UInt8} (h : attr l = .ok ((n, v), r)) : attrE l = 0 ∧ attrN l = ⟨n.toArray⟩ ∧ attrV l = ⟨v.toArray⟩ ∧ attrR l = ⟨r.toArray⟩ := by unfold attrE attrN attrV attrR; rw [h]; exact ⟨rfl, rfl, rfl, rfl⟩
end T

theorem attr_end {R : Ending → World → Prop} {tmps : Array Value} {w : World} {rb : Nat} {n v r : ByteArray} {e : Int} (h2 : tmps[2]? = some (.pointer (some ⟨rb, 0, none⟩))) (h3 : tmps[3]? = some (.string r)) (h4 : tmps[4]? = some (.int .i64 e))
    (hc : Cells w rb 98 #[.string n, .string v]) (hR : R (.returned (.tuple #[.agg #[.string n, .string v], .string r, .int .i64 e])) w) : bodyPost Tryz.prog Tryz.f99 R .ret { tmps := tmps, defers := [] } w := by
  refine ⟨rfl, _, ?_, hR⟩
  have l4 : 4 < tmps.size := (Array.getElem?_eq_some_iff.1 h4).1
  have g2 : tmps[2] = .pointer (some ⟨rb, 0, none⟩) := (Array.getElem?_eq_some_iff.1 h2).2
  have g3 : tmps[3] = .string r := (Array.getElem?_eq_some_iff.1 h3).2
  have g4 : tmps[4] = .int .i64 e := (Array.getElem?_eq_some_iff.1 h4).2
  have l2 : 2 < tmps.size := by omega
  have l3 : 3 < tmps.size := by omega
  have c0 := hc.cell (i := 0) rfl
  have c1 := hc.cell (i := 1) rfl
  simp [results, Tryz.results99, go_sem, l2, l3, l4, g2, g3, g4, c0, c1]
theorem pair_set {w : World} {b : Nat} {x y x' y' : Value} (h : Cells w b 98 #[x, y]) : Cells ((w.setCell ⟨b, 0, none⟩ x').setCell ⟨b, 1, none⟩ y') b 98 #[x', y'] := by
  have := (h.set 0 x').set 1 y'
  simpa using this
theorem pair_below {B : Nat} {w0 w : World} {b : Nat} (h : Below B w0 w) (hb : B ≤ b) (x0 x1 : Value) : Below B w0 ((w.setCell ⟨b, 0, none⟩ x0).setCell ⟨b, 1, none⟩ x1) :=
  (h.setCell (p := ⟨b, 0, none⟩) hb x0).setCell (p := ⟨b, 1, none⟩) hb x1
theorem ret_attr {l : List UInt8} {n v r : ByteArray} {e : Int} (h1 : T.attrE l = e) (h2 : T.attrN l = n) (h3 : T.attrV l = v) (h4 : T.attrR l = r) : Ending.returned (.tuple #[.agg #[.string n, .string v], .string r, .int .i64 e]) = .returned (.tuple #[.agg #[.string (T.attrN l), .string (T.attrV l)], .string (T.attrR l), .int .i64 (T.attrE l)]) := by rw [h1, h2, h3, h4]

set_option maxRecDepth 100000 in
set_option maxHeartbeats 1600000 in
theorem refAttr_any (s : ByteArray) (w : World) (hs : s.size ≤ 1000000) :
    Calls Tryz.prog 99 #[.string s] w fun x w' => x = .returned (.tuple #[.agg #[.string (T.attrN s.data.toList), .string (T.attrV s.data.toList)], .string (T.attrR s.data.toList), .int .i64 (T.attrE s.data.toList)]) ∧ Below w.heap.size w w' := by
  go_enter Tryz.func99, Tryz.ntmps99
  have b0 := (Below.refl w.heap.size w).alloc (Nat.le_refl _) (.cells #[.string ⟨#[]⟩, .string ⟨#[]⟩] 98)
  have k0 := Cells.new w 98 #[.string ⟨#[]⟩, .string ⟨#[]⟩]
  go_wp2_with fail
  (with_reducible refine (refName_any s _ (by unfold maxLen; omega)).mono ?_); rintro e w1 ⟨rfl, b1⟩
  have k1 := k0.on b1
  have c1 := b0.trans (b1.mono b0.size)
  clear k0 b0 b1
  cases hn : T.nameAt s.data.toList with
  | none =>
    have hg := Lib.hid (T.attr_none hn)
    obtain ⟨e1, e2, e3⟩ := name_none hn
    rw [e1, e2, e3]
    clear e1 e2 e3 hn
    obtain ⟨r1, r2, r3, r4⟩ := T.attr_told_err hg.out
    replace r1 := Lib.hid r1
    replace r2 := Lib.hid r2
    replace r3 := Lib.hid r3
    replace r4 := Lib.hid r4
    have q0 := k1.cell (i := 0) rfl
    have q1 := k1.cell (i := 1) rfl
    have f0 := k1.free 0
    have f1 := k1.free 1
    replace k1 := Lib.hid k1
    go_wp2_with fail
    exact attr_end (rb := w.heap.size) rfl rfl rfl (pair_set k1.out) ⟨ret_attr r1.out r2.out r3.out r4.out, pair_below c1 (Nat.le_refl _) _ _⟩
  | some q =>
    obtain ⟨n, r⟩ := q
    obtain ⟨a, b, e1, e2, e3, ea, eb, hlt, hle⟩ := name_some hn
    rw [e1, e2, e3]
    clear e1 e2 e3
    have hsk := Rt.skB_size b
    have hsl := Rt.skB_list b
    rw [eb] at hsl
    generalize hu : Rt.skB b = u at *
    replace hu := Lib.hid hu
    replace ea := Lib.hid ea
    clear eb
    go_wp2_with fail
    (with_reducible refine (refSkip5_any b _ (by unfold maxLen; omega)).mono ?_); rintro e w2 ⟨rfl, rfl⟩
    rw [hu.out]
    go_wp2_with fail
    (with_reducible refine (refBegins_any u ⟨#[61]⟩ _ (by unfold maxLen; omega) (by decide)).mono ?_); rintro e w2 ⟨rfl, rfl⟩
    rw [hsl]
    simp only []
    cases hb : T.begins [61] (T.skip r) with
    | false =>
      have hg := Lib.hid (T.attr_eq hn hb)
      clear hn hb hsl
      obtain ⟨r1, r2, r3, r4⟩ := T.attr_told_err hg.out
      replace r1 := Lib.hid r1
      replace r2 := Lib.hid r2
      replace r3 := Lib.hid r3
      replace r4 := Lib.hid r4
      have q0 := k1.cell (i := 0) rfl
      have q1 := k1.cell (i := 1) rfl
      have f0 := k1.free 0
      have f1 := k1.free 1
      replace k1 := Lib.hid k1
      go_wp2_with fail
      exact attr_end (rb := w.heap.size) rfl rfl rfl (pair_set k1.out) ⟨ret_attr r1.out r2.out r3.out r4.out, pair_below c1 (Nat.le_refl _) _ _⟩
    | true =>
      obtain ⟨t, ht⟩ := T.begins_iff.1 hb
      have hA := T.attr_of (t := t) hn ht.symm
      have hu1 : 1 ≤ u.size := by
        have := congrArg List.length hsl
        rw [list_len, ← ht] at this
        simp at this; omega
      have hu2 : (1 : Int) ≤ (u.size : Int) := by omega
      have er : (u.extract 1 u.size).data.toList = t := by rw [drop_list, hsl, ← ht]; rfl
      have hz1 : (u.extract 1 u.size).size ≤ 1000000 := by simp; omega
      have hz2 := Rt.skB_size (u.extract 1 u.size)
      have hl2 := Rt.skB_list (u.extract 1 u.size)
      rw [er] at hl2
      generalize hx : Rt.skB (u.extract 1 u.size) = x at *
      replace hx := Lib.hid hx
      clear hn hb hsl ht er
      go_wp2_with fail
      (with_reducible refine (refSkip5_any (u.extract 1 u.size) _ (by unfold maxLen; omega)).mono ?_); rintro e w2 ⟨rfl, rfl⟩
      rw [hx.out]
      go_wp2_with fail
      (with_reducible refine (refQuoted_any x _ (by omega)).mono ?_); rintro e w2 ⟨rfl, b2⟩
      have k2 := k1.on b2
      have c2 := c1.trans (b2.mono c1.size)
      clear k1 c1 b2
      cases hq : T.quoted (T.skip t) with
      | none =>
        have hg := Lib.hid (show T.attr s.data.toList = .error 70 by rw [hA, hq])
        obtain ⟨e1, e2, e3⟩ := Rt.qu_none (s := x) (by rw [hl2]; exact hq)
        rw [e1, e2, e3]
        clear e1 e2 e3 hA hq hl2
        obtain ⟨r1, r2, r3, r4⟩ := T.attr_told_err hg.out
        replace r1 := Lib.hid r1
        replace r2 := Lib.hid r2
        replace r3 := Lib.hid r3
        replace r4 := Lib.hid r4
        have q0 := k2.cell (i := 0) rfl
        have q1 := k2.cell (i := 1) rfl
        have f0 := k2.free 0
        have f1 := k2.free 1
        replace k2 := Lib.hid k2
        go_wp2_with fail
        exact attr_end (rb := w.heap.size) rfl rfl rfl (pair_set k2.out) ⟨ret_attr r1.out r2.out r3.out r4.out, pair_below c2 (Nat.le_refl _) _ _⟩
      | some p =>
        obtain ⟨q, y⟩ := p
        have hqs := T.quoted_size hq
        rw [← hl2, list_len] at hqs
        rw [hq] at hA
        simp only at hA
        obtain ⟨e1, e2, e3⟩ := Rt.qu_some (s := x) (by rw [hl2]; exact hq)
        rw [e1, e2, e3]
        clear e1 e2 e3 hq hl2
        obtain ⟨qb, hqb⟩ : ∃ qb : ByteArray, qb = ⟨q.toArray⟩ := ⟨_, rfl⟩
        obtain ⟨yb, hyb⟩ : ∃ yb : ByteArray, yb = ⟨y.toArray⟩ := ⟨_, rfl⟩
        rw [← hqb, ← hyb]
        have hql : qb.data.toList = q := by rw [hqb]
        have hqz : qb.size ≤ 1000000 := by rw [← list_len, hql]; omega
        replace hyb := Lib.hid hyb
        clear hqb
        go_wp2_with fail
        (with_reducible refine (refFind_any qb ⟨#[60]⟩ _ hqz (by decide) (by decide)).mono ?_); rintro e w3 ⟨rfl, rfl⟩
        rw [hql]
        simp only []
        have hm := T.find_mem 60 q
        generalize T.findI [60] q = z at *
        by_cases h60 : 60 ∈ q
        · have hg := Lib.hid (show T.attr s.data.toList = .error 70 by rw [hA, if_pos h60])
          have hz : (0 : Int) ≤ z := by rw [decide_eq_true h60] at hm; exact of_decide_eq_true hm
          clear hA hm h60
          obtain ⟨r1, r2, r3, r4⟩ := T.attr_told_err hg.out
          replace r1 := Lib.hid r1
          replace r2 := Lib.hid r2
          replace r3 := Lib.hid r3
          replace r4 := Lib.hid r4
          have q0 := k2.cell (i := 0) rfl
          have q1 := k2.cell (i := 1) rfl
          have f0 := k2.free 0
          have f1 := k2.free 1
          replace k2 := Lib.hid k2
          go_wp2_with fail
          exact attr_end (rb := w.heap.size) rfl rfl rfl (pair_set k2.out) ⟨ret_attr r1.out r2.out r3.out r4.out, pair_below c2 (Nat.le_refl _) _ _⟩
        · rw [if_neg h60] at hA
          have hz : ¬ (0 : Int) ≤ z := by rw [decide_eq_false h60] at hm; exact of_decide_eq_false hm
          clear hm h60
          go_wp2_with fail
          (with_reducible refine (refValue_any qb _ hqz).mono ?_); rintro e w4 ⟨rfl, b4⟩
          have k4 := k2.on b4
          have c4 := c2.trans (b4.mono c2.size)
          clear k2 c2 b4
          cases hv : E.expand true q with
          | none =>
            have hg := Lib.hid (show T.attr s.data.toList = .error 60 by rw [hA, hv])
            obtain ⟨e1, e2⟩ := E.exp_none (attr := true) (s := qb) (by rw [hql]; exact hv)
            rw [e1, e2]
            clear e1 e2 hA hv hql
            obtain ⟨r1, r2, r3, r4⟩ := T.attr_told_err hg.out
            replace r1 := Lib.hid r1
            replace r2 := Lib.hid r2
            replace r3 := Lib.hid r3
            replace r4 := Lib.hid r4
            have q0 := k4.cell (i := 0) rfl
            have q1 := k4.cell (i := 1) rfl
            have f0 := k4.free 0
            have f1 := k4.free 1
            replace k4 := Lib.hid k4
            go_wp2_with fail
            exact attr_end (rb := w.heap.size) rfl rfl rfl (pair_set k4.out) ⟨ret_attr r1.out r2.out r3.out r4.out, pair_below c4 (Nat.le_refl _) _ _⟩
          | some v =>
            have hg := Lib.hid (show T.attr s.data.toList = .ok ((n, v), y) by rw [hA, hv])
            obtain ⟨e1, e2⟩ := E.exp_some (attr := true) (s := qb) (by rw [hql]; exact hv)
            rw [e1, e2]
            obtain ⟨vb, hvb⟩ : ∃ vb : ByteArray, vb = ⟨v.toArray⟩ := ⟨_, rfl⟩
            rw [← hvb]
            replace hvb := Lib.hid hvb
            clear e1 e2 hA hv hql
            obtain ⟨r1, r2, r3, r4⟩ := T.attr_told_ok hg.out
            replace r1 := Lib.hid r1
            have r2' := Lib.hid (r2.trans (show _ = a from bytes_eq ea.out.symm))
            have r3' := Lib.hid (r3.trans hvb.out.symm)
            have r4' := Lib.hid (r4.trans hyb.out.symm)
            clear r2 r3 r4
            have q0 := k4.cell (i := 0) rfl
            have q1 := k4.cell (i := 1) rfl
            have f0 := k4.free 0
            have f1 := k4.free 1
            replace k4 := Lib.hid k4
            go_wp2_with fail
            exact attr_end (rb := w.heap.size) rfl rfl rfl (pair_set k4.out) ⟨ret_attr r1.out r2'.out r3'.out r4'.out, pair_below c4 (Nat.le_refl _) _ _⟩

namespace Rt
/-- word's answers. -/
def woA (s n : ByteArray) : ByteArray := match T.word s.data.toList n.data.toList with | some x => ⟨x.1.toArray⟩ | none => ⟨#[]⟩
def woB (s n : ByteArray) : ByteArray := match T.word s.data.toList n.data.toList with | some x => ⟨x.2.toArray⟩ | none => ⟨#[]⟩
def woC (s n : ByteArray) : Bool := (T.word s.data.toList n.data.toList).isSome
theorem wo_none {s n : ByteArray} (h : T.word s.data.toList n.data.toList = none) : woA s n = ⟨#[]⟩ ∧ woB s n = ⟨#[]⟩ ∧ woC s n = false := by unfold woA woB woC; rw [h]; exact ⟨rfl, rfl, rfl⟩
theorem wo_some {s n : ByteArray} {x y : List UInt8} (h : T.word s.data.toList n.data.toList = some (x, y)) : woA s n = ⟨x.toArray⟩ ∧ woB s n = ⟨y.toArray⟩ ∧ woC s n = true := by unfold woA woB woC; rw [h]; exact ⟨rfl, rfl, rfl⟩
theorem wo_same {s n : ByteArray} {x : ByteArray} (h : T.word s.data.toList n.data.toList = T.quoted x.data.toList) : woA s n = quA x ∧ woB s n = quB x ∧ woC s n = quC x := by unfold woA woB woC quA quB quC; rw [h]; exact ⟨rfl, rfl, rfl⟩
end Rt
namespace T
theorem word_stay {l n : List UInt8} (h : (skip l).length = l.length) : word l n = none := by unfold word; rw [if_pos h]
theorem word_no {l n : List UInt8} (h : begins n (skip l) = false) : word l n = none := by unfold word; split; rfl; rw [if_neg (by rw [h]; decide)]
theorem word_of {l n : List UInt8} (h : ¬ (skip l).length = l.length) (hb : begins n (skip l) = true) : word l n = match skip ((skip l).drop n.length) with | 61 :: t => quoted (skip t) | _ => none := by unfold word; rw [if_neg h, if_pos hb]; first | done | rfl
end T

set_option maxRecDepth 100000 in
set_option maxHeartbeats 1600000 in
theorem refWord_any (s n : ByteArray) (w : World) (hs : s.size ≤ 1000000) (hn : n.size ≤ 1000) :
    Calls Tryz.prog 96 #[.string s, .string n] w fun x w' => x = .returned (.tuple #[.string (Rt.woA s n), .string (Rt.woB s n), .bool (Rt.woC s n)]) ∧ Below w.heap.size w w' := by
  go_enter Tryz.func96, Tryz.ntmps96
  have hz := Rt.skB_size s
  have hl := Rt.skB_list s
  generalize hu : Rt.skB s = u at *
  replace hu := Lib.hid hu
  go_wp2_with fail
  (with_reducible refine (refSkip5_any s _ (by unfold maxLen; omega)).mono ?_); rintro e w2 ⟨rfl, rfl⟩
  rw [hu.out]
  by_cases h0 : u.size = s.size
  · obtain ⟨r1, r2, r3⟩ := Rt.wo_none (n := n) (T.word_stay (l := s.data.toList) (by rw [← hl, list_len, list_len]; exact h0))
    have h0i : (u.size : Int) = (s.size : Int) := by omega
    replace r1 := Lib.hid r1
    replace r2 := Lib.hid r2
    replace r3 := Lib.hid r3
    clear hl h0
    go_wp2
    go_ret3
    exact ⟨ret_ssb r1.out.symm r2.out.symm r3.out.symm, Below.refl _ _⟩
  have h0i : ¬ (u.size : Int) = (s.size : Int) := by omega
  go_wp2_with fail
  (with_reducible refine (refBegins_any u n _ (by unfold maxLen; omega) (by unfold maxLen; omega)).mono ?_); rintro e w2 ⟨rfl, rfl⟩
  cases hb : T.begins n.data.toList u.data.toList with
  | false =>
    obtain ⟨r1, r2, r3⟩ := Rt.wo_none (n := n) (T.word_no (l := s.data.toList) (by rw [← hl]; exact hb))
    replace r1 := Lib.hid r1
    replace r2 := Lib.hid r2
    replace r3 := Lib.hid r3
    clear hl hb
    go_wp2
    go_ret3
    exact ⟨ret_ssb r1.out.symm r2.out.symm r3.out.symm, Below.refl _ _⟩
  | true =>
    have hW := T.word_of (l := s.data.toList) (n := n.data.toList) (by rw [← hl, list_len, list_len]; exact h0) (by rw [← hl]; exact hb)
    rw [← hl] at hW
    have hnu : n.size ≤ u.size := by
      rw [T.begins_take] at hb
      have := (of_decide_eq_true hb).1
      rwa [list_len, list_len] at this
    have hnui : (n.size : Int) ≤ (u.size : Int) := by omega
    have hd : (u.extract n.size u.size).data.toList = u.data.toList.drop n.data.toList.length := by rw [drop_list, list_len]
    rw [← hd] at hW
    have hz2 := Rt.skB_size (u.extract n.size u.size)
    have hl2 := Rt.skB_list (u.extract n.size u.size)
    have hz3 : (u.extract n.size u.size).size ≤ 1000000 := by simp; omega
    generalize hx : Rt.skB (u.extract n.size u.size) = x at *
    replace hx := Lib.hid hx
    rw [← hl2] at hW
    clear hl hb hd hl2
    go_wp2_with fail
    (with_reducible refine (refSkip5_any (u.extract n.size u.size) _ (by unfold maxLen; omega)).mono ?_); rintro e w2 ⟨rfl, rfl⟩
    rw [hx.out]
    go_wp2_with fail
    (with_reducible refine (refBegins_any x ⟨#[61]⟩ _ (by unfold maxLen; omega) (by decide)).mono ?_); rintro e w2 ⟨rfl, rfl⟩
    simp only []
    cases hb : T.begins [61] x.data.toList with
    | false =>
      obtain ⟨r1, r2, r3⟩ := Rt.wo_none (s := s) (n := n) (hW.trans (by
        split
        · rename_i e; rw [e] at hb; cases hb
        · rfl))
      replace r1 := Lib.hid r1
      replace r2 := Lib.hid r2
      replace r3 := Lib.hid r3
      clear hb hW
      go_wp2
      go_ret3
      exact ⟨ret_ssb r1.out.symm r2.out.symm r3.out.symm, Below.refl _ _⟩
    | true =>
      obtain ⟨t, ht⟩ := T.begins_iff.1 hb
      rw [← ht] at hW
      have hx1 : 1 ≤ x.size := by
        have := congrArg List.length ht
        rw [list_len] at this
        simp at this; omega
      have hx2 : (1 : Int) ≤ (x.size : Int) := by omega
      have er : (x.extract 1 x.size).data.toList = t := by rw [drop_list, ← ht]; rfl
      have hz4 : (x.extract 1 x.size).size ≤ 1000000 := by simp; omega
      have hz5 := Rt.skB_size (x.extract 1 x.size)
      have hl5 := Rt.skB_list (x.extract 1 x.size)
      rw [er] at hl5
      generalize hv : Rt.skB (x.extract 1 x.size) = v at *
      replace hv := Lib.hid hv
      obtain ⟨r1, r2, r3⟩ := Rt.wo_same (s := s) (n := n) (x := v) (hW.trans (by rw [hl5]; rfl))
      replace r1 := Lib.hid r1
      replace r2 := Lib.hid r2
      replace r3 := Lib.hid r3
      clear hb hW ht er hl5
      go_wp2_with fail
      (with_reducible refine (refSkip5_any (x.extract 1 x.size) _ (by unfold maxLen; omega)).mono ?_); rintro e w2 ⟨rfl, rfl⟩
      rw [hv.out]
      go_wp2_with fail
      (with_reducible refine (refQuoted_any v _ (by omega)).mono ?_); rintro e w2 ⟨rfl, b2⟩
      go_wp2
      go_ret3
      exact ⟨ret_ssb r1.out.symm r2.out.symm r3.out.symm, b2⟩

/-- A digit? -/
def T.digitB (b : UInt8) : Bool := decide (48 ≤ b.toNat ∧ b.toNat ≤ 57)
theorem T.version_of (l : List UInt8) : T.version l = (T.begins [49, 46] l && decide (3 ≤ l.length) && (l.drop 2).all T.digitB) := rfl

set_option maxRecDepth 100000 in
set_option maxHeartbeats 1600000 in
theorem refVersion_any (s : ByteArray) (w : World) (hs : s.size ≤ 1000000) :
    Calls Tryz.prog 97 #[.string s] w fun x w' => x = .returned (.bool (T.version s.data.toList)) ∧ w = w' := by
  have hV := T.version_of s.data.toList
  go_enter Tryz.func97, Tryz.ntmps97
  go_wp2_with fail
  (with_reducible refine (refBegins_any s ⟨#[49, 46]⟩ _ (by unfold maxLen; omega) (by decide)).mono ?_); rintro e w2 ⟨rfl, rfl⟩
  simp only []
  cases hb : T.begins [49, 46] s.data.toList with
  | false =>
    have hr := Lib.hid (show T.version s.data.toList = false by rw [hV, hb]; rfl)
    clear hV hb
    go_wp2
    go_ret
    exact ⟨ret_bool hr.out.symm, rfl⟩
  | true =>
    by_cases h3 : s.size < 3
    · have hr := Lib.hid (show T.version s.data.toList = false by rw [hV, list_len, decide_eq_false (by omega)]; simp)
      have h3i : (s.size : Int) < 3 := by omega
      clear hV hb
      go_wp2
      go_ret
      exact ⟨ret_bool hr.out.symm, rfl⟩
    have hV2 := Lib.hid (show T.version s.data.toList = (s.data.toList.drop 2).all T.digitB by rw [hV, hb, list_len, decide_eq_true (by omega)]; simp)
    have h3i : ¬ (s.size : Int) < 3 := by omega
    clear hV hb
    go_wp2_with fail
    go_loop [3] (fun i => ∃ k : Nat, 2 ≤ k ∧ k ≤ s.size ∧ i = .int .i64 (k : Int) ∧ Hid (((s.data.toList.drop 2).take (k - 2)).all T.digitB = true)) (fun i => s.size - (intOf i).toNat)
    case atStart => exact ⟨2, Nat.le_refl _, by omega, rfl, Lib.hid (by simp)⟩
    case round =>
      obtain ⟨k, hk2, hk, rfl, hl⟩ := hrel
      by_cases hlt : k < s.size
      · have hks : k - 2 < (s.data.toList.drop 2).length := by rw [List.length_drop, list_len]; omega
        have hst := all_take T.digitB (s.data.toList.drop 2) (k - 2) hks
        rw [hl.out, Bool.true_and] at hst
        have hgk : (s.data.toList.drop 2)[k - 2] = s[k] := by
          rw [List.getElem_drop]
          have : 2 + (k - 2) = k := by omega
          simp only [this]; rfl
        rw [hgk] at hst
        have hall := fun h => all_not T.digitB (s.data.toList.drop 2) (k - 2) hks (by rw [hgk]; exact h)
        have hb8 := (s[k]).toNat_lt
        by_cases hd : 48 ≤ (s[k]).toNat ∧ (s[k]).toNat ≤ 57
        · have hr := Lib.hid (show ((s.data.toList.drop 2).take (k + 1 - 2)).all T.digitB = true by
            rw [show k + 1 - 2 = k - 2 + 1 by omega, hst]; exact decide_eq_true hd)
          obtain ⟨d1, d2⟩ := hd
          clear hall hst hgk hl
          go_wp2
          go_round
          case rel => exact ⟨k + 1, by omega, by omega, by go_num, hr⟩
          case measure => simp [intOf]; omega
        · have hr := Lib.hid (hV2.out.trans (hall (decide_eq_false hd)))
          have hd2 : (s[k]).toNat < 48 ∨ (48 ≤ (s[k]).toNat ∧ 57 < (s[k]).toNat) := by omega
          clear hall hst hgk hl hd
          rcases hd2 with d1 | ⟨d1, d2⟩
          all_goals
            go_wp2
            go_ret
            exact ⟨ret_bool hr.out.symm, rfl⟩
      · have hfull : (s.data.toList.drop 2).take (k - 2) = s.data.toList.drop 2 := List.take_of_length_le (by rw [List.length_drop, list_len]; omega)
        rw [hfull] at hl
        have hr := Lib.hid (hV2.out.trans hl.out)
        clear hfull hl
        go_wp2
        go_ret
        exact ⟨ret_bool hr.out.symm, rfl⟩
end Go.Proofs.YtegaidfmkfnbnaaGreatDoor
