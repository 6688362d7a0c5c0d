/-
  What the document's own words of tokens come to: attr, word, version.
  What the document's own words of tokens come to: decl.
  What the document's own words of tokens come to: open.
-/
import Derived.Test.YtcjlhdmekhifaaaGreatDoorD43
import Derived.Test.YtcjlhdmekhifaaaGreatDoorD33
import Derived.BigQuiet
namespace Go.Proofs.YtcjlhdmekhifaaaGreatDoor
open Go.RowKit

namespace T
theorem quoted_size {l a r : List UInt8} (h : quoted l = some (a, r)) : a.length + r.length + 2 ≤ l.length := by
  unfold quoted at h
  split at h
  · cases h
  · split at h
    · have := congrArg List.length (cutAt_eq h)
      simp at this ⊢; omega
    · cases h
theorem attr_none {l : List UInt8} (h : nameAt l = none) : attr l = .error 70 := by unfold attr; rw [h]
theorem attr_eq {l n r : List UInt8} (h : nameAt l = some (n, r)) (hb : begins [61] (skip r) = false) : attr l = .error 70 := by
  unfold attr; rw [h]; simp only
  split
  · rename_i e; rw [e] at hb; cases hb
  · rfl
theorem attr_of {l n r t : List UInt8} (h : nameAt l = some (n, r)) (hb : skip r = 61 :: t) : attr l = match quoted (skip t) with | none => .error 70 | some (q, r) => if 60 ∈ q then .error 70 else match E.expand true q with | none => .error 60 | some v => .ok ((n, v), r) := by
  unfold attr; rw [h]; simp only; rw [hb]; rfl
/-- attr's answers. -/
def attrE (l : List UInt8) : Int := match attr l with | .ok _ => 0 | .error e => (e : Int)
def attrN (l : List UInt8) : ByteArray := match attr l with | .ok x => ⟨x.1.1.toArray⟩ | .error _ => ⟨#[]⟩
def attrV (l : List UInt8) : ByteArray := match attr l with | .ok x => ⟨x.1.2.toArray⟩ | .error _ => ⟨#[]⟩
def attrR (l : List UInt8) : ByteArray := match attr l with | .ok x => ⟨x.2.toArray⟩ | .error _ => ⟨#[]⟩
theorem attr_told_err {l : List UInt8} {e : Nat} (h : attr l = .error e) : attrE l = (e : Int) ∧ attrN l = ⟨#[]⟩ ∧ attrV l = ⟨#[]⟩ ∧ attrR l = ⟨#[]⟩ := by unfold attrE attrN attrV attrR; rw [h]; exact ⟨rfl, rfl, rfl, rfl⟩
theorem attr_told_ok {l n v r : List UInt8} (h : attr l = .ok ((n, v), r)) : attrE l = 0 ∧ attrN l = ⟨n.toArray⟩ ∧ attrV l = ⟨v.toArray⟩ ∧ attrR l = ⟨r.toArray⟩ := by unfold attrE attrN attrV attrR; rw [h]; exact ⟨rfl, rfl, rfl, rfl⟩
end T

theorem attr_end {R : Ending → World → Prop} {tmps : Array Value} {w : World} {rb : Nat} {n v r : ByteArray} {e : Int} (h2 : tmps[2]? = some (.pointer (some ⟨rb, 0, none⟩))) (h3 : tmps[3]? = some (.string r)) (h4 : tmps[4]? = some (.int .i64 e))
    (hc : Cells w rb 86 #[.string n, .string v]) (hR : R (.returned (.tuple #[.agg #[.string n, .string v], .string r, .int .i64 e])) w) : bodyPost Tryz.prog Tryz.f96 R .ret { tmps := tmps, defers := [] } w := by
  refine ⟨rfl, _, ?_, hR⟩
  have l4 : 4 < tmps.size := (Array.getElem?_eq_some_iff.1 h4).1
  have g2 : tmps[2] = .pointer (some ⟨rb, 0, none⟩) := (Array.getElem?_eq_some_iff.1 h2).2
  have g3 : tmps[3] = .string r := (Array.getElem?_eq_some_iff.1 h3).2
  have g4 : tmps[4] = .int .i64 e := (Array.getElem?_eq_some_iff.1 h4).2
  have l2 : 2 < tmps.size := by omega
  have l3 : 3 < tmps.size := by omega
  have c0 := hc.cell (i := 0) rfl
  have c1 := hc.cell (i := 1) rfl
  simp [results, Tryz.results96, go_sem, l2, l3, l4, g2, g3, g4, c0, c1]
theorem pair_set {w : World} {b : Nat} {x y x' y' : Value} (h : Cells w b 86 #[x, y]) : Cells ((w.setCell ⟨b, 0, none⟩ x').setCell ⟨b, 1, none⟩ y') b 86 #[x', y'] := by
  have := (h.set 0 x').set 1 y'
  simpa using this
theorem pair_below {B : Nat} {w0 w : World} {b : Nat} (h : Below B w0 w) (hb : B ≤ b) (x0 x1 : Value) : Below B w0 ((w.setCell ⟨b, 0, none⟩ x0).setCell ⟨b, 1, none⟩ x1) :=
  (h.setCell (p := ⟨b, 0, none⟩) hb x0).setCell (p := ⟨b, 1, none⟩) hb x1
theorem ret_attr {l : List UInt8} {n v r : ByteArray} {e : Int} (h1 : T.attrE l = e) (h2 : T.attrN l = n) (h3 : T.attrV l = v) (h4 : T.attrR l = r) : Ending.returned (.tuple #[.agg #[.string n, .string v], .string r, .int .i64 e]) = .returned (.tuple #[.agg #[.string (T.attrN l), .string (T.attrV l)], .string (T.attrR l), .int .i64 (T.attrE l)]) := by rw [h1, h2, h3, h4]

set_option maxRecDepth 100000 in
set_option maxHeartbeats 1600000 in
theorem refAttr_any (s : ByteArray) (w : World) (hs : s.size ≤ 1000000) :
    Calls Tryz.prog 96 #[.string s] w fun x w' => x = .returned (.tuple #[.agg #[.string (T.attrN s.data.toList), .string (T.attrV s.data.toList)], .string (T.attrR s.data.toList), .int .i64 (T.attrE s.data.toList)]) ∧ Below w.heap.size w w' := by
  go_enter Tryz.func96, Tryz.ntmps96
  have b0 := (Below.refl w.heap.size w).alloc (Nat.le_refl _) (.cells #[.string ⟨#[]⟩, .string ⟨#[]⟩] 86)
  have k0 := Cells.new w 86 #[.string ⟨#[]⟩, .string ⟨#[]⟩]
  go_wp2_with fail
  (with_reducible refine (refName_any s _ (by unfold maxLen; omega)).mono ?_); rintro e w1 ⟨rfl, b1⟩
  have k1 := k0.on b1
  have c1 := b0.trans (b1.mono b0.size)
  clear k0 b0 b1
  cases hn : T.nameAt s.data.toList with
  | none =>
    have hg := Lib.hid (T.attr_none hn)
    obtain ⟨e1, e2, e3⟩ := name_noneR hn
    rw [e1, e2, e3]
    clear e1 e2 e3 hn
    obtain ⟨r1, r2, r3, r4⟩ := T.attr_told_err hg.out
    replace r1 := Lib.hid r1
    replace r2 := Lib.hid r2
    replace r3 := Lib.hid r3
    replace r4 := Lib.hid r4
    have q0 := k1.cell (i := 0) rfl
    have q1 := k1.cell (i := 1) rfl
    have f0 := k1.free 0
    have f1 := k1.free 1
    replace k1 := Lib.hid k1
    go_wp2_with fail
    exact attr_end (rb := w.heap.size) rfl rfl rfl (pair_set k1.out) ⟨ret_attr r1.out r2.out r3.out r4.out, pair_below c1 (Nat.le_refl _) _ _⟩
  | some q =>
    obtain ⟨n, r⟩ := q
    obtain ⟨a, b, e1, e2, e3, ea, eb, hlt, hle⟩ := name_some hn
    rw [e1, e2, e3]
    clear e1 e2 e3
    have hsk := Rt.skB_size b
    have hsl := Rt.skB_list b
    rw [eb] at hsl
    generalize hu : Rt.skB b = u at *
    replace hu := Lib.hid hu
    replace ea := Lib.hid ea
    clear eb
    go_wp2_with fail
    (with_reducible refine (refSkip5_any b _ (by unfold maxLen; omega)).mono ?_); rintro e w2 ⟨rfl, rfl⟩
    rw [hu.out]
    go_wp2_with fail
    (with_reducible refine (refBegins_any u ⟨#[61]⟩ _ (by unfold maxLen; omega) (by decide)).mono ?_); rintro e w2 ⟨rfl, rfl⟩
    rw [hsl]
    simp only []
    cases hb : T.begins [61] (T.skip r) with
    | false =>
      have hg := Lib.hid (T.attr_eq hn hb)
      clear hn hb hsl
      obtain ⟨r1, r2, r3, r4⟩ := T.attr_told_err hg.out
      replace r1 := Lib.hid r1
      replace r2 := Lib.hid r2
      replace r3 := Lib.hid r3
      replace r4 := Lib.hid r4
      have q0 := k1.cell (i := 0) rfl
      have q1 := k1.cell (i := 1) rfl
      have f0 := k1.free 0
      have f1 := k1.free 1
      replace k1 := Lib.hid k1
      go_wp2_with fail
      exact attr_end (rb := w.heap.size) rfl rfl rfl (pair_set k1.out) ⟨ret_attr r1.out r2.out r3.out r4.out, pair_below c1 (Nat.le_refl _) _ _⟩
    | true =>
      obtain ⟨t, ht⟩ := T.begins_iff.1 hb
      have hA := T.attr_of (t := t) hn ht.symm
      have hu1 : 1 ≤ u.size := by
        have := congrArg List.length hsl
        rw [list_len, ← ht] at this
        simp at this; omega
      have hu2 : (1 : Int) ≤ (u.size : Int) := by omega
      have er : (u.extract 1 u.size).data.toList = t := by rw [drop_list, hsl, ← ht]; rfl
      have hz1 : (u.extract 1 u.size).size ≤ 1000000 := by simp; omega
      have hz2 := Rt.skB_size (u.extract 1 u.size)
      have hl2 := Rt.skB_list (u.extract 1 u.size)
      rw [er] at hl2
      generalize hx : Rt.skB (u.extract 1 u.size) = x at *
      replace hx := Lib.hid hx
      clear hn hb hsl ht er
      go_wp2_with fail
      (with_reducible refine (refSkip5_any (u.extract 1 u.size) _ (by unfold maxLen; omega)).mono ?_); rintro e w2 ⟨rfl, rfl⟩
      rw [hx.out]
      go_wp2_with fail
      (with_reducible refine (refQuoted_any x _ (by omega)).mono ?_); rintro e w2 ⟨rfl, b2⟩
      have k2 := k1.on b2
      have c2 := c1.trans (b2.mono c1.size)
      clear k1 c1 b2
      cases hq : T.quoted (T.skip t) with
      | none =>
        have hg := Lib.hid (show T.attr s.data.toList = .error 70 by rw [hA, hq])
        obtain ⟨e1, e2, e3⟩ := Rt.qu_none (s := x) (by rw [hl2]; exact hq)
        rw [e1, e2, e3]
        clear e1 e2 e3 hA hq hl2
        obtain ⟨r1, r2, r3, r4⟩ := T.attr_told_err hg.out
        replace r1 := Lib.hid r1
        replace r2 := Lib.hid r2
        replace r3 := Lib.hid r3
        replace r4 := Lib.hid r4
        have q0 := k2.cell (i := 0) rfl
        have q1 := k2.cell (i := 1) rfl
        have f0 := k2.free 0
        have f1 := k2.free 1
        replace k2 := Lib.hid k2
        go_wp2_with fail
        exact attr_end (rb := w.heap.size) rfl rfl rfl (pair_set k2.out) ⟨ret_attr r1.out r2.out r3.out r4.out, pair_below c2 (Nat.le_refl _) _ _⟩
      | some p =>
        obtain ⟨q, y⟩ := p
        have hqs := T.quoted_size hq
        rw [← hl2, list_len] at hqs
        rw [hq] at hA
        simp only at hA
        obtain ⟨e1, e2, e3⟩ := Rt.qu_some (s := x) (by rw [hl2]; exact hq)
        rw [e1, e2, e3]
        clear e1 e2 e3 hq hl2
        obtain ⟨qb, hqb⟩ : ∃ qb : ByteArray, qb = ⟨q.toArray⟩ := ⟨_, rfl⟩
        obtain ⟨yb, hyb⟩ : ∃ yb : ByteArray, yb = ⟨y.toArray⟩ := ⟨_, rfl⟩
        rw [← hqb, ← hyb]
        have hql : qb.data.toList = q := by rw [hqb]
        have hqz : qb.size ≤ 1000000 := by rw [← list_len, hql]; omega
        replace hyb := Lib.hid hyb
        clear hqb
        go_wp2_with fail
        (with_reducible refine (refFind_any qb ⟨#[60]⟩ _ hqz (by decide) (by decide)).mono ?_); rintro e w3 ⟨rfl, rfl⟩
        rw [hql]
        simp only []
        have hm := T.find_mem 60 q
        generalize T.findI [60] q = z at *
        by_cases h60 : 60 ∈ q
        · have hg := Lib.hid (show T.attr s.data.toList = .error 70 by rw [hA, if_pos h60])
          have hz : (0 : Int) ≤ z := by rw [decide_eq_true h60] at hm; exact of_decide_eq_true hm
          clear hA hm h60
          obtain ⟨r1, r2, r3, r4⟩ := T.attr_told_err hg.out
          replace r1 := Lib.hid r1
          replace r2 := Lib.hid r2
          replace r3 := Lib.hid r3
          replace r4 := Lib.hid r4
          have q0 := k2.cell (i := 0) rfl
          have q1 := k2.cell (i := 1) rfl
          have f0 := k2.free 0
          have f1 := k2.free 1
          replace k2 := Lib.hid k2
          go_wp2_with fail
          exact attr_end (rb := w.heap.size) rfl rfl rfl (pair_set k2.out) ⟨ret_attr r1.out r2.out r3.out r4.out, pair_below c2 (Nat.le_refl _) _ _⟩
        · rw [if_neg h60] at hA
          have hz : ¬ (0 : Int) ≤ z := by rw [decide_eq_false h60] at hm; exact of_decide_eq_false hm
          clear hm h60
          go_wp2_with fail
          (with_reducible refine (refValue_any qb _ hqz).mono ?_); rintro e w4 ⟨rfl, b4⟩
          have k4 := k2.on b4
          have c4 := c2.trans (b4.mono c2.size)
          clear k2 c2 b4
          cases hv : E.expand true q with
          | none =>
            have hg := Lib.hid (show T.attr s.data.toList = .error 60 by rw [hA, hv])
            obtain ⟨e1, e2⟩ := E.exp_none (attr := true) (s := qb) (by rw [hql]; exact hv)
            rw [e1, e2]
            clear e1 e2 hA hv hql
            obtain ⟨r1, r2, r3, r4⟩ := T.attr_told_err hg.out
            replace r1 := Lib.hid r1
            replace r2 := Lib.hid r2
            replace r3 := Lib.hid r3
            replace r4 := Lib.hid r4
            have q0 := k4.cell (i := 0) rfl
            have q1 := k4.cell (i := 1) rfl
            have f0 := k4.free 0
            have f1 := k4.free 1
            replace k4 := Lib.hid k4
            go_wp2_with fail
            exact attr_end (rb := w.heap.size) rfl rfl rfl (pair_set k4.out) ⟨ret_attr r1.out r2.out r3.out r4.out, pair_below c4 (Nat.le_refl _) _ _⟩
          | some v =>
            have hg := Lib.hid (show T.attr s.data.toList = .ok ((n, v), y) by rw [hA, hv])
            obtain ⟨e1, e2⟩ := E.exp_some (attr := true) (s := qb) (by rw [hql]; exact hv)
            rw [e1, e2]
            obtain ⟨vb, hvb⟩ : ∃ vb : ByteArray, vb = ⟨v.toArray⟩ := ⟨_, rfl⟩
            rw [← hvb]
            replace hvb := Lib.hid hvb
            clear e1 e2 hA hv hql
            obtain ⟨r1, r2, r3, r4⟩ := T.attr_told_ok hg.out
            replace r1 := Lib.hid r1
            have r2' := Lib.hid (r2.trans (show _ = a from bytes_eq ea.out.symm))
            have r3' := Lib.hid (r3.trans hvb.out.symm)
            have r4' := Lib.hid (r4.trans hyb.out.symm)
            clear r2 r3 r4
            have q0 := k4.cell (i := 0) rfl
            have q1 := k4.cell (i := 1) rfl
            have f0 := k4.free 0
            have f1 := k4.free 1
            replace k4 := Lib.hid k4
            go_wp2_with fail
            exact attr_end (rb := w.heap.size) rfl rfl rfl (pair_set k4.out) ⟨ret_attr r1.out r2'.out r3'.out r4'.out, pair_below c4 (Nat.le_refl _) _ _⟩

namespace Rt
/-- word's answers. -/
def woA (s n : ByteArray) : ByteArray := match T.word s.data.toList n.data.toList with | some x => ⟨x.1.toArray⟩ | none => ⟨#[]⟩
def woB (s n : ByteArray) : ByteArray := match T.word s.data.toList n.data.toList with | some x => ⟨x.2.toArray⟩ | none => ⟨#[]⟩
def woC (s n : ByteArray) : Bool := (T.word s.data.toList n.data.toList).isSome
theorem wo_none {s n : ByteArray} (h : T.word s.data.toList n.data.toList = none) : woA s n = ⟨#[]⟩ ∧ woB s n = ⟨#[]⟩ ∧ woC s n = false := by unfold woA woB woC; rw [h]; exact ⟨rfl, rfl, rfl⟩
theorem wo_some {s n : ByteArray} {x y : List UInt8} (h : T.word s.data.toList n.data.toList = some (x, y)) : woA s n = ⟨x.toArray⟩ ∧ woB s n = ⟨y.toArray⟩ ∧ woC s n = true := by unfold woA woB woC; rw [h]; exact ⟨rfl, rfl, rfl⟩
theorem wo_same {s n : ByteArray} {x : ByteArray} (h : T.word s.data.toList n.data.toList = T.quoted x.data.toList) : woA s n = quA x ∧ woB s n = quB x ∧ woC s n = quC x := by unfold woA woB woC quA quB quC; rw [h]; exact ⟨rfl, rfl, rfl⟩
end Rt
namespace T
theorem word_stay {l n : List UInt8} (h : (skip l).length = l.length) : word l n = none := by unfold word; rw [if_pos h]
theorem word_noR {l n : List UInt8} (h : begins n (skip l) = false) : word l n = none := by unfold word; split; rfl; rw [if_neg (by rw [h]; decide)]
theorem word_of {l n : List UInt8} (h : ¬ (skip l).length = l.length) (hb : begins n (skip l) = true) : word l n = match skip ((skip l).drop n.length) with | 61 :: t => quoted (skip t) | _ => none := by unfold word; rw [if_neg h, if_pos hb]; first | done | rfl
end T

set_option maxRecDepth 100000 in
set_option maxHeartbeats 1600000 in
theorem refWord_any (s n : ByteArray) (w : World) (hs : s.size ≤ 1000000) (hn : n.size ≤ 1000) :
    Calls Tryz.prog 91 #[.string s, .string n] w fun x w' => x = .returned (.tuple #[.string (Rt.woA s n), .string (Rt.woB s n), .bool (Rt.woC s n)]) ∧ Below w.heap.size w w' := by
  go_enter Tryz.func91, Tryz.ntmps91
  have hz := Rt.skB_size s
  have hl := Rt.skB_list s
  generalize hu : Rt.skB s = u at *
  replace hu := Lib.hid hu
  go_wp2_with fail
  (with_reducible refine (refSkip5_any s _ (by unfold maxLen; omega)).mono ?_); rintro e w2 ⟨rfl, rfl⟩
  rw [hu.out]
  by_cases h0 : u.size = s.size
  · obtain ⟨r1, r2, r3⟩ := Rt.wo_none (n := n) (T.word_stay (l := s.data.toList) (by rw [← hl, list_len, list_len]; exact h0))
    have h0i : (u.size : Int) = (s.size : Int) := by omega
    replace r1 := Lib.hid r1
    replace r2 := Lib.hid r2
    replace r3 := Lib.hid r3
    clear hl h0
    go_wp2
    go_ret3
    exact ⟨ret_ssb r1.out.symm r2.out.symm r3.out.symm, Below.refl _ _⟩
  have h0i : ¬ (u.size : Int) = (s.size : Int) := by omega
  go_wp2_with fail
  (with_reducible refine (refBegins_any u n _ (by unfold maxLen; omega) (by unfold maxLen; omega)).mono ?_); rintro e w2 ⟨rfl, rfl⟩
  cases hb : T.begins n.data.toList u.data.toList with
  | false =>
    obtain ⟨r1, r2, r3⟩ := Rt.wo_none (n := n) (T.word_noR (l := s.data.toList) (by rw [← hl]; exact hb))
    replace r1 := Lib.hid r1
    replace r2 := Lib.hid r2
    replace r3 := Lib.hid r3
    clear hl hb
    go_wp2
    go_ret3
    exact ⟨ret_ssb r1.out.symm r2.out.symm r3.out.symm, Below.refl _ _⟩
  | true =>
    have hW := T.word_of (l := s.data.toList) (n := n.data.toList) (by rw [← hl, list_len, list_len]; exact h0) (by rw [← hl]; exact hb)
    rw [← hl] at hW
    have hnu : n.size ≤ u.size := by
      rw [T.begins_take] at hb
      have := (of_decide_eq_true hb).1
      rwa [list_len, list_len] at this
    have hnui : (n.size : Int) ≤ (u.size : Int) := by omega
    have hd : (u.extract n.size u.size).data.toList = u.data.toList.drop n.data.toList.length := by rw [drop_list, list_len]
    rw [← hd] at hW
    have hz2 := Rt.skB_size (u.extract n.size u.size)
    have hl2 := Rt.skB_list (u.extract n.size u.size)
    have hz3 : (u.extract n.size u.size).size ≤ 1000000 := by simp; omega
    generalize hx : Rt.skB (u.extract n.size u.size) = x at *
    replace hx := Lib.hid hx
    rw [← hl2] at hW
    clear hl hb hd hl2
    go_wp2_with fail
    (with_reducible refine (refSkip5_any (u.extract n.size u.size) _ (by unfold maxLen; omega)).mono ?_); rintro e w2 ⟨rfl, rfl⟩
    rw [hx.out]
    go_wp2_with fail
    (with_reducible refine (refBegins_any x ⟨#[61]⟩ _ (by unfold maxLen; omega) (by decide)).mono ?_); rintro e w2 ⟨rfl, rfl⟩
    simp only []
    cases hb : T.begins [61] x.data.toList with
    | false =>
      obtain ⟨r1, r2, r3⟩ := Rt.wo_none (s := s) (n := n) (hW.trans (by
        split
        · rename_i e; rw [e] at hb; cases hb
        · rfl))
      replace r1 := Lib.hid r1
      replace r2 := Lib.hid r2
      replace r3 := Lib.hid r3
      clear hb hW
      go_wp2
      go_ret3
      exact ⟨ret_ssb r1.out.symm r2.out.symm r3.out.symm, Below.refl _ _⟩
    | true =>
      obtain ⟨t, ht⟩ := T.begins_iff.1 hb
      rw [← ht] at hW
      have hx1 : 1 ≤ x.size := by
        have := congrArg List.length ht
        rw [list_len] at this
        simp at this; omega
      have hx2 : (1 : Int) ≤ (x.size : Int) := by omega
      have er : (x.extract 1 x.size).data.toList = t := by rw [drop_list, ← ht]; rfl
      have hz4 : (x.extract 1 x.size).size ≤ 1000000 := by simp; omega
      have hz5 := Rt.skB_size (x.extract 1 x.size)
      have hl5 := Rt.skB_list (x.extract 1 x.size)
      rw [er] at hl5
      generalize hv : Rt.skB (x.extract 1 x.size) = v at *
      replace hv := Lib.hid hv
      obtain ⟨r1, r2, r3⟩ := Rt.wo_same (s := s) (n := n) (x := v) (hW.trans (by rw [hl5]; rfl))
      replace r1 := Lib.hid r1
      replace r2 := Lib.hid r2
      replace r3 := Lib.hid r3
      clear hb hW ht er hl5
      go_wp2_with fail
      (with_reducible refine (refSkip5_any (x.extract 1 x.size) _ (by unfold maxLen; omega)).mono ?_); rintro e w2 ⟨rfl, rfl⟩
      rw [hv.out]
      go_wp2_with fail
      (with_reducible refine (refQuoted_any v _ (by omega)).mono ?_); rintro e w2 ⟨rfl, b2⟩
      go_wp2
      go_ret3
      exact ⟨ret_ssb r1.out.symm r2.out.symm r3.out.symm, b2⟩

/-- A digit? -/
def T.digitB (b : UInt8) : Bool := decide (48 ≤ b.toNat ∧ b.toNat ≤ 57)
theorem T.version_ofR (l : List UInt8) : T.version l = (T.begins [49, 46] l && decide (3 ≤ l.length) && (l.drop 2).all T.digitB) := rfl

set_option maxRecDepth 100000 in
set_option maxHeartbeats 1600000 in
theorem refVersion_any (s : ByteArray) (w : World) (hs : s.size ≤ 1000000) :
    Calls Tryz.prog 92 #[.string s] w fun x w' => x = .returned (.bool (T.version s.data.toList)) ∧ w = w' := by
  have hV := T.version_ofR s.data.toList
  go_enter Tryz.func92, Tryz.ntmps92
  go_wp2_with fail
  (with_reducible refine (refBegins_any s ⟨#[49, 46]⟩ _ (by unfold maxLen; omega) (by decide)).mono ?_); rintro e w2 ⟨rfl, rfl⟩
  simp only []
  cases hb : T.begins [49, 46] s.data.toList with
  | false =>
    have hr := Lib.hid (show T.version s.data.toList = false by rw [hV, hb]; rfl)
    clear hV hb
    go_wp2
    go_ret
    exact ⟨ret_bool hr.out.symm, rfl⟩
  | true =>
    by_cases h3 : s.size < 3
    · have hr := Lib.hid (show T.version s.data.toList = false by rw [hV, list_len, decide_eq_false (by omega)]; simp)
      have h3i : (s.size : Int) < 3 := by omega
      clear hV hb
      go_wp2
      go_ret
      exact ⟨ret_bool hr.out.symm, rfl⟩
    have hV2 := Lib.hid (show T.version s.data.toList = (s.data.toList.drop 2).all T.digitB by rw [hV, hb, list_len, decide_eq_true (by omega)]; simp)
    have h3i : ¬ (s.size : Int) < 3 := by omega
    clear hV hb
    go_wp2_with fail
    go_loop [3] (fun i => ∃ k : Nat, 2 ≤ k ∧ k ≤ s.size ∧ i = .int .i64 (k : Int) ∧ Hid (((s.data.toList.drop 2).take (k - 2)).all T.digitB = true)) (fun i => s.size - (intOf i).toNat)
    case atStart => exact ⟨2, Nat.le_refl _, by omega, rfl, Lib.hid (by simp)⟩
    case round =>
      obtain ⟨k, hk2, hk, rfl, hl⟩ := hrel
      by_cases hlt : k < s.size
      · have hks : k - 2 < (s.data.toList.drop 2).length := by rw [List.length_drop, list_len]; omega
        have hst := all_take T.digitB (s.data.toList.drop 2) (k - 2) hks
        rw [hl.out, Bool.true_and] at hst
        have hgk : (s.data.toList.drop 2)[k - 2] = s[k] := by
          rw [List.getElem_drop]
          have : 2 + (k - 2) = k := by omega
          simp only [this]; rfl
        rw [hgk] at hst
        have hall := fun h => all_not T.digitB (s.data.toList.drop 2) (k - 2) hks (by rw [hgk]; exact h)
        have hb8 := (s[k]).toNat_lt
        by_cases hd : 48 ≤ (s[k]).toNat ∧ (s[k]).toNat ≤ 57
        · have hr := Lib.hid (show ((s.data.toList.drop 2).take (k + 1 - 2)).all T.digitB = true by
            rw [show k + 1 - 2 = k - 2 + 1 by omega, hst]; exact decide_eq_true hd)
          obtain ⟨d1, d2⟩ := hd
          clear hall hst hgk hl
          go_wp2
          go_round
          case rel => exact ⟨k + 1, by omega, by omega, by go_num, hr⟩
          case measure => simp [intOf]; omega
        · have hr := Lib.hid (hV2.out.trans (hall (decide_eq_false hd)))
          have hd2 : (s[k]).toNat < 48 ∨ (48 ≤ (s[k]).toNat ∧ 57 < (s[k]).toNat) := by omega
          clear hall hst hgk hl hd
          rcases hd2 with d1 | ⟨d1, d2⟩
          all_goals
            go_wp2
            go_ret
            exact ⟨ret_bool hr.out.symm, rfl⟩
      · have hfull : (s.data.toList.drop 2).take (k - 2) = s.data.toList.drop 2 := List.take_of_length_le (by rw [List.length_drop, list_len]; omega)
        rw [hfull] at hl
        have hr := Lib.hid (hV2.out.trans hl.out)
        clear hfull hl
        go_wp2
        go_ret
        exact ⟨ret_bool hr.out.symm, rfl⟩
end Go.Proofs.YtcjlhdmekhifaaaGreatDoor
namespace Go.Proofs.YtcjlhdmekhifaaaGreatDoor
open Go.RowKit

namespace T
theorem word_size {l n v r : List UInt8} (h : word l n = some (v, r)) : v.length + r.length ≤ l.length := by
  unfold word at h
  split at h
  · cases h
  · split at h
    · split at h
      · rename_i t e
        have h1 := quoted_size h
        have h2 := skip_le t
        have h3 := skip_le ((skip l).drop n.length)
        have h4 := skip_le l
        rw [e] at h3
        simp only [List.length_cons, List.length_drop] at h3
        omega
      · cases h
    · cases h
theorem decl_no {l : List UInt8} (h : word l [118, 101, 114, 115, 105, 111, 110] = none) : decl l = .error 70 := by unfold decl; rw [h]
theorem decl_ver {l v r : List UInt8} (h : word l [118, 101, 114, 115, 105, 111, 110] = some (v, r)) (hv : version v = false) : decl l = .error 70 := by unfold decl; rw [h]; simp only; rw [if_neg (by rw [hv]; decide)]
theorem decl_on {l v r : List UInt8} (h : word l [118, 101, 114, 115, 105, 111, 110] = some (v, r)) (hv : version v = true) : decl l = match encoding r with | none => .error 70 | some r => match standalone r with | none => .error 70 | some r => declEnd r := by
  unfold decl; rw [h]; simp only; rw [if_pos hv]; first | done | rfl
theorem enc_none {r : List UInt8} (h : word r [101, 110, 99, 111, 100, 105, 110, 103] = none) : encoding r = some r := by unfold encoding; rw [h]
theorem enc_noR {r v m : List UInt8} (h : word r [101, 110, 99, 111, 100, 105, 110, 103] = some (v, m)) (hv : ¬ v.map lower = [117, 116, 102, 45, 56]) : encoding r = none := by unfold encoding; rw [h]; simp only; rw [if_neg hv]
theorem enc_yes {r v m : List UInt8} (h : word r [101, 110, 99, 111, 100, 105, 110, 103] = some (v, m)) (hv : v.map lower = [117, 116, 102, 45, 56]) : encoding r = some m := by unfold encoding; rw [h]; simp only; rw [if_pos hv]
theorem sta_none {r : List UInt8} (h : word r [115, 116, 97, 110, 100, 97, 108, 111, 110, 101] = none) : standalone r = some r := by unfold standalone; rw [h]
theorem sta_no {r v m : List UInt8} (h : word r [115, 116, 97, 110, 100, 97, 108, 111, 110, 101] = some (v, m)) (h1 : ¬ v = [121, 101, 115]) (h2 : ¬ v = [110, 111]) : standalone r = none := by unfold standalone; rw [h]; simp only; rw [if_neg (fun c => c.elim h1 h2)]
theorem sta_yes {r v m : List UInt8} (h : word r [115, 116, 97, 110, 100, 97, 108, 111, 110, 101] = some (v, m)) (h1 : v = [121, 101, 115] ∨ v = [110, 111]) : standalone r = some m := by unfold standalone; rw [h]; simp only; rw [if_pos h1]
theorem end_noR {l : List UInt8} (h : begins [63, 62] (skip l) = false) : declEnd l = .error 70 := by
  unfold declEnd
  split
  · rename_i e; rw [e] at h; cases h
  · rfl
theorem end_yes {l t : List UInt8} (h : skip l = 63 :: 62 :: t) : declEnd l = .ok (⟨5, [], [], false, []⟩, t) := by unfold declEnd; rw [h]; first | done | rfl
end T
/-- A word that is there, in bytes. -/
theorem word_bytes {s n : ByteArray} {v r : List UInt8} (h : T.word s.data.toList n.data.toList = some (v, r)) : ∃ a b : ByteArray, Rt.woA s n = a ∧ Rt.woB s n = b ∧ Rt.woC s n = true ∧ a.data.toList = v ∧ b.data.toList = r ∧ a.size ≤ s.size ∧ b.size ≤ s.size := by
  obtain ⟨e1, e2, e3⟩ := Rt.wo_some h
  have hz := T.word_size h
  refine ⟨_, _, e1, e2, e3, rfl, rfl, ?_, ?_⟩
  · rw [← list_len, ← list_len s]
    show v.length ≤ _
    omega
  · rw [← list_len, ← list_len s]
    show r.length ≤ _
    omega

set_option maxRecDepth 100000 in
set_option maxHeartbeats 6400000 in
theorem refDecl_any (s : ByteArray) (w : World) (hs : s.size ≤ 1000000) :
    Calls Tryz.prog 48 #[.string s] w fun x w' => x = .returned (partVal (T.decl s.data.toList) (.slice none 0 0)) ∧ Below w.heap.size w w' := by
  go_enter Tryz.func48, Tryz.ntmps48
  have b0 := (Below.refl w.heap.size w).alloc (Nat.le_refl _) (.cells (partCells 0 ⟨#[]⟩ (.slice none 0 0) false ⟨#[]⟩ ⟨#[]⟩ 0) 53)
  have k0 := Cells.new w 53 (partCells 0 ⟨#[]⟩ (.slice none 0 0) false ⟨#[]⟩ ⟨#[]⟩ 0)
  go_wp2_with fail
  (with_reducible refine (refWord_any s ⟨#[118, 101, 114, 115, 105, 111, 110]⟩ _ (by omega) (by decide)).mono ?_); rintro e w1 ⟨rfl, b1⟩
  have k1 := k0.on b1
  have c1 := b0.trans (b1.mono b0.size)
  clear b1
  clear k0 b0
  cases hw : T.word s.data.toList [118, 101, 114, 115, 105, 111, 110] with
  | none =>
    have hg := Lib.hid (T.decl_no hw)
    obtain ⟨e1, e2, e3⟩ := Rt.wo_none (s := s) (n := ⟨#[118, 101, 114, 115, 105, 111, 110]⟩) hw
    rw [e1, e2, e3]
    clear e1 e2 e3
    clear hw
    go_wp2_with fail
    (with_reducible refine (refFailed_any 70 _).mono ?_); rintro e wF ⟨rfl, bF⟩
    have kF := k1.on bF
    have cF := c1.trans (bF.mono c1.size)
    obtain ⟨q0, q1, q2, q3, q4, q5, q6⟩ := part_open kF
    obtain ⟨f0, f1, f2, f3, f4, f5, f6⟩ := part_free kF
    replace kF := Lib.hid kF
    unfold partAgg partCells
    go_wp2_with fail
    exact part_end (rb := w.heap.size) rfl rfl (part_set kF.out) ⟨by rw [partVal_err _ hg.out]; rfl, part_below cF (Nat.le_refl _) _ _ _ _ _ _ _⟩
  | some q =>
    obtain ⟨v, r⟩ := q
    obtain ⟨a1, b1, e1, e2, e3, eaa1, ebb1, hza1, hyb1⟩ := word_bytes (s := s) (n := ⟨#[118, 101, 114, 115, 105, 111, 110]⟩) hw
    rw [e1, e2, e3]
    clear e1 e2 e3
    go_wp2_with fail
    (with_reducible refine (refVersion_any a1 _ (by omega)).mono ?_); rintro e w2 ⟨rfl, rfl⟩
    rw [eaa1]
    cases hv : T.version v with
    | false =>
      have hg := Lib.hid (T.decl_ver hw hv)
      clear hw hv eaa1 ebb1
      go_wp2_with fail
      (with_reducible refine (refFailed_any 70 _).mono ?_); rintro e wF ⟨rfl, bF⟩
      have kF := k1.on bF
      have cF := c1.trans (bF.mono c1.size)
      obtain ⟨q0, q1, q2, q3, q4, q5, q6⟩ := part_open kF
      obtain ⟨f0, f1, f2, f3, f4, f5, f6⟩ := part_free kF
      replace kF := Lib.hid kF
      unfold partAgg partCells
      go_wp2_with fail
      exact part_end (rb := w.heap.size) rfl rfl (part_set kF.out) ⟨by rw [partVal_err _ hg.out]; rfl, part_below cF (Nat.le_refl _) _ _ _ _ _ _ _⟩
    | true =>
      have hD := T.decl_on hw hv
      rw [← ebb1] at hD
      clear hw hv eaa1 ebb1
      go_wp2_with fail
      (with_reducible refine (refWord_any b1 ⟨#[101, 110, 99, 111, 100, 105, 110, 103]⟩ _ (by omega) (by decide)).mono ?_); rintro e w1 ⟨rfl, b1⟩
      have k3 := k1.on b1
      have c3 := c1.trans (b1.mono c1.size)
      clear b1
      clear k1 c1
      cases hw : T.word b1.data.toList [101, 110, 99, 111, 100, 105, 110, 103] with
      | none =>
        rw [T.enc_none hw] at hD
        simp only at hD
        obtain ⟨e1, e2, e3⟩ := Rt.wo_none (s := b1) (n := ⟨#[101, 110, 99, 111, 100, 105, 110, 103]⟩) hw
        rw [e1, e2, e3]
        clear e1 e2 e3
        clear hw
        go_wp2_with fail
        (with_reducible refine (refWord_any b1 ⟨#[115, 116, 97, 110, 100, 97, 108, 111, 110, 101]⟩ _ (by omega) (by decide)).mono ?_); rintro e w1 ⟨rfl, b1⟩
        have k7 := k3.on b1
        have c7 := c3.trans (b1.mono c3.size)
        clear b1
        cases hw : T.word b1.data.toList [115, 116, 97, 110, 100, 97, 108, 111, 110, 101] with
        | none =>
          rw [T.sta_none hw] at hD
          simp only at hD
          obtain ⟨e1, e2, e3⟩ := Rt.wo_none (s := b1) (n := ⟨#[115, 116, 97, 110, 100, 97, 108, 111, 110, 101]⟩) hw
          rw [e1, e2, e3]
          clear e1 e2 e3
          clear hw
          have hsk := Rt.skB_size b1
          have hsl := Rt.skB_list b1
          generalize hu : Rt.skB b1 = u at *
          replace hu := Lib.hid hu
          go_wp2_with fail
          (with_reducible refine (refSkip5_any b1 _ (by unfold maxLen; omega)).mono ?_); rintro e w2 ⟨rfl, rfl⟩
          rw [hu.out]
          go_wp2_with fail
          (with_reducible refine (refBegins_any u ⟨#[63, 62]⟩ _ (by unfold maxLen; omega) (by decide)).mono ?_); rintro e w2 ⟨rfl, rfl⟩
          rw [hsl]
          simp only []
          cases hb : T.begins [63, 62] (T.skip b1.data.toList) with
          | false =>
            have hg := Lib.hid (hD.trans (T.end_noR hb))
            clear hD hb hsl
            go_wp2_with fail
            (with_reducible refine (refFailed_any 70 _).mono ?_); rintro e wF ⟨rfl, bF⟩
            have kF := k7.on bF
            have cF := c7.trans (bF.mono c7.size)
            obtain ⟨q0, q1, q2, q3, q4, q5, q6⟩ := part_open kF
            obtain ⟨f0, f1, f2, f3, f4, f5, f6⟩ := part_free kF
            replace kF := Lib.hid kF
            unfold partAgg partCells
            go_wp2_with fail
            exact part_end (rb := w.heap.size) rfl rfl (part_set kF.out) ⟨by rw [partVal_err _ hg.out]; rfl, part_below cF (Nat.le_refl _) _ _ _ _ _ _ _⟩
          | true =>
            obtain ⟨t, ht⟩ := T.begins_iff.1 hb
            have hg := Lib.hid (hD.trans (T.end_yes (t := t) ht.symm))
            have hu1 : 2 ≤ u.size := by
              have := congrArg List.length hsl
              rw [list_len, ← ht] at this
              simp at this; omega
            have er := Lib.hid (show (u.extract 2 u.size).data.toList = t by rw [drop_list, hsl, ← ht]; rfl)
            clear hD hb hsl ht
            obtain ⟨q0, q1, q2, q3, q4, q5, q6⟩ := part_open k7
            obtain ⟨f0, f1, f2, f3, f4, f5, f6⟩ := part_free k7
            replace k7 := Lib.hid k7
            go_wp2_with fail
            exact part_end (rb := w.heap.size) rfl rfl (part_set k7.out) ⟨congrArg Ending.returned (partVal_ok _ hg.out rfl rfl rfl rfl er.out), part_below c7 (Nat.le_refl _) _ _ _ _ _ _ _⟩
        | some q =>
          obtain ⟨v3, m3⟩ := q
          obtain ⟨a3, b3, e1, e2, e3, eaa3, ebb3, hza3, hyb3⟩ := word_bytes (s := b1) (n := ⟨#[115, 116, 97, 110, 100, 97, 108, 111, 110, 101]⟩) hw
          rw [e1, e2, e3]
          clear e1 e2 e3
          by_cases h1 : v3 = [121, 101, 115]
          · rw [T.sta_yes hw (.inl h1)] at hD
            simp only at hD
            have g1 : (a3.toList == [121, 101, 115]) = true := Rt.str_is (eaa3.trans h1)
            rw [← ebb3] at hD
            clear hw h1 eaa3 ebb3
            have hsk := Rt.skB_size b3
            have hsl := Rt.skB_list b3
            generalize hu : Rt.skB b3 = u at *
            replace hu := Lib.hid hu
            go_wp2_with fail
            (with_reducible refine (refSkip5_any b3 _ (by unfold maxLen; omega)).mono ?_); rintro e w2 ⟨rfl, rfl⟩
            rw [hu.out]
            go_wp2_with fail
            (with_reducible refine (refBegins_any u ⟨#[63, 62]⟩ _ (by unfold maxLen; omega) (by decide)).mono ?_); rintro e w2 ⟨rfl, rfl⟩
            rw [hsl]
            simp only []
            cases hb : T.begins [63, 62] (T.skip b3.data.toList) with
            | false =>
              have hg := Lib.hid (hD.trans (T.end_noR hb))
              clear hD hb hsl
              go_wp2_with fail
              (with_reducible refine (refFailed_any 70 _).mono ?_); rintro e wF ⟨rfl, bF⟩
              have kF := k7.on bF
              have cF := c7.trans (bF.mono c7.size)
              obtain ⟨q0, q1, q2, q3, q4, q5, q6⟩ := part_open kF
              obtain ⟨f0, f1, f2, f3, f4, f5, f6⟩ := part_free kF
              replace kF := Lib.hid kF
              unfold partAgg partCells
              go_wp2_with fail
              exact part_end (rb := w.heap.size) rfl rfl (part_set kF.out) ⟨by rw [partVal_err _ hg.out]; rfl, part_below cF (Nat.le_refl _) _ _ _ _ _ _ _⟩
            | true =>
              obtain ⟨t, ht⟩ := T.begins_iff.1 hb
              have hg := Lib.hid (hD.trans (T.end_yes (t := t) ht.symm))
              have hu1 : 2 ≤ u.size := by
                have := congrArg List.length hsl
                rw [list_len, ← ht] at this
                simp at this; omega
              have er := Lib.hid (show (u.extract 2 u.size).data.toList = t by rw [drop_list, hsl, ← ht]; rfl)
              clear hD hb hsl ht
              obtain ⟨q0, q1, q2, q3, q4, q5, q6⟩ := part_open k7
              obtain ⟨f0, f1, f2, f3, f4, f5, f6⟩ := part_free k7
              replace k7 := Lib.hid k7
              go_wp2_with fail
              exact part_end (rb := w.heap.size) rfl rfl (part_set k7.out) ⟨congrArg Ending.returned (partVal_ok _ hg.out rfl rfl rfl rfl er.out), part_below c7 (Nat.le_refl _) _ _ _ _ _ _ _⟩
          have g1 : (a3.toList == [121, 101, 115]) = false := Rt.str_ne (fun e => h1 (eaa3.symm.trans e))
          by_cases h2 : v3 = [110, 111]
          · rw [T.sta_yes hw (.inr h2)] at hD
            simp only at hD
            have g2 : (a3.toList == [110, 111]) = true := Rt.str_is (eaa3.trans h2)
            rw [← ebb3] at hD
            clear hw h1 h2 eaa3 ebb3
            have hsk := Rt.skB_size b3
            have hsl := Rt.skB_list b3
            generalize hu : Rt.skB b3 = u at *
            replace hu := Lib.hid hu
            go_wp2_with fail
            (with_reducible refine (refSkip5_any b3 _ (by unfold maxLen; omega)).mono ?_); rintro e w2 ⟨rfl, rfl⟩
            rw [hu.out]
            go_wp2_with fail
            (with_reducible refine (refBegins_any u ⟨#[63, 62]⟩ _ (by unfold maxLen; omega) (by decide)).mono ?_); rintro e w2 ⟨rfl, rfl⟩
            rw [hsl]
            simp only []
            cases hb : T.begins [63, 62] (T.skip b3.data.toList) with
            | false =>
              have hg := Lib.hid (hD.trans (T.end_noR hb))
              clear hD hb hsl
              go_wp2_with fail
              (with_reducible refine (refFailed_any 70 _).mono ?_); rintro e wF ⟨rfl, bF⟩
              have kF := k7.on bF
              have cF := c7.trans (bF.mono c7.size)
              obtain ⟨q0, q1, q2, q3, q4, q5, q6⟩ := part_open kF
              obtain ⟨f0, f1, f2, f3, f4, f5, f6⟩ := part_free kF
              replace kF := Lib.hid kF
              unfold partAgg partCells
              go_wp2_with fail
              exact part_end (rb := w.heap.size) rfl rfl (part_set kF.out) ⟨by rw [partVal_err _ hg.out]; rfl, part_below cF (Nat.le_refl _) _ _ _ _ _ _ _⟩
            | true =>
              obtain ⟨t, ht⟩ := T.begins_iff.1 hb
              have hg := Lib.hid (hD.trans (T.end_yes (t := t) ht.symm))
              have hu1 : 2 ≤ u.size := by
                have := congrArg List.length hsl
                rw [list_len, ← ht] at this
                simp at this; omega
              have er := Lib.hid (show (u.extract 2 u.size).data.toList = t by rw [drop_list, hsl, ← ht]; rfl)
              clear hD hb hsl ht
              obtain ⟨q0, q1, q2, q3, q4, q5, q6⟩ := part_open k7
              obtain ⟨f0, f1, f2, f3, f4, f5, f6⟩ := part_free k7
              replace k7 := Lib.hid k7
              go_wp2_with fail
              exact part_end (rb := w.heap.size) rfl rfl (part_set k7.out) ⟨congrArg Ending.returned (partVal_ok _ hg.out rfl rfl rfl rfl er.out), part_below c7 (Nat.le_refl _) _ _ _ _ _ _ _⟩
          have g2 : (a3.toList == [110, 111]) = false := Rt.str_ne (fun e => h2 (eaa3.symm.trans e))
          have hg := Lib.hid (show T.decl s.data.toList = .error 70 by rw [hD, T.sta_no hw h1 h2])
          clear hD hw h1 h2 eaa3 ebb3
          go_wp2_with fail
          (with_reducible refine (refFailed_any 70 _).mono ?_); rintro e wF ⟨rfl, bF⟩
          have kF := k7.on bF
          have cF := c7.trans (bF.mono c7.size)
          obtain ⟨q0, q1, q2, q3, q4, q5, q6⟩ := part_open kF
          obtain ⟨f0, f1, f2, f3, f4, f5, f6⟩ := part_free kF
          replace kF := Lib.hid kF
          unfold partAgg partCells
          go_wp2_with fail
          exact part_end (rb := w.heap.size) rfl rfl (part_set kF.out) ⟨by rw [partVal_err _ hg.out]; rfl, part_below cF (Nat.le_refl _) _ _ _ _ _ _ _⟩
      | some q =>
        obtain ⟨v2, m2⟩ := q
        obtain ⟨a2, b2, e1, e2, e3, eaa2, ebb2, hza2, hyb2⟩ := word_bytes (s := b1) (n := ⟨#[101, 110, 99, 111, 100, 105, 110, 103]⟩) hw
        rw [e1, e2, e3]
        clear e1 e2 e3
        have hlo := Rt.loB_list a2
        rw [eaa2] at hlo
        go_wp2_with fail
        (with_reducible refine (refLower_any a2 _ (by omega)).mono ?_); rintro e w4 ⟨rfl, bL⟩
        have k5 := k3.on bL
        have c5 := c3.trans (bL.mono c3.size)
        clear k3 c3 bL
        generalize Rt.loB a2 = lo at *
        by_cases hx : v2.map T.lower = [117, 116, 102, 45, 56]
        · have l1 : (lo.toList == [117, 116, 102, 45, 56]) = true := Rt.str_is (hlo.trans hx)
          rw [T.enc_yes hw hx] at hD
          simp only at hD
          rw [← ebb2] at hD
          clear hw hx hlo eaa2 ebb2
          go_wp2_with fail
          (with_reducible refine (refWord_any b2 ⟨#[115, 116, 97, 110, 100, 97, 108, 111, 110, 101]⟩ _ (by omega) (by decide)).mono ?_); rintro e w1 ⟨rfl, b1⟩
          have k7 := k5.on b1
          have c7 := c5.trans (b1.mono c5.size)
          clear b1
          cases hw : T.word b2.data.toList [115, 116, 97, 110, 100, 97, 108, 111, 110, 101] with
          | none =>
            rw [T.sta_none hw] at hD
            simp only at hD
            obtain ⟨e1, e2, e3⟩ := Rt.wo_none (s := b2) (n := ⟨#[115, 116, 97, 110, 100, 97, 108, 111, 110, 101]⟩) hw
            rw [e1, e2, e3]
            clear e1 e2 e3
            clear hw
            have hsk := Rt.skB_size b2
            have hsl := Rt.skB_list b2
            generalize hu : Rt.skB b2 = u at *
            replace hu := Lib.hid hu
            go_wp2_with fail
            (with_reducible refine (refSkip5_any b2 _ (by unfold maxLen; omega)).mono ?_); rintro e w2 ⟨rfl, rfl⟩
            rw [hu.out]
            go_wp2_with fail
            (with_reducible refine (refBegins_any u ⟨#[63, 62]⟩ _ (by unfold maxLen; omega) (by decide)).mono ?_); rintro e w2 ⟨rfl, rfl⟩
            rw [hsl]
            simp only []
            cases hb : T.begins [63, 62] (T.skip b2.data.toList) with
            | false =>
              have hg := Lib.hid (hD.trans (T.end_noR hb))
              clear hD hb hsl
              go_wp2_with fail
              (with_reducible refine (refFailed_any 70 _).mono ?_); rintro e wF ⟨rfl, bF⟩
              have kF := k7.on bF
              have cF := c7.trans (bF.mono c7.size)
              obtain ⟨q0, q1, q2, q3, q4, q5, q6⟩ := part_open kF
              obtain ⟨f0, f1, f2, f3, f4, f5, f6⟩ := part_free kF
              replace kF := Lib.hid kF
              unfold partAgg partCells
              go_wp2_with fail
              exact part_end (rb := w.heap.size) rfl rfl (part_set kF.out) ⟨by rw [partVal_err _ hg.out]; rfl, part_below cF (Nat.le_refl _) _ _ _ _ _ _ _⟩
            | true =>
              obtain ⟨t, ht⟩ := T.begins_iff.1 hb
              have hg := Lib.hid (hD.trans (T.end_yes (t := t) ht.symm))
              have hu1 : 2 ≤ u.size := by
                have := congrArg List.length hsl
                rw [list_len, ← ht] at this
                simp at this; omega
              have er := Lib.hid (show (u.extract 2 u.size).data.toList = t by rw [drop_list, hsl, ← ht]; rfl)
              clear hD hb hsl ht
              obtain ⟨q0, q1, q2, q3, q4, q5, q6⟩ := part_open k7
              obtain ⟨f0, f1, f2, f3, f4, f5, f6⟩ := part_free k7
              replace k7 := Lib.hid k7
              go_wp2_with fail
              exact part_end (rb := w.heap.size) rfl rfl (part_set k7.out) ⟨congrArg Ending.returned (partVal_ok _ hg.out rfl rfl rfl rfl er.out), part_below c7 (Nat.le_refl _) _ _ _ _ _ _ _⟩
          | some q =>
            obtain ⟨v3, m3⟩ := q
            obtain ⟨a3, b3, e1, e2, e3, eaa3, ebb3, hza3, hyb3⟩ := word_bytes (s := b2) (n := ⟨#[115, 116, 97, 110, 100, 97, 108, 111, 110, 101]⟩) hw
            rw [e1, e2, e3]
            clear e1 e2 e3
            by_cases h1 : v3 = [121, 101, 115]
            · rw [T.sta_yes hw (.inl h1)] at hD
              simp only at hD
              have g1 : (a3.toList == [121, 101, 115]) = true := Rt.str_is (eaa3.trans h1)
              rw [← ebb3] at hD
              clear hw h1 eaa3 ebb3
              have hsk := Rt.skB_size b3
              have hsl := Rt.skB_list b3
              generalize hu : Rt.skB b3 = u at *
              replace hu := Lib.hid hu
              go_wp2_with fail
              (with_reducible refine (refSkip5_any b3 _ (by unfold maxLen; omega)).mono ?_); rintro e w2 ⟨rfl, rfl⟩
              rw [hu.out]
              go_wp2_with fail
              (with_reducible refine (refBegins_any u ⟨#[63, 62]⟩ _ (by unfold maxLen; omega) (by decide)).mono ?_); rintro e w2 ⟨rfl, rfl⟩
              rw [hsl]
              simp only []
              cases hb : T.begins [63, 62] (T.skip b3.data.toList) with
              | false =>
                have hg := Lib.hid (hD.trans (T.end_noR hb))
                clear hD hb hsl
                go_wp2_with fail
                (with_reducible refine (refFailed_any 70 _).mono ?_); rintro e wF ⟨rfl, bF⟩
                have kF := k7.on bF
                have cF := c7.trans (bF.mono c7.size)
                obtain ⟨q0, q1, q2, q3, q4, q5, q6⟩ := part_open kF
                obtain ⟨f0, f1, f2, f3, f4, f5, f6⟩ := part_free kF
                replace kF := Lib.hid kF
                unfold partAgg partCells
                go_wp2_with fail
                exact part_end (rb := w.heap.size) rfl rfl (part_set kF.out) ⟨by rw [partVal_err _ hg.out]; rfl, part_below cF (Nat.le_refl _) _ _ _ _ _ _ _⟩
              | true =>
                obtain ⟨t, ht⟩ := T.begins_iff.1 hb
                have hg := Lib.hid (hD.trans (T.end_yes (t := t) ht.symm))
                have hu1 : 2 ≤ u.size := by
                  have := congrArg List.length hsl
                  rw [list_len, ← ht] at this
                  simp at this; omega
                have er := Lib.hid (show (u.extract 2 u.size).data.toList = t by rw [drop_list, hsl, ← ht]; rfl)
                clear hD hb hsl ht
                obtain ⟨q0, q1, q2, q3, q4, q5, q6⟩ := part_open k7
                obtain ⟨f0, f1, f2, f3, f4, f5, f6⟩ := part_free k7
                replace k7 := Lib.hid k7
                go_wp2_with fail
                exact part_end (rb := w.heap.size) rfl rfl (part_set k7.out) ⟨congrArg Ending.returned (partVal_ok _ hg.out rfl rfl rfl rfl er.out), part_below c7 (Nat.le_refl _) _ _ _ _ _ _ _⟩
            have g1 : (a3.toList == [121, 101, 115]) = false := Rt.str_ne (fun e => h1 (eaa3.symm.trans e))
            by_cases h2 : v3 = [110, 111]
            · rw [T.sta_yes hw (.inr h2)] at hD
              simp only at hD
              have g2 : (a3.toList == [110, 111]) = true := Rt.str_is (eaa3.trans h2)
              rw [← ebb3] at hD
              clear hw h1 h2 eaa3 ebb3
              have hsk := Rt.skB_size b3
              have hsl := Rt.skB_list b3
              generalize hu : Rt.skB b3 = u at *
              replace hu := Lib.hid hu
              go_wp2_with fail
              (with_reducible refine (refSkip5_any b3 _ (by unfold maxLen; omega)).mono ?_); rintro e w2 ⟨rfl, rfl⟩
              rw [hu.out]
              go_wp2_with fail
              (with_reducible refine (refBegins_any u ⟨#[63, 62]⟩ _ (by unfold maxLen; omega) (by decide)).mono ?_); rintro e w2 ⟨rfl, rfl⟩
              rw [hsl]
              simp only []
              cases hb : T.begins [63, 62] (T.skip b3.data.toList) with
              | false =>
                have hg := Lib.hid (hD.trans (T.end_noR hb))
                clear hD hb hsl
                go_wp2_with fail
                (with_reducible refine (refFailed_any 70 _).mono ?_); rintro e wF ⟨rfl, bF⟩
                have kF := k7.on bF
                have cF := c7.trans (bF.mono c7.size)
                obtain ⟨q0, q1, q2, q3, q4, q5, q6⟩ := part_open kF
                obtain ⟨f0, f1, f2, f3, f4, f5, f6⟩ := part_free kF
                replace kF := Lib.hid kF
                unfold partAgg partCells
                go_wp2_with fail
                exact part_end (rb := w.heap.size) rfl rfl (part_set kF.out) ⟨by rw [partVal_err _ hg.out]; rfl, part_below cF (Nat.le_refl _) _ _ _ _ _ _ _⟩
              | true =>
                obtain ⟨t, ht⟩ := T.begins_iff.1 hb
                have hg := Lib.hid (hD.trans (T.end_yes (t := t) ht.symm))
                have hu1 : 2 ≤ u.size := by
                  have := congrArg List.length hsl
                  rw [list_len, ← ht] at this
                  simp at this; omega
                have er := Lib.hid (show (u.extract 2 u.size).data.toList = t by rw [drop_list, hsl, ← ht]; rfl)
                clear hD hb hsl ht
                obtain ⟨q0, q1, q2, q3, q4, q5, q6⟩ := part_open k7
                obtain ⟨f0, f1, f2, f3, f4, f5, f6⟩ := part_free k7
                replace k7 := Lib.hid k7
                go_wp2_with fail
                exact part_end (rb := w.heap.size) rfl rfl (part_set k7.out) ⟨congrArg Ending.returned (partVal_ok _ hg.out rfl rfl rfl rfl er.out), part_below c7 (Nat.le_refl _) _ _ _ _ _ _ _⟩
            have g2 : (a3.toList == [110, 111]) = false := Rt.str_ne (fun e => h2 (eaa3.symm.trans e))
            have hg := Lib.hid (show T.decl s.data.toList = .error 70 by rw [hD, T.sta_no hw h1 h2])
            clear hD hw h1 h2 eaa3 ebb3
            go_wp2_with fail
            (with_reducible refine (refFailed_any 70 _).mono ?_); rintro e wF ⟨rfl, bF⟩
            have kF := k7.on bF
            have cF := c7.trans (bF.mono c7.size)
            obtain ⟨q0, q1, q2, q3, q4, q5, q6⟩ := part_open kF
            obtain ⟨f0, f1, f2, f3, f4, f5, f6⟩ := part_free kF
            replace kF := Lib.hid kF
            unfold partAgg partCells
            go_wp2_with fail
            exact part_end (rb := w.heap.size) rfl rfl (part_set kF.out) ⟨by rw [partVal_err _ hg.out]; rfl, part_below cF (Nat.le_refl _) _ _ _ _ _ _ _⟩
        · have l1 : (lo.toList == [117, 116, 102, 45, 56]) = false := Rt.str_ne (fun e => hx (hlo.symm.trans e))
          have hg := Lib.hid (show T.decl s.data.toList = .error 70 by rw [hD, T.enc_noR hw hx])
          clear hD hw hx hlo eaa2 ebb2
          go_wp2_with fail
          (with_reducible refine (refFailed_any 70 _).mono ?_); rintro e wF ⟨rfl, bF⟩
          have kF := k5.on bF
          have cF := c5.trans (bF.mono c5.size)
          obtain ⟨q0, q1, q2, q3, q4, q5, q6⟩ := part_open kF
          obtain ⟨f0, f1, f2, f3, f4, f5, f6⟩ := part_free kF
          replace kF := Lib.hid kF
          unfold partAgg partCells
          go_wp2_with fail
          exact part_end (rb := w.heap.size) rfl rfl (part_set kF.out) ⟨by rw [partVal_err _ hg.out]; rfl, part_below cF (Nat.le_refl _) _ _ _ _ _ _ _⟩
end Go.Proofs.YtcjlhdmekhifaaaGreatDoor
namespace Go.Proofs.YtcjlhdmekhifaaaGreatDoor
open Go.RowKit

/-- What a word of the document's tells: a part; its attributes are a row that the call owns. -/
def PartTold (g : T.Got) (w : World) (x : Ending) (w' : World) : Prop := ∃ v, x = .returned (partVal g v) ∧ (∀ t r, g = .ok (t, r) → OwnsPairs w.heap.size v (t.attrs.map mpair) w') ∧ Below w.heap.size w w'
theorem told_err {g : T.Got} {e : Nat} {w w' : World} (h : g = .error e) (hb : Below w.heap.size w w') : PartTold g w (.returned (partAgg 0 ⟨#[]⟩ (.slice none 0 0) false ⟨#[]⟩ ⟨#[]⟩ (e : Int))) w' :=
  ⟨.slice none 0 0, by rw [partVal_err _ h], fun t r hx => (by rw [h] at hx; cases hx), hb⟩
theorem told_ok {g : T.Got} {t : T.Tok} {r : List UInt8} {w w' : World} {v : Value} {x : Ending} (h : g = .ok (t, r)) (hx : x = .returned (partVal g v)) (ho : OwnsPairs w.heap.size v (t.attrs.map mpair) w') (hb : Below w.heap.size w w') : PartTold g w x w' :=
  ⟨v, hx, fun t' r' hh => (by rw [h] at hh; cases hh; exact ho), hb⟩

/-- A row's block is no block of another type. -/
theorem Cells.row_ne {w : World} {b : Nat} {t : TypeId} {cs : Array Value} (h : Cells w b t cs) {B : Nat} {e : TypeId} {size n : Nat} {v : Value} {xs : List Value} (hr : w.ownsRow B e size v n xs) (hte : t ≠ e) : some b ≠ v.ownBlock := by
  obtain ⟨_, ⟨rfl, _⟩ | ⟨g, cap, cur, rfl, hb, hh, _⟩⟩ := hr
  · simp [Value.ownBlock]
  · simp only [Value.ownBlock, ne_eq, Option.some.injEq]
    rintro rfl
    rw [show w.heap[b]? = _ from h] at hh
    simp only [Option.some.injEq, Obj.cells.injEq] at hh
    exact hte hh.2.1
theorem Cells.grown {w w' : World} {b : Nat} {t : TypeId} {cs : Array Value} (h : Cells w b t cs) {row : Option Nat} (hg : w.grownBy w' row) (hne : some b ≠ row) : Cells w' b t cs := (hg.block b h.lt hne).trans h
/-- A row stands where another block's cell is set. -/
theorem row_stays {w : World} {B : Nat} {e : TypeId} {size n : Nat} {v : Value} {xs : List Value} (h : w.ownsRow B e size v n xs) {b i : Nat} (ha : some b ≠ v.ownBlock) (u : Value) : (w.setCell ⟨b, i, none⟩ u).ownsRow B e size v n xs := by
  obtain ⟨hl, h0 | ⟨g, cap, cur, rfl, hb, hh, r⟩⟩ := h
  · exact ⟨hl, .inl h0⟩
  · refine ⟨hl, .inr ⟨g, cap, cur, rfl, hb, ?_, r⟩⟩
    rw [RowKit.Below.heap_setCell _ _ _ _ (by intro e; apply ha; simp [Value.ownBlock, e])]
    exact hh
theorem part_rows {w : World} {b B : Nat} {cs : Array Value} {e : TypeId} {size n : Nat} {v : Value} {xs : List Value} (hc : Cells w b 53 cs) (h : w.ownsRow B e size v n xs) (hte : 53 ≠ e) (x0 x1 x2 x3 x4 x5 x6 : Value) :
    (((((((w.setCell ⟨b, 0, none⟩ x0).setCell ⟨b, 1, none⟩ x1).setCell ⟨b, 2, none⟩ x2).setCell ⟨b, 3, none⟩ x3).setCell ⟨b, 4, none⟩ x4).setCell ⟨b, 5, none⟩ x5).setCell ⟨b, 6, none⟩ x6).ownsRow B e size v n xs := by
  have hne := hc.row_ne h hte
  exact row_stays (row_stays (row_stays (row_stays (row_stays (row_stays (row_stays h hne x0) hne x1) hne x2) hne x3) hne x4) hne x5) hne x6

/-- The five cells of a token. -/
def tokArr (k : Int) (n : ByteArray) (v : Value) (al : Bool) (d : ByteArray) : Array Value := #[.int .i64 k, .string n, v, .bool al, .string d]
theorem tok_open {w : World} {b : Nat} {k : Int} {n d : ByteArray} {v : Value} {al : Bool} (h : Cells w b 41 (tokArr k n v al d)) :
    w.cell? ⟨b, 0, none⟩ = some (.int .i64 k) ∧ w.cell? ⟨b, 1, none⟩ = some (.string n) ∧ w.cell? ⟨b, 2, none⟩ = some v ∧ w.cell? ⟨b, 3, none⟩ = some (.bool al) ∧ w.cell? ⟨b, 4, none⟩ = some (.string d) :=
  ⟨h.cell rfl, h.cell rfl, h.cell rfl, h.cell rfl, h.cell rfl⟩

namespace T
theorem og_gt {f : Nat} {n r rest : List UInt8} {ps : List (List UInt8 × List UInt8)} (h : skip rest = 62 :: r) : openGo (f + 1) n ps rest = .ok (⟨0, n, ps, false, []⟩, r) := by unfold openGo; rw [h]; first | done | rfl
theorem og_sl {f : Nat} {n r rest : List UInt8} {ps : List (List UInt8 × List UInt8)} (h : skip rest = 47 :: 62 :: r) : openGo (f + 1) n ps rest = .ok (⟨0, n, ps, true, []⟩, r) := by unfold openGo; rw [h]; first | done | rfl
theorem og_rest {f : Nat} {n rest : List UInt8} {ps : List (List UInt8 × List UInt8)} (h1 : begins [62] (skip rest) = false) (h2 : begins [47, 62] (skip rest) = false) :
    openGo (f + 1) n ps rest = if (skip rest).length = rest.length then .error 70 else match attr (skip rest) with | .error e => .error e | .ok (a, more) => if ps.any (fun x => decide (x.1 = a.1)) then .error 71 else openGo f n (ps ++ [a]) more := by
  conv => lhs; unfold openGo
  split
  · rename_i e; rw [e] at h1; cases h1
  · rename_i e; rw [e] at h2; cases h2
  · rfl
theorem opened_noneR {l : List UInt8} (h : nameAt l = none) : opened l = .error 70 := by unfold opened; rw [h]
theorem opened_someR {l n r : List UInt8} (h : nameAt l = some (n, r)) : opened l = openGo (r.length + 1) n [] r := by unfold opened; rw [h]
end T

set_option maxRecDepth 100000 in
set_option maxHeartbeats 12800000 in
theorem refOpen_any (s : ByteArray) (w : World) (hs : s.size ≤ 1000000) : Calls Tryz.prog 54 #[.string s] w (PartTold (T.opened s.data.toList) w) := by
  obtain ⟨i0, hi, hz0, hz1, hz2⟩ := info_parts infoPair
  go_enter Tryz.func54, Tryz.ntmps54
  have b0 := (Below.refl w.heap.size w).alloc (Nat.le_refl _) (.cells (partCells 0 ⟨#[]⟩ (.slice none 0 0) false ⟨#[]⟩ ⟨#[]⟩ 0) 53)
  have k0 := Cells.new w 53 (partCells 0 ⟨#[]⟩ (.slice none 0 0) false ⟨#[]⟩ ⟨#[]⟩ 0)
  go_wp2_with fail
  (with_reducible refine (refName_any s _ (by unfold maxLen; omega)).mono ?_); rintro e w1 ⟨rfl, b1⟩
  have k1 := k0.on b1
  have c1 := b0.trans (b1.mono b0.size)
  clear k0 b0 b1
  cases hn : T.nameAt s.data.toList with
  | none =>
    have hg := Lib.hid (T.opened_noneR hn)
    obtain ⟨e1, e2, e3⟩ := name_noneR hn
    rw [e1, e2, e3]
    clear e1 e2 e3 hn
    go_wp2_with fail
    (with_reducible refine (refFailed_any 70 _).mono ?_); rintro e wF ⟨rfl, bF⟩
    have kF := (k1).on bF
    have cF := (c1).trans (bF.mono (c1).size)
    obtain ⟨q0, q1, q2, q3, q4, q5, q6⟩ := part_open kF
    obtain ⟨f0, f1, f2, f3, f4, f5, f6⟩ := part_free kF
    replace kF := Lib.hid kF
    unfold partAgg partCells
    go_wp2_with fail
    exact part_end (rb := w.heap.size) rfl rfl (part_set kF.out) (told_err hg.out (part_below cF (Nat.le_refl _) _ _ _ _ _ _ _))
  | some q =>
    obtain ⟨n, r⟩ := q
    obtain ⟨a, b, e1, e2, e3, ea, eb, hlt, hle⟩ := name_some hn
    rw [e1, e2, e3]
    have hO := T.opened_someR hn
    rw [← eb, list_len] at hO
    replace hO := Lib.hid hO
    replace ea := Lib.hid ea
    clear e1 e2 e3 hn eb
    have hb2 : w.heap.size < w1.heap.size := k1.lt
    have kT := Cells.new w1 41 (tokArr 0 a (.slice none 0 0) false ⟨#[]⟩)
    have kP := k1.alloc (.cells (tokArr 0 a (.slice none 0 0) false ⟨#[]⟩) 41)
    have cA := c1.alloc c1.size (.cells (tokArr 0 a (.slice none 0 0) false ⟨#[]⟩) 41)
    go_wp2_with fail
    clear k1 c1
    go_loopw [4, 7, 8, 9, 10, 11] (fun v4 _ _ _ _ _ wr => ∃ (rest : ByteArray) (ps : List (List UInt8 × List UInt8)) (v : Value) (f : Nat), v4 = .string rest ∧ rest.size < f ∧ Hid (T.opened s.data.toList = T.openGo f n ps rest.data.toList) ∧ ps.length + rest.size ≤ s.size ∧
      Hid (Cells wr w.heap.size 53 (partCells 0 ⟨#[]⟩ (.slice none 0 0) false ⟨#[]⟩ ⟨#[]⟩ 0)) ∧ Hid (Cells wr w1.heap.size 41 (tokArr 0 a v false ⟨#[]⟩)) ∧ OwnsPairs w.heap.size v (ps.map mpair) wr ∧ Below w.heap.size w wr) (fun v4 _ _ _ _ _ _ => strLen v4)
    case atStart => exact ⟨b, [], .slice none 0 0, b.size + 1, rfl, Nat.lt_succ_self _, hO, by simp; omega, Lib.hid kP, Lib.hid kT, pairs_nil _ _, cA⟩
    case round =>
      obtain ⟨rest, ps, v, f, rfl, hf, hG, hps, hkP, hkT, ho, bw⟩ := hrel
      clear kP kT cA hO hlt
      obtain ⟨f, rfl⟩ : ∃ f', f = f' + 1 := ⟨f - 1, by omega⟩
      have hkl := Lib.hid hkP.out.lt
      have hsk := Rt.skB_size rest
      have hsl := Rt.skB_list rest
      generalize hu : Rt.skB rest = u at *
      replace hu := Lib.hid hu
      have hul : (T.skip rest.data.toList).length = u.size := by rw [← hsl, list_len]
      go_wp2_with fail
      (with_reducible refine (refSkip5_any rest _ (by unfold maxLen; omega)).mono ?_); rintro e w2 ⟨rfl, rfl⟩
      rw [hu.out]
      go_wp2_with fail
      (with_reducible refine (refBegins_any u ⟨#[62]⟩ _ (by unfold maxLen; omega) (by decide)).mono ?_); rintro e w2 ⟨rfl, rfl⟩
      rw [hsl]
      simp only []
      cases hb1 : T.begins [62] (T.skip rest.data.toList) with
      | true =>
        obtain ⟨t, ht⟩ := T.begins_iff.1 hb1
        have hg := Lib.hid (hG.out.trans (T.og_gt (r := t) ht.symm))
        have hu1 : (1 : Int) ≤ (u.size : Int) := by
          rw [← hul, ← ht]; simp; omega
        have er := Lib.hid (show (u.extract 1 u.size).data.toList = t by rw [drop_list, hsl, ← ht]; rfl)
        obtain ⟨ao, cap, rfl, hin⟩ := pairs_of_owns ho
        rw [List.length_map] at ho hkT
        obtain ⟨t0, t1, t2, t3, t4⟩ := tok_open hkT.out
        obtain ⟨q0, q1, q2, q3, q4, q5, q6⟩ := part_open hkP.out
        obtain ⟨f0, f1, f2, f3, f4, f5, f6⟩ := part_free hkP.out
        clear hG hb1 hsl ht hul hin
        go_wp2_with fail
        go_region
        all_goals
          go_wp2_with fail
          exact part_end (rb := w.heap.size) rfl rfl (part_set hkP.out).drew (told_ok hg.out (congrArg Ending.returned (partVal_ok _ hg.out rfl ea.out rfl rfl er.out)) ((part_rows hkP.out ho (by decide) _ _ _ _ _ _ _).drew) (part_below bw (Nat.le_refl _) _ _ _ _ _ _ _).drew)
      | false =>
        go_wp2_with fail
        (with_reducible refine (refBegins_any u ⟨#[47, 62]⟩ _ (by unfold maxLen; omega) (by decide)).mono ?_); rintro e w2 ⟨rfl, rfl⟩
        rw [hsl]
        simp only []
        cases hb2 : T.begins [47, 62] (T.skip rest.data.toList) with
        | true =>
          obtain ⟨t, ht⟩ := T.begins_iff.1 hb2
          have hg := Lib.hid (hG.out.trans (T.og_sl (r := t) ht.symm))
          have hu1 : (2 : Int) ≤ (u.size : Int) := by
            rw [← hul, ← ht]; simp; omega
          have er := Lib.hid (show (u.extract 2 u.size).data.toList = t by rw [drop_list, hsl, ← ht]; rfl)
          obtain ⟨ao, cap, rfl, hin⟩ := pairs_of_owns ho
          rw [List.length_map] at ho hkT
          have g3 := hkT.out.free 3
          have t3 := (tok_open hkT.out).2.2.2.1
          have hne : w.heap.size ≠ w1.heap.size := by omega
          have hT3 : Cells (wr.setCell ⟨w1.heap.size, 3, none⟩ (.bool true)) w1.heap.size 41 (tokArr 0 a (.slice ao ps.length cap) true ⟨#[]⟩) := hkT.out.set 3 (.bool true)
          have hP3 := hkP.out.other 3 (.bool true) hne
          have ho3 := row_stays ho (i := 3) (hkT.out.row_ne ho (by decide)) (.bool true)
          have b3 := bw.setCell (p := ⟨w1.heap.size, 3, none⟩) (by simp; omega) (.bool true)
          clear hG hb1 hb2 hsl ht hul hin
          go_wp2_with fail
          clear t3 g3
          generalize wr.setCell ⟨w1.heap.size, 3, none⟩ (.bool true) = w3 at *
          obtain ⟨t0, t1, t2, t3, t4⟩ := tok_open hT3
          obtain ⟨q0, q1, q2, q3, q4, q5, q6⟩ := part_open hP3
          obtain ⟨f0, f1, f2, f3, f4, f5, f6⟩ := part_free hP3
          replace hP3 := Lib.hid hP3
          replace hT3 := Lib.hid hT3
          go_region
          all_goals
            go_wp2_with fail
            exact part_end (rb := w.heap.size) rfl rfl (part_set hP3.out).drew (told_ok hg.out (congrArg Ending.returned (partVal_ok _ hg.out rfl ea.out rfl rfl er.out)) ((part_rows hP3.out ho3 (by decide) _ _ _ _ _ _ _).drew) (part_below b3 (Nat.le_refl _) _ _ _ _ _ _ _).drew)
        | false =>
          have hG2 := hG.out.trans (T.og_rest hb1 hb2)
          clear hG hb1 hb2
          rw [hul, list_len] at hG2
          by_cases hst : u.size = rest.size
          · have hg := Lib.hid (show T.opened s.data.toList = .error 70 by rw [hG2, if_pos hst])
            have hsti : (u.size : Int) = (rest.size : Int) := by omega
            clear hG2 hsl hul hst
            go_wp2_with fail
            (with_reducible refine (refFailed_any 70 _).mono ?_); rintro e wF ⟨rfl, bF⟩
            have kF := (hkP.out).on bF
            have cF := (bw).trans (bF.mono (bw).size)
            obtain ⟨q0, q1, q2, q3, q4, q5, q6⟩ := part_open kF
            obtain ⟨f0, f1, f2, f3, f4, f5, f6⟩ := part_free kF
            replace kF := Lib.hid kF
            unfold partAgg partCells
            go_wp2_with fail
            exact part_end (rb := w.heap.size) rfl rfl (part_set kF.out) (told_err hg.out (part_below cF (Nat.le_refl _) _ _ _ _ _ _ _))
          rw [if_neg hst] at hG2
          have hsti : ¬ (u.size : Int) = (rest.size : Int) := by omega
          rw [← hsl] at hG2
          clear hsl hul
          go_wp2_with fail
          (with_reducible refine (refAttr_any u _ (by omega)).mono ?_); rintro e w2 ⟨rfl, b2⟩
          have kP2 := hkP.out.on b2
          have kT2 := hkT.out.on b2
          have o2 := pairs_below ho b2
          have c2 := bw.trans (b2.mono bw.size)
          clear hkP hkT ho bw b2
          cases ha : T.attr u.data.toList with
          | error e =>
            have hg := Lib.hid (show T.opened s.data.toList = .error e by rw [hG2, ha])
            have he0 : ¬ (e : Int) = 0 := by have := T.attr_err ha; omega
            obtain ⟨r1, r2, r3, r4⟩ := T.attr_told_err ha
            rw [r1, r2, r3, r4]
            have kP3 := kP2.alloc (.cells #[.string ⟨#[]⟩, .string ⟨#[]⟩] 86)
            have c3 := c2.alloc c2.size (.cells #[.string ⟨#[]⟩, .string ⟨#[]⟩] 86)
            clear r1 r2 r3 r4 ha hG2 kP2 kT2 o2 c2
            replace kP3 := Lib.hid kP3
            go_wp2_with fail
            (with_reducible refine (refFailed_any (e : Int) _).mono ?_); rintro e wF ⟨rfl, bF⟩
            have kF := (kP3.out).on bF
            have cF := (c3).trans (bF.mono (c3).size)
            obtain ⟨q0, q1, q2, q3, q4, q5, q6⟩ := part_open kF
            obtain ⟨f0, f1, f2, f3, f4, f5, f6⟩ := part_free kF
            replace kF := Lib.hid kF
            unfold partAgg partCells
            go_wp2_with fail
            exact part_end (rb := w.heap.size) rfl rfl (part_set kF.out) (told_err hg.out (part_below cF (Nat.le_refl _) _ _ _ _ _ _ _))
          | ok x =>
            obtain ⟨⟨an, av⟩, more⟩ := x
            have hlt2 := (T.attr_append ha []).2
            obtain ⟨r1, r2, r3, r4⟩ := T.attr_told_ok ha
            rw [ha] at hG2
            simp only at hG2
            rw [r1, r2, r3, r4]
            obtain ⟨nb, hnb⟩ : ∃ nb : ByteArray, nb = ⟨an.toArray⟩ := ⟨_, rfl⟩
            obtain ⟨vb, hvb⟩ : ∃ vb : ByteArray, vb = ⟨av.toArray⟩ := ⟨_, rfl⟩
            obtain ⟨mb, hmb⟩ : ∃ mb : ByteArray, mb = ⟨more.toArray⟩ := ⟨_, rfl⟩
            rw [← hnb, ← hvb, ← hmb]
            have hml : mb.data.toList = more := by rw [hmb]
            have hmz : mb.size < u.size := by rw [← hml, list_len, list_len] at hlt2; exact hlt2
            have hmp : mpair (an, av) = ⟨nb, vb⟩ := by unfold mpair; rw [hnb, hvb]
            rw [← hml] at hG2
            have hany : ∀ k (h : k < ps.length), (ps.map mpair)[k]'(by simpa using h) = mpair ps[k] := fun k h => by simp
            replace hG2 := Lib.hid hG2
            replace hmp := Lib.hid hmp
            have hnl := Lib.hid (show nb.data.toList = an by rw [hnb])
            clear r1 r2 r3 r4 ha hlt2 hnb hvb hmb hml hst
            have k8 := Cells.new w2 86 #[.string nb, .string vb]
            replace kP2 := kP2.alloc (.cells #[.string nb, .string vb] 86)
            replace kT2 := kT2.alloc (.cells #[.string nb, .string vb] 86)
            replace o2 := pairs_alloc o2 (.cells #[.string nb, .string vb] 86)
            replace c2 := c2.alloc c2.size (.cells #[.string nb, .string vb] 86)
            obtain ⟨ao, cap, rfl, hin⟩ := pairs_of_owns o2
            rw [List.length_map] at o2 kT2
            have t2 := (tok_open kT2).2.2.1
            have y0 := k8.cell (i := 0) rfl
            have y1 := k8.cell (i := 1) rfl
            replace kP2 := Lib.hid kP2
            replace kT2 := Lib.hid kT2
            clear k8
            have hpsl : ps.length ≤ 1000000 := by omega
            go_wp2_with fail
            generalize hw3 : w2.alloc (.cells #[.string nb, .string vb] 86) = w3 at *
            have hw2 : w2.heap.size < w3.heap.size := by rw [← hw3, World.size_alloc]; omega
            clear hw3
            go_loopw [11] (fun i wr => ∃ (k m : Nat), k ≤ ps.length ∧ i = .int .i64 (k : Int) ∧ wr = w3.drewN m ∧ Hid ((ps.take k).any (fun x => decide (x.1 = an)) = false)) (fun i _ => ps.length - (intOf i).toNat)
            case atStart => exact ⟨0, 0, Nat.zero_le _, rfl, rfl, Lib.hid rfl⟩
            case round =>
              obtain ⟨k, dm, hk, rfl, rfl, hall⟩ := hrel
              by_cases hkl2 : k < ps.length
              · obtain ⟨bb, off, rfl, d0, d1⟩ := hin k (by rw [List.length_map]; exact hkl2)
                have hst : (ps.take (k + 1)).any (fun x => decide (x.1 = an)) = ((ps.take k).any (fun x => decide (x.1 = an)) || decide (ps[k].1 = an)) := by
                  rw [List.take_succ_eq_append_getElem hkl2, List.any_append]
                  simp only [List.any_cons, List.any_nil, Bool.or_false]
                rw [hall.out, Bool.false_or] at hst
                rw [hany k hkl2] at d0 d1
                have hxl : (mpair ps[k]).name.data.toList = ps[k].1 := rfl
                have hmem : ps[k].1 = an → ps.any (fun x => decide (x.1 = an)) = true := fun h => by
                  rw [List.any_eq_true]; exact ⟨_, List.getElem_mem hkl2, decide_eq_true h⟩
                generalize mpair ps[k] = xp at *
                obtain ⟨xn, xv⟩ := xp
                dsimp only at d0 d1 hxl
                by_cases hx : ps[k].1 = an
                · have z1 : (xn.toList == nb.toList) = true := by rw [Rt.sameR]; exact decide_eq_true (hxl.trans (hx.trans hnl.out.symm))
                  have hg := Lib.hid (show T.opened s.data.toList = .error 71 by rw [hG2.out, if_pos (hmem hx)])
                  clear hst hmem hxl hx hall d1
                  go_wp2_with fail
                  go_quiet (fail)
                  go_wp2_with fail
                  (with_reducible refine (refFailed_any 71 _).mono ?_); rintro e wF ⟨rfl, bF⟩
                  have kF := (kP2.out.drewN _).on bF
                  have cF := (Cells.below_drewN c2 _).trans (bF.mono (Cells.below_drewN c2 _).size)
                  obtain ⟨q0, q1, q2, q3, q4, q5, q6⟩ := part_open kF
                  obtain ⟨f0, f1, f2, f3, f4, f5, f6⟩ := part_free kF
                  replace kF := Lib.hid kF
                  unfold partAgg partCells
                  go_wp2_with fail
                  exact part_end (rb := w.heap.size) rfl rfl (part_set kF.out) (told_err hg.out (part_below cF (Nat.le_refl _) _ _ _ _ _ _ _))
                · have z1 : (xn.toList == nb.toList) = false := by rw [Rt.sameR]; exact decide_eq_false (fun e => hx (hxl.symm.trans (e.trans hnl.out)))
                  have hr := Lib.hid (hst.trans (decide_eq_false hx))
                  clear hst hmem hxl hx hall d1
                  go_wp2_with fail
                  go_quiet (fail)
                  go_wp2_with fail
                  go_roundw
                  case rel => exact ⟨k + 1, _, by omega, by go_num, rfl, hr⟩
                  case measure => simp [intOf] <;> omega
              · have hfull : ps.take k = ps := List.take_of_length_le (by omega)
                rw [hfull] at hall
                have hG3 := hG2.out
                rw [if_neg (by rw [hall.out]; decide)] at hG3
                replace hG3 := Lib.hid hG3
                have hne : w.heap.size ≠ w1.heap.size := by omega
                clear hG2 hall hany hfull hin
                replace o2 : OwnsPairs w.heap.size (.slice ao ps.length cap) (ps.map mpair) (w3.drewN dm) := o2
                replace kP2 := Lib.hid (kP2.out.drewN dm)
                replace kT2 := Lib.hid (kT2.out.drewN dm)
                replace c2 := Cells.below_drewN c2 dm
                replace t2 : (w3.drewN dm).cell? ⟨w1.heap.size, 2, none⟩ = some (.slice ao ps.length cap) := t2
                replace y0 : (w3.drewN dm).cell? ⟨w2.heap.size, 0, none⟩ = some (.string nb) := y0
                replace y1 : (w3.drewN dm).cell? ⟨w2.heap.size, 1, none⟩ = some (.string vb) := y1
                replace hw2 : w2.heap.size < (w3.drewN dm).heap.size := hw2
                generalize w3.drewN dm = w3 at *
                go_wp2_with (at_builtin; refine wpList_append_own_at _ rfl _ _ 39 rfl w.heap.size 86 i0 _ 2 32 Tryz.underlying39 hi hz0 hz1 hz2 rfl (by decide) _ _ _ rfl (pairs_alloc o2 _) ⟨w3.heap.size, 0, none⟩ 1 1 [.string nb, .string vb] rfl rfl (cells_two _ _ _ _) (fun u hu => by simp at hu; rcases hu with rfl | rfl <;> rfl) (by unfold maxLen; rw [List.length_map]; omega) (by rw [List.length_map]; omega) (by have := c2.size; simp; omega) ?_)
                intro v6 w4 hown2 hg2 _ hat
                have hga : w3.grownBy w4 _ := (World.grownBy_alloc w3 _ _).trans hg2
                have b4 : Below w.heap.size w3 w4 := (Below.refl _ _).grown hga c2.size (fun j e => (World.ownsRow.lt o2 j e).1)
                have q6 : OwnsPairs w.heap.size v6 ((ps ++ [(an, av)]).map mpair) w4 := by
                  unfold OwnsPairs
                  rw [List.map_append, List.map_cons, List.map_nil, hmp.out]
                  simpa [pairCells] using hown2
                have kP4 := kP2.out.grown hga (kP2.out.row_ne o2 (by decide))
                have kT4 := kT2.out.grown hga (kT2.out.row_ne o2 (by decide))
                have c4 := c2.trans b4
                clear hown2 hat hg2 hga o2 kP2 kT2 t2 y0 y1 b4
                obtain ⟨ao6, cap6, rfl, _⟩ := pairs_of_owns q6
                have t6 := (tok_open kT4).2.2.1
                have g6 := kT4.free 2
                have kT5 := kT4.set 2 (.slice ao6 ((ps ++ [(an, av)]).map mpair).length cap6)
                have kP5 := kP4.other 2 (.slice ao6 ((ps ++ [(an, av)]).map mpair).length cap6) hne
                have q7 : OwnsPairs w.heap.size (.slice ao6 ((ps ++ [(an, av)]).map mpair).length cap6) ((ps ++ [(an, av)]).map mpair) (w4.setCell ⟨w1.heap.size, 2, none⟩ (.slice ao6 ((ps ++ [(an, av)]).map mpair).length cap6)) := row_stays q6 (i := 2) (kT4.row_ne q6 (by decide)) (.slice ao6 ((ps ++ [(an, av)]).map mpair).length cap6)
                have c5 := c4.setCell (p := ⟨w1.heap.size, 2, none⟩) (by simp; omega) (.slice ao6 ((ps ++ [(an, av)]).map mpair).length cap6)
                have kT6 := Lib.hid (show Cells _ _ 41 (tokArr 0 a (.slice ao6 ((ps ++ [(an, av)]).map mpair).length cap6) false ⟨#[]⟩) from kT5)
                rw [List.length_map] at kT6 kP5 q7 c5 ⊢
                replace kP5 := Lib.hid kP5
                have hps2 : (ps ++ [(an, av)]).length + mb.size ≤ s.size := by rw [List.length_append, List.length_singleton]; omega
                replace hps2 := Lib.hid hps2
                generalize ps ++ [(an, av)] = ps2 at *
                clear kT5 q6 kT4 kP4 c4
                go_wp2_with fail
                go_roundw
                case rel => exact ⟨mb, ps2, _, f, rfl, by omega, hG3, hps2.out, kP5, kT6, q7, c5⟩
                case measure => simp [strLen] <;> omega
end Go.Proofs.YtcjlhdmekhifaaaGreatDoor
