/-
  What strings.Cut says of one byte: what stands ahead of it, and behind it.
  What the library says of one sign, and of several, in a reference's own words; how many bytes stand ahead of a sign between; the program's split.
  The program's split: a reference's parts, taken from the end on.
  What the program's words of code points come to: contracts of isWithin, Char, Start, Part.
  strings.ReplaceAll and strings.Contains of the library's own words, step by step: what stands at the head is replaced, or goes on; and plain lines as two replacings.
  The longest head of a text by two rules, and what a code point in place of a byte that is none looks like: in plain Lean.
  What the program's words of texts come to: contracts of isBroken, head, Check, Name, Plain, Lines.
  What the program's words of texts come to: contracts of Check, Name, Plain, Lines.
-/
import Derived.Test.YtdhondndidoniaaGreatDoorG17
import Derived.Test.YtdhondndidoniaaGreatDoorShelf
import Derived.Lib.IndexMore
import Derived.Lib.Strings
import Derived.Test.YtdhondndidoniaaGreatDoorG16
import Derived.Test.YtdhondndidoniaaGreatDoorG06
import Derived.Deep.DeepCutAuto
import Derived.Lib.OthersKept
import Derived.Test.YtdhondndidoniaaGreatDoorG01
import Derived.Lib.ReplaceLaws
import Derived.BigQuiet
import Derived.WalkSmall
namespace Go.Proofs.YtdhondndidoniaaGreatDoor
open Go.RowKit
namespace Cu

/-- What stands ahead of the first such byte, and behind it. -/
def parts (c : UInt8) (t : List UInt8) : Option (List UInt8 × List UInt8) :=
  match t.drop (t.takeWhile (· ≠ c)).length with
  | [] => none
  | _ :: r => some (t.takeWhile (· ≠ c), r)

theorem parts_hit (c : UInt8) (t : List UInt8) : parts c (c :: t) = some ([], t) := by simp [parts]
theorem parts_step {c b : UInt8} (h : b ≠ c) (t : List UInt8) : parts c (b :: t) = (parts c t).map fun x => (b :: x.1, x.2) := by
  unfold parts
  rw [List.takeWhile_cons_of_pos (by simpa using h)]
  simp only [List.length_cons, List.drop_succ_cons]
  cases t.drop (t.takeWhile (· ≠ c)).length <;> rfl

theorem index_parts (c : UInt8) : ∀ l : List UInt8, Lib.index l [c] = match parts c l with | some x => (x.1.length : Int) | none => -1
  | [] => rfl
  | b :: t => by
    by_cases h : b = c
    · subst h
      rw [parts_hit]
      simp [Lib.index, List.isPrefixOf]
    · rw [parts_step h]
      have ih := index_parts c t
      simp only [Lib.index]
      have hp : [c].isPrefixOf (b :: t) = false := by simp [List.isPrefixOf, Ne.symm h]
      rw [hp, ih]
      cases parts c t with
      | none => rfl
      | some x =>
        have : ((x.1.length : Int) == -1) = false := by rw [beq_eq_false_iff_ne]; omega
        simp [this]

theorem parts_append {c : UInt8} {l a r : List UInt8} (h : parts c l = some (a, r)) : l = a ++ c :: r := by
  induction l generalizing a with
  | nil => cases h
  | cons b t ih =>
    by_cases e : b = c
    · subst e
      rw [parts_hit] at h
      cases h; rfl
    · rw [parts_step e] at h
      cases hp : parts c t with
      | none => rw [hp] at h; cases h
      | some x =>
        rw [hp] at h
        cases h
        rw [List.cons_append, ← ih hp]
theorem parts_ahead {c : UInt8} {l a r : List UInt8} (h : parts c l = some (a, r)) : ∀ x ∈ a, x ≠ c := by
  unfold parts at h
  split at h
  · cases h
  · cases h
    intro x hx
    simpa using List.all_eq_true.1 (List.all_takeWhile (p := fun x => decide (x ≠ c)) (l := l)) x hx
theorem parts_no {c : UInt8} {l : List UInt8} (h : parts c l = none) : ∀ x ∈ l, x ≠ c := by
  induction l with
  | nil => simp
  | cons b t ih =>
    by_cases e : b = c
    · subst e; rw [parts_hit] at h; cases h
    · rw [parts_step e] at h
      have h2 : parts c t = none := by cases hp : parts c t with | none => rfl | some x => rw [hp] at h; cases h
      intro x hx
      rcases List.mem_cons.1 hx with rfl | hx
      · exact e
      · exact ih h2 x hx

theorem cut_hit {c : UInt8} {l a r : List UInt8} (h : parts c l = some (a, r)) : Lib.cut l [c] = (a, r, true) := by
  have e := parts_append h
  unfold Lib.cut
  rw [index_parts, h]
  simp only []
  rw [if_pos (by omega)]
  subst e
  simp
theorem cut_miss {c : UInt8} {l : List UInt8} (h : parts c l = none) : Lib.cut l [c] = (l, [], false) := by
  unfold Lib.cut
  rw [index_parts, h]
  rfl
theorem parts_size {c : UInt8} {t a u : ByteArray} (h : parts c t.data.toList = some (a.data.toList, u.data.toList)) : a.size + 1 + u.size = t.size := by
  have e := congrArg List.length (parts_append h)
  rw [List.length_append, List.length_cons, list_len, list_len, list_len] at e
  omega
end Cu

theorem Cu.below_drewN {B : Nat} {a w : World} (h : Below B a w) (n : Nat) : Below B a (w.drewN n) := ⟨h.os, h.tape, h.output, h.size, h.block⟩
theorem Cu.yes {s p : ByteArray} {c : UInt8} (hp : p.data.toList = [c]) {t u : ByteArray} (w : World) (hs : s.size ≤ 1000000) (hE : Env w) (h : Cu.parts c s.data.toList = some (t.data.toList, u.data.toList)) :
    Calls Tryz.prog 168 #[.string s, .string p] w fun e w' => e = .returned (.tuple #[.string t, .string u, .bool true]) ∧ Below w.heap.size w w' := by
  obtain ⟨m, hm⟩ := hE.most
  refine (Tryz.strings_Cut s p m w (by omega) hm).mono ?_
  rintro e w' ⟨rfl, n, rfl⟩
  rw [hp, Cu.cut_hit h]
  exact ⟨rfl, Cu.below_drewN (Below.refl _ _) _⟩
theorem Cu.no {s p : ByteArray} {c : UInt8} (hp : p.data.toList = [c]) (w : World) (hs : s.size ≤ 1000000) (hE : Env w) (h : Cu.parts c s.data.toList = none) :
    Calls Tryz.prog 168 #[.string s, .string p] w fun e w' => e = .returned (.tuple #[.string s, .string ⟨#[]⟩, .bool false]) ∧ Below w.heap.size w w' := by
  obtain ⟨m, hm⟩ := hE.most
  refine (Tryz.strings_Cut s p m w (by omega) hm).mono ?_
  rintro e w' ⟨rfl, n, rfl⟩
  rw [hp, Cu.cut_miss h]
  exact ⟨rfl, Cu.below_drewN (Below.refl _ _) _⟩
end Go.Proofs.YtdhondndidoniaaGreatDoor
namespace Go.Proofs.YtdhondndidoniaaGreatDoor
open Go.RowKit
namespace Lc
theorem any_cut (m : List UInt8) : ∀ l : List UInt8, Lib.indexAny l m = if rest l m = [] then -1 else ((cut l m).length : Int)
  | [] => rfl
  | b :: l => by
    have ih := any_cut m l
    unfold rest cut at *
    rw [Lib.indexAny, List.dropWhile_cons, List.takeWhile_cons]
    cases h : m.contains b
    · simp only [Bool.false_eq_true, if_false, Bool.not_false, if_true]
      rw [ih]
      split
      · rfl
      · rw [if_neg (fun e => by have := beq_iff_eq.1 e; omega), List.length_cons]
        omega
    · simp
theorem byte_cut (c : UInt8) (l : List UInt8) : Lib.indexByte l c = if rest l [c] = [] then -1 else ((cut l [c]).length : Int) := by
  rw [← Lib.indexAny_one, any_cut]
theorem begins_has (p s : List UInt8) : Lib.hasPrefix s p = begins p s := by
  rw [← Lib.hasPrefix_of_take, begins]
  cases h : (s.take p.length == p)
  · simp
  · have := congrArg List.length (beq_iff_eq.1 h)
    rw [List.length_take] at this
    rw [Bool.and_true, decide_eq_true_eq]
    omega
theorem cut_parts (c : UInt8) (l : List UInt8) : Lib.cut l [c] = (cut l [c], (rest l [c]).drop 1, !(rest l [c]).isEmpty) := by
  cases h : Cu.parts c l with
  | none =>
    have hn := Cu.parts_no h
    have hc := cut_full (t := l) (r := []) (m := [c]) (fun b hb => by have := hn b hb; simpa using this) (.inl rfl)
    rw [List.append_nil] at hc
    rw [Cu.cut_miss h, hc.1, hc.2]
    rfl
  | some x =>
    obtain ⟨a, r⟩ := x
    have e := Cu.parts_append h
    have ha := Cu.parts_ahead h
    have hc := cut_full (t := a) (r := c :: r) (m := [c]) (fun b hb => by have := ha b hb; simpa using this) (.inr ⟨c, r, rfl, by simp⟩)
    rw [← e] at hc
    rw [Cu.cut_hit h, hc.1, hc.2]
    rfl
end Lc
theorem pUpTo_any (s : ByteArray) (w : World) (hs : s.size ≤ maxLen) : Calls Tryz.prog 175 #[.string s] w fun e w' => e = .returned (.int .i64 ((Lc.cut s.data.toList [47]).length : Nat)) ∧ w = w' := by
  have hsm : s.size ≤ 9223372036854775807 := hs
  have hi := Lc.byte_cut 47 s.data.toList
  have he := Lib.hid (congrArg List.length (Lc.cut_rest s.data.toList [47]))
  have hlen := Lib.hid (list_len s)
  have hbk : ((47 : Int)).toNat.toUInt8 = 47 := rfl
  obtain ⟨n, hn⟩ : ∃ n, n = (Lc.cut s.data.toList [47]).length := ⟨_, rfl⟩
  rw [← hn] at hi ⊢
  by_cases hr : Lc.rest s.data.toList [47] = []
  · rw [if_pos hr] at hi
    have hns : Hid (s.size = n) := Lib.hid (by
      have := he.out
      rw [List.length_append, hr, ← hn, hlen.out] at this
      simpa using this.symm)
    replace hn := Lib.hid hn
    replace hr := Lib.hid hr
    replace hi := Lib.hid hi
    go_enter Tryz.func175, Tryz.ntmps175
    go_wp2_with fail
    (refine (Tryz.strings_IndexByte _ _ _).mono ?_); rintro e w1 ⟨rfl, hw⟩; obtain rfl := hw.symm
    rw [hbk, hi.out]
    go_wp2_with fail
    go_ret
    exact ⟨ret_int (by rw [hns.out]), rfl⟩
  · rw [if_neg hr] at hi
    replace hn := Lib.hid hn
    replace hr := Lib.hid hr
    replace hi := Lib.hid hi
    go_enter Tryz.func175, Tryz.ntmps175
    go_wp2_with fail
    (refine (Tryz.strings_IndexByte _ _ _).mono ?_); rintro e w1 ⟨rfl, hw⟩; obtain rfl := hw.symm
    rw [hbk, hi.out]
    go_wp2_with fail
    go_ret
    exact ⟨rfl, rfl⟩

theorem pCut_any (s p : ByteArray) (c : UInt8) (w : World) (hs : s.size ≤ 1000000) (hp : p.data.toList = [c]) (hE : Env w) :
    Calls Tryz.prog 168 #[.string s, .string p] w fun e w' => e = .returned (.tuple #[.string (Lc.str (Lc.cut s.data.toList [c])), .string (Lc.str ((Lc.rest s.data.toList [c]).drop 1)), .bool (!(Lc.rest s.data.toList [c]).isEmpty)]) ∧ Below w.heap.size w w' := by
  obtain ⟨m, hm⟩ := hE.most
  refine (Tryz.strings_Cut s p m w (by omega) hm).mono ?_
  rintro e w' ⟨rfl, n, rfl⟩
  rw [hp, Lc.cut_parts]
  exact ⟨rfl, Cu.below_drewN (Below.refl _ _) _⟩
theorem pCutPrefix_any (s p : ByteArray) (l : List UInt8) (w : World) (hp : p.data.toList = l) :
    Calls Tryz.prog 174 #[.string s, .string p] w fun e w' => e = .returned (.tuple #[.string (Lc.str (if Lc.begins l s.data.toList then s.data.toList.drop l.length else s.data.toList)), .bool (Lc.begins l s.data.toList)]) ∧ w' = w := by
  refine (Tryz.strings_CutPrefix s p w).mono ?_
  rintro e w' ⟨rfl, hw⟩
  refine ⟨?_, hw⟩
  rw [hp, Lib.trimPrefix, Lc.begins_has]
  rfl
end Go.Proofs.YtdhondndidoniaaGreatDoor
namespace Go.Proofs.YtdhondndidoniaaGreatDoor
open Go.RowKit

theorem Lc.any_is (l m : List UInt8) : Lib.indexAny l m = if (Lc.cut l m).length < l.length then ((Lc.cut l m).length : Int) else -1 := by
  rw [Lc.any_cut]
  have h := congrArg List.length (Lc.cut_rest l m)
  rw [List.length_append] at h
  by_cases hr : Lc.rest l m = []
  · rw [if_pos hr, if_neg]
    rw [hr, List.length_nil] at h
    omega
  · rw [if_neg hr, if_pos]
    have := List.length_pos_iff.2 hr
    omega

/-- A reference that is being laid in the result's own cells. -/
structure SR (w w' : World) (u : Lc.U) : Prop where
  low : Below w.heap.size w w'
  c : Cells w' w.heap.size 40 (uArr u)
theorem SR.first (w : World) : SR w (w.alloc (.cells (uArr Lc.none) 40)) Lc.none :=
  ⟨(Below.refl _ _).alloc (Nat.le_refl _) _, Cells.new w 40 (uArr Lc.none)⟩
theorem SR.on {w w1 w2 : World} {u : Lc.U} (h : SR w w1 u) (b : Below w1.heap.size w1 w2) : SR w w2 u := ⟨h.low.trans (b.mono h.low.size), h.c.on b⟩
theorem SR.drew {w w1 : World} {u : Lc.U} (h : SR w w1 u) : SR w w1.drew u := ⟨h.low.drew, h.c.drew⟩
theorem SR.set {w w' : World} {u u' : Lc.U} (h : SR w w' u) (i : Nat) (v : Value) (hA : (uArr u).setIfInBounds i v = uArr u') : SR w (w'.setCell ⟨w.heap.size, i, none⟩ v) u' :=
  ⟨h.low.setCell (p := ⟨w.heap.size, i, none⟩) (Nat.le_refl _) _, by have := h.c.set i v; rwa [hA] at this⟩
theorem SR.set2 {w w' : World} {u u' : Lc.U} (h : SR w w' u) (i j : Nat) (v x : Value) (hA : ((uArr u).setIfInBounds i v).setIfInBounds j x = uArr u') : SR w ((w'.setCell ⟨w.heap.size, i, none⟩ v).setCell ⟨w.heap.size, j, none⟩ x) u' :=
  ⟨(h.low.setCell (p := ⟨w.heap.size, i, none⟩) (Nat.le_refl _) _).setCell (p := ⟨w.heap.size, j, none⟩) (Nat.le_refl _) _, by have := (h.c.set i v).set j x; rwa [hA] at this⟩

set_option maxRecDepth 100000 in
set_option maxHeartbeats 12800000 in
theorem pSplit_any (s : ByteArray) (w : World) (hs : s.size ≤ 1000000) (hE : Env w) : Calls Tryz.prog 149 #[.string s] w fun e w' => e = .returned (.agg (uArr (Lc.split s.data.toList))) ∧ Below w.heap.size w w' := by
  have hP : SR w (w.alloc (.cells #[.string ⟨#[]⟩, .string ⟨#[]⟩, .string ⟨#[]⟩, .string ⟨#[]⟩, .string ⟨#[]⟩, .bool false, .bool false, .bool false, .bool false] 40)) Lc.none := SR.first w
  replace hE := Lib.hid (fun w1 b => hE.on (w1 := w1) b)
  have hcu := Lib.hid (fun (t : ByteArray) W h1 (h2 : Below w.heap.size w W) => pCut_any t ⟨#[35]⟩ 35 W h1 rfl (hE.out W h2))
  have hcuq := Lib.hid (fun (t : ByteArray) W h1 (h2 : Below w.heap.size w W) => pCut_any t ⟨#[63]⟩ 63 W h1 rfl (hE.out W h2))
  have hpre := Lib.hid (fun (t : ByteArray) W => pCutPrefix_any t ⟨#[47, 47]⟩ [47, 47] W rfl)
  have hup := Lib.hid (fun (t : ByteArray) W (h : t.size ≤ 1000000) => pUpTo_any t W (by unfold maxLen; omega))
  obtain ⟨L, hL⟩ : ∃ L, L = s.data.toList := ⟨_, rfl⟩
  rw [← hL]
  have hlen : L.length = s.size := by rw [hL, list_len]
  have hcl := Lc.cut_len L [58, 47, 63, 35]
  have hac := Lc.any_is L [58, 47, 63, 35]
  obtain ⟨K, hK⟩ : ∃ K, K = (Lc.cut L [58, 47, 63, 35]).length := ⟨_, rfl⟩
  rw [← hK, hlen] at hcl hac
  have sy : Hid (∀ h : K < s.size, ((s[K].toNat : Int) == 58) = Lc.scB L) := Lib.hid (fun h => by
    have e2 := Lc.sc_is (l := L) (by rw [← hK, hlen]; exact h)
    rw [e2]
    have := one_byte (c := 58) h
    rw [show ((58 : UInt8).toNat : Int) = 58 from rfl] at this
    rw [this]
    subst hL
    simp only [← hK])
  have sn : Hid (¬ K < s.size → Lc.scB L = false) := Lib.hid (fun h => Lc.sc_no (by rw [← hK, hlen]; exact h))
  have sz : Hid (Lc.scB L = true → K < s.size ∧ s.extract 0 K = Lc.str (Lc.scA L) ∧ (s.extract (K + 1) s.size).data.toList = Lc.scR L) := Lib.hid (fun h => by
    have := Lc.sc_yes h
    rw [← hK] at this
    refine ⟨by rw [← hlen]; exact this.1, by rw [sub_list, List.drop_zero, ← hL, this.2.1], by rw [drop_list, ← hL, this.2.2]⟩)
  have hany := Lib.hid (fun W => indexAny_any s ⟨#[58, 47, 63, 35]⟩ W hs rfl (by decide))
  have e1 : Hid (∀ W, Calls Tryz.prog 173 #[.string s, .string ⟨#[58, 47, 63, 35]⟩] W fun e w' => e = .returned (.int .i64 (if K < s.size then (K : Int) else -1)) ∧ Below W.heap.size W w') := Lib.hid (fun W => by
    have := hany.out W
    rw [← hac, hL]
    exact this)
  obtain ⟨J, hJ⟩ : ∃ J : Int, J = if K < s.size then (K : Int) else -1 := ⟨_, rfl⟩
  rw [← hJ] at e1
  replace hJ := Lib.hid hJ
  replace hL := Lib.hid hL
  replace hlen := Lib.hid hlen
  replace hK := Lib.hid hK
  clear hany hac
  go_enter Tryz.func149, Tryz.ntmps149
  go_upto_region 1 with fail
  generalize hw0 : w.alloc (.cells #[.string ⟨#[]⟩, .string ⟨#[]⟩, .string ⟨#[]⟩, .string ⟨#[]⟩, .string ⟨#[]⟩, .bool false, .bool false, .bool false, .bool false] 40) = w0 at *
  clear hw0
  replace hP := Lib.hid hP
  go_wp2_with fail
  (refine (e1.out _).mono ?_); rintro e w1 ⟨rfl, b1⟩
  replace hP := Lib.hid (hP.out.on b1)
  clear e1 b1
  go_upto_region 2 with fail
  go_cut [16] (fun c wx => ∃ q, c = .bool q ∧ Hid (q = Lc.scB L) ∧ w1 = wx)
  case first =>
    by_cases hk : K < s.size
    · obtain rfl : J = (K : Int) := hJ.out.trans (if_pos hk)
      have hb := sy.out hk
      obtain ⟨q, hq⟩ : ∃ q, q = Lc.scB L := ⟨_, rfl⟩
      rw [← hq] at hb
      replace hq := Lib.hid hq
      go_wp2_with fail
      go_meet
      exact ⟨q, rfl, hq, rfl⟩
    · obtain rfl : J = -1 := hJ.out.trans (if_neg hk)
      have hq := Lib.hid (sn.out hk).symm
      go_wp2_with fail
      go_meet
      exact ⟨false, rfl, hq, rfl⟩
  case rest =>
  obtain ⟨q, rfl, hq, rfl⟩ := hcut
  clear sn sy
  go_upto_if 16 with fail
  go_cut [0] (fun x wx => ∃ t : ByteArray, x = .string t ∧ t.size ≤ 1000000 ∧ Hid (t.data.toList = Lc.scR L) ∧ Hid (SR w wx ⟨Lc.scA L, [], [], [], [], Lc.scB L, false, false, false⟩))
  case first =>
    cases q
    · obtain ⟨n1, n2⟩ := Lc.scA_no hq.out.symm
      have q1 : Hid (s.data.toList = Lc.scR L) := Lib.hid (by rw [n2]; exact hL.out.symm)
      have hP' : Hid (SR w w1 ⟨Lc.scA L, [], [], [], [], Lc.scB L, false, false, false⟩) := Lib.hid (by rw [n1, ← hq.out]; exact hP.out)
      clear n1 n2
      go_wp2_with fail
      go_meet
      exact ⟨s, rfl, hs, q1, hP'⟩
    · obtain ⟨k1, k2, k3⟩ := sz.out hq.out.symm
      obtain rfl : J = (K : Int) := hJ.out.trans (if_pos k1)
      have k1i : (K : Int) + 1 ≤ (s.size : Int) := by omega
      have kw : IntKind.i64.wrap ((K : Int) + 1) = (K : Int) + 1 := wrap_small _ (by omega) (by omega)
      have k0i : (0 : Int) ≤ (K : Int) + 1 := by omega
      obtain ⟨x0, x1, x2, x3, x4, x5, x6, x7, x8⟩ := zero_open hP.out.c
      have f0 := hP.out.c.free 0
      have f5 := hP.out.c.free 5
      have hP2 := Lib.hid (hP.out.set2 0 5 (.string (s.extract 0 K)) (.bool true) (u' := ⟨Lc.scA L, [], [], [], [], Lc.scB L, false, false, false⟩) (by rw [k2, ← hq.out]; rfl))
      have k4 := Lib.hid (show (s.extract (K + 1) s.size).size ≤ 1000000 by rw [ByteArray.size_extract]; omega)
      replace k2 := Lib.hid k2
      replace k3 := Lib.hid k3
      replace hq := Lib.hid hq
      clear x1 x2 x3 x4 x6 x7 x8
      go_wp2_with fail
      go_region
      have hP3 := Lib.hid hP2.out.drew
      go_wp2_with fail
      go_meet
      exact ⟨_, rfl, k4.out, k3, hP3⟩
  case rest =>
  obtain ⟨t, rfl, ht, hl, hS⟩ := hcut
  clear sz hP hq hJ hcl hlen hK hL
  obtain ⟨S1, hS1⟩ : ∃ S, S = Lc.scR L := ⟨_, rfl⟩
  rw [← hS1] at hl
  obtain ⟨p0, p1, p2, p3, p4, p5, p6⟩ := Lc.split_end S1
  have ca := hcu.out t wc ht hS.out.low
  rw [hl.out] at ca
  have z1 := Lc.cut_len S1 [35]
  have z2 : S1.length ≤ 1000000 := by rw [← hl.out, list_len]; exact ht
  obtain ⟨a, ha⟩ : ∃ a, a = Lc.cut S1 [35] := ⟨_, rfl⟩
  obtain ⟨ra, hra⟩ : ∃ a, a = Lc.rest S1 [35] := ⟨_, rfl⟩
  rw [← ha] at p0 p1 p2 p3 p4 ca z1
  rw [← hra] at p5 p6 ca
  have z3 := Lc.cut_len a [63]
  have cq := Lib.hid (fun W (h : Below w.heap.size w W) => hcuq.out (Lc.str a) W (by rw [Lc.str_size]; omega) h)
  rw [Lc.str_list] at cq
  obtain ⟨b, hb⟩ : ∃ b, b = Lc.cut a [63] := ⟨_, rfl⟩
  obtain ⟨rb, hrb⟩ : ∃ b, b = Lc.rest a [63] := ⟨_, rfl⟩
  rw [← hb] at p0 p1 p2 cq z3
  rw [← hrb] at p3 p4 cq
  have cp : Hid (∀ W, Calls Tryz.prog 174 #[.string (Lc.str b), .string ⟨#[47, 47]⟩] W fun e w' => e = .returned (.tuple #[.string (Lc.str (if Lc.hoB b then b.drop 2 else b)), .bool (Lc.hoB b)]) ∧ w' = W) := Lib.hid (fun W => by
    have := hpre.out (Lc.str b) W
    rw [Lc.str_list] at this
    exact this)
  obtain ⟨B2, hB2⟩ : ∃ x, x = if Lc.hoB b then b.drop 2 else b := ⟨_, rfl⟩
  have hB2l : B2.length ≤ 1000000 := by
    rw [hB2]
    split
    · rw [List.length_drop]; omega
    · omega
  obtain ⟨T2, hT2⟩ : ∃ x, x = Lc.str B2 := ⟨_, rfl⟩
  have hT2l : T2.data.toList = B2 := by rw [hT2, Lc.str_list]
  have hT2s : T2.size = B2.length := by rw [← hT2l, list_len]
  obtain ⟨n, hn⟩ : ∃ n, n = (Lc.cut B2 [47]).length := ⟨_, rfl⟩
  have hn2 : n ≤ T2.size := by rw [hn, hT2s]; exact Lc.cut_len _ _
  have hu := Lib.hid (fun W => by
    have := hup.out T2 W (by omega)
    rw [hT2l, ← hn] at this
    exact this)
  have g1 : Hid (T2.extract 0 n = Lc.str (Lc.cut B2 [47])) := Lib.hid (by rw [sub_list, List.drop_zero, hT2l, hn, Lc.take_cut])
  have g2 : Hid (T2.extract n T2.size = Lc.str (Lc.rest B2 [47])) := Lib.hid (Lc.str_of (by rw [drop_list, hT2l, hn, Lc.drop_cut]))
  rw [← hB2, ← hT2] at cp
  replace hT2 := Lib.hid hT2
  replace hT2l := Lib.hid hT2l
  replace hT2s := Lib.hid hT2s
  replace hB2l := Lib.hid hB2l
  replace hn := Lib.hid hn
  have hall : Hid (Lc.split L = ⟨Lc.scA L, if Lc.hoB b then Lc.cut (b.drop 2) [47] else [], if Lc.hoB b then Lc.rest (b.drop 2) [47] else b, rb.drop 1, ra.drop 1, Lc.scB L, Lc.hoB b, !rb.isEmpty, !ra.isEmpty⟩) := Lib.hid (by
    unfold Lc.split
    rw [← hS1, p1, p2, p3, p4, p5, p6, p0])
  obtain ⟨fr, hfr⟩ : ∃ x, x = ra.drop 1 := ⟨_, rfl⟩
  obtain ⟨fb, hfb⟩ : ∃ x, x = !ra.isEmpty := ⟨_, rfl⟩
  obtain ⟨qr, hqr⟩ : ∃ x, x = rb.drop 1 := ⟨_, rfl⟩
  obtain ⟨qb, hqb⟩ : ∃ x, x = !rb.isEmpty := ⟨_, rfl⟩
  rw [← hfr, ← hfb] at ca hall
  rw [← hqr, ← hqb] at cq hall
  replace hfr := Lib.hid hfr
  replace hfb := Lib.hid hfb
  replace hqr := Lib.hid hqr
  replace hqb := Lib.hid hqb
  have z4 : Hid (b.length ≤ 1000000) := Lib.hid (by omega)
  replace hS1 := Lib.hid hS1
  replace ha := Lib.hid ha
  replace hra := Lib.hid hra
  replace hb := Lib.hid hb
  replace hrb := Lib.hid hrb
  clear p0 p1 p2 p3 p4 p5 p6 hcu hcuq hpre hup z1 z2 z3 hl ht
  replace ca := Lib.hid ca
  go_wp2_with fail
  (refine ca.out.mono ?_); rintro e w2 ⟨rfl, b2⟩
  have hS2 := Lib.hid (hS.out.on b2)
  clear ca b2 hS
  obtain ⟨x0, x1, x2, x3, x4, x5, x6, x7, x8⟩ := uri_open hS2.out.c
  have f4 := hS2.out.c.free 4
  have f8 := hS2.out.c.free 8
  clear x0 x1 x2 x3 x5 x6 x7
  have hS3 := Lib.hid (hS2.out.set2 4 8 (.string (Lc.str (fr))) (.bool fb) (u' := ⟨Lc.scA L, [], [], [], fr, Lc.scB L, false, false, fb⟩) rfl)
  go_upto_region 5 with fail
  generalize (w2.setCell ⟨w.heap.size, 4, none⟩ (.string (Lc.str (fr)))).setCell ⟨w.heap.size, 8, none⟩ (.bool fb) = w3 at *
  clear x4 x8 f4 f8 hS2
  go_wp2_with fail
  (refine (cq.out _ hS3.out.low).mono ?_); rintro e w4 ⟨rfl, b4⟩
  have hS4 := Lib.hid (hS3.out.on b4)
  clear cq b4 hS3
  obtain ⟨x0, x1, x2, x3, x4, x5, x6, x7, x8⟩ := uri_open hS4.out.c
  have f3 := hS4.out.c.free 3
  have f7 := hS4.out.c.free 7
  clear x0 x1 x2 x4 x5 x6 x8
  have hS5 := Lib.hid (hS4.out.set2 3 7 (.string (Lc.str (qr))) (.bool qb) (u' := ⟨Lc.scA L, [], [], qr, fr, Lc.scB L, false, qb, fb⟩) rfl)
  go_upto_region 6 with fail
  generalize (w4.setCell ⟨w.heap.size, 3, none⟩ (.string (Lc.str (qr)))).setCell ⟨w.heap.size, 7, none⟩ (.bool qb) = w5 at *
  clear x3 x7 f3 f7 hS4
  go_wp2_with fail
  (refine (cp.out _).mono ?_); rintro e w6 ⟨rfl, hw⟩; obtain rfl := hw.symm
  clear cp
  obtain ⟨q, hq⟩ : ∃ q, q = Lc.hoB b := ⟨_, rfl⟩
  rw [← hq] at hall hB2 ⊢
  replace hq := Lib.hid hq
  replace hB2 := Lib.hid hB2
  go_upto_if 47 with fail
  go_cut [0] (fun x wx => ∃ t : ByteArray, x = .string t ∧ Hid (t = Lc.str (if q then Lc.rest (b.drop 2) [47] else b)) ∧ Hid (SR w wx ⟨Lc.scA L, if q then Lc.cut (b.drop 2) [47] else [], [], qr, fr, Lc.scB L, q, qb, fb⟩))
  case first =>
    cases q
    · have hP' : Hid (SR w w5 ⟨Lc.scA L, if false then Lc.cut (b.drop 2) [47] else [], [], qr, fr, Lc.scB L, false, qb, fb⟩) := Lib.hid hS5.out
      clear hn2
      go_wp2_with fail
      go_meet
      exact ⟨_, rfl, Lib.hid rfl, hP'⟩
    · have hB : B2 = b.drop 2 := hB2.out
      obtain ⟨x0, x1, x2, x3, x4, x5, x6, x7, x8⟩ := uri_open hS5.out.c
      have f1 := hS5.out.c.free 1
      have f6 := hS5.out.c.free 6
      clear x0 x2 x3 x4 x5 x7 x8
      have hS6 := Lib.hid (hS5.out.set2 1 6 (.string (T2.extract 0 n)) (.bool true) (u' := ⟨Lc.scA L, if true then Lc.cut (b.drop 2) [47] else [], [], qr, fr, Lc.scB L, true, qb, fb⟩) (by rw [g1.out, hB]; rfl)).drew
      have g3 : Hid (T2.extract n T2.size = Lc.str (if true then Lc.rest (b.drop 2) [47] else b)) := Lib.hid (by rw [g2.out, hB]; rfl)
      have n1 : (n : Int) ≤ (T2.size : Int) := by omega
      have n0 : (0 : Int) ≤ (n : Int) := by omega
      replace hB := Lib.hid hB
      go_wp2_with fail
      (refine (hu.out _).mono ?_); rintro e w7 ⟨rfl, rfl⟩
      go_wp2_with fail
      go_region
      go_wp2_with fail
      go_meet
      exact ⟨_, rfl, g3, hS6⟩
  case rest =>
  clear hu g1 g2 hS5
  obtain ⟨t, rfl, ht, hS⟩ := hcut
  obtain ⟨x0, x1, x2, x3, x4, x5, x6, x7, x8⟩ := uri_open hS.out.c
  have f2 := hS.out.c.free 2
  clear x0 x1 x3 x4 x5 x6 x7 x8
  have hS6 := Lib.hid (hS.out.set 2 (.string t) (u' := Lc.split L) (by rw [hall.out, ht.out]; rfl))
  go_upto_region 11 with fail
  generalize wc.setCell ⟨w.heap.size, 2, none⟩ (.string t) = w8 at *
  clear x2 f2 hS hall
  obtain ⟨u, hu⟩ : ∃ u, u = Lc.split L := ⟨_, rfl⟩
  rw [← hu] at hS6
  replace hu := Lib.hid hu
  obtain ⟨y0, y1, y2, y3, y4, y5, y6, y7, y8⟩ := uri_open hS6.out.c
  have f0 := hS6.out.c.free 0
  have f1 := hS6.out.c.free 1
  have f2 := hS6.out.c.free 2
  have f3 := hS6.out.c.free 3
  have f4 := hS6.out.c.free 4
  have f5 := hS6.out.c.free 5
  have f6 := hS6.out.c.free 6
  have f7 := hS6.out.c.free 7
  have f8 := hS6.out.c.free 8
  have hN := Lib.hid (nine_cells (A := uArr u) rfl hS6.out.c (.string (Lc.str u.scheme)) (.string (Lc.str u.host)) (.string (Lc.str u.path)) (.string (Lc.str u.query)) (.string (Lc.str u.frag)) (.bool u.hasS) (.bool u.hasH) (.bool u.hasQ) (.bool u.hasF))
  have hB := Lib.hid (nine_below hS6.out.low (Nat.le_refl _) (.string (Lc.str u.scheme)) (.string (Lc.str u.host)) (.string (Lc.str u.path)) (.string (Lc.str u.query)) (.string (Lc.str u.frag)) (.bool u.hasS) (.bool u.hasH) (.bool u.hasQ) (.bool u.hasF))
  clear hS6
  go_wp2_with fail
  exact uri_end (rb := w.heap.size) rfl rfl hN.out ⟨by rw [hu.out], hB.out⟩
end Go.Proofs.YtdhondndidoniaaGreatDoor
namespace Go.Proofs.YtdhondndidoniaaGreatDoor
open Go.RowKit

set_option maxRecDepth 100000 in
set_option maxHeartbeats 800000 in
theorem isWithin_any (c : Int) (L : List (Int × Int)) (b n cap : Nat) (w : World) (hL : PairsAt b L w) (hn : L.length ≤ 1000) (hln : L.length = n) :
    Calls Tryz.prog 96 #[.int .i64 c, .slice (some ⟨b, 0, none⟩) n cap] w fun e w' => e = .returned (.bool (G.any c L)) ∧ Below w.heap.size w w' := by
  have hln := Lib.hid hln
  go_enter Tryz.func96, Tryz.ntmps96
  go_wp2_with fail
  go_loopw [9] (fun i wr => ∃ k : Nat, k ≤ n ∧ i = .int .i64 (k : Int) ∧ Hid (G.any c (L.take k) = false) ∧ Below w.heap.size w wr) (fun i _ => n - (intOf i).toNat)
  case atStart => exact ⟨0, Nat.zero_le _, rfl, Lib.hid rfl, Below.refl _ _⟩
  case round =>
    obtain ⟨k, hk, rfl, hall, bw⟩ := hrel
    by_cases hlt : k < n
    · obtain ⟨c0, c1⟩ := hL k (by rw [hln.out]; exact hlt)
      have d0 := (bw.cell (World.block_lt_of_cell? w _ c0)).trans c0
      have d1 := (bw.cell (World.block_lt_of_cell? w _ c1)).trans c1
      have hkl : k < L.length := by rw [hln.out]; exact hlt
      have hst := Lib.hid (G.any_take c L k hkl)
      have hat := Lib.hid (G.any_at c L k hkl)
      generalize L[k].1 = x at c0 d0 hst hat
      generalize L[k].2 = y at c1 d1 hst hat
      rw [Nat.mul_comm] at d0 d1
      clear c0 c1 hL
      by_cases hx : x ≤ c
      · by_cases hy : c ≤ y
        · have hr := Lib.hid (hat.out (by simp [G.inR, hx, hy]))
          go_wp2
          go_ret
          exact ⟨ret_bool hr.out.symm, bw.alloc bw.size _⟩
        · have hr := Lib.hid (show G.any c (L.take (k + 1)) = false by rw [hst.out, hall.out]; simp [G.inR, hx, hy])
          go_wp2
          go_roundw
          case rel => exact ⟨k + 1, by omega, by go_num, hr, bw.alloc bw.size _⟩
          case measure => simp [intOf]; omega
      · have hr := Lib.hid (show G.any c (L.take (k + 1)) = false by rw [hst.out, hall.out]; simp [G.inR, hx])
        go_wp2
        go_roundw
        case rel => exact ⟨k + 1, by omega, by go_num, hr, bw.alloc bw.size _⟩
        case measure => simp [intOf]; omega
    · have hfull : L.take k = L := List.take_of_length_le (by rw [hln.out]; omega)
      rw [hfull] at hall
      clear hfull
      go_wp2
      go_ret
      exact ⟨ret_bool hall.out.symm, bw⟩

set_option maxRecDepth 100000 in
set_option maxHeartbeats 1600000 in
theorem gChar_at (c : Int) (w : World) :
    Calls Tryz.prog 50 #[.int .i64 c] w fun e w' => e = .returned (.bool (G.char c)) ∧ Below w.heap.size w w' := by
  have hm : G.char c = G.any c [(9, 10), (13, 13), (32, 55295), (57344, 65533), (65536, 1114111)] := by simp [G.any, G.char, Bool.or_assoc]
  rw [hm]
  clear hm
  go_enter Tryz.func50, Tryz.ntmps50
  go_wp2_with fail
  (with_reducible refine (isWithin_any c [(9, 10), (13, 13), (32, 55295), (57344, 65533), (65536, 1114111)] w.heap.size 5 _ _ ?_ (by decide) rfl).mono ?_)
  · exact pairsAt_cells (heap_alloc_new w _)
  rintro e w1 ⟨rfl, b1⟩
  have b0 := (Below.refl w.heap.size w).alloc (Nat.le_refl _)
  go_wp2
  go_ret
  exact ⟨rfl, (b0 _).trans (b1.mono (b0 _).size)⟩

end Go.Proofs.YtdhondndidoniaaGreatDoor
namespace Go.Proofs.YtdhondndidoniaaGreatDoor
namespace G
open Lib

/-- Pairs of 13 and 10 made 10. -/
def pairs (l : List UInt8) : List UInt8 := replaceAll l [13, 10] [10]

end G
end Go.Proofs.YtdhondndidoniaaGreatDoor
namespace Go.Proofs.YtdhondndidoniaaGreatDoor
namespace G
open Lib

/-- the head: the first code point by one rule, those behind it by another. -/
def hd (p q : Int → Bool) (l : List UInt8) : Nat := if (first l).2 ≠ 0 ∧ p (first l).1 = true then (first l).2 + span q (l.drop (first l).2) else 0

theorem hd_span (p : Int → Bool) (l : List UInt8) : hd p p l = span p l := by
  unfold hd
  split
  · rename_i h; rw [span_step p l h.1 h.2]
  · rename_i h
    refine (span_stop p l ?_).symm
    by_cases h0 : (first l).2 = 0
    · exact .inl h0
    · right
      cases hp : p (first l).1 with
      | false => rfl
      | true => exact absurd ⟨h0, hp⟩ h
/-- how far a head is known: at pos 0 nothing yet. -/
def rest (p q : Int → Bool) (pos : Nat) (l : List UInt8) : Nat := if pos = 0 then hd p q l else span q l
theorem rest_stop (p q : Int → Bool) (pos : Nat) (l : List UInt8) (h0 : pos = 0 → (first l).2 = 0 ∨ p (first l).1 = false) (h1 : pos ≠ 0 → (first l).2 = 0 ∨ q (first l).1 = false) : rest p q pos l = 0 := by
  unfold rest
  split
  · rename_i h
    unfold hd
    rw [if_neg]
    rintro ⟨a, b⟩
    rcases h0 h with h | h
    · exact a h
    · rw [h] at b; cases b
  · rename_i h; exact span_stop q l (h1 h)
theorem rest_step (p q : Int → Bool) (pos : Nat) (l : List UInt8) (hf : (first l).2 ≠ 0) (h0 : pos = 0 → p (first l).1 = true) (h1 : pos ≠ 0 → q (first l).1 = true) :
    rest p q pos l = (first l).2 + rest p q (pos + (first l).2) (l.drop (first l).2) := by
  have e : rest p q (pos + (first l).2) (l.drop (first l).2) = span q (l.drop (first l).2) := by
    unfold rest; rw [if_neg (by omega)]
  rw [e]
  unfold rest
  split
  · rename_i h
    unfold hd
    rw [if_pos ⟨hf, h0 h⟩]
  · rename_i h; exact span_step q l hf (h1 h)

/-- A byte that is no code point looks like 65533, and is not told so. -/
theorem bad_iff (l : List UInt8) (hl : l ≠ []) (h : (decodeL l).1 = 65533) : (!hasPrefix l [239, 191, 189]) = decide ((decodeL l).2 = 1) := by
  have hN := decodeL_N l
  rw [Bool.eq_iff_iff, Bool.not_eq_true', decide_eq_true_eq]
  match l, hl with
  | [a], _ =>
    constructor
    · intro _
      have := decodeL_width [a]
      have h2 := decodeL_le [a] (by simp)
      simp at h2; omega
    · intro _; simp [hasPrefix, List.isPrefixOf]
  | [a, b], _ =>
    have ha := a.toNat_lt
    have hb := b.toNat_lt
    simp only [List.length_cons, List.length_nil, List.getD_cons_zero, List.getD_cons_succ, List.getD_nil] at hN
    constructor
    · intro _
      rw [hN] at h ⊢
      unfold decodeN at h ⊢
      split at h
      · simp at h; omega
      · rename_i h1
        rw [if_neg h1]
        split at h
        · rename_i h2
          rw [if_pos h2]
          split at h
          · simp at h; omega
          · rename_i h3; rw [if_neg h3]
        · rename_i h2
          rw [if_neg h2, if_neg (by omega), if_neg (by omega)]
    · intro _; simp [hasPrefix, List.isPrefixOf]
  | a :: b :: c :: t, _ =>
    have ha := a.toNat_lt
    have hb := b.toNat_lt
    have hc := c.toNat_lt
    have e0 : (a :: b :: c :: t).getD 0 0 = a := rfl
    have e1 : (a :: b :: c :: t).getD 1 0 = b := rfl
    have e2 : (a :: b :: c :: t).getD 2 0 = c := rfl
    have hd' := ((a :: b :: c :: t).getD 3 0).toNat_lt
    rw [e0, e1, e2] at hN
    generalize ((a :: b :: c :: t).getD 3 0).toNat = b3 at *
    have hlen : 3 ≤ (a :: b :: c :: t).length := by simp
    generalize (a :: b :: c :: t).length = n at *
    have hpre : hasPrefix (a :: b :: c :: t) [239, 191, 189] = decide (a.toNat = 239 ∧ b.toNat = 191 ∧ c.toNat = 189) := by
      rw [Bool.eq_iff_iff, decide_eq_true_eq]
      simp only [hasPrefix, List.isPrefixOf, Bool.and_true, Bool.and_eq_true, beq_iff_eq]
      constructor
      · rintro ⟨rfl, rfl, rfl⟩; exact ⟨rfl, rfl, rfl⟩
      · rintro ⟨x, y, z⟩; exact ⟨(UInt8.toNat_inj.1 x).symm, (UInt8.toNat_inj.1 y).symm, (UInt8.toNat_inj.1 z).symm⟩
    rw [hpre, decide_eq_false_iff_not]
    rw [hN] at h ⊢
    generalize a.toNat = x at *
    generalize b.toNat = y at *
    generalize c.toNat = z at *
    clear hpre hN e0 e1 e2
    unfold decodeN at h ⊢
    split at h
    · simp at h; omega
    · rename_i h1
      rw [if_neg h1]
      split at h
      · rename_i h2
        rw [if_pos h2]
        split at h
        · simp at h; omega
        · rename_i h3; rw [if_neg h3]; simp; omega
      · rename_i h2
        rw [if_neg h2]
        split at h
        · rename_i h3
          rw [if_pos h3]
          split at h
          · rename_i h4
            rw [if_pos h4]
            simp at h ⊢; omega
          · rename_i h4; rw [if_neg h4]; simp; omega
        · rename_i h3
          rw [if_neg h3]
          split at h
          · rename_i h4
            rw [if_pos h4]
            split at h
            · rename_i h5; simp at h; omega
            · rename_i h5; rw [if_neg h5]; simp; omega
          · rename_i h4; rw [if_neg h4]; simp; omega
end G
end Go.Proofs.YtdhondndidoniaaGreatDoor
namespace Go.Proofs.YtdhondndidoniaaGreatDoor
open Go.RowKit

set_option maxHeartbeats 800000 in
theorem isBroken_any (t : ByteArray) (r : Nat) (w : World) (hr : (Lib.decodeL t.data.toList).1 = r) (ht : 0 < t.size) :
    Calls Tryz.prog 95 #[.string t, .int .i32 (r : Int)] w fun e w' => e = .returned (.bool (decide (r = 65533 ∧ (Lib.decodeL t.data.toList).2 = 1))) ∧ w = w' := by
  by_cases h : r = 65533
  · have hb := Lib.hid (G.bad_iff t.data.toList (lst_ne ht) (hr.trans h))
    clear hr
    subst h
    go_enter Tryz.func95, Tryz.ntmps95
    go_wp2_with fail
    (with_reducible refine (Tryz.strings_HasPrefix t _ _).mono ?_); rintro e w1 ⟨rfl, rfl⟩
    go_wp2
    all_goals
      go_ret
      exact ⟨ret_bool (by
        have := hb.out
        simp_all), rfl⟩
  · have h1 : ¬ (r : Int) = 65533 := by omega
    have h2 : ((r : Int) == 65533) = false := beq_eq_false_iff_ne.2 h1
    have hd := Lib.hid (show decide (r = 65533 ∧ (Lib.decodeL t.data.toList).2 = 1) = false by simp [h])
    clear hr h
    go_enter Tryz.func95, Tryz.ntmps95
    go_wp2
    go_ret
    exact ⟨ret_bool hd.out.symm, rfl⟩

/-- What the document's word of the head's code point is, along a range. -/
theorem first_at (s : ByteArray) (pos : Nat) (h : pos < s.size) : G.first (s.data.toList.drop pos) = if (Utf8.decode s pos).1 = 65533 ∧ (Utf8.decode s pos).2 = 1 then (0, 0) else Utf8.decode s pos := by
  unfold G.first
  have hne : s.data.toList.drop pos ≠ [] := by rw [drop_cons s pos h]; simp
  rw [if_neg hne, Lib.decodeL_drop]

theorem stop_rune {f : Nat × Nat} {r n : Nat} {p : Int → Bool} (hF : f = if r = 65533 ∧ n = 1 then (0, 0) else (r, n)) (h : p r = false) : f.2 = 0 ∨ p f.1 = false := by
  rw [hF]
  split
  · exact .inl rfl
  · exact .inr h
theorem stop_bad {f : Nat × Nat} {r n : Nat} {p : Int → Bool} (hF : f = if r = 65533 ∧ n = 1 then (0, 0) else (r, n)) (h : r = 65533 ∧ n = 1) : f.2 = 0 ∨ p f.1 = false := by
  rw [hF, if_pos h]; exact .inl rfl
theorem go_rune {f : Nat × Nat} {r n : Nat} (hF : f = if r = 65533 ∧ n = 1 then (0, 0) else (r, n)) (h : ¬ (r = 65533 ∧ n = 1)) : f = (r, n) := by
  rw [hF, if_neg h]

set_option maxRecDepth 100000 in
set_option maxHeartbeats 1600000 in
theorem head_chars (s : ByteArray) (w : World) (hs : s.size ≤ 1000000) :
    Calls Tryz.prog 49 #[.string s, .func (.func 50) #[] #[], .func (.func 50) #[] #[]] w fun e w' => e = .returned (.int .i64 (G.hd G.char G.char s.data.toList : Nat)) ∧ Below w.heap.size w w' := by
  go_enter Tryz.func49, Tryz.ntmps49
  go_wp2_with fail
  go_loopw [7, 8, 9] (fun m _ _ wr => ∃ pos : Nat, pos ≤ s.size ∧ ((pos = 0 ∧ m = .func (.func 50) #[] #[]) ∨ (pos ≠ 0 ∧ m = .func (.func 50) #[] #[])) ∧ wr.heap[w.heap.size]? = some (.stringIter s pos) ∧ Hid (G.hd G.char G.char s.data.toList = pos + G.rest G.char G.char pos (s.data.toList.drop pos)) ∧ Below w.heap.size w wr) (fun _ _ _ wr => s.size - wr.iterPos w.heap.size)
  case atStart => exact ⟨0, Nat.zero_le _, .inl ⟨rfl, rfl⟩, World.iter_heap w s 0, Lib.hid (by simp [G.rest]), (Below.refl _ _).alloc (Nat.le_refl _) _⟩
  case round =>
    obtain ⟨pos, hp, hm, hk, hC, bw⟩ := hrel
    by_cases hlt : pos < s.size
    · have hnx : ∀ ty, (Instr.next (.pointer (some ⟨w.heap.size, 0, none⟩)) true ty).run Tryz.prog wr = _ := fun ty => Lib.run_next_any_at wr w.heap.size s pos ty hk hlt
      have hF := first_at s pos hlt
      have hwd := Lib.width_pos s pos
      have hle := G.first_le (s.data.toList.drop pos)
      have hst := Lib.hid (G.rest_stop G.char G.char pos (s.data.toList.drop pos))
      have hsp := Lib.hid (G.rest_step G.char G.char pos (s.data.toList.drop pos))
      have hr0 := Lib.decodeL_rune (s.data.toList.drop pos)
      rw [Lib.decodeL_drop] at hr0
      have hbad := isBroken_any (s.extract pos s.size)
      rw [drop_list, Lib.decodeL_drop] at hbad
      rw [List.length_drop, list_len] at hle
      have hk2 := Lib.iterAt_heap wr w.heap.size s pos (pos + (Utf8.decode s pos).2) hk
      have b2 := Lib.below_iterAt bw (k := w.heap.size) (Nat.le_refl _) s (pos + (Utf8.decode s pos).2)
      rcases hm with ⟨h0, rfl⟩ | ⟨h0, rfl⟩
      · subst h0
        rw [Nat.zero_add] at hk2 b2
        rw [extract_full] at hbad
        go_wp2_with fail
        (with_reducible refine (gChar_at _ _).mono ?_); rintro e w1 ⟨rfl, b3⟩
        have b4 := b2.trans (b3.mono b2.size)
        have hkl : w.heap.size < (wr.iterAt w.heap.size s ((Utf8.decode s 0).2)).heap.size := (Array.getElem?_eq_some_iff.1 hk2).1
        have hk4 := (b3.block w.heap.size hkl).trans hk2
        clear hk2 hkl hnx
        generalize Utf8.decode s 0 = d at *
        obtain ⟨r, n⟩ := d
        dsimp only at *
        cases hp : G.char r
        · have hq := Lib.hid (hst.out (fun _ => stop_rune hF hp) (fun h => absurd rfl h))
          have hp := Lib.hid hp
          clear hF hbad
          go_wp2
          go_ret
          exact ⟨ret_int (by rw [hC.out, hq.out]; rfl), b4⟩
        · have hp := Lib.hid hp
          go_wp2_with fail
          (with_reducible refine (hbad r _ rfl (by omega)).mono ?_); rintro e w2 ⟨rfl, rfl⟩
          by_cases hb : r = 65533 ∧ n = 1
          · have hq := Lib.hid (hst.out (fun _ => stop_bad hF hb) (fun h => absurd rfl h))
            have hd := decide_eq_true hb
            rw [hd]
            clear hF hb hd hbad
            go_wp2
            go_ret
            exact ⟨ret_int (by rw [hC.out, hq.out]; rfl), b4⟩
          · have hfr := go_rune hF hb
            have hq := Lib.hid (hsp.out (by rw [hfr]; omega) (fun _ => by rw [hfr]; exact hp.out) (fun h => absurd rfl h))
            rw [hfr] at hle
            have hd := decide_eq_false hb
            rw [hd]
            have hfr := Lib.hid hfr
            clear hF hb hd hbad
            go_wp2
            go_roundw
            case rel => exact ⟨n, by omega, .inr ⟨by omega, rfl⟩, hk4, Lib.hid (by rw [hC.out, hq.out, hfr.out, List.drop_drop]; simp only [Nat.zero_add]), b4⟩
            case measure => simp [World.iterPos, hk4, hk]; omega
      · have h0 := Lib.hid h0
        go_wp2_with fail
        (with_reducible refine (gChar_at _ _).mono ?_); rintro e w1 ⟨rfl, b3⟩
        have b4 := b2.trans (b3.mono b2.size)
        have hkl : w.heap.size < (wr.iterAt w.heap.size s (pos + (Utf8.decode s pos).2)).heap.size := (Array.getElem?_eq_some_iff.1 hk2).1
        have hk4 := (b3.block w.heap.size hkl).trans hk2
        clear hk2 hkl hnx
        generalize Utf8.decode s pos = d at *
        obtain ⟨r, n⟩ := d
        dsimp only at *
        cases hp : G.char r
        · have hq := Lib.hid (hst.out (fun h => absurd h h0.out) (fun _ => stop_rune hF hp))
          have hp := Lib.hid hp
          clear hF hbad
          go_wp2
          go_ret
          exact ⟨ret_int (by rw [hC.out, hq.out]; rfl), b4⟩
        · have hp := Lib.hid hp
          go_wp2_with fail
          (with_reducible refine (hbad r _ rfl (by simp; omega)).mono ?_); rintro e w2 ⟨rfl, rfl⟩
          by_cases hb : r = 65533 ∧ n = 1
          · have hq := Lib.hid (hst.out (fun h => absurd h h0.out) (fun _ => stop_bad hF hb))
            have hd := decide_eq_true hb
            rw [hd]
            clear hF hb hd hbad
            go_wp2
            go_ret
            exact ⟨ret_int (by rw [hC.out, hq.out]; rfl), b4⟩
          · have hfr := go_rune hF hb
            have hq := Lib.hid (hsp.out (by rw [hfr]; omega) (fun h => absurd h h0.out) (fun _ => by rw [hfr]; exact hp.out))
            rw [hfr] at hle
            have hd := decide_eq_false hb
            rw [hd]
            have hfr := Lib.hid hfr
            clear hF hb hd hbad
            go_wp2
            go_roundw
            case rel => exact ⟨pos + n, by omega, .inr ⟨by omega, rfl⟩, hk4, Lib.hid (by rw [hC.out, hq.out, hfr.out, List.drop_drop]; dsimp only; omega), b4⟩
            case measure => simp [World.iterPos, hk4, hk]; omega
    · have hnx : ∀ ty, (Instr.next (.pointer (some ⟨w.heap.size, 0, none⟩)) true ty).run Tryz.prog wr = _ := fun ty => Lib.run_next_end_at wr w.heap.size s pos ty hk hlt
      have hnil : s.data.toList.drop pos = [] := List.drop_of_length_le (by rw [list_len]; omega)
      rw [hnil] at hC
      have hz : G.rest G.char G.char pos [] = 0 := G.rest_stop _ _ _ _ (fun _ => .inl rfl) (fun _ => .inl rfl)
      rw [hz] at hC
      have hps := Lib.hid (show pos = s.size by omega)
      clear hnil hz
      rcases hm with ⟨h0, rfl⟩ | ⟨h0, rfl⟩
      all_goals
        have h0 := Lib.hid h0
        go_wp2
        go_ret
        exact ⟨ret_int (by rw [hC.out, hps.out]; rfl), bw⟩
end Go.Proofs.YtdhondndidoniaaGreatDoor
namespace Go.Proofs.YtdhondndidoniaaGreatDoor
open Go.RowKit

theorem check_yes {l : List UInt8} (h : ¬ G.span G.char l < l.length) : G.checkN l = 0 := by
  have := G.span_le G.char l
  unfold G.checkN G.check
  rw [if_pos (decide_eq_true (by omega))]
theorem check_no {l : List UInt8} (h : G.span G.char l < l.length) : G.checkN l = 50 := by
  unfold G.checkN G.check
  rw [if_neg (by rw [decide_eq_true_eq]; omega)]

set_option maxHeartbeats 800000 in
theorem gCheck_any (s : ByteArray) (w : World) (hs : s.size ≤ 1000000) (_ : Env w) : Calls Tryz.prog 22 #[.string s] w fun e w' => e = .returned (.int .i64 (G.checkN s.data.toList)) ∧ Below w.heap.size w w' := by
  have hy := Lib.hid (@check_yes s.data.toList)
  have hn := Lib.hid (@check_no s.data.toList)
  have hlen := Lib.hid (list_len s)
  go_enter Tryz.func22, Tryz.ntmps22
  go_wp2_with fail
  (with_reducible refine (head_chars s _ hs).mono ?_); rintro e w1 ⟨rfl, b1⟩
  rw [G.hd_span]
  generalize G.span G.char s.data.toList = k at *
  by_cases h : k < s.size
  · have hr := Lib.hid (hn.out (by rw [hlen.out]; exact h))
    go_wp2
    go_ret
    exact ⟨ret_int hr.out.symm, b1⟩
  · have hr := Lib.hid (hy.out (by rw [hlen.out]; exact h))
    go_wp2
    go_ret
    exact ⟨ret_int hr.out.symm, b1⟩

end Go.Proofs.YtdhondndidoniaaGreatDoor
