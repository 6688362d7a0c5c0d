/-
  What the document's own smallest words of tokens come to: contracts of begins, find, Skip, Blank.
  What the document's own Lower comes to, in the tokens' words.
  Parts of a document as the document's own words hand them on: a token, what stands behind it, an error.
  What the document's own words of tokens come to: comment, shut, text, pi.
-/
import Derived.Test.YtcjlhdmekhifaaaGreatDoorD03
import Derived.Test.YtcjlhdmekhifaaaGreatDoorD10
import Derived.Test.YtcjlhdmekhifaaaGreatDoorD04
import Derived.BigQuiet
import Derived.Test.YtcjlhdmekhifaaaGreatDoorD05
import Derived.Test.YtcjlhdmekhifaaaGreatDoorD06
import Derived.Test.YtcjlhdmekhifaaaGreatDoorD12
namespace Go.Proofs.YtcjlhdmekhifaaaGreatDoor
open Go.RowKit

theorem Rt.str_ne {s : ByteArray} {l : List UInt8} (h : ¬ s.data.toList = l) : (s.toList == l) = false := by
  rw [ByteArray.toList_eq]; exact beq_false_of_ne h
theorem Rt.str_is {s : ByteArray} {l : List UInt8} (h : s.data.toList = l) : (s.toList == l) = true := by
  rw [ByteArray.toList_eq, h]; exact beq_self_eq_true l
theorem Rt.sameR {a b : ByteArray} : (a.toList == b.toList) = decide (a.data.toList = b.data.toList) := by
  rw [ByteArray.toList_eq, ByteArray.toList_eq]
  by_cases h : a.data.toList = b.data.toList
  · rw [h, beq_self_eq_true]; simp
  · rw [beq_false_of_ne h]; exact (decide_eq_false h).symm

namespace T
theorem begins_take (p l : List UInt8) : begins p l = decide (p.length ≤ l.length ∧ l.take p.length = p) := by
  rw [Bool.eq_iff_iff, decide_eq_true_eq, begins_iff]
  constructor
  · rintro ⟨t, rfl⟩; simp
  · rintro ⟨_, h⟩
    exact ⟨l.drop p.length, by conv => lhs; lhs; rw [← h]
                               exact List.take_append_drop _ _⟩
/-- Where a text first stands in another one; -1: nowhere. -/
def findI (p l : List UInt8) : Int := match cutAt p l with | some x => (x.1.length : Int) | none => -1
theorem findI_some {p l a r : List UInt8} (h : cutAt p l = some (a, r)) : findI p l = (a.length : Int) := by unfold findI; rw [h]
theorem findI_none {p l : List UInt8} (h : cutAt p l = none) : findI p l = -1 := by unfold findI; rw [h]
/-- How far it has been looked for. -/
def Look (p l : List UInt8) (k : Nat) : Prop := cutAt p l = (cutAt p (l.drop k)).map fun x => (l.take k ++ x.1, x.2)
theorem look_zero (p l : List UInt8) : Look p l 0 := by
  unfold Look
  rw [List.drop_zero, List.take_zero]
  cases cutAt p l <;> rfl
theorem look_step {p l : List UInt8} {k : Nat} (hk : k < l.length) (h : Look p l k) (hb : begins p (l.drop k) = false) : Look p l (k + 1) := by
  unfold Look at *
  rw [h, List.drop_eq_getElem_cons hk]
  rw [List.drop_eq_getElem_cons hk] at hb
  have e : cutAt p (l[k] :: l.drop (k + 1)) = (cutAt p (l.drop (k + 1))).map fun x => (l[k] :: x.1, x.2) := by
    conv => lhs; unfold cutAt
    rw [if_neg (by rw [hb]; decide)]
  have e2 : l.take (k + 1) = l.take k ++ [l[k]] := List.take_succ_eq_append_getElem hk
  rw [e, e2]
  cases cutAt p (l.drop (k + 1)) with
  | none => rfl
  | some x => simp only [Option.map_some, List.append_assoc, List.singleton_append]
theorem look_hit {p l : List UInt8} {k : Nat} (hk : k < l.length) (h : Look p l k) (hb : begins p (l.drop k) = true) : findI p l = (k : Int) := by
  unfold Look at h
  rw [List.drop_eq_getElem_cons hk] at h hb
  have e : cutAt p (l[k] :: l.drop (k + 1)) = some ([], (l[k] :: l.drop (k + 1)).drop p.length) := by
    conv => lhs; unfold cutAt
    rw [if_pos hb]
  rw [e] at h
  rw [findI_some h]
  simp; omega
theorem cut_short {p : List UInt8} : ∀ {l : List UInt8}, l.length < p.length → cutAt p l = none
  | [], _ => rfl
  | b :: t, h => by
    unfold cutAt
    have hb : begins p (b :: t) = false := by
      rw [begins_take]; exact decide_eq_false (fun c => by omega)
    rw [if_neg (by rw [hb]; decide), cut_short (l := t) (by simp at h; omega)]
    rfl
theorem look_end {p l : List UInt8} {k : Nat} (h0 : 0 < p.length) (hk : l.length < k + p.length) (h : Look p l k) : findI p l = -1 := by
  unfold Look at h
  rw [cut_short (l := l.drop k) (by rw [List.length_drop]; omega)] at h
  exact findI_none h
end T

set_option maxHeartbeats 800000 in
theorem refBegins_any (s t : ByteArray) (w : World) (hs : s.size ≤ maxLen) (ht : t.size ≤ maxLen) :
    Calls Tryz.prog 47 #[.string s, .string t] w fun e w' => e = .returned (.bool (T.begins t.data.toList s.data.toList)) ∧ w = w' := by
  have hsm : s.size ≤ 9223372036854775807 := hs
  have htm : t.size ≤ 9223372036854775807 := ht
  have hb := T.begins_take t.data.toList s.data.toList
  rw [list_len, list_len] at hb
  go_enter Tryz.func47, Tryz.ntmps47
  by_cases h : t.size ≤ s.size
  · have hr := Lib.hid (show ((s.extract 0 t.size).toList == t.toList) = T.begins t.data.toList s.data.toList by
      rw [Rt.sameR, take_list, hb]; simp [h])
    clear hb
    go_wp2
    go_ret
    exact ⟨ret_bool hr.out, rfl⟩
  · have hr := Lib.hid (show T.begins t.data.toList s.data.toList = false by rw [hb]; simp [h])
    clear hb
    go_wp2
    go_ret
    exact ⟨ret_bool hr.out.symm, rfl⟩

set_option maxHeartbeats 1600000 in
theorem refFind_any (s t : ByteArray) (w : World) (hs : s.size ≤ 1000000) (ht : t.size ≤ 1000000) (h0 : 0 < t.size) :
    Calls Tryz.prog 95 #[.string s, .string t] w fun e w' => e = .returned (.int .i64 (T.findI t.data.toList s.data.toList)) ∧ w = w' := by
  go_enter Tryz.func95, Tryz.ntmps95
  go_wp2_with fail
  go_loop [5] (fun i => ∃ k : Nat, k ≤ s.size ∧ i = .int .i64 (k : Int) ∧ Hid (T.Look t.data.toList s.data.toList k)) (fun i => s.size - (intOf i).toNat)
  case atStart => exact ⟨0, Nat.zero_le _, rfl, Lib.hid (T.look_zero _ _)⟩
  case round =>
    obtain ⟨k, hk, rfl, hl⟩ := hrel
    by_cases hlt : k + t.size ≤ s.size
    · have hb := T.begins_take t.data.toList (s.data.toList.drop k)
      have hks : k < s.data.toList.length := by rw [list_len]; omega
      have he : ((s.extract k (k + t.size)).toList == t.toList) = T.begins t.data.toList (s.data.toList.drop k) := by
        rw [Rt.sameR, hb, extract_list, List.length_drop, list_len, list_len, List.take_drop]
        have h1 : t.size ≤ s.size - k := by omega
        simp [h1]
      cases hc : T.begins t.data.toList (s.data.toList.drop k)
      · rw [hc] at he
        have hr := Lib.hid (T.look_step hks hl.out hc)
        clear hc hb hks hl
        go_wp2
        go_round
        case rel => exact ⟨k + 1, by omega, by go_num, hr⟩
        case measure => simp [intOf]; omega
      · rw [hc] at he
        have hr := Lib.hid (T.look_hit hks hl.out hc)
        clear hc hb hks hl
        go_wp2
        go_ret
        exact ⟨ret_int hr.out.symm, rfl⟩
    · have hr := Lib.hid (T.look_end (by rw [list_len]; exact h0) (by rw [list_len, list_len]; omega) hl.out)
      clear hl
      go_wp2
      go_ret
      exact ⟨ret_int hr.out.symm, rfl⟩

def Rt.skB (s : ByteArray) : ByteArray := ⟨(T.skip s.data.toList).toArray⟩
theorem Rt.skB_list (s : ByteArray) : (Rt.skB s).data.toList = T.skip s.data.toList := rfl
theorem Rt.skB_size (s : ByteArray) : (Rt.skB s).size ≤ s.size := by
  have := T.skip_le s.data.toList
  rw [← Rt.skB_list, list_len, list_len] at this
  exact this

set_option maxHeartbeats 800000 in
theorem refSkip5_any (s : ByteArray) (w : World) (hs : s.size ≤ maxLen) :
    Calls Tryz.prog 94 #[.string s] w fun e w' => e = .returned (.string (Rt.skB s)) ∧ w = w' := by
  have hsm : s.size ≤ 9223372036854775807 := hs
  go_enter Tryz.func94, Tryz.ntmps94
  go_wp2_with fail
  go_loop [0] (fun v => ∃ t : ByteArray, v = .string t ∧ t.size ≤ s.size ∧ Hid (Rt.skB s = Rt.skB t)) (fun v => strLen v)
  case atStart => exact ⟨s, rfl, Nat.le_refl _, Lib.hid rfl⟩
  case round =>
    obtain ⟨t, rfl, ht, hr⟩ := hrel
    by_cases h0 : t.size = 0
    · obtain rfl : t = ByteArray.empty := ByteArray.size_eq_zero_iff.1 h0
      go_wp2
      go_ret
      exact ⟨ret_str (by rw [hr.out]; rfl), rfl⟩
    · have h1 : 0 < t.size := by omega
      have hc := drop_cons t 0 h1
      rw [List.drop_zero] at hc
      have hb8 := (t[0]).toNat_lt
      have hsk := T.skip_head t[0] (t.data.toList.drop 1)
      rw [← hc] at hsk
      cases hb : G.space ((t[0]).toNat : Int)
      · have hr2 : Hid (Rt.skB s = t) := Lib.hid (by
          rw [hr.out]
          apply bytes_eq
          rw [Rt.skB_list, hsk, hb]; rfl)
        replace hb := Lib.hid hb
        clear hsk hc
        go_wp2_with fail
        (with_reducible refine (refSpace_any ((t[0]).toNat : Int) _).mono ?_); rintro e w1 ⟨rfl, rfl⟩
        rw [hb.out]
        go_wp2
        go_ret
        exact ⟨ret_str hr2.out.symm, rfl⟩
      · have hr2 : Hid (Rt.skB s = Rt.skB (t.extract 1 t.size)) := Lib.hid (by
          rw [hr.out]
          apply bytes_eq
          rw [Rt.skB_list, Rt.skB_list, drop_list, hsk, hb]; rfl)
        replace hb := Lib.hid hb
        clear hsk hc
        go_wp2_with fail
        (with_reducible refine (refSpace_any ((t[0]).toNat : Int) _).mono ?_); rintro e w1 ⟨rfl, rfl⟩
        rw [hb.out]
        go_wp2
        go_round
        case rel => exact ⟨_, rfl, by simp; omega, hr2⟩
        case measure => simp [strLen]; omega

/-- Is all of it space? -/
def T.blankL (l : List UInt8) : Bool := l.all fun b => G.space (b.toNat : Int)

set_option maxHeartbeats 800000 in
theorem refBlank5_any (s : ByteArray) (w : World) (hs : s.size ≤ maxLen) :
    Calls Tryz.prog 12 #[.string s] w fun e w' => e = .returned (.bool (T.blankL s.data.toList)) ∧ w = w' := by
  have hsm : s.size ≤ 9223372036854775807 := hs
  go_enter Tryz.func12, Tryz.ntmps12
  go_wp2_with fail
  go_loop [3] (fun i => ∃ k : Nat, k ≤ s.size ∧ i = .int .i64 (k : Int) ∧ Hid ((s.data.toList.take k).all (fun b => G.space (b.toNat : Int)) = true)) (fun i => s.size - (intOf i).toNat)
  case atStart => exact ⟨0, Nat.zero_le _, rfl, Lib.hid (by simp)⟩
  case round =>
    obtain ⟨k, hk, rfl, hl⟩ := hrel
    by_cases hlt : k < s.size
    · have hks : k < s.data.toList.length := by rw [list_len]; exact hlt
      have hst := all_take (fun b => G.space (b.toNat : Int)) s.data.toList k hks
      rw [hl.out, Bool.true_and] at hst
      have hgk : s.data.toList[k] = s[k] := rfl
      have hb8 := (s[k]).toNat_lt
      rw [hgk] at hst
      cases hb : G.space ((s[k]).toNat : Int)
      · have hr := Lib.hid (show T.blankL s.data.toList = false from all_not (fun b => G.space (b.toNat : Int)) s.data.toList k hks hb)
        replace hb := Lib.hid hb
        clear hst hl hgk
        go_wp2_with fail
        (with_reducible refine (refSpace_any ((s[k]).toNat : Int) _).mono ?_); rintro e w1 ⟨rfl, rfl⟩
        rw [hb.out]
        go_wp2
        go_ret
        exact ⟨ret_bool hr.out.symm, rfl⟩
      · rw [hb] at hst
        replace hb := Lib.hid hb
        replace hst := Lib.hid hst
        clear hl hgk
        go_wp2_with fail
        (with_reducible refine (refSpace_any ((s[k]).toNat : Int) _).mono ?_); rintro e w1 ⟨rfl, rfl⟩
        rw [hb.out]
        go_wp2
        go_round
        case rel => exact ⟨k + 1, by omega, by go_num, hst⟩
        case measure => simp [intOf]; omega
    · have hfull : s.data.toList.take k = s.data.toList := List.take_of_length_le (by rw [list_len]; omega)
      rw [hfull] at hl
      clear hfull
      go_wp2
      go_ret
      exact ⟨ret_bool (show true = T.blankL s.data.toList from hl.out.symm), rfl⟩
end Go.Proofs.YtcjlhdmekhifaaaGreatDoor
namespace Go.Proofs.YtcjlhdmekhifaaaGreatDoor
open Go.RowKit
namespace Rt
theorem low_at {L acc : List UInt8} {s : ByteArray} {k : Nat} (hk : k < s.size) (h : L = acc ++ (s.data.toList.drop k).map T.lower) (d : UInt8) (hd : T.lower s[k] = d) : L = (acc ++ [d]) ++ (s.data.toList.drop (k + 1)).map T.lower := by
  rw [h, drop_cons s k hk, List.map_cons, hd]; simp
theorem low_end {L acc : List UInt8} {s : ByteArray} {k : Nat} (hk : ¬ k < s.size) (h : L = acc ++ (s.data.toList.drop k).map T.lower) : L = acc := by
  rw [h, List.drop_of_length_le (by rw [list_len]; omega)]; simp
theorem low_small {b : UInt8} (h : 65 ≤ b.toNat ∧ b.toNat ≤ 90) : (T.lower b).toNat = b.toNat + 32 := by
  unfold T.lower; rw [if_pos h]; simp; omega
theorem low_same {b : UInt8} (h : ¬ (65 ≤ b.toNat ∧ b.toNat ≤ 90)) : T.lower b = b := by unfold T.lower; rw [if_neg h]
def loB (s : ByteArray) : ByteArray := ⟨(s.data.toList.map T.lower).toArray⟩
theorem loB_list (s : ByteArray) : (loB s).data.toList = s.data.toList.map T.lower := rfl
end Rt

set_option maxRecDepth 100000 in
set_option maxHeartbeats 1600000 in
theorem refLower_any (s : ByteArray) (w : World) (hs : s.size ≤ 70368744177664) :
    Calls Tryz.prog 93 #[.string s] w fun e w' => e = .returned (.string (Rt.loB s)) ∧ Below w.heap.size w w' := by
  obtain ⟨i0, hi, hz0, hz1, hz2⟩ := info_parts infoByte
  have hlen := Lib.hid (list_len s)
  go_enter Tryz.func93, Tryz.ntmps93
  go_wp2_with fail
  go_loopw [3, 4, 5] (fun v i _ wr => ∃ (k : Nat) (acc : List UInt8), k ≤ s.size ∧ i = .int .i64 k ∧ Hid (s.data.toList.map T.lower = acc ++ (s.data.toList.drop k).map T.lower) ∧ acc.length ≤ k ∧ (acc = [] → v = .slice none 0 0) ∧ Owns w.heap.size v acc wr ∧ Below w.heap.size w wr) (fun _ i _ _ => s.size - (intOf i).toNat)
  case atStart => exact ⟨0, [], Nat.zero_le _, rfl, Lib.hid (by simp), by simp, fun _ => rfl, owns_nil _ _, Below.refl _ _⟩
  case round =>
    obtain ⟨k, acc, hk, rfl, hL, hacc, hnil, ho, bw⟩ := hrel
    have hsz := bw.size
    have hacch := Lib.hid hacc
    have hnilh := Lib.hid hnil
    clear hnil
    by_cases hlt : k < s.size
    · obtain ⟨d, hd⟩ : ∃ d, T.lower s[k] = d := ⟨_, rfl⟩
      have hr := Lib.hid (Rt.low_at hlt hL.out d hd)
      by_cases hq : 65 ≤ (s[k]).toNat ∧ (s[k]).toNat ≤ 90
      · have hn : ((s[k]).toNat : Int) + 32 = (d.toNat : Int) := by rw [← hd, Rt.low_small hq]; omega
        obtain ⟨q1, q2⟩ := hq
        have hdl := d.toNat_lt
        clear hL hd
        go_wp2_with (at_builtin; refine wpList_append_own _ rfl _ _ 78 rfl w.heap.size 5 i0 (.int .u8 0) 1 1 Tryz.underlying78 hi hz0 hz1 hz2 rfl (by decide) _ _ _ rfl (World.ownsRow.alloc ho _) ⟨wr.heap.size, 0, none⟩ 1 1 [.int .u8 (d.toNat : Int)] rfl rfl (cell_one_new _ _ _) (fun u hu => by simp at hu; subst hu; rfl) (by have := hacch.out; unfold maxLen; omega) (by have := hacch.out; omega) (by simp; omega) ?_)
        intro v2 w2 hown2 hg2 hnil2
        have hga : wr.grownBy w2 u3.ownBlock := (World.grownBy_alloc wr _ _).trans hg2
        have b2 := ho.below hga (by omega)
        have ho2 : Owns w.heap.size v2 (acc ++ [d]) w2 := owns_of hown2 (by simp) (by simp [Lib.byteCells])
        have hlen2 : (acc ++ [d]).length ≤ k + 1 := by rw [List.length_append, List.length_singleton]; omega
        clear hown2 hg2 hnil2 hga ho
        go_wp2_with fail
        go_roundw
        case rel => exact ⟨k + 1, acc ++ [d], by omega, by go_num, hr, by omega, fun e => by simp at e, ho2, bw.trans b2⟩
        case measure => simp [intOf]; omega
      · have hdd : d = s[k] := by rw [← hd, Rt.low_same hq]
        subst hdd
        have hq' : (s[k]).toNat < 65 ∨ (65 ≤ (s[k]).toNat ∧ 90 < (s[k]).toNat) := by omega
        clear hL hd hq
        rcases hq' with q1 | ⟨q1, q2⟩
        all_goals
          go_wp2_with (at_builtin; refine wpList_append_own _ rfl _ _ 78 rfl w.heap.size 5 i0 (.int .u8 0) 1 1 Tryz.underlying78 hi hz0 hz1 hz2 rfl (by decide) _ _ _ rfl (World.ownsRow.alloc ho _) ⟨wr.heap.size, 0, none⟩ 1 1 [.int .u8 ((s[k]).toNat : Int)] rfl rfl (cell_one_new _ _ _) (fun u hu => by simp at hu; subst hu; rfl) (by have := hacch.out; unfold maxLen; omega) (by have := hacch.out; omega) (by simp; omega) ?_)
          intro v2 w2 hown2 hg2 hnil2
          have hga : wr.grownBy w2 u3.ownBlock := (World.grownBy_alloc wr _ _).trans hg2
          have b2 := ho.below hga (by omega)
          have ho2 : Owns w.heap.size v2 (acc ++ [s[k]]) w2 := owns_of hown2 (by simp) (by simp [Lib.byteCells])
          have hlen2 : (acc ++ [s[k]]).length ≤ k + 1 := by rw [List.length_append, List.length_singleton]; omega
          clear hown2 hg2 hnil2 hga ho
          go_wp2_with fail
          go_roundw
          case rel => exact ⟨k + 1, acc ++ [s[k]], by omega, by go_num, hr, by omega, fun e => by simp at e, ho2, bw.trans b2⟩
          case measure => simp [intOf]; omega
    · have hcv := owns_string ho hnilh.out
      have hr := Lib.hid (Rt.low_end hlt hL.out)
      clear hL
      go_wp2
      go_ret
      exact ⟨ret_str (by unfold Rt.loB; rw [hr.out]), bw⟩
end Go.Proofs.YtcjlhdmekhifaaaGreatDoor
namespace Go.Proofs.YtcjlhdmekhifaaaGreatDoor
open Go.RowKit

/-- The seven cells of a part. -/
def partCells (k : Int) (n : ByteArray) (v : Value) (al : Bool) (d r : ByteArray) (e : Int) : Array Value := #[.int .i64 k, .string n, v, .bool al, .string d, .string r, .int .i64 e]
def partAgg (k : Int) (n : ByteArray) (v : Value) (al : Bool) (d r : ByteArray) (e : Int) : Value := .agg (partCells k n v al d r e)
/-- What is handed on. -/
def partVal (g : T.Got) (v : Value) : Value := match g with
  | .ok x => partAgg (x.1.kind : Int) ⟨x.1.name.toArray⟩ v x.1.alone ⟨x.1.data.toArray⟩ ⟨x.2.toArray⟩ 0
  | .error e => partAgg 0 ⟨#[]⟩ (.slice none 0 0) false ⟨#[]⟩ ⟨#[]⟩ (e : Int)
theorem partVal_err {g : T.Got} {e : Nat} (v : Value) (h : g = .error e) : partVal g v = partAgg 0 ⟨#[]⟩ (.slice none 0 0) false ⟨#[]⟩ ⟨#[]⟩ (e : Int) := by rw [h]; rfl

theorem partVal_ok {g : T.Got} {t : T.Tok} {r : List UInt8} {k : Int} {n d rb : ByteArray} {al : Bool} (v : Value) (h : g = .ok (t, r)) (hk : k = (t.kind : Int)) (hn : n.data.toList = t.name) (ha : al = t.alone) (hd : d.data.toList = t.data) (hr : rb.data.toList = r) :
    partAgg k n v al d rb 0 = partVal g v := by
  have e1 : (⟨t.name.toArray⟩ : ByteArray) = n := bytes_eq hn.symm
  have e2 : (⟨t.data.toArray⟩ : ByteArray) = d := bytes_eq hd.symm
  have e3 : (⟨r.toArray⟩ : ByteArray) = rb := bytes_eq hr.symm
  rw [h]
  unfold partVal
  simp only
  rw [e1, e2, e3, hk, ha]

theorem part_end {F : Func} {R : Ending → World → Prop} {tmps : Array Value} {w : World} {rb : Nat} {k e : Int} {n d r : ByteArray} {al : Bool} {ao : Option Addr} {m cap i : Nat} (hres : F.results = #[ResultVar.cell i 53])
    (h2 : tmps[i]? = some (.pointer (some ⟨rb, 0, none⟩))) (hc : Cells w rb 53 (partCells k n (.slice ao m cap) al d r e))
    (hR : R (.returned (partAgg k n (.slice ao m cap) al d r e)) w) : bodyPost Tryz.prog F R .ret { tmps := tmps, defers := [] } w := by
  refine ⟨rfl, _, ?_, hR⟩
  have l2 : i < tmps.size := (Array.getElem?_eq_some_iff.1 h2).1
  have g2 : tmps[i] = .pointer (some ⟨rb, 0, none⟩) := (Array.getElem?_eq_some_iff.1 h2).2
  have c0 := hc.cell (i := 0) rfl
  have c1 := hc.cell (i := 1) rfl
  have c2 := hc.cell (i := 2) rfl
  have c3 := hc.cell (i := 3) rfl
  have c4 := hc.cell (i := 4) rfl
  have c5 := hc.cell (i := 5) rfl
  have c6 := hc.cell (i := 6) rfl
  unfold partAgg
  simp [results, hres, go_sem, l2, g2, c0, c1, c2, c3, c4, c5, c6]
  rfl

/-- Seven cells set anew. -/
theorem part_set {w : World} {b : Nat} {k k' e e' : Int} {n n' d d' r r' : ByteArray} {v v' : Value} {al al' : Bool} (h : Cells w b 53 (partCells k n v al d r e)) :
    Cells (((((((w.setCell ⟨b, 0, none⟩ (.int .i64 k')).setCell ⟨b, 1, none⟩ (.string n')).setCell ⟨b, 2, none⟩ v').setCell ⟨b, 3, none⟩ (.bool al')).setCell ⟨b, 4, none⟩ (.string d')).setCell ⟨b, 5, none⟩ (.string r')).setCell ⟨b, 6, none⟩ (.int .i64 e')) b 53 (partCells k' n' v' al' d' r' e') := by
  have := ((((((h.set 0 (.int .i64 k')).set 1 (.string n')).set 2 v').set 3 (.bool al')).set 4 (.string d')).set 5 (.string r')).set 6 (.int .i64 e')
  simpa [partCells] using this
theorem part_below {B : Nat} {w0 w : World} {b : Nat} (h : Below B w0 w) (hb : B ≤ b) (x0 x1 x2 x3 x4 x5 x6 : Value) :
    Below B w0 (((((((w.setCell ⟨b, 0, none⟩ x0).setCell ⟨b, 1, none⟩ x1).setCell ⟨b, 2, none⟩ x2).setCell ⟨b, 3, none⟩ x3).setCell ⟨b, 4, none⟩ x4).setCell ⟨b, 5, none⟩ x5).setCell ⟨b, 6, none⟩ x6) :=
  ((((((h.setCell (p := ⟨b, 0, none⟩) hb x0).setCell (p := ⟨b, 1, none⟩) hb x1).setCell (p := ⟨b, 2, none⟩) hb x2).setCell (p := ⟨b, 3, none⟩) hb x3).setCell (p := ⟨b, 4, none⟩) hb x4).setCell (p := ⟨b, 5, none⟩) hb x5).setCell (p := ⟨b, 6, none⟩) hb x6

theorem part_open {w : World} {b : Nat} {k e : Int} {n d r : ByteArray} {v : Value} {al : Bool} (h : Cells w b 53 (partCells k n v al d r e)) :
    w.cell? ⟨b, 0, none⟩ = some (.int .i64 k) ∧ w.cell? ⟨b, 1, none⟩ = some (.string n) ∧ w.cell? ⟨b, 2, none⟩ = some v ∧ w.cell? ⟨b, 3, none⟩ = some (.bool al) ∧ w.cell? ⟨b, 4, none⟩ = some (.string d) ∧ w.cell? ⟨b, 5, none⟩ = some (.string r) ∧ w.cell? ⟨b, 6, none⟩ = some (.int .i64 e) :=
  ⟨h.cell rfl, h.cell rfl, h.cell rfl, h.cell rfl, h.cell rfl, h.cell rfl, h.cell rfl⟩
theorem part_free {w : World} {b : Nat} {cs : Array Value} (h : Cells w b 53 cs) :
    w.frozen? ⟨b, 0, none⟩ = false ∧ w.frozen? ⟨b, 1, none⟩ = false ∧ w.frozen? ⟨b, 2, none⟩ = false ∧ w.frozen? ⟨b, 3, none⟩ = false ∧ w.frozen? ⟨b, 4, none⟩ = false ∧ w.frozen? ⟨b, 5, none⟩ = false ∧ w.frozen? ⟨b, 6, none⟩ = false :=
  ⟨h.free 0, h.free 1, h.free 2, h.free 3, h.free 4, h.free 5, h.free 6⟩

set_option maxRecDepth 100000 in
set_option maxHeartbeats 800000 in
theorem refFailed_any (e : Int) (w : World) :
    Calls Tryz.prog 51 #[.int .i64 e] w fun x w' => x = .returned (partAgg 0 ⟨#[]⟩ (.slice none 0 0) false ⟨#[]⟩ ⟨#[]⟩ e) ∧ Below w.heap.size w w' := by
  go_enter Tryz.func51, Tryz.ntmps51
  go_wp2_with fail
  exact part_end (rb := w.heap.size) rfl rfl (Cells.new w _ (partCells 0 ⟨#[]⟩ (.slice none 0 0) false ⟨#[]⟩ ⟨#[]⟩ e)) ⟨rfl, (Below.refl _ _).alloc (Nat.le_refl _) _⟩

theorem cut_bytes {p : List UInt8} {s : ByteArray} {a r : List UInt8} (h : T.cutAt p s.data.toList = some (a, r)) :
    (s.extract 0 a.length).data.toList = a ∧ (s.extract (a.length + p.length) s.size).data.toList = r ∧ a.length + p.length ≤ s.size := by
  have e := T.cutAt_eq h
  have hl := congrArg List.length e
  rw [list_len] at hl
  simp only [List.length_append] at hl
  refine ⟨by rw [take_list, e, List.append_assoc, List.take_left], ?_, by omega⟩
  rw [drop_list, e, show a.length + p.length = (a ++ p).length by simp, List.drop_left]

set_option maxRecDepth 100000 in
set_option maxHeartbeats 1600000 in
theorem refCdata_any (s : ByteArray) (w : World) (hs : s.size ≤ 1000000) :
    Calls Tryz.prog 50 #[.string s] w fun x w' => x = .returned (partVal (T.cdata s.data.toList) (.slice none 0 0)) ∧ Below w.heap.size w w' := by
  go_enter Tryz.func50, Tryz.ntmps50
  have b0 := (Below.refl w.heap.size w).alloc (Nat.le_refl _) (.cells (partCells 0 ⟨#[]⟩ (.slice none 0 0) false ⟨#[]⟩ ⟨#[]⟩ 0) 53)
  have k0 := Cells.new w 53 (partCells 0 ⟨#[]⟩ (.slice none 0 0) false ⟨#[]⟩ ⟨#[]⟩ 0)
  go_wp2_with fail
  (with_reducible refine (refFind_any s ⟨#[93, 93, 62]⟩ _ hs (by decide) (by decide)).mono ?_); rintro e w1 ⟨rfl, rfl⟩
  cases hc : T.cutAt [93, 93, 62] s.data.toList with
  | none =>
    have hg : T.cdata s.data.toList = .error 70 := by unfold T.cdata; rw [hc]
    rw [T.findI_none hc]
    replace hg := Lib.hid hg
    clear hc
    go_wp2_with fail
    (with_reducible refine (refFailed_any 70 _).mono ?_); rintro e w2 ⟨rfl, b2⟩
    have k2 := k0.on b2
    have c2 := b0.trans (b2.mono b0.size)
    obtain ⟨q0, q1, q2, q3, q4, q5, q6⟩ := part_open k2
    obtain ⟨f0, f1, f2, f3, f4, f5, f6⟩ := part_free k2
    replace k2 := Lib.hid k2
    unfold partAgg partCells
    go_wp2_with fail
    exact part_end (rb := w.heap.size) rfl rfl (part_set k2.out) ⟨by rw [partVal_err _ hg.out]; rfl, part_below c2 (Nat.le_refl _) _ _ _ _ _ _ _⟩
  | some x =>
    obtain ⟨a, r⟩ := x
    have hg : T.cdata s.data.toList = .ok (⟨2, [], [], true, a⟩, r) := by unfold T.cdata; rw [hc]
    obtain ⟨ea, er, hle⟩ := cut_bytes hc
    rw [T.findI_some hc]
    clear hc
    generalize a.length = j at *
    replace hg := Lib.hid hg
    replace ea := Lib.hid ea
    replace er := Lib.hid er
    simp only [List.length_cons, List.length_nil, Nat.reduceAdd] at hle
    obtain ⟨q0, q1, q2, q3, q4, q5, q6⟩ := part_open k0
    obtain ⟨f0, f1, f2, f3, f4, f5, f6⟩ := part_free k0
    replace k0 := Lib.hid k0
    have hj0 : (0 : Int) ≤ (j : Int) := by omega
    have hj1 : (j : Int) ≤ (s.size : Int) := by omega
    have hj2 : (j : Int) + 3 ≤ (s.size : Int) := by omega
    go_wp2_with fail
    go_region
    go_wp2_with fail
    exact part_end (rb := w.heap.size) rfl rfl (Cells.new w _ (partCells 2 ⟨#[]⟩ (.slice none 0 0) true (s.extract 0 j) (s.extract (j + 3) s.size) 0)) ⟨congrArg Ending.returned (partVal_ok _ hg.out rfl rfl rfl ea.out er.out), ((Below.refl _ _).alloc (Nat.le_refl _) _).drew⟩
end Go.Proofs.YtcjlhdmekhifaaaGreatDoor
namespace Go.Proofs.YtcjlhdmekhifaaaGreatDoor
open Go.RowKit

namespace T
theorem cut_one {c : UInt8} : ∀ l : List UInt8, (cutAt [c] l = none ∧ l.takeWhile (· ≠ c) = l ∧ l.dropWhile (· ≠ c) = [] ∧ ¬ c ∈ l) ∨ (∃ r, cutAt [c] l = some (l.takeWhile (· ≠ c), r) ∧ l.dropWhile (· ≠ c) = c :: r ∧ c ∈ l)
  | [] => .inl ⟨rfl, rfl, rfl, by simp⟩
  | b :: t => by
    by_cases h : b = c
    · subst h
      right
      refine ⟨t, ?_, by simp, by simp⟩
      unfold cutAt
      rw [if_pos (by simp [begins])]
      simp
    · have hb : begins [c] (b :: t) = false := by simp [begins, List.isPrefixOf, Ne.symm h]
      have hd : decide (b ≠ c) = true := by simpa using h
      unfold cutAt
      rw [if_neg (by rw [hb]; decide), List.takeWhile_cons, List.dropWhile_cons, if_pos hd, if_pos hd]
      rcases cut_one (c := c) t with ⟨h1, h2, h3, h4⟩ | ⟨r, h1, h2, h3⟩
      · left
        rw [h1]
        exact ⟨rfl, by rw [h2], h3, by simp [Ne.symm h, h4]⟩
      · right
        rw [h1]
        exact ⟨r, rfl, h2, by simp [h3]⟩
theorem findI_neg {p l : List UInt8} (h : cutAt p l = none) : ¬ (0 : Int) ≤ findI p l := by rw [findI_none h]; decide
theorem findI_pos {p l : List UInt8} {x : List UInt8 × List UInt8} (h : cutAt p l = some x) : (0 : Int) ≤ findI p l := by unfold findI; rw [h]; simp
end T
theorem name_noneR {s : ByteArray} (h : T.nameAt s.data.toList = none) : G.nmA s = ByteArray.empty ∧ G.nmB s = ByteArray.empty ∧ G.nmE s = 51 := by
  unfold T.nameAt at h
  split at h
  · rename_i h0; exact G.nm_none h0
  · cases h
theorem name_some {s : ByteArray} {n r : List UInt8} (h : T.nameAt s.data.toList = some (n, r)) : ∃ a b : ByteArray, G.nmA s = a ∧ G.nmB s = b ∧ G.nmE s = 0 ∧ a.data.toList = n ∧ b.data.toList = r ∧ b.size < s.size ∧ a.size ≤ s.size := by
  have hlt := T.nameAt_le h
  unfold T.nameAt at h
  split at h
  · cases h
  · rename_i h0
    obtain ⟨e1, e2, e3⟩ := G.nm_some (s := s) rfl h0
    cases h
    refine ⟨_, _, e1, e2, e3, by rw [take_list], by rw [drop_list], ?_, by simp; exact Nat.min_le_right _ _⟩
    have := hlt
    rw [← drop_list, list_len, list_len] at this
    exact this

set_option maxRecDepth 100000 in
set_option maxHeartbeats 1600000 in
theorem refComment_any (s : ByteArray) (w : World) (hs : s.size ≤ 1000000) :
    Calls Tryz.prog 49 #[.string s] w fun x w' => x = .returned (partVal (T.comment s.data.toList) (.slice none 0 0)) ∧ Below w.heap.size w w' := by
  go_enter Tryz.func49, Tryz.ntmps49
  have b0 := (Below.refl w.heap.size w).alloc (Nat.le_refl _) (.cells (partCells 0 ⟨#[]⟩ (.slice none 0 0) false ⟨#[]⟩ ⟨#[]⟩ 0) 53)
  have k0 := Cells.new w 53 (partCells 0 ⟨#[]⟩ (.slice none 0 0) false ⟨#[]⟩ ⟨#[]⟩ 0)
  go_wp2_with fail
  (with_reducible refine (refFind_any s ⟨#[45, 45]⟩ _ hs (by decide) (by decide)).mono ?_); rintro e w1 ⟨rfl, rfl⟩
  cases hc : T.cutAt [45, 45] s.data.toList with
  | none =>
    have hg : T.comment s.data.toList = .error 70 := by unfold T.comment; rw [hc]
    rw [T.findI_none hc]
    replace hg := Lib.hid hg
    clear hc
    go_wp2_with fail
    (with_reducible refine (refFailed_any 70 _).mono ?_); rintro e wF ⟨rfl, bF⟩
    have kF := k0.on bF
    have cF := b0.trans (bF.mono b0.size)
    obtain ⟨q0, q1, q2, q3, q4, q5, q6⟩ := part_open kF
    obtain ⟨f0, f1, f2, f3, f4, f5, f6⟩ := part_free kF
    replace kF := Lib.hid kF
    unfold partAgg partCells
    go_wp2_with fail
    exact part_end (rb := w.heap.size) rfl rfl (part_set kF.out) ⟨by rw [partVal_err _ hg.out]; rfl, part_below cF (Nat.le_refl _) _ _ _ _ _ _ _⟩
  | some x =>
    obtain ⟨a, r⟩ := x
    obtain ⟨ea, er, hle⟩ := cut_bytes hc
    have hdr : (s.extract a.length s.size).data.toList = [45, 45] ++ r := by
      rw [drop_list, T.cutAt_eq hc, List.append_assoc, List.drop_left]
    rw [T.findI_some hc]
    have hg1 : ∀ r2, r = 62 :: r2 → Hid (T.comment s.data.toList = .ok (⟨3, [], [], false, a⟩, r2)) := fun r2 h => Lib.hid (by unfold T.comment; rw [hc, h]; first | done | rfl)
    have hg2 : (∀ r2, r ≠ 62 :: r2) → Hid (T.comment s.data.toList = .error 70) := fun h => Lib.hid (by
      unfold T.comment; rw [hc]
      split
      · rename_i e; cases e; exact absurd rfl (h _)
      · rfl)
    have hbeg : T.begins [45, 45, 62] ([45, 45] ++ r) = true ↔ ∃ r2, r = 62 :: r2 := by
      rw [T.begins_iff]
      constructor
      · rintro ⟨t, ht⟩; exact ⟨t, by simpa using ht.symm⟩
      · rintro ⟨t, rfl⟩; exact ⟨t, rfl⟩
    have hsz : a.length + 2 ≤ s.size := hle
    have hd3 : ∀ r2, r = 62 :: r2 → Hid ((s.extract (a.length + 3) s.size).data.toList = r2) ∧ a.length + 3 ≤ s.size := fun r2 h => by
      have e3 := congrArg (List.drop 3) hdr
      have l3 := congrArg List.length hdr
      rw [h] at e3 l3
      rw [drop_list, List.drop_drop] at e3
      rw [list_len, ByteArray.size_extract] at l3
      simp only [List.length_append, List.length_cons, List.length_nil] at l3
      exact ⟨Lib.hid (by rw [drop_list, e3]; rfl), by omega⟩
    clear hc er
    generalize a.length = j at *
    replace ea := Lib.hid ea
    have hj0 : (0 : Int) ≤ (j : Int) := by omega
    have hj1 : (j : Int) ≤ (s.size : Int) := by omega
    have hu : (s.extract j s.size).size ≤ maxLen := by unfold maxLen; simp; omega
    replace hdr := Lib.hid hdr
    go_wp2_with fail
    (with_reducible refine (refBegins_any (s.extract j s.size) ⟨#[45, 45, 62]⟩ _ hu (by decide)).mono ?_); rintro e w2 ⟨rfl, rfl⟩
    rw [hdr.out]
    simp only []
    cases hb : T.begins [45, 45, 62] ([45, 45] ++ r) with
    | false =>
      have hg := hg2 (fun r2 h => by rw [hbeg.2 ⟨r2, h⟩] at hb; cases hb)
      clear hg1 hg2 hbeg hd3 hdr hb
      go_wp2_with fail
      (with_reducible refine (refFailed_any 70 _).mono ?_); rintro e wF ⟨rfl, bF⟩
      have kF := k0.on bF
      have cF := b0.trans (bF.mono b0.size)
      obtain ⟨q0, q1, q2, q3, q4, q5, q6⟩ := part_open kF
      obtain ⟨f0, f1, f2, f3, f4, f5, f6⟩ := part_free kF
      replace kF := Lib.hid kF
      unfold partAgg partCells
      go_wp2_with fail
      exact part_end (rb := w.heap.size) rfl rfl (part_set kF.out) ⟨by rw [partVal_err _ hg.out]; rfl, part_below cF (Nat.le_refl _) _ _ _ _ _ _ _⟩
    | true =>
      obtain ⟨r2, h2⟩ := hbeg.1 hb
      have hg := hg1 r2 h2
      obtain ⟨er, hj2⟩ := hd3 r2 h2
      clear hg1 hg2 hbeg hd3 hdr hb h2
      have hj3 : (j : Int) + 3 ≤ (s.size : Int) := by omega
      obtain ⟨q0, q1, q2, q3, q4, q5, q6⟩ := part_open k0
      obtain ⟨f0, f1, f2, f3, f4, f5, f6⟩ := part_free k0
      replace k0 := Lib.hid k0
      go_wp2_with fail
      go_region
      go_wp2_with fail
      exact part_end (rb := w.heap.size) rfl rfl (Cells.new w _ (partCells 3 ⟨#[]⟩ (.slice none 0 0) false (s.extract 0 j) (s.extract (j + 3) s.size) 0)) ⟨congrArg Ending.returned (partVal_ok _ hg.out rfl rfl rfl ea.out er.out), ((Below.refl _ _).alloc (Nat.le_refl _) _).drew⟩

set_option maxRecDepth 100000 in
set_option maxHeartbeats 1600000 in
theorem refShut_any (s : ByteArray) (w : World) (hs : s.size ≤ 1000000) :
    Calls Tryz.prog 53 #[.string s] w fun x w' => x = .returned (partVal (T.shut s.data.toList) (.slice none 0 0)) ∧ Below w.heap.size w w' := by
  go_enter Tryz.func53, Tryz.ntmps53
  have b0 := (Below.refl w.heap.size w).alloc (Nat.le_refl _) (.cells (partCells 0 ⟨#[]⟩ (.slice none 0 0) false ⟨#[]⟩ ⟨#[]⟩ 0) 53)
  have k0 := Cells.new w 53 (partCells 0 ⟨#[]⟩ (.slice none 0 0) false ⟨#[]⟩ ⟨#[]⟩ 0)
  go_wp2_with fail
  (with_reducible refine (refName_any s _ (by unfold maxLen; omega)).mono ?_); rintro e w1 ⟨rfl, b1⟩
  have k1 := k0.on b1
  have c1 := b0.trans (b1.mono b0.size)
  clear k0 b0 b1
  cases hn : T.nameAt s.data.toList with
  | none =>
    have hg := Lib.hid (show T.shut s.data.toList = .error 70 by unfold T.shut; rw [hn])
    obtain ⟨e1, e2, e3⟩ := name_noneR hn
    rw [e1, e2, e3]
    clear e1 e2 e3 hn
    go_wp2_with fail
    (with_reducible refine (refFailed_any 70 _).mono ?_); rintro e wF ⟨rfl, bF⟩
    have kF := k1.on bF
    have cF := c1.trans (bF.mono c1.size)
    obtain ⟨q0, q1, q2, q3, q4, q5, q6⟩ := part_open kF
    obtain ⟨f0, f1, f2, f3, f4, f5, f6⟩ := part_free kF
    replace kF := Lib.hid kF
    unfold partAgg partCells
    go_wp2_with fail
    exact part_end (rb := w.heap.size) rfl rfl (part_set kF.out) ⟨by rw [partVal_err _ hg.out]; rfl, part_below cF (Nat.le_refl _) _ _ _ _ _ _ _⟩
  | some x =>
    obtain ⟨n, r⟩ := x
    obtain ⟨a, b, e1, e2, e3, ea, eb, hlt, hle⟩ := name_some hn
    rw [e1, e2, e3]
    clear e1 e2 e3
    have hsk := Rt.skB_size b
    have hsl := Rt.skB_list b
    rw [eb] at hsl
    have hS : T.shut s.data.toList = match T.skip r with | 62 :: r => .ok (⟨1, n, [], false, []⟩, r) | _ => .error 70 := by unfold T.shut; rw [hn]; first | done | rfl
    generalize hu : Rt.skB b = u at *
    replace hu := Lib.hid hu
    replace ea := Lib.hid ea
    replace hsl := Lib.hid hsl
    replace hS := Lib.hid hS
    clear hn eb
    go_wp2_with fail
    (with_reducible refine (refSkip5_any b _ (by unfold maxLen; omega)).mono ?_); rintro e w2 ⟨rfl, rfl⟩
    rw [hu.out]
    go_wp2_with fail
    (with_reducible refine (refBegins_any u ⟨#[62]⟩ _ (by unfold maxLen; omega) (by decide)).mono ?_); rintro e w2 ⟨rfl, rfl⟩
    rw [hsl.out]
    simp only []
    cases hb : T.begins [62] (T.skip r) with
    | false =>
      have hg := Lib.hid (hS.out.trans (show _ = Except.error 70 by
        split
        · rename_i e; rw [e] at hb; cases hb
        · rfl))
      clear hS hb hsl
      go_wp2_with fail
      (with_reducible refine (refFailed_any 70 _).mono ?_); rintro e wF ⟨rfl, bF⟩
      have kF := k1.on bF
      have cF := c1.trans (bF.mono c1.size)
      obtain ⟨q0, q1, q2, q3, q4, q5, q6⟩ := part_open kF
      obtain ⟨f0, f1, f2, f3, f4, f5, f6⟩ := part_free kF
      replace kF := Lib.hid kF
      unfold partAgg partCells
      go_wp2_with fail
      exact part_end (rb := w.heap.size) rfl rfl (part_set kF.out) ⟨by rw [partVal_err _ hg.out]; rfl, part_below cF (Nat.le_refl _) _ _ _ _ _ _ _⟩
    | true =>
      obtain ⟨t, ht⟩ := T.begins_iff.1 hb
      have hg := hS.out
      rw [← ht] at hg
      replace hg := Lib.hid hg
      have hu1 : 1 ≤ u.size := by
        have := congrArg List.length hsl.out
        rw [list_len, ← ht] at this
        simp at this; omega
      have er := Lib.hid (show (u.extract 1 u.size).data.toList = t by rw [drop_list, hsl.out, ← ht]; rfl)
      clear hS hb hsl ht
      obtain ⟨q0, q1, q2, q3, q4, q5, q6⟩ := part_open k1
      obtain ⟨f0, f1, f2, f3, f4, f5, f6⟩ := part_free k1
      replace k1 := Lib.hid k1
      go_wp2_with fail
      exact part_end (rb := w.heap.size) rfl rfl (part_set k1.out) ⟨congrArg Ending.returned (partVal_ok _ hg.out rfl ea.out rfl rfl er.out), part_below c1 (Nat.le_refl _) _ _ _ _ _ _ _⟩

end Go.Proofs.YtcjlhdmekhifaaaGreatDoor
