/-
  What the document's own smallest words of tokens come to: contracts of begins, find, Skip, Blank.
  What the document's own Lower comes to, in the tokens' words.
-/
import Derived.Test.YtegaidfmkfnbnaaGreatDoorP02
import Derived.Test.YtegaidfmkfnbnaaGreatDoorP06
import Derived.BigQuiet
namespace Go.Proofs.YtegaidfmkfnbnaaGreatDoor
open Go.RowKit

theorem Rt.str_ne {s : ByteArray} {l : List UInt8} (h : ¬ s.data.toList = l) : (s.toList == l) = false := by
  rw [ByteArray.toList_eq]; exact beq_false_of_ne h
theorem Rt.str_is {s : ByteArray} {l : List UInt8} (h : s.data.toList = l) : (s.toList == l) = true := by
  rw [ByteArray.toList_eq, h]; exact beq_self_eq_true l
theorem Rt.same {a b : ByteArray} : (a.toList == b.toList) = decide (a.data.toList = b.data.toList) := by
  rw [ByteArray.toList_eq, ByteArray.toList_eq]
  by_cases h : a.data.toList = b.data.toList
  · rw [h, beq_self_eq_true]; simp
  · rw [beq_false_of_ne h]; exact (decide_eq_false h).symm

namespace T
theorem begins_take (p l : List UInt8) : begins p l = decide (p.length ≤ l.length ∧ l.take p.length = p) := by
  rw [Bool.eq_iff_iff, decide_eq_true_eq, begins_iff]
  constructor
  · rintro ⟨t, rfl⟩; simp
  · rintro ⟨_, h⟩
    exact ⟨l.drop p.length, by conv => lhs; lhs; rw [← h]
                               exact List.take_append_drop _ _⟩
/-- Where a text first stands in another one; -1: nowhere. -/
def findI (p l : List UInt8) : Int := match cutAt p l with | some x => (x.1.length : Int) | none => -1
theorem findI_some {p l a r : List UInt8} (h : cutAt p l = some (a, r)) : findI p l = (a.length : Int) := by unfold findI; rw [h]
theorem findI_none {p l : List UInt8} (h : cutAt p l = none) : findI p l = -1 := by unfold findI; rw [h]
/-- How far it has been looked for. -/
def Look (p l : List UInt8) (k : Nat) : Prop := cutAt p l = (cutAt p (l.drop k)).map fun x => (l.take k ++ x.1, x.2)
theorem look_zero (p l : List UInt8) : Look p l 0 := by
  unfold Look
  rw [List.drop_zero, List.take_zero]
  cases cutAt p l <;> rfl
theorem look_step {p l : List UInt8} {k : Nat} (hk : k < l.length) (h : Look p l k) (hb : begins p (l.drop k) = false) : Look p l (k + 1) := by
  unfold Look at *
  rw [h, List.drop_eq_getElem_cons hk]
  rw [List.drop_eq_getElem_cons hk] at hb
  have e : cutAt p (l[k] :: l.drop (k + 1)) = (cutAt p (l.drop (k + 1))).map fun x => (l[k] :: x.1, x.2) := by
    conv => lhs; unfold cutAt
    rw [if_neg (by rw [hb]; decide)]
  have e2 : l.take (k + 1) = l.take k ++ [l[k]] := List.take_succ_eq_append_getElem hk
  rw [e, e2]
  cases cutAt p (l.drop (k + 1)) with
  | none => rfl
  | some x => simp only [Option.map_some, List.append_assoc, List.singleton_append]
theorem look_hit {p l : List UInt8} {k : Nat} (hk : k < l.length) (h : Look p l k) (hb : begins p (l.drop k) = true) : findI p l = (k : Int) := by
  unfold Look at h
  rw [List.drop_eq_getElem_cons hk] at h hb
  have e : cutAt p (l[k] :: l.drop (k + 1)) = some ([], (l[k] :: l.drop (k + 1)).drop p.length) := by
    conv => lhs; unfold cutAt
    rw [if_pos hb]
  rw [e] at h
  rw [findI_some h]
  simp; omega
theorem cut_short {p : List UInt8} : ∀ {l : List UInt8}, l.length < p.length → cutAt p l = none
  | [], _ => rfl
  | b :: t, h => by
    unfold cutAt
    have hb : begins p (b :: t) = false := by
      rw [begins_take]; exact decide_eq_false (fun c => by omega)
    rw [if_neg (by rw [hb]; decide), cut_short (l := t) (by simp at h; omega)]
    rfl
theorem look_end {p l : List UInt8} {k : Nat} (h0 : 0 < p.length) (hk : l.length < k + p.length) (h : Look p l k) : findI p l = -1 := by
  unfold Look at h
  rw [cut_short (l := l.drop k) (by rw [List.length_drop]; omega)] at h
  exact findI_none h
end T

set_option maxHeartbeats 800000 in
theorem refBegins_any (s t : ByteArray) (w : World) (hs : s.size ≤ maxLen) (ht : t.size ≤ maxLen) :
    Calls Tryz.prog 68 #[.string s, .string t] w fun e w' => e = .returned (.bool (T.begins t.data.toList s.data.toList)) ∧ w = w' := by
  have hsm : s.size ≤ 9223372036854775807 := hs
  have htm : t.size ≤ 9223372036854775807 := ht
  have hb := T.begins_take t.data.toList s.data.toList
  rw [list_len, list_len] at hb
  go_enter Tryz.func68, Tryz.ntmps68
  by_cases h : t.size ≤ s.size
  · have hr := Lib.hid (show ((s.extract 0 t.size).toList == t.toList) = T.begins t.data.toList s.data.toList by
      rw [Rt.same, take_list, hb]; simp [h])
    clear hb
    go_wp2
    go_ret
    exact ⟨ret_bool hr.out, rfl⟩
  · have hr := Lib.hid (show T.begins t.data.toList s.data.toList = false by rw [hb]; simp [h])
    clear hb
    go_wp2
    go_ret
    exact ⟨ret_bool hr.out.symm, rfl⟩

set_option maxHeartbeats 1600000 in
theorem refFind_any (s t : ByteArray) (w : World) (hs : s.size ≤ 1000000) (ht : t.size ≤ 1000000) (h0 : 0 < t.size) :
    Calls Tryz.prog 98 #[.string s, .string t] w fun e w' => e = .returned (.int .i64 (T.findI t.data.toList s.data.toList)) ∧ w = w' := by
  go_enter Tryz.func98, Tryz.ntmps98
  go_wp2_with fail
  go_loop [5] (fun i => ∃ k : Nat, k ≤ s.size ∧ i = .int .i64 (k : Int) ∧ Hid (T.Look t.data.toList s.data.toList k)) (fun i => s.size - (intOf i).toNat)
  case atStart => exact ⟨0, Nat.zero_le _, rfl, Lib.hid (T.look_zero _ _)⟩
  case round =>
    obtain ⟨k, hk, rfl, hl⟩ := hrel
    by_cases hlt : k + t.size ≤ s.size
    · have hb := T.begins_take t.data.toList (s.data.toList.drop k)
      have hks : k < s.data.toList.length := by rw [list_len]; omega
      have he : ((s.extract k (k + t.size)).toList == t.toList) = T.begins t.data.toList (s.data.toList.drop k) := by
        rw [Rt.same, hb, extract_list, List.length_drop, list_len, list_len, List.take_drop]
        have h1 : t.size ≤ s.size - k := by omega
        simp [h1]
      cases hc : T.begins t.data.toList (s.data.toList.drop k)
      · rw [hc] at he
        have hr := Lib.hid (T.look_step hks hl.out hc)
        clear hc hb hks hl
        go_wp2
        go_round
        case rel => exact ⟨k + 1, by omega, by go_num, hr⟩
        case measure => simp [intOf]; omega
      · rw [hc] at he
        have hr := Lib.hid (T.look_hit hks hl.out hc)
        clear hc hb hks hl
        go_wp2
        go_ret
        exact ⟨ret_int hr.out.symm, rfl⟩
    · have hr := Lib.hid (T.look_end (by rw [list_len]; exact h0) (by rw [list_len, list_len]; omega) hl.out)
      clear hl
      go_wp2
      go_ret
      exact ⟨ret_int hr.out.symm, rfl⟩

def Rt.skB (s : ByteArray) : ByteArray := ⟨(T.skip s.data.toList).toArray⟩
theorem Rt.skB_list (s : ByteArray) : (Rt.skB s).data.toList = T.skip s.data.toList := rfl
theorem Rt.skB_size (s : ByteArray) : (Rt.skB s).size ≤ s.size := by
  have := T.skip_le s.data.toList
  rw [← Rt.skB_list, list_len, list_len] at this
  exact this

set_option maxHeartbeats 800000 in
theorem refSkip5_any (s : ByteArray) (w : World) (hs : s.size ≤ maxLen) :
    Calls Tryz.prog 64 #[.string s] w fun e w' => e = .returned (.string (Rt.skB s)) ∧ w = w' := by
  have hsm : s.size ≤ 9223372036854775807 := hs
  go_enter Tryz.func64, Tryz.ntmps64
  go_wp2_with fail
  go_loop [0] (fun v => ∃ t : ByteArray, v = .string t ∧ t.size ≤ s.size ∧ Hid (Rt.skB s = Rt.skB t)) (fun v => strLen v)
  case atStart => exact ⟨s, rfl, Nat.le_refl _, Lib.hid rfl⟩
  case round =>
    obtain ⟨t, rfl, ht, hr⟩ := hrel
    by_cases h0 : t.size = 0
    · obtain rfl : t = ByteArray.empty := ByteArray.size_eq_zero_iff.1 h0
      go_wp2
      go_ret
      exact ⟨ret_str (by rw [hr.out]; rfl), rfl⟩
    · have h1 : 0 < t.size := by omega
      have hc := drop_cons t 0 h1
      rw [List.drop_zero] at hc
      have hb8 := (t[0]).toNat_lt
      have hsk := T.skip_head t[0] (t.data.toList.drop 1)
      rw [← hc] at hsk
      cases hb : G.space ((t[0]).toNat : Int)
      · have hr2 : Hid (Rt.skB s = t) := Lib.hid (by
          rw [hr.out]
          apply bytes_eq
          rw [Rt.skB_list, hsk, hb]; rfl)
        replace hb := Lib.hid hb
        clear hsk hc
        go_wp2_with fail
        (with_reducible refine (refSpace_any ((t[0]).toNat : Int) _).mono ?_); rintro e w1 ⟨rfl, rfl⟩
        rw [hb.out]
        go_wp2
        go_ret
        exact ⟨ret_str hr2.out.symm, rfl⟩
      · have hr2 : Hid (Rt.skB s = Rt.skB (t.extract 1 t.size)) := Lib.hid (by
          rw [hr.out]
          apply bytes_eq
          rw [Rt.skB_list, Rt.skB_list, drop_list, hsk, hb]; rfl)
        replace hb := Lib.hid hb
        clear hsk hc
        go_wp2_with fail
        (with_reducible refine (refSpace_any ((t[0]).toNat : Int) _).mono ?_); rintro e w1 ⟨rfl, rfl⟩
        rw [hb.out]
        go_wp2
        go_round
        case rel => exact ⟨_, rfl, by simp; omega, hr2⟩
        case measure => simp [strLen]; omega

/-- Is all of it space? -/
def T.blankL (l : List UInt8) : Bool := l.all fun b => G.space (b.toNat : Int)

set_option maxHeartbeats 800000 in
theorem refBlank5_any (s : ByteArray) (w : World) (hs : s.size ≤ maxLen) :
    Calls Tryz.prog 22 #[.string s] w fun e w' => e = .returned (.bool (T.blankL s.data.toList)) ∧ w = w' := by
  have hsm : s.size ≤ 9223372036854775807 := hs
  go_enter Tryz.func22, Tryz.ntmps22
  go_wp2_with fail
  go_loop [3] (fun i => ∃ k : Nat, k ≤ s.size ∧ i = .int .i64 (k : Int) ∧ Hid ((s.data.toList.take k).all (fun b => G.space (b.toNat : Int)) = true)) (fun i => s.size - (intOf i).toNat)
  case atStart => exact ⟨0, Nat.zero_le _, rfl, Lib.hid (by simp)⟩
  case round =>
    obtain ⟨k, hk, rfl, hl⟩ := hrel
    by_cases hlt : k < s.size
    · have hks : k < s.data.toList.length := by rw [list_len]; exact hlt
      have hst := all_take (fun b => G.space (b.toNat : Int)) s.data.toList k hks
      rw [hl.out, Bool.true_and] at hst
      have hgk : s.data.toList[k] = s[k] := rfl
      have hb8 := (s[k]).toNat_lt
      rw [hgk] at hst
      cases hb : G.space ((s[k]).toNat : Int)
      · have hr := Lib.hid (show T.blankL s.data.toList = false from all_not (fun b => G.space (b.toNat : Int)) s.data.toList k hks hb)
        replace hb := Lib.hid hb
        clear hst hl hgk
        go_wp2_with fail
        (with_reducible refine (refSpace_any ((s[k]).toNat : Int) _).mono ?_); rintro e w1 ⟨rfl, rfl⟩
        rw [hb.out]
        go_wp2
        go_ret
        exact ⟨ret_bool hr.out.symm, rfl⟩
      · rw [hb] at hst
        replace hb := Lib.hid hb
        replace hst := Lib.hid hst
        clear hl hgk
        go_wp2_with fail
        (with_reducible refine (refSpace_any ((s[k]).toNat : Int) _).mono ?_); rintro e w1 ⟨rfl, rfl⟩
        rw [hb.out]
        go_wp2
        go_round
        case rel => exact ⟨k + 1, by omega, by go_num, hst⟩
        case measure => simp [intOf]; omega
    · have hfull : s.data.toList.take k = s.data.toList := List.take_of_length_le (by rw [list_len]; omega)
      rw [hfull] at hl
      clear hfull
      go_wp2
      go_ret
      exact ⟨ret_bool (show true = T.blankL s.data.toList from hl.out.symm), rfl⟩
end Go.Proofs.YtegaidfmkfnbnaaGreatDoor
namespace Go.Proofs.YtegaidfmkfnbnaaGreatDoor
open Go.RowKit
namespace Rt
theorem low_at {L acc : List UInt8} {s : ByteArray} {k : Nat} (hk : k < s.size) (h : L = acc ++ (s.data.toList.drop k).map T.lower) (d : UInt8) (hd : T.lower s[k] = d) : L = (acc ++ [d]) ++ (s.data.toList.drop (k + 1)).map T.lower := by
  rw [h, drop_cons s k hk, List.map_cons, hd]; simp
theorem low_end {L acc : List UInt8} {s : ByteArray} {k : Nat} (hk : ¬ k < s.size) (h : L = acc ++ (s.data.toList.drop k).map T.lower) : L = acc := by
  rw [h, List.drop_of_length_le (by rw [list_len]; omega)]; simp
theorem low_small {b : UInt8} (h : 65 ≤ b.toNat ∧ b.toNat ≤ 90) : (T.lower b).toNat = b.toNat + 32 := by
  unfold T.lower; rw [if_pos h]; simp; omega
theorem low_same {b : UInt8} (h : ¬ (65 ≤ b.toNat ∧ b.toNat ≤ 90)) : T.lower b = b := by unfold T.lower; rw [if_neg h]
def loB (s : ByteArray) : ByteArray := ⟨(s.data.toList.map T.lower).toArray⟩
theorem loB_list (s : ByteArray) : (loB s).data.toList = s.data.toList.map T.lower := rfl
end Rt

set_option maxRecDepth 100000 in
set_option maxHeartbeats 1600000 in
theorem refLower_any (s : ByteArray) (w : World) (hs : s.size ≤ 70368744177664) :
    Calls Tryz.prog 63 #[.string s] w fun e w' => e = .returned (.string (Rt.loB s)) ∧ Below w.heap.size w w' := by
  obtain ⟨i0, hi, hz0, hz1, hz2⟩ := info_parts infoByte
  have hlen := Lib.hid (list_len s)
  go_enter Tryz.func63, Tryz.ntmps63
  go_wp2_with fail
  go_loopw [3, 4, 5] (fun v i _ wr => ∃ (k : Nat) (acc : List UInt8), k ≤ s.size ∧ i = .int .i64 k ∧ Hid (s.data.toList.map T.lower = acc ++ (s.data.toList.drop k).map T.lower) ∧ acc.length ≤ k ∧ (acc = [] → v = .slice none 0 0) ∧ Owns w.heap.size v acc wr ∧ Below w.heap.size w wr) (fun _ i _ _ => s.size - (intOf i).toNat)
  case atStart => exact ⟨0, [], Nat.zero_le _, rfl, Lib.hid (by simp), by simp, fun _ => rfl, owns_nil _ _, Below.refl _ _⟩
  case round =>
    obtain ⟨k, acc, hk, rfl, hL, hacc, hnil, ho, bw⟩ := hrel
    have hsz := bw.size
    have hacch := Lib.hid hacc
    have hnilh := Lib.hid hnil
    clear hnil
    by_cases hlt : k < s.size
    · obtain ⟨d, hd⟩ : ∃ d, T.lower s[k] = d := ⟨_, rfl⟩
      have hr := Lib.hid (Rt.low_at hlt hL.out d hd)
      by_cases hq : 65 ≤ (s[k]).toNat ∧ (s[k]).toNat ≤ 90
      · have hn : ((s[k]).toNat : Int) + 32 = (d.toNat : Int) := by rw [← hd, Rt.low_small hq]; omega
        obtain ⟨q1, q2⟩ := hq
        have hdl := d.toNat_lt
        clear hL hd
        go_wp2_with (at_builtin; refine wpList_append_own _ rfl _ _ 36 rfl w.heap.size 5 i0 (.int .u8 0) 1 1 Tryz.underlying36 hi hz0 hz1 hz2 rfl (by decide) _ _ _ rfl (World.ownsRow.alloc ho _) ⟨wr.heap.size, 0, none⟩ 1 1 [.int .u8 (d.toNat : Int)] rfl rfl (cell_one_new _ _ _) (fun u hu => by simp at hu; subst hu; rfl) (by have := hacch.out; unfold maxLen; omega) (by have := hacch.out; omega) (by simp; omega) ?_)
        intro v2 w2 hown2 hg2 hnil2
        have hga : wr.grownBy w2 u3.ownBlock := (World.grownBy_alloc wr _ _).trans hg2
        have b2 := ho.below hga (by omega)
        have ho2 : Owns w.heap.size v2 (acc ++ [d]) w2 := owns_of hown2 (by simp) (by simp [Lib.byteCells])
        have hlen2 : (acc ++ [d]).length ≤ k + 1 := by rw [List.length_append, List.length_singleton]; omega
        clear hown2 hg2 hnil2 hga ho
        go_wp2_with fail
        go_roundw
        case rel => exact ⟨k + 1, acc ++ [d], by omega, by go_num, hr, by omega, fun e => by simp at e, ho2, bw.trans b2⟩
        case measure => simp [intOf]; omega
      · have hdd : d = s[k] := by rw [← hd, Rt.low_same hq]
        subst hdd
        have hq' : (s[k]).toNat < 65 ∨ (65 ≤ (s[k]).toNat ∧ 90 < (s[k]).toNat) := by omega
        clear hL hd hq
        rcases hq' with q1 | ⟨q1, q2⟩
        all_goals
          go_wp2_with (at_builtin; refine wpList_append_own _ rfl _ _ 36 rfl w.heap.size 5 i0 (.int .u8 0) 1 1 Tryz.underlying36 hi hz0 hz1 hz2 rfl (by decide) _ _ _ rfl (World.ownsRow.alloc ho _) ⟨wr.heap.size, 0, none⟩ 1 1 [.int .u8 ((s[k]).toNat : Int)] rfl rfl (cell_one_new _ _ _) (fun u hu => by simp at hu; subst hu; rfl) (by have := hacch.out; unfold maxLen; omega) (by have := hacch.out; omega) (by simp; omega) ?_)
          intro v2 w2 hown2 hg2 hnil2
          have hga : wr.grownBy w2 u3.ownBlock := (World.grownBy_alloc wr _ _).trans hg2
          have b2 := ho.below hga (by omega)
          have ho2 : Owns w.heap.size v2 (acc ++ [s[k]]) w2 := owns_of hown2 (by simp) (by simp [Lib.byteCells])
          have hlen2 : (acc ++ [s[k]]).length ≤ k + 1 := by rw [List.length_append, List.length_singleton]; omega
          clear hown2 hg2 hnil2 hga ho
          go_wp2_with fail
          go_roundw
          case rel => exact ⟨k + 1, acc ++ [s[k]], by omega, by go_num, hr, by omega, fun e => by simp at e, ho2, bw.trans b2⟩
          case measure => simp [intOf]; omega
    · have hcv := owns_string ho hnilh.out
      have hr := Lib.hid (Rt.low_end hlt hL.out)
      clear hL
      go_wp2
      go_ret
      exact ⟨ret_str (by unfold Rt.loB; rw [hr.out]), bw⟩
end Go.Proofs.YtegaidfmkfnbnaaGreatDoor
