/-
  What the document's Number comes to.
-/
import Derived.Test.YtbfgniheagolgaaGreatDoorParse2
namespace Go.Proofs.YtbfgniheagolgaaGreatDoor
open Go.RowKit

def dval (a : Nat) (l : List UInt8) : Nat := l.foldl (fun a c => a * 10 + (c.toNat - 48)) a

theorem dval_digits : ∀ (u : Nat), dval 0 (Lib.decDigits u) = u := by
  intro u
  induction u using Nat.strongRecOn with
  | _ u ih =>
    rw [Lib.decDigits]
    split
    · have e : (UInt8.ofNat (48 + u)).toNat = 48 + u := by simp; omega
      simp only [dval, List.foldl_cons, List.foldl_nil, e]; omega
    · have e : (UInt8.ofNat (48 + u % 10)).toNat = 48 + u % 10 := by simp; omega
      have := ih (u / 10) (by omega)
      simp only [dval] at this
      simp only [dval, List.foldl_append, List.foldl_cons, List.foldl_nil, e, this]; omega

theorem digits_short : ∀ (k u : Nat), u < 10 ^ (k + 1) → (Lib.decDigits u).length ≤ k + 1
  | 0, u, h => by rw [Lib.decDigits, dif_pos (by omega)]; simp
  | k + 1, u, h => by
    rw [Lib.decDigits]
    split
    · simp
    · have := digits_short k (u / 10) (by rw [Nat.pow_succ] at h; omega)
      rw [List.length_append, List.length_singleton]; omega

theorem digits_head : ∀ (u : Nat), (Lib.decDigits u)[0]? = some 48 → (Lib.decDigits u).length = 1 := by
  intro u
  induction u using Nat.strongRecOn with
  | _ u ih =>
    rw [Lib.decDigits]
    split
    · intro _; simp
    · rename_i hu
      intro h
      have hne := M.digits_ne (u / 10)
      have hpos : 0 < (Lib.decDigits (u / 10)).length := List.length_pos_iff.2 hne
      rw [List.getElem?_append_left hpos] at h
      have h1 := ih (u / 10) (by omega) h
      have h2 := dval_digits (u / 10)
      obtain ⟨x, hx⟩ := List.length_eq_one_iff.1 h1
      rw [hx] at h h2
      simp at h
      subst h
      simp [dval] at h2
      omega

theorem dval_snoc (l : List UInt8) (k : Nat) (h : k < l.length) : dval 0 (l.take (k + 1)) = dval 0 (l.take k) * 10 + (l[k].toNat - 48) := by
  unfold dval; rw [List.take_succ_eq_append_getElem h, List.foldl_append]; rfl

theorem pow_le13 {k : Nat} (h : k ≤ 13) : 10 ^ k ≤ 10000000000000 := Nat.pow_le_pow_right (by decide) h
theorem pow_le12 {k : Nat} (h : k ≤ 12) : 10 ^ k ≤ 1000000000000 := Nat.pow_le_pow_right (by decide) h

def isNum (s : List UInt8) (v : Int) : Prop := -1 ≤ v ∧ v ≤ 1099511627776 ∧ ∀ m : Nat, m ≤ 1099511627776 → s = Lib.decDigits m → v = m

theorem num_bad {s : List UInt8} (h : ∀ m : Nat, m ≤ 1099511627776 → s = Lib.decDigits m → False) : isNum s (-1) :=
  ⟨by omega, by omega, fun m hm e => (h m hm e).elim⟩

def dig (c : UInt8) : Bool := decide (48 ≤ c.toNat) && decide (c.toNat ≤ 57)
/-- What Number answers. -/
def dnum (s : List UInt8) : Int := if s.length = 0 ∨ 13 < s.length ∨ (s[0]? = some 48 ∧ 1 < s.length) ∨ s.all dig = false ∨ 1099511627776 < dval 0 s then -1 else (dval 0 s : Int)

theorem isNum_dnum (s : List UInt8) : isNum s (dnum s) := by
  unfold dnum
  split
  · rename_i h
    refine num_bad (fun m hm e => ?_)
    rcases h with h | h | ⟨h, h1⟩ | h | h
    · exact M.digits_ne m (by rw [← e]; exact List.eq_nil_of_length_eq_zero h)
    · have := digits_short 12 m (by omega)
      rw [← e] at this; omega
    · have := digits_head m (by rw [← e]; exact h)
      rw [← e] at this; omega
    · rw [← Bool.not_eq_true, List.all_eq_true] at h
      refine h (fun c hc => ?_)
      have := M.digits_are m c (by rw [← e]; exact hc)
      simp [dig, this]
    · rw [e, dval_digits] at h; omega
  · rename_i h
    refine ⟨by omega, ?_, fun m _ e => by rw [e, dval_digits]⟩
    have : ¬ 1099511627776 < dval 0 s := fun h1 => h (.inr (.inr (.inr (.inr h1))))
    omega
theorem dnum_no {s : List UInt8} (h : s.length = 0 ∨ 13 < s.length ∨ (s[0]? = some 48 ∧ 1 < s.length) ∨ s.all dig = false ∨ 1099511627776 < dval 0 s) : dnum s = -1 := if_pos h
theorem ret_num {a b : Int} (h : a = b) : Ending.returned (.int .i64 b) = .returned (.int .i64 a) := by rw [h]

set_option maxRecDepth 100000 in
set_option maxHeartbeats 3200000 in
theorem refNumber_any (s : ByteArray) (w : World) (hs : s.size ≤ 1000000) :
    Calls Tryz.prog 22 #[.string s] w fun e w' => e = .returned (.int .i64 (dnum s.data.toList)) ∧ w = w' := by
  have hlen : s.data.toList.length = s.size := by simp
  by_cases h0 : s.size = 0
  · have hb := Lib.hid (dnum_no (s := s.data.toList) (.inl (by omega)))
    obtain rfl : s = ByteArray.empty := ByteArray.size_eq_zero_iff.1 h0
    clear hlen
    go_enter Tryz.func22, Tryz.ntmps22
    go_wp2
    go_ret
    exact ⟨ret_num hb.out, rfl⟩
  have hne : s.toList.isEmpty = false := by
    rw [List.isEmpty_eq_false_iff]; intro h
    rw [ByteArray.toList_eq] at h
    have := congrArg List.length h
    rw [hlen, List.length_nil] at this
    omega
  by_cases h13 : 13 < s.size
  · have hb := Lib.hid (dnum_no (s := s.data.toList) (.inr (.inl (by omega))))
    clear hlen
    go_enter Tryz.func22, Tryz.ntmps22
    go_wp2
    go_ret
    exact ⟨ret_num hb.out, rfl⟩
  have hpos : 0 < s.size := by omega
  have hg0 : s.data.toList[0]'(by rw [hlen]; exact hpos) = s[0] := rfl
  have hz := s[0].toNat_lt
  by_cases hlead : s[0].toNat = 48 ∧ 1 < s.size
  · obtain ⟨hl1, hl2⟩ := hlead
    have hb := Lib.hid (dnum_no (s := s.data.toList) (.inr (.inr (.inl ⟨by rw [List.getElem?_eq_getElem (by rw [hlen]; exact hpos), hg0]; congr 1; exact UInt8.toNat_inj.1 hl1, by omega⟩))))
    clear hlen hg0
    go_enter Tryz.func22, Tryz.ntmps22
    go_wp2
    all_goals go_ret
    all_goals exact ⟨ret_num hb.out, rfl⟩
  have hlen := Lib.hid hlen
  clear hg0
  go_enter Tryz.func22, Tryz.ntmps22
  go_upto_region 1 with fail
  go_cut [21] (fun x wx => x = .bool false ∧ w = wx)
  case first =>
    by_cases h1 : s[0].toNat = 48
    · have hs1 : ¬ 1 < s.size := fun h => hlead ⟨h1, h⟩
      have hs2 : s.size = 1 := by omega
      go_wp2_with fail
      all_goals go_meet
      all_goals refine ⟨?_, rfl⟩
      all_goals first | rfl | (simp; done) | (simp; omega)
    · have h1b : ¬ (s[0].toNat : Int) = 48 := by omega
      have h1c : ((s[0].toNat : Int) == 48) = false := by simpa using h1b
      go_wp2_with fail
      all_goals go_meet
      all_goals refine ⟨?_, rfl⟩
      all_goals first | rfl | (simp; done) | (simp; omega)
  case rest =>
    obtain ⟨rfl, rfl⟩ := hcut
    have hlead := Lib.hid hlead
    clear hz hne
    go_wp2_with fail
    go_loop [3, 4] (fun nv iv => ∃ k : Nat, k ≤ s.size ∧ iv = .int .i64 k ∧ nv = .int .i64 (dval 0 (s.data.toList.take k) : Int) ∧ Hid (dval 0 (s.data.toList.take k) < 10 ^ k) ∧ Hid ((s.data.toList.take k).all dig = true)) (fun _ i => s.size - (intOf i).toNat)
    case atStart => exact ⟨0, Nat.zero_le _, rfl, rfl, Lib.hid (by simp [dval]), Lib.hid (by simp)⟩
    case round =>
      obtain ⟨k, hk, rfl, rfl, hb, hall⟩ := hrel
      by_cases hlt : k < s.size
      · have hst := Lib.hid (dval_snoc s.data.toList k (by rw [hlen.out]; exact hlt))
        have hat := Lib.hid (all_take dig s.data.toList k (by rw [hlen.out]; exact hlt))
        have hno := Lib.hid (all_not dig s.data.toList k (by rw [hlen.out]; exact hlt))
        have hgk : s.data.toList[k]'(by rw [hlen.out]; exact hlt) = s[k] := rfl
        rw [hgk] at hst hat hno
        clear hgk
        have hd := hb.out
        have hp := pow_le12 (show k ≤ 12 by omega)
        have hps : 10 ^ (k + 1) = 10 ^ k * 10 := Nat.pow_succ ..
        have hbyte := (s[k]).toNat_lt
        have hd2 : dval 0 (s.data.toList.take k) < 1000000000000 := by omega
        generalize dval 0 (s.data.toList.take k) = n at hst hd hd2 hb
        have hnx : 48 ≤ s[k].toNat → s[k].toNat ≤ 57 → Hid (n * 10 + (s[k].toNat - 48) < 10 ^ (k + 1)) := fun a b => Lib.hid (by omega)
        have hnx := Lib.hid hnx
        clear hd hp hps hb
        by_cases d1 : s[k].toNat < 48
        · have hbad := Lib.hid (dnum_no (s := s.data.toList) (.inr (.inr (.inr (.inl (hno.out (by simp [dig]; omega)))))))
          clear hst hat hno
          go_wp2
          all_goals go_ret
          all_goals exact ⟨ret_num hbad.out, rfl⟩
        · by_cases d2 : 57 < s[k].toNat
          · have hbad := Lib.hid (dnum_no (s := s.data.toList) (.inr (.inr (.inr (.inl (hno.out (by simp [dig]; omega)))))))
            clear hst hat hno
            go_wp2
            all_goals go_ret
            all_goals exact ⟨ret_num hbad.out, rfl⟩
          · have hnn := hnx.out (by omega) (by omega)
            have hnall := Lib.hid (show (s.data.toList.take (k + 1)).all dig = true by rw [hat.out, hall.out]; simp [dig]; omega)
            clear hat hno hnx
            go_wp2
            go_round
            case rel => exact ⟨k + 1, by omega, by go_num, by rw [hst.out]; go_num, by rw [hst.out]; exact hnn, hnall⟩
            case measure => simp [intOf]; omega
      · have hfull : s.data.toList.take k = s.data.toList := List.take_of_length_le (by rw [hlen.out]; omega)
        have hd := hb.out
        have hp := pow_le13 (show k ≤ 13 by omega)
        have hall2 : s.data.toList.all dig = true := by rw [← hfull]; exact hall.out
        rw [hfull] at hd ⊢
        have hdig : Hid (dnum s.data.toList = if 1099511627776 < dval 0 s.data.toList then -1 else (dval 0 s.data.toList : Int)) := Lib.hid (by
          have hl := hlen.out
          have hh : ¬ (s.data.toList[0]? = some 48 ∧ 1 < s.data.toList.length) := fun ⟨a, b⟩ => hlead.out ⟨by
            rw [List.getElem?_eq_getElem (by rw [hl]; exact hpos)] at a
            have e0 : s[0] = 48 := Option.some.inj a
            rw [e0]; rfl, by omega⟩
          unfold dnum
          by_cases hm : 1099511627776 < dval 0 s.data.toList
          · rw [if_pos hm, if_pos (.inr (.inr (.inr (.inr hm))))]
          · rw [if_neg hm, if_neg]
            rintro (h | h | h | h | h)
            · omega
            · omega
            · exact hh h
            · rw [hall2] at h; cases h
            · exact hm h)
        generalize dval 0 s.data.toList = n at hd hdig ⊢
        have hd2 : n < 10000000000000 := by omega
        clear hd hp hb hfull
        by_cases hm : 1099511627776 < n
        · have hbad := Lib.hid (hdig.out.trans (if_pos hm))
          go_wp2
          go_ret
          exact ⟨ret_num hbad.out, rfl⟩
        · have hgood := Lib.hid (hdig.out.trans (if_neg hm))
          go_wp2
          go_ret
          exact ⟨ret_num hgood.out, rfl⟩
end Go.Proofs.YtbfgniheagolgaaGreatDoor
