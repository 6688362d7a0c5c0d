/-
  The document's Weight.
-/
import Derived.Test.YtpgdmoaegnehbaaGreatDoorWeight
import Derived.Test.YtpgdmoaegnehbaaGreatDoorNanDrawn
import Derived.BigQuiet
import Derived.Deep.DeepCutAuto
namespace Go.Proofs.YtpgdmoaegnehbaaGreatDoor
open Go.RowKit

theorem wcons (s : ByteArray) (k : Nat) (h : k < s.size) : s.data.toList.drop k = s[k] :: s.data.toList.drop (k + 1) := by
  rw [List.drop_eq_getElem_cons (by rw [list_len]; exact h)]; rfl
namespace Ql
theorem weight_of {s : ByteArray} (h : 0 < s.size) : weight s.data.toList = if ((s[0]).toNat = 48 ∨ (s[0]).toNat = 49) ∧ s.size ≤ 5 ∧ (∀ h : 1 < s.size, (s[1]).toNat = 46) then frac 100 (((s[0]).toNat - 48) * 1000) (s.data.toList.drop 2) else none := by
  have e := wcons s 0 h
  rw [List.drop_zero] at e
  have hl : (s.data.toList.drop 1).length + 1 = s.size := by rw [List.length_drop, list_len]; omega
  have h2 : (s.data.toList.drop 1 = [] ∨ (s.data.toList.drop 1).head? = some 46) ↔ ∀ h : 1 < s.size, (s[1]).toNat = 46 := by
    by_cases h1 : 1 < s.size
    · rw [wcons s 1 h1]
      constructor
      · rintro (hn | hn) _
        · cases hn
        · injection hn with hn; rw [hn]; rfl
      · intro hn
        refine .inr ?_
        rw [List.head?_cons, UInt8.toNat_inj.1 (show (s[1]).toNat = (46 : UInt8).toNat from hn h1)]
    · have : s.data.toList.drop 1 = [] := List.drop_of_length_le (by rw [list_len]; omega)
      exact ⟨fun _ h => absurd h h1, fun _ => .inl this⟩
  have hw : weight s.data.toList = if ((s[0]).toNat = 48 ∨ (s[0]).toNat = 49) ∧ (s.data.toList.drop 1).length ≤ 4 ∧ (s.data.toList.drop 1 = [] ∨ (s.data.toList.drop 1).head? = some 46) then frac 100 (((s[0]).toNat - 48) * 1000) ((s.data.toList.drop 1).drop 1) else none := by
    conv => lhs; rw [e]
    rfl
  rw [hw, List.drop_drop]
  by_cases h : ((s[0]).toNat = 48 ∨ (s[0]).toNat = 49) ∧ s.size ≤ 5 ∧ ∀ h : 1 < s.size, (s[1]).toNat = 46
  · rw [if_pos h, if_pos ⟨h.1, by omega, h2.2 h.2.2⟩]
  · rw [if_neg h, if_neg (fun g => h ⟨g.1, by omega, h2.1 g.2.2⟩)]
theorem isW_none {o : Option Nat} {x : Nat} (h : o = none) (hx : Fl.nan x = true) : IsW o x := by subst h; exact hx
end Ql

set_option maxRecDepth 100000 in
set_option maxHeartbeats 6400000 in
theorem refWeight_any (s : ByteArray) (w : World) (hs : s.size ≤ maxLen) : Calls Tryz.prog 37 #[.string s] w fun e w' => ∃ x, e = .returned (.float .f64 x) ∧ Ql.IsW (Ql.weight s.data.toList) x ∧ Below w.heap.size w w' := by
  have hsm : s.size ≤ 9223372036854775807 := hs
  have hlen := Lib.hid (list_len s)
  obtain ⟨x, hx, hxn⟩ := nan_drawn 25 w
  have bd := (Below.refl w.heap.size w).drew
  obtain ⟨Q, hQ⟩ : ∃ Q, Q = Ql.weight s.data.toList := ⟨_, rfl⟩
  rw [← hQ]
  have hbad : Hid (Q = none → ∀ e w', e = Ending.returned (.float .f64 x) ∧ w' = w.drew → ∃ x, e = .returned (.float .f64 x) ∧ Ql.IsW Q x ∧ Below w.heap.size w w') := Lib.hid (fun h e w' he => ⟨x, he.1, Ql.isW_none h hxn, he.2 ▸ bd⟩)
  replace hxn := Lib.hid hxn
  replace bd := Lib.hid bd
  by_cases h0 : s.size = 0
  · obtain rfl : s = ByteArray.empty := ByteArray.size_eq_zero_iff.1 h0
    have hfin := Lib.hid (hbad.out hQ)
    have he : (ByteArray.empty.toList == []) = true := by rw [ByteArray.toList_eq]; rfl
    have he2 : ByteArray.empty.toList = [] := by rw [ByteArray.toList_eq]; rfl
    clear hQ hbad h0
    go_enter Tryz.func37, Tryz.ntmps37
    go_wp2_with fail
    go_ret
    exact hfin.out _ _ ⟨rfl, rfl⟩
  have hp : 0 < s.size := by omega
  have hq := Lib.hid (hQ.trans (Ql.weight_of hp))
  replace hQ := Lib.hid hQ
  have hne2 : (s.toList == []) = false := by
    rw [beq_eq_false_iff_ne]
    rw [ByteArray.toList_eq]
    exact lst_ne hp
  have hne3 : ¬ s.toList = [] := by
    rw [ByteArray.toList_eq]
    exact lst_ne hp
  have hb0 := (s[0]).toNat_lt
  by_cases h1 : (s[0]).toNat = 48 ∨ (s[0]).toNat = 49
  case neg =>
    have i1 : ((s[0].toNat : Int) != 48) = true := by rw [bne_iff_ne]; omega
    have i2 : ((s[0].toNat : Int) != 49) = true := by rw [bne_iff_ne]; omega
    have hfin := Lib.hid (hbad.out (by rw [hq.out, if_neg (fun h => h1 h.1)]))
    replace h1 := Lib.hid h1
    go_enter Tryz.func37, Tryz.ntmps37
    go_wp2_with fail
    go_ret
    exact hfin.out _ _ ⟨rfl, rfl⟩
  have hg : ((s[0].toNat : Int) != 48) = false ∨ (((s[0].toNat : Int) != 48) = true ∧ ((s[0].toNat : Int) != 49) = false) := by
    rcases h1 with h | h
    · exact .inl (by rw [bne_eq_false_iff_eq]; omega)
    · exact .inr ⟨by rw [bne_iff_ne]; omega, by rw [bne_eq_false_iff_eq]; omega⟩
  have hn0 : (s[0]).toNat - 48 ≤ 1 := by omega
  have hn1 : ((s[0]).toNat : Int) - 48 = (((s[0]).toNat - 48 : Nat) : Int) := by omega
  replace h1 := Lib.hid h1
  go_enter Tryz.func37, Tryz.ntmps37
  go_upto_region 2 with fail
  go_cut [33] (fun c wx => w = wx ∧ ((c = .bool true ∧ Hid (Q = none)) ∨ (c = .bool false ∧ s.size ≤ 5 ∧ Hid (Q = Ql.frac 100 (((s[0]).toNat - 48) * 1000) (s.data.toList.drop 2)))))
  case first =>
    by_cases h5 : s.size ≤ 5
    case neg =>
      have j5 : (5 : Int) < (s.size : Int) := by omega
      have j6 : decide ((5 : Int) < (s.size : Int)) = true := decide_eq_true j5
      have hfin : Hid (Q = none) := Lib.hid (by rw [hq.out, if_neg (fun h => h5 h.2.1)])
      replace h5 := Lib.hid h5
      rcases hg with i1 | ⟨i1, i2⟩
      all_goals
        go_wp2_with fail
        go_meet
        exact ⟨rfl, .inl ⟨rfl, hfin⟩⟩
    have j5 : ¬ (5 : Int) < (s.size : Int) := by omega
    have j6 : decide ((5 : Int) < (s.size : Int)) = false := decide_eq_false j5
    by_cases h2 : 1 < s.size
    case neg =>
      have j2 : ¬ (1 : Int) < (s.size : Int) := by omega
      have j3 : decide ((1 : Int) < (s.size : Int)) = false := decide_eq_false j2
      have hfin : Hid (Q = Ql.frac 100 (((s[0]).toNat - 48) * 1000) (s.data.toList.drop 2)) := Lib.hid (by rw [hq.out, if_pos ⟨h1.out, h5, fun h => absurd h h2⟩])
      rcases hg with i1 | ⟨i1, i2⟩
      all_goals
        go_wp2_with fail
        go_meet
        exact ⟨rfl, .inr ⟨rfl, h5, hfin⟩⟩
    have j2 : (1 : Int) < (s.size : Int) := by omega
    have j3 : decide ((1 : Int) < (s.size : Int)) = true := decide_eq_true j2
    by_cases h6 : (s[1]).toNat = 46
    · have i3 : ((s[1].toNat : Int) != 46) = false := by rw [bne_eq_false_iff_eq]; omega
      have hfin : Hid (Q = Ql.frac 100 (((s[0]).toNat - 48) * 1000) (s.data.toList.drop 2)) := Lib.hid (by rw [hq.out, if_pos ⟨h1.out, h5, fun _ => h6⟩])
      replace h6 := Lib.hid h6
      rcases hg with i1 | ⟨i1, i2⟩
      all_goals
        go_wp2_with fail
        go_meet
        exact ⟨rfl, .inr ⟨rfl, h5, hfin⟩⟩
    · have i3 : ((s[1].toNat : Int) != 46) = true := by rw [bne_iff_ne]; omega
      have hfin : Hid (Q = none) := Lib.hid (by rw [hq.out, if_neg (fun h => h6 (h.2.2 h2))])
      replace h6 := Lib.hid h6
      rcases hg with i1 | ⟨i1, i2⟩
      all_goals
        go_wp2_with fail
        go_meet
        exact ⟨rfl, .inl ⟨rfl, hfin⟩⟩
  case rest =>
  obtain ⟨rfl, ⟨rfl, hfin⟩ | ⟨rfl, h5, hfr⟩⟩ := hcut
  · have hfin2 := Lib.hid (hbad.out hfin.out)
    go_wp2_with fail
    go_ret
    exact hfin2.out _ _ ⟨rfl, rfl⟩
  clear hg
  obtain ⟨n0, hn0e⟩ : ∃ n, n = (s[0]).toNat - 48 := ⟨_, rfl⟩
  rw [← hn0e] at hfr hn1 hn0
  replace hn0e := Lib.hid hn0e
  go_wp2_with fail
  go_loop [4, 5, 6] (fun nv pv iv => ∃ (k n p : Nat), nv = .int .i64 n ∧ pv = .int .i64 p ∧ iv = .int .i64 k ∧ 2 ≤ k ∧ k ≤ 6 ∧ n ≤ 1000 * k ∧ p ≤ 100 ∧ Hid (Q = Ql.frac p n (s.data.toList.drop k))) (fun _ _ iv => s.size - (intOf iv).toNat)
  case atStart => exact ⟨2, n0 * 1000, 100, by go_num, rfl, rfl, by omega, by omega, by omega, by omega, hfr⟩
  case round =>
    obtain ⟨k, n, p, rfl, rfl, rfl, hk2, hk6, hn, hp1, hf⟩ := hrel
    by_cases hlt : k < s.size
    · have hb := (s[k]).toNat_lt
      have hst : Hid (Q = if Ql.digB s[k] = true then Ql.frac (p / 10) (n + ((s[k]).toNat - 48) * p) (s.data.toList.drop (k + 1)) else none) := Lib.hid (by rw [hf.out, wcons s k hlt]; rfl)
      by_cases hd : 48 ≤ (s[k]).toNat ∧ (s[k]).toNat ≤ 57
      · have hnx : Hid (Q = Ql.frac (p / 10) (n + ((s[k]).toNat - 48) * p) (s.data.toList.drop (k + 1))) := Lib.hid (by rw [hst.out, if_pos (by unfold Ql.digB; simp [hd])])
        obtain ⟨d1, d2⟩ := hd
        obtain ⟨d, hde⟩ : ∃ d, d = (s[k]).toNat - 48 := ⟨_, rfl⟩
        rw [← hde] at hnx
        have hd9 : d ≤ 9 := by omega
        have hdi : ((s[k]).toNat : Int) - 48 = (d : Int) := by omega
        have hdp : d * p ≤ 900 := Nat.le_trans (Nat.mul_le_mul hd9 hp1) (by omega)
        have m1 : ((d : Int) * (p : Int)) = ((d * p : Nat) : Int) := by push_cast; rfl
        have m2 : (p : Int).tdiv 10 = ((p / 10 : Nat) : Int) := by rw [Int.tdiv_eq_ediv_of_nonneg (by omega)]; rfl
        have k1 : ¬ ((s[k]).toNat : Int) < 48 := by omega
        have k2 : ¬ (57 : Int) < ((s[k]).toNat : Int) := by omega
        replace hde := Lib.hid hde
        have m3 : Hid (((n : Int) + (d : Int) * (p : Int)) = ((n + d * p : Nat) : Int)) := Lib.hid (by push_cast; rfl)
        replace m1 := Lib.hid m1
        go_wp2_with fail
        go_round
        case rel => exact ⟨k + 1, n + d * p, p / 10, by go_num, by go_num, by go_num, by omega, by omega, by omega, by omega, hnx⟩
        case measure => simp [intOf]; omega
      · have hfin := Lib.hid (hbad.out (by rw [hst.out, if_neg (by unfold Ql.digB; simp; omega)]))
        by_cases d1 : 48 ≤ (s[k]).toNat
        · have k1 : ¬ ((s[k]).toNat : Int) < 48 := by omega
          have k2 : (57 : Int) < ((s[k]).toNat : Int) := by omega
          replace hd := Lib.hid hd
          go_wp2_with fail
          go_ret
          exact hfin.out _ _ ⟨rfl, rfl⟩
        · have k1 : ((s[k]).toNat : Int) < 48 := by omega
          replace hd := Lib.hid hd
          go_wp2_with fail
          go_ret
          exact hfin.out _ _ ⟨rfl, rfl⟩
    · have hnil : s.data.toList.drop k = [] := List.drop_of_length_le (by rw [hlen.out]; omega)
      have hq2 : Hid (Q = if n ≤ 1000 then some n else none) := Lib.hid (by rw [hf.out, hnil]; rfl)
      by_cases hle : n ≤ 1000
      · have hw := Fl.W_is hle
        have hdv := fun (w : World) => run_float_arith (P := Tryz.prog) (w := w) .quo 25 .f64 _ _ _ hw
        have hl1 : ¬ (1000 : Int) < (n : Int) := by omega
        have hq3 : Hid (Q = some n) := Lib.hid (by rw [hq2.out, if_pos hle])
        clear hnil hw
        go_wp2_with fail
        go_ret
        exact ⟨_, rfl, by rw [hq3.out]; rfl, Below.refl _ _⟩
      · have hl1 : (1000 : Int) < (n : Int) := by omega
        have hfin := Lib.hid (hbad.out (by rw [hq2.out, if_neg hle]))
        clear hnil
        go_wp2_with fail
        go_ret
        exact hfin.out _ _ ⟨rfl, rfl⟩
end Go.Proofs.YtpgdmoaegnehbaaGreatDoor
