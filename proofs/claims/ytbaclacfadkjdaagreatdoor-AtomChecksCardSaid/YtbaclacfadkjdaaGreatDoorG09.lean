/-
  What the document's own words of references come to: Split.
  What the document's own words of references come to: Parse.
-/
import Derived.Test.YtbaclacfadkjdaaGreatDoorG08
import Derived.Deep.DeepCutAuto
import Derived.Test.YtbaclacfadkjdaaGreatDoorG05
namespace Go.Proofs.YtbaclacfadkjdaaGreatDoor
open Go.RowKit
namespace Lc
theorem cut_no {l m : List UInt8} (h : ¬ (cut l m).length < l.length) : rest l m = [] := by
  have := congrArg List.length (cut_rest l m)
  rw [List.length_append] at this
  exact List.length_eq_zero_iff.1 (by omega)
theorem sc_no {l : List UInt8} (h : ¬ (cut l [58, 47, 63, 35]).length < l.length) : scB l = false := by unfold scB; rw [cut_no h]; rfl
theorem sc_is {l : List UInt8} (h : (cut l [58, 47, 63, 35]).length < l.length) : scB l = (l[(cut l [58, 47, 63, 35]).length] == 58) := by
  unfold scB
  rw [← drop_cut, List.drop_eq_getElem_cons h]
  rfl
theorem sc_yes {l : List UInt8} (h : scB l = true) : (cut l [58, 47, 63, 35]).length < l.length ∧ l.take (cut l [58, 47, 63, 35]).length = scA l ∧ l.drop ((cut l [58, 47, 63, 35]).length + 1) = scR l := by
  refine ⟨?_, by rw [take_cut]; unfold scA; rw [if_pos h], ?_⟩
  · refine Classical.byContradiction fun h2 => ?_
    rw [sc_no h2] at h
    cases h
  unfold scR
  rw [if_pos h, ← drop_cut, List.drop_drop]
theorem ho_short {l : List UInt8} (h : ¬ 1 < l.length) : hoB l = false := by
  unfold hoB
  rw [beq_eq_false_iff_ne]
  intro e
  have := congrArg List.length e
  rw [List.length_take] at this
  simp at this
  omega
theorem ho_yes {l : List UInt8} (h : hoB l = true) : 2 ≤ l.length ∧ (l.take ((cut (l.drop 2) [47, 63, 35]).length + 2)).drop 2 = hoA l ∧ l.drop ((cut (l.drop 2) [47, 63, 35]).length + 2) = hoR l := by
  refine ⟨?_, ?_, ?_⟩
  · refine Classical.byContradiction fun h2 => ?_
    rw [ho_short (by omega)] at h
    cases h
  · unfold hoA
    rw [if_pos h, List.drop_take, Nat.add_sub_cancel, take_cut]
  · unfold hoR
    rw [if_pos h, ← drop_cut, List.drop_drop, Nat.add_comm]
theorem qu_yes {l : List UInt8} (h : quB l = true) : 1 ≤ (cut l [35]).length ∧ (l.take (cut l [35]).length).drop 1 = quA l ∧ l.drop (cut l [35]).length = quR l := by
  refine ⟨?_, by rw [take_cut]; unfold quA; rw [if_pos h], by rw [drop_cut]; unfold quR; rw [if_pos h]⟩
  unfold quB at h
  cases l with
  | nil => simp at h
  | cons b t =>
    simp at h
    subst h
    simp [cut]
theorem scA_no {l : List UInt8} (h : scB l = false) : scA l = [] ∧ scR l = l := by unfold scA scR; rw [h]; exact ⟨rfl, rfl⟩
theorem hoA_no {l : List UInt8} (h : hoB l = false) : hoA l = [] ∧ hoR l = l := by unfold hoA hoR; rw [h]; exact ⟨rfl, rfl⟩
theorem quA_no {l : List UInt8} (h : quB l = false) : quA l = [] ∧ quR l = l := by unfold quA quR; rw [h]; exact ⟨rfl, rfl⟩
end Lc
theorem lnil {t : ByteArray} (h : t.size = 0) : t.data.toList = [] := List.length_eq_zero_iff.1 (by rw [list_len]; exact h)
theorem take_cut' (l m : List UInt8) : l.take (Lc.cut l m).length = Lc.cut l m := Lc.take_cut l m
theorem empty_is {t : ByteArray} (h : t.size = 0) : t.toList.isEmpty = true := by rw [ByteArray.toList_eq, lnil h]; rfl
theorem sub_list (s : ByteArray) (a b : Nat) : s.extract a b = Lc.str ((s.data.toList.take b).drop a) := Lc.str_of (extract_list s a b)
theorem one_byte {s : ByteArray} {k : Nat} (h : k < s.size) {c : UInt8} : (((s[k].toNat : Int) == (c.toNat : Int)) = (s.data.toList[k]'(by rw [list_len]; exact h) == c)) := by
  have e : s.data.toList[k]'(by rw [list_len]; exact h) = s[k] := rfl
  rw [e, Bool.eq_iff_iff, beq_iff_eq, beq_iff_eq]
  constructor
  · intro h; exact UInt8.toNat_inj.1 (by omega)
  · intro h; rw [h]
set_option maxRecDepth 100000 in
set_option maxHeartbeats 12800000 in
theorem lSplit_any (s : ByteArray) (w : World) (hs : s.size ≤ 1000000) : Calls Tryz.prog 88 #[.string s] w fun e w' => e = .returned (.agg (uArr (Lc.split s.data.toList))) ∧ Below w.heap.size w w' := by
  have hP : SP w ((w.alloc (.cells #[.string ⟨#[]⟩, .string ⟨#[]⟩, .string ⟨#[]⟩, .string ⟨#[]⟩, .string ⟨#[]⟩, .bool false, .bool false, .bool false, .bool false] 83)).alloc (.cells #[.string ⟨#[]⟩, .string ⟨#[]⟩, .string ⟨#[]⟩, .string ⟨#[]⟩, .string ⟨#[]⟩, .bool false, .bool false, .bool false, .bool false] 83)) Lc.none := SP.first w
  have hsz := fun t : ByteArray => (fun h => by unfold maxLen; omega : t.size ≤ 1000000 → t.size ≤ maxLen)
  replace hsz := Lib.hid hsz
  obtain ⟨L, hL⟩ : ∃ L, L = s.data.toList := ⟨_, rfl⟩
  rw [← hL]
  have hlen : L.length = s.size := by rw [hL, list_len]
  have hf1 := Lib.hid (fun W => lFirst_any s ⟨#[58, 47, 63, 35]⟩ W (hsz.out s hs) (by decide))
  have hcl := Lc.cut_len L [58, 47, 63, 35]
  obtain ⟨K, hK⟩ : ∃ K, K = (Lc.cut L [58, 47, 63, 35]).length := ⟨_, rfl⟩
  rw [← hK, hlen] at hcl
  have e1 : Hid (∀ W, Calls Tryz.prog 117 #[.string s, .string ⟨#[58, 47, 63, 35]⟩] W fun e w' => e = .returned (.int .i64 (K : Nat)) ∧ W = w') := Lib.hid (fun W => by
    have := hf1.out W
    rw [← hL] at this
    rw [hK]
    exact this)
  have sn : Hid (¬ K < s.size → Lc.scB L = false) := Lib.hid (fun h => Lc.sc_no (by rw [← hK, hlen]; exact h))
  have sy : Hid (∀ h : K < s.size, ((s[K].toNat : Int) == 58) = Lc.scB L) := Lib.hid (fun h => by
    have e2 := Lc.sc_is (l := L) (by rw [← hK, hlen]; exact h)
    rw [e2]
    have := one_byte (c := 58) h
    rw [show ((58 : UInt8).toNat : Int) = 58 from rfl] at this
    rw [this]
    subst hL
    simp only [← hK])
  have sz : Hid (Lc.scB L = true → K < s.size ∧ s.extract 0 K = Lc.str (Lc.scA L) ∧ (s.extract (K + 1) s.size).data.toList = Lc.scR L) := Lib.hid (fun h => by
    have := Lc.sc_yes h
    rw [← hK] at this
    refine ⟨by rw [← hlen]; exact this.1, by rw [sub_list, List.drop_zero, ← hL, this.2.1], by rw [drop_list, ← hL, this.2.2]⟩)
  replace hL := Lib.hid hL
  replace hlen := Lib.hid hlen
  replace hK := Lib.hid hK
  clear hf1
  go_enter Tryz.func88, Tryz.ntmps88
  go_upto_region 2 with fail
  generalize hw0 : (w.alloc (.cells #[.string ⟨#[]⟩, .string ⟨#[]⟩, .string ⟨#[]⟩, .string ⟨#[]⟩, .string ⟨#[]⟩, .bool false, .bool false, .bool false, .bool false] 83)).alloc (.cells #[.string ⟨#[]⟩, .string ⟨#[]⟩, .string ⟨#[]⟩, .string ⟨#[]⟩, .string ⟨#[]⟩, .bool false, .bool false, .bool false, .bool false] 83) = w0 at *
  clear hw0
  replace hP := Lib.hid hP
  go_wp2_with fail
  (refine (e1.out _).mono ?_); rintro e w1 ⟨rfl, rfl⟩
  go_upto_region 3 with fail
  go_cut [16] (fun c wx => ∃ q, c = .bool q ∧ Hid (q = Lc.scB L) ∧ w0 = wx)
  case first =>
    by_cases hk : K < s.size
    · have hb := sy.out hk
      obtain ⟨q, hq⟩ : ∃ q, q = Lc.scB L := ⟨_, rfl⟩
      rw [← hq] at hb
      replace hq := Lib.hid hq
      go_wp2_with fail
      go_meet
      exact ⟨q, rfl, hq, rfl⟩
    · have hq := Lib.hid (sn.out hk).symm
      go_wp2_with fail
      go_meet
      exact ⟨false, rfl, hq, rfl⟩
  case rest =>
  obtain ⟨q, rfl, hq, rfl⟩ := hcut
  clear e1 sn sy
  go_upto_if 16 with fail
  go_cut [0] (fun x wx => ∃ t : ByteArray, x = .string t ∧ t.size ≤ 1000000 ∧ Hid (t.data.toList = Lc.scR L) ∧ Hid (SP w wx ⟨Lc.scA L, [], [], [], [], Lc.scB L, false, false, false⟩))
  case first =>
    cases q
    · obtain ⟨n1, n2⟩ := Lc.scA_no hq.out.symm
      have q1 : Hid (s.data.toList = Lc.scR L) := Lib.hid (by rw [n2]; exact hL.out.symm)
      have hP' : Hid (SP w w0 ⟨Lc.scA L, [], [], [], [], Lc.scB L, false, false, false⟩) := Lib.hid (by rw [n1, ← hq.out]; exact hP.out)
      clear n1 n2
      go_wp2_with fail
      go_meet
      exact ⟨s, rfl, hs, q1, hP'⟩
    · obtain ⟨k1, k2, k3⟩ := sz.out hq.out.symm
      have k1i : (K : Int) + 1 ≤ (s.size : Int) := by omega
      obtain ⟨x0, x1, x2, x3, x4, x5, x6, x7, x8⟩ := zero_open hP.out.c
      have f0 := hP.out.c.free 0
      have f5 := hP.out.c.free 5
      have hP2 := Lib.hid (hP.out.set2 0 5 (.string (s.extract 0 K)) (.bool true) (u' := ⟨Lc.scA L, [], [], [], [], Lc.scB L, false, false, false⟩) (by rw [k2, ← hq.out]; rfl))
      have k4 := Lib.hid (show (s.extract (K + 1) s.size).size ≤ 1000000 by rw [ByteArray.size_extract]; omega)
      replace k2 := Lib.hid k2
      replace k3 := Lib.hid k3
      replace hq := Lib.hid hq
      go_wp2_with fail
      go_meet
      exact ⟨_, rfl, k4.out, k3, hP2⟩
  case rest =>
  obtain ⟨t, rfl, ht, hl, hS⟩ := hcut
  clear sz hP hq
  obtain ⟨S1, hS1⟩ : ∃ S, S = Lc.scR L := ⟨_, rfl⟩
  rw [← hS1] at hl
  replace hS1 := Lib.hid hS1
  have hn : Hid (¬ 1 < t.size → Lc.hoB S1 = false) := Lib.hid (fun h => Lc.ho_short (by rw [← hl.out, list_len]; exact h))
  have hb : ((t.extract 0 2).toList == [47, 47]) = Lc.hoB S1 := by rw [Lc.hoB, ← hl.out, ← take_list, ByteArray.toList_eq]
  obtain ⟨q, hq⟩ : ∃ q, q = Lc.hoB S1 := ⟨_, rfl⟩
  rw [← hq] at hb
  replace hq := Lib.hid hq
  have hyes : Hid (Lc.hoB S1 = true → 2 ≤ t.size ∧ ∃ K2, (Lc.cut (t.extract 2 t.size).data.toList (⟨#[47, 63, 35]⟩ : ByteArray).data.toList).length = K2 ∧ K2 + 2 ≤ t.size ∧ t.extract 2 (K2 + 2) = Lc.str (Lc.hoA S1) ∧ (t.extract (K2 + 2) t.size).data.toList = Lc.hoR S1) := Lib.hid (fun h => by
    obtain ⟨h1, h2, h3⟩ := Lc.ho_yes h
    have h4 := Lc.cut_len (S1.drop 2) [47, 63, 35]
    rw [List.length_drop] at h4
    have h5 : t.data.toList.length = t.size := list_len t
    rw [hl.out] at h5
    refine ⟨by omega, _, rfl, ?_, ?_, ?_⟩
    · rw [drop_list, hl.out]
      show (Lc.cut (S1.drop 2) [47, 63, 35]).length + 2 ≤ t.size
      omega
    · rw [sub_list, drop_list, hl.out]
      exact congrArg Lc.str h2
    · rw [drop_list, drop_list, hl.out]
      exact h3)
  go_upto_region 6 with fail
  go_cut [33] (fun c wx => c = .bool q ∧ wc = wx)
  case first =>
    by_cases h1 : 1 < t.size
    · have h1i : (1 : Int) < (t.size : Int) := by omega
      have h2i : (2 : Int) ≤ (t.size : Int) := by omega
      go_wp2_with fail
      go_meet
      exact ⟨rfl, rfl⟩
    · have h1i : ¬ (1 : Int) < (t.size : Int) := by omega
      have h1b : decide ((1 : Int) < (t.size : Int)) = false := by simpa using h1i
      obtain rfl : q = false := hq.out.trans (hn.out h1)
      clear hb
      go_wp2_with fail
      go_meet
      exact ⟨rfl, rfl⟩
  case rest =>
  obtain ⟨rfl, rfl⟩ := hcut
  clear hn hb
  go_upto_if 33 with fail
  go_cut [0] (fun x wx => ∃ t : ByteArray, x = .string t ∧ t.size ≤ 1000000 ∧ Hid (t.data.toList = Lc.hoR S1) ∧ Hid (SP w wx ⟨Lc.scA L, Lc.hoA S1, [], [], [], Lc.scB L, Lc.hoB S1, false, false⟩))
  case first =>
    cases q
    · obtain ⟨n1, n2⟩ := Lc.hoA_no hq.out.symm
      have q1 : Hid (t.data.toList = Lc.hoR S1) := Lib.hid (by rw [n2]; exact hl.out)
      have hP' : Hid (SP w wc ⟨Lc.scA L, Lc.hoA S1, [], [], [], Lc.scB L, Lc.hoB S1, false, false⟩) := Lib.hid (by rw [n1, ← hq.out]; exact hS.out)
      clear n1 n2
      go_wp2_with fail
      go_meet
      exact ⟨t, rfl, ht, q1, hP'⟩
    · obtain ⟨k1, K2, k2, k3, k4, k5⟩ := hyes.out hq.out.symm
      have k1i : (2 : Int) ≤ (t.size : Int) := by omega
      have k3i : (K2 : Int) + 2 ≤ (t.size : Int) := by omega
      have k0i : (2 : Int) ≤ (K2 : Int) + 2 := by omega
      obtain ⟨x0, x1, x2, x3, x4, x5, x6, x7, x8⟩ := uri_open hS.out.c
      have f1 := hS.out.c.free 1
      have f6 := hS.out.c.free 6
      have hP2 := Lib.hid (hS.out.set2 1 6 (.string (t.extract 2 (K2 + 2))) (.bool true) (u' := ⟨Lc.scA L, Lc.hoA S1, [], [], [], Lc.scB L, Lc.hoB S1, false, false⟩) (by rw [k4, ← hq.out]; rfl))
      have k6 := Lib.hid (show (t.extract (K2 + 2) t.size).size ≤ 1000000 by rw [ByteArray.size_extract]; omega)
      have k7 := Lib.hid (hsz.out (t.extract 2 t.size) (by rw [ByteArray.size_extract]; omega))
      replace k2 := Lib.hid k2
      replace k4 := Lib.hid k4
      replace k5 := Lib.hid k5
      clear x0 x2 x3 x4 x5 x7 x8
      go_wp2_with fail
      (with_reducible refine (lFirst_any (t.extract 2 t.size) ⟨#[47, 63, 35]⟩ _ k7.out (by decide)).mono ?_); rintro e w1 ⟨rfl, rfl⟩
      rw [k2.out]
      go_wp2_with fail
      go_meet
      exact ⟨_, rfl, k6.out, k5, hP2⟩
  case rest =>
  clear hyes hq hS hl ht
  obtain ⟨t, rfl, ht, hl, hS⟩ := hcut
  obtain ⟨S2, hS2⟩ : ∃ S, S = Lc.hoR S1 := ⟨_, rfl⟩
  rw [← hS2] at hl
  replace hS2 := Lib.hid hS2
  obtain ⟨K3, k2⟩ : ∃ K3, (Lc.cut t.data.toList (⟨#[63, 35]⟩ : ByteArray).data.toList).length = K3 := ⟨_, rfl⟩
  have k3 : K3 ≤ t.size := by
    have := Lc.cut_len t.data.toList (⟨#[63, 35]⟩ : ByteArray).data.toList
    rw [k2, list_len] at this
    exact this
  have k4 : t.extract 0 K3 = Lc.str (Lc.paA S2) := by
    rw [sub_list, List.drop_zero, ← k2, take_cut', hl.out]
    rfl
  obtain ⟨S3, hS3⟩ : ∃ S, S = Lc.paR S2 := ⟨_, rfl⟩
  have k5 : Hid ((t.extract K3 t.size).data.toList = S3) := Lib.hid (by
    rw [drop_list, ← k2, Lc.drop_cut, hl.out, hS3]
    rfl)
  have k6 := Lib.hid (show (t.extract K3 t.size).size ≤ 1000000 by rw [ByteArray.size_extract]; omega)
  have k7 := Lib.hid (hsz.out t ht)
  have k3i : (K3 : Int) ≤ (t.size : Int) := by omega
  obtain ⟨x0, x1, x2, x3, x4, x5, x6, x7, x8⟩ := uri_open hS.out.c
  have f2 := hS.out.c.free 2
  have hP2 := Lib.hid (hS.out.set 2 (.string (t.extract 0 K3)) (u' := ⟨Lc.scA L, Lc.hoA S1, Lc.paA S2, [], [], Lc.scB L, Lc.hoB S1, false, false⟩) (by rw [k4]; rfl))
  replace k2 := Lib.hid k2
  replace k4 := Lib.hid k4
  replace hS3 := Lib.hid hS3
  clear x0 x1 x3 x4 x5 x6 x7 x8
  go_wp2_with fail
  (with_reducible refine (lFirst_any t ⟨#[63, 35]⟩ _ k7.out (by decide)).mono ?_); rintro e w1 ⟨rfl, rfl⟩
  rw [k2.out]
  go_upto_region 13 with fail
  generalize wc.setCell ⟨w.heap.size + 1, 2, none⟩ (.string (t.extract 0 K3)) = w4 at *
  generalize t.extract K3 t.size = t3 at *
  replace ht := k6.out
  clear x2 f2 hS hl k3 k3i k7 k2 k4 k6
  obtain ⟨q, hq⟩ : ∃ q, q = Lc.quB S3 := ⟨_, rfl⟩
  have h0 : Hid (t3.size = 0 → Lc.quB S3 = false) := Lib.hid (fun h => by
    rw [← k5.out, lnil h]
    rfl)
  have h1 : Hid (∀ h : 0 < t3.size, ((t3[0].toNat : Int) == 63) = q) := Lib.hid (fun h => by
    have := one_byte (c := 63) h
    rw [show ((63 : UInt8).toNat : Int) = 63 from rfl] at this
    have e := lcons t3 0 h
    rw [List.drop_zero] at e
    have e2 : Lc.quB S3 = (t3[0] == 63) := by
      rw [← k5.out]
      unfold Lc.quB
      rw [e]
      rfl
    rw [this, hq, e2]
    rfl)
  have hyes : Hid (Lc.quB S3 = true → ∃ K4, (Lc.cut t3.data.toList (⟨#[35]⟩ : ByteArray).data.toList).length = K4 ∧ 1 ≤ K4 ∧ K4 ≤ t3.size ∧ t3.extract 1 K4 = Lc.str (Lc.quA S3) ∧ (t3.extract K4 t3.size).data.toList = Lc.quR S3) := Lib.hid (fun h => by
    obtain ⟨g1, g2, g3⟩ := Lc.qu_yes h
    have g4 := Lc.cut_len S3 [35]
    have g5 : t3.data.toList.length = t3.size := list_len t3
    rw [k5.out] at g5
    refine ⟨_, rfl, ?_, ?_, ?_, ?_⟩
    · rw [k5.out]; exact g1
    · rw [k5.out]
      show (Lc.cut S3 [35]).length ≤ t3.size
      omega
    · rw [sub_list, k5.out]
      exact congrArg Lc.str g2
    · rw [drop_list, k5.out]
      exact g3)
  replace hq := Lib.hid hq
  go_cut [62] (fun c wx => c = .bool q ∧ w4 = wx)
  case first =>
    by_cases hz : t3.size = 0
    · obtain rfl : q = false := hq.out.trans (h0.out hz)
      have e1 : t3.toList = [] := by rw [ByteArray.toList_eq]; exact lnil hz
      have e2 := empty_is hz
      replace hz := Lib.hid hz
      go_wp2_with fail
      go_meet
      exact ⟨rfl, rfl⟩
    · have hp : 0 < t3.size := by omega
      have hb := h1.out hp
      have hne := ne_empty hp
      have hne3 : ¬ t3.toList = [] := by
        rw [ByteArray.toList_eq]
        exact lst_ne hp
      go_wp2_with fail
      go_meet
      exact ⟨rfl, rfl⟩
  case rest =>
  obtain ⟨rfl, rfl⟩ := hcut
  clear h0 h1
  go_upto_if 62 with fail
  go_cut [0] (fun x wx => ∃ t : ByteArray, x = .string t ∧ t.size ≤ 1000000 ∧ Hid (t.data.toList = Lc.quR S3) ∧ Hid (SP w wx ⟨Lc.scA L, Lc.hoA S1, Lc.paA S2, Lc.quA S3, [], Lc.scB L, Lc.hoB S1, Lc.quB S3, false⟩))
  case first =>
    cases q
    · obtain ⟨n1, n2⟩ := Lc.quA_no hq.out.symm
      have q1 : Hid (t3.data.toList = Lc.quR S3) := Lib.hid (by rw [n2]; exact k5.out)
      have hP' : Hid (SP w w4 ⟨Lc.scA L, Lc.hoA S1, Lc.paA S2, Lc.quA S3, [], Lc.scB L, Lc.hoB S1, Lc.quB S3, false⟩) := Lib.hid (by rw [n1, ← hq.out]; exact hP2.out)
      clear n1 n2
      go_wp2_with fail
      go_meet
      exact ⟨t3, rfl, ht, q1, hP'⟩
    · obtain ⟨K4, g2, g1, g3, g4, g5⟩ := hyes.out hq.out.symm
      have g1i : (1 : Int) ≤ (K4 : Int) := by omega
      have g3i : (K4 : Int) ≤ (t3.size : Int) := by omega
      obtain ⟨x0, x1, x2, x3, x4, x5, x6, x7, x8⟩ := uri_open hP2.out.c
      have f3 := hP2.out.c.free 3
      have f7 := hP2.out.c.free 7
      have hP3 := Lib.hid (hP2.out.set2 3 7 (.string (t3.extract 1 K4)) (.bool true) (u' := ⟨Lc.scA L, Lc.hoA S1, Lc.paA S2, Lc.quA S3, [], Lc.scB L, Lc.hoB S1, Lc.quB S3, false⟩) (by rw [g4, ← hq.out]; rfl))
      have g6 := Lib.hid (show (t3.extract K4 t3.size).size ≤ 1000000 by rw [ByteArray.size_extract]; omega)
      have g7 := Lib.hid (hsz.out t3 ht)
      replace g2 := Lib.hid g2
      replace g4 := Lib.hid g4
      replace g5 := Lib.hid g5
      clear x0 x1 x2 x4 x5 x6 x8
      go_wp2_with fail
      (with_reducible refine (lFirst_any t3 ⟨#[35]⟩ _ g7.out (by decide)).mono ?_); rintro e w1 ⟨rfl, rfl⟩
      rw [g2.out]
      go_wp2_with fail
      go_meet
      exact ⟨_, rfl, g6.out, g5, hP3⟩
  case rest =>
  clear hyes hq hP2 ht k5 t3
  obtain ⟨t, rfl, ht, hl, hS⟩ := hcut
  obtain ⟨S4, hS4⟩ : ∃ S, S = Lc.quR S3 := ⟨_, rfl⟩
  rw [← hS4] at hl
  replace hS4 := Lib.hid hS4
  have hall : Hid (Lc.split L = ⟨Lc.scA L, Lc.hoA S1, Lc.paA S2, Lc.quA S3, Lc.frA S4, Lc.scB L, Lc.hoB S1, Lc.quB S3, Lc.frB S4⟩) := Lib.hid (by
    rw [hS4.out, hS3.out, hS2.out, hS1.out]
    rfl)
  have hfin : ∀ wx, SP w wx (Lc.split L) → Hid (SP w wx (Lc.split L)) := fun _ h => Lib.hid h
  replace hfin := Lib.hid hfin
  go_upto_region 17 with fail
  go_cut [74] (fun c wx => c = .bool (Lc.frB S4) ∧ wc = wx)
  case first =>
    by_cases hz : t.size = 0
    · have e1 : t.toList = [] := by rw [ByteArray.toList_eq]; exact lnil hz
      have e2 := empty_is hz
      have e3 : Hid (Lc.frB S4 = false) := Lib.hid (by rw [← hl.out, lnil hz]; rfl)
      replace hz := Lib.hid hz
      go_wp2_with fail
      go_meet
      exact ⟨by rw [e3.out], rfl⟩
    · have hp : 0 < t.size := by omega
      have hne := ne_empty hp
      have hne3 : ¬ t.toList = [] := by
        rw [ByteArray.toList_eq]
        exact lst_ne hp
      have e3 : Hid (Lc.frB S4 = true) := Lib.hid (by
        have e := lcons t 0 hp
        rw [List.drop_zero, hl.out] at e
        rw [e]
        rfl)
      go_wp2_with fail
      go_meet
      exact ⟨by rw [e3.out], rfl⟩
  case rest =>
  obtain ⟨rfl, rfl⟩ := hcut
  obtain ⟨q, hq⟩ : ∃ q, q = Lc.frB S4 := ⟨_, rfl⟩
  rw [← hq]
  replace hq := Lib.hid hq
  go_upto_if 74 with fail
  go_cut [0] (fun _ wx => Hid (SP w wx (Lc.split L)))
  case first =>
    cases q
    · have hnil : Lc.frA S4 = [] := by
        have := hq.out
        unfold Lc.frB at this
        cases hS : S4 with
        | nil => rfl
        | cons b l => rw [hS] at this; cases this
      have hP' : Hid (SP w wc (Lc.split L)) := Lib.hid (by rw [hall.out, hnil, ← hq.out]; exact hS.out)
      clear hnil
      go_wp2_with fail
      go_meet
      exact hP'
    · have hp : 0 < t.size := by
        refine Nat.pos_of_ne_zero fun hz => ?_
        have := hq.out
        rw [← hl.out, lnil hz] at this
        cases this
      have hpi : (1 : Int) ≤ (t.size : Int) := by omega
      have k4 : t.extract 1 t.size = Lc.str (Lc.frA S4) := by rw [Lc.frA, ← hl.out, ← drop_list, ← Lc.str_of rfl]
      obtain ⟨x0, x1, x2, x3, x4, x5, x6, x7, x8⟩ := uri_open hS.out.c
      have f4 := hS.out.c.free 4
      have f8 := hS.out.c.free 8
      have hP3 := Lib.hid (hS.out.set2 4 8 (.string (t.extract 1 t.size)) (.bool true) (u' := Lc.split L) (by rw [hall.out, k4, ← hq.out]; rfl))
      replace k4 := Lib.hid k4
      clear x0 x1 x2 x3 x5 x6 x7
      go_wp2_with fail
      go_meet
      exact hP3
  case rest =>
  have hS := hcut
  clear hall hl ht hq hcut
  obtain ⟨u, hu⟩ : ∃ u, u = Lc.split L := ⟨_, rfl⟩
  rw [← hu] at hS
  replace hu := Lib.hid hu
  obtain ⟨y0, y1, y2, y3, y4, y5, y6, y7, y8⟩ := uri_open hS.out.c
  obtain ⟨x0, x1, x2, x3, x4, x5, x6, x7, x8⟩ := zero_open hS.out.r
  have f0 := hS.out.r.free 0
  have f1 := hS.out.r.free 1
  have f2 := hS.out.r.free 2
  have f3 := hS.out.r.free 3
  have f4 := hS.out.r.free 4
  have f5 := hS.out.r.free 5
  have f6 := hS.out.r.free 6
  have f7 := hS.out.r.free 7
  have f8 := hS.out.r.free 8
  have hN := Lib.hid (nine_cells (A := uArr Lc.none) rfl hS.out.r (.string (Lc.str u.scheme)) (.string (Lc.str u.host)) (.string (Lc.str u.path)) (.string (Lc.str u.query)) (.string (Lc.str u.frag)) (.bool u.hasS) (.bool u.hasH) (.bool u.hasQ) (.bool u.hasF))
  have hB := Lib.hid (nine_below hS.out.low (Nat.le_refl _) (.string (Lc.str u.scheme)) (.string (Lc.str u.host)) (.string (Lc.str u.path)) (.string (Lc.str u.query)) (.string (Lc.str u.frag)) (.bool u.hasS) (.bool u.hasH) (.bool u.hasQ) (.bool u.hasF))
  clear hS
  go_wp2_with fail
  exact uri_end (rb := w.heap.size) rfl rfl hN.out ⟨by rw [hu.out], hB.out⟩
end Go.Proofs.YtbaclacfadkjdaaGreatDoor
namespace Go.Proofs.YtbaclacfadkjdaaGreatDoor
open Go.RowKit
namespace Lc
theorem scA_len (l : List UInt8) : (scA l).length ≤ l.length := by
  unfold scA
  split
  · exact cut_len _ _
  · simp
theorem scR_len (l : List UInt8) : (scR l).length ≤ l.length := by
  unfold scR
  split
  · have := rest_len l [58, 47, 63, 35]
    rw [List.length_drop]
    omega
  · omega
theorem hoA_len (l : List UInt8) : (hoA l).length ≤ l.length := by
  unfold hoA
  split
  · have := cut_len (l.drop 2) [47, 63, 35]
    rw [List.length_drop] at this
    omega
  · simp
theorem hoR_len (l : List UInt8) : (hoR l).length ≤ l.length := by
  unfold hoR
  split
  · have := rest_len (l.drop 2) [47, 63, 35]
    rw [List.length_drop] at this
    omega
  · omega
theorem quA_len (l : List UInt8) : (quA l).length ≤ l.length := by
  unfold quA
  split
  · have := cut_len l [35]
    rw [List.length_drop]
    omega
  · simp
theorem quR_len (l : List UInt8) : (quR l).length ≤ l.length := by
  unfold quR
  split
  · exact rest_len l [35]
  · omega
theorem split_len (l : List UInt8) : (split l).scheme.length ≤ l.length ∧ (split l).host.length ≤ l.length ∧ (split l).path.length ≤ l.length ∧ (split l).query.length ≤ l.length ∧ (split l).frag.length ≤ l.length := by
  have h1 := scR_len l
  have h2 := hoR_len (scR l)
  have h3 := rest_len (hoR (scR l)) [63, 35]
  have h4 := quR_len (paR (hoR (scR l)))
  have h5 := hoA_len (scR l)
  have h6 := cut_len (hoR (scR l)) [63, 35]
  have h7 := quA_len (paR (hoR (scR l)))
  have h8 := scA_len l
  have h9 : (frA (quR (paR (hoR (scR l))))).length ≤ (quR (paR (hoR (scR l)))).length := by unfold frA; rw [List.length_drop]; omega
  unfold paR at *
  unfold split paA paR
  dsimp only
  exact ⟨by omega, by omega, by omega, by omega, by omega⟩
def fineU (u : U) : Bool := (!u.hasS || scheme u.scheme) && signs [91, 93] u.host && signs [47] u.path && signs [47, 63] u.query && signs [47, 63] u.frag
def fine (l : List UInt8) : Bool := decide (G.checkN l = 0) && fineU (split l)
def parseU (l : List UInt8) : U := if fine l = true then split l else none
def parseE (l : List UInt8) : Int := if fine l = true then 0 else 120
end Lc
set_option maxRecDepth 100000 in
set_option maxHeartbeats 12800000 in
theorem lParse_any (s : ByteArray) (w : World) (hs : s.size ≤ 1000000) : Calls Tryz.prog 63 #[.string s] w fun e w' => e = .returned (.tuple #[.agg (uArr (Lc.parseU s.data.toList)), .int .i64 (Lc.parseE s.data.toList)]) ∧ Below w.heap.size w w' := by
  have kR := Cells.new w 83 #[.string ⟨#[]⟩, .string ⟨#[]⟩, .string ⟨#[]⟩, .string ⟨#[]⟩, .string ⟨#[]⟩, .bool false, .bool false, .bool false, .bool false]
  have bR := (Below.refl w.heap.size w).alloc (Nat.le_refl _) (.cells #[.string ⟨#[]⟩, .string ⟨#[]⟩, .string ⟨#[]⟩, .string ⟨#[]⟩, .string ⟨#[]⟩, .bool false, .bool false, .bool false, .bool false] 83)
  have hsm : s.size ≤ maxLen := by unfold maxLen; omega
  have cs := Lib.hid (fun W => lSplit_any s W hs)
  have cc := Lib.hid (fun W => refCheck_any s W hsm)
  obtain ⟨L, hL⟩ : ∃ L, L = s.data.toList := ⟨_, rfl⟩
  have hfit : Hid (∀ l : List UInt8, l.length ≤ L.length → (Lc.str l).size ≤ 1000000) := Lib.hid (fun l h => by
    rw [Lc.str_size]
    rw [hL, list_len] at h
    omega)
  rw [← hL] at cs cc ⊢
  obtain ⟨u, hu⟩ : ∃ u, u = Lc.split L := ⟨_, rfl⟩
  obtain ⟨z0, z1, z2, z3, z4⟩ : _ ∧ _ ∧ _ ∧ _ ∧ _ := Lc.split_len L
  rw [← hu] at cs z0 z1 z2 z3 z4
  obtain ⟨ce, hce⟩ : ∃ ce, ce = G.checkN L := ⟨_, rfl⟩
  rw [← hce] at cc
  have hfu : Hid (Lc.fine L = (decide (ce = 0) && Lc.fineU u)) := Lib.hid (by rw [Lc.fine, ← hce, ← hu])
  have c0 := Lib.hid (fun W => lScheme_any (Lc.str u.scheme) W (hfit.out _ z0))
  have c1 := Lib.hid (fun W => lSigns_any (Lc.str u.host) ⟨#[91, 93]⟩ [91, 93] W (hfit.out _ z1) (by decide) rfl)
  have c2 := Lib.hid (fun W => lSigns_any (Lc.str u.path) ⟨#[47]⟩ [47] W (hfit.out _ z2) (by decide) rfl)
  have c3 := Lib.hid (fun W => lSigns_any (Lc.str u.query) ⟨#[47, 63]⟩ [47, 63] W (hfit.out _ z3) (by decide) rfl)
  have c4 := Lib.hid (fun W => lSigns_any (Lc.str u.frag) ⟨#[47, 63]⟩ [47, 63] W (hfit.out _ z4) (by decide) rfl)
  rw [Lc.str_list] at c0 c1 c2 c3 c4
  replace hL := Lib.hid hL
  replace hu := Lib.hid hu
  replace hce := Lib.hid hce
  clear z0 z1 z2 z3 z4 hfit hsm hs
  go_enter Tryz.func63, Tryz.ntmps63
  replace kR := Lib.hid kR
  go_wp2_with fail
  (refine (cs.out _).mono ?_); rintro e w1 ⟨rfl, b1⟩
  have kR1 := kR.out.on b1
  have bR1 := bR.trans (b1.mono bR.size)
  have kU := Cells.new w1 83 (uArr u)
  have bU := (Below.refl w1.heap.size w1).alloc (Nat.le_refl _) (.cells (uArr u) 83)
  have kR2 := kR1.on bU
  have bR2 := bR1.trans (bU.mono bR1.size)
  have hne : ¬ w.heap.size = w1.heap.size := by have := kR1.lt; omega
  clear kR kR1 bR1 b1 bU bR cs
  unfold uArr at kU kR2 bR2 ⊢
  go_upto_region 2 with fail
  generalize w1.alloc (.cells #[.string (Lc.str u.scheme), .string (Lc.str u.host), .string (Lc.str u.path), .string (Lc.str u.query), .string (Lc.str u.frag), .bool u.hasS, .bool u.hasH, .bool u.hasQ, .bool u.hasF] 83) = w2 at *
  replace kU := Lib.hid kU
  replace kR2 := Lib.hid kR2
  replace bR2 := Lib.hid bR2
  go_cut [43] (fun c wx => c = .bool (!Lc.fine L) ∧ Hid (Below w2.heap.size w2 wx))
  case first =>
    go_wp2_with fail
    (refine (cc.out _).mono ?_); rintro e w3 ⟨rfl, b3⟩
    obtain ⟨y0, y1, y2, y3, y4, y5, y6, y7, y8⟩ := uri_open (u := u) (kU.out.on b3)
    replace b3 := Lib.hid b3
    by_cases h0 : ce = 0
    case neg =>
      have h0i : ¬ (ce : Int) = 0 := by omega
      have h0b : ((ce : Int) != 0) = true := by rw [bne_iff_ne]; omega
      have hq : Hid (Lc.fine L = false) := Lib.hid (by rw [hfu.out, decide_eq_false h0]; rfl)
      clear h0
      go_wp2_with fail
      go_meet
      exact ⟨by rw [hq.out]; rfl, b3⟩
    have hq : Hid (Lc.fine L = Lc.fineU u) := Lib.hid (by rw [hfu.out, decide_eq_true h0]; rfl)
    have h0i : (ce : Int) = 0 := by omega
    have h0b : ((ce : Int) != 0) = false := by rw [bne_eq_false_iff_eq]; omega
    clear h0
    cases hS : u.hasS
    case false =>
      rw [hS] at y5
      replace hS := Lib.hid hS
      go_wp2_with fail
      (refine (c1.out _).mono ?_); rintro e w9 ⟨rfl, rfl⟩
      cases g1 : Lc.signs [91, 93] u.host
      case false =>
        have hf : Hid (Lc.fine L = false) := Lib.hid (by rw [hq.out, Lc.fineU, g1]; simp)
        replace g1 := Lib.hid g1
        go_wp2_with fail
        go_meet
        exact ⟨by rw [hf.out]; rfl, b3⟩
      replace g1 := Lib.hid g1
      go_wp2_with fail
      (refine (c2.out _).mono ?_); rintro e w9 ⟨rfl, rfl⟩
      cases g2 : Lc.signs [47] u.path
      case false =>
        have hf : Hid (Lc.fine L = false) := Lib.hid (by rw [hq.out, Lc.fineU, g2]; simp)
        replace g2 := Lib.hid g2
        go_wp2_with fail
        go_meet
        exact ⟨by rw [hf.out]; rfl, b3⟩
      replace g2 := Lib.hid g2
      go_wp2_with fail
      (refine (c3.out _).mono ?_); rintro e w9 ⟨rfl, rfl⟩
      cases g3 : Lc.signs [47, 63] u.query
      case false =>
        have hf : Hid (Lc.fine L = false) := Lib.hid (by rw [hq.out, Lc.fineU, g3]; simp)
        replace g3 := Lib.hid g3
        go_wp2_with fail
        go_meet
        exact ⟨by rw [hf.out]; rfl, b3⟩
      replace g3 := Lib.hid g3
      go_wp2_with fail
      (refine (c4.out _).mono ?_); rintro e w9 ⟨rfl, rfl⟩
      cases g4 : Lc.signs [47, 63] u.frag
      case false =>
        have hf : Hid (Lc.fine L = false) := Lib.hid (by rw [hq.out, Lc.fineU, g4]; simp)
        replace g4 := Lib.hid g4
        go_wp2_with fail
        go_meet
        exact ⟨by rw [hf.out]; rfl, b3⟩
      replace g4 := Lib.hid g4
      go_wp2_with fail
      have hf : Hid (Lc.fine L = true) := Lib.hid (by rw [hq.out, Lc.fineU, hS.out, g1.out, g2.out, g3.out, g4.out]; rfl)
      go_meet
      exact ⟨by rw [hf.out]; rfl, b3⟩
    rw [hS] at y5
    replace hS := Lib.hid hS
    go_wp2_with fail
    (refine (c0.out _).mono ?_); rintro e w9 ⟨rfl, rfl⟩
    cases g0 : Lc.scheme u.scheme
    case false =>
      have hf : Hid (Lc.fine L = false) := Lib.hid (by rw [hq.out, Lc.fineU, hS.out, g0]; simp)
      replace g0 := Lib.hid g0
      go_wp2_with fail
      go_meet
      exact ⟨by rw [hf.out]; rfl, b3⟩
    replace g0 := Lib.hid g0
    go_wp2_with fail
    (refine (c1.out _).mono ?_); rintro e w9 ⟨rfl, rfl⟩
    cases g1 : Lc.signs [91, 93] u.host
    case false =>
      have hf : Hid (Lc.fine L = false) := Lib.hid (by rw [hq.out, Lc.fineU, g1]; simp)
      replace g1 := Lib.hid g1
      go_wp2_with fail
      go_meet
      exact ⟨by rw [hf.out]; rfl, b3⟩
    replace g1 := Lib.hid g1
    go_wp2_with fail
    (refine (c2.out _).mono ?_); rintro e w9 ⟨rfl, rfl⟩
    cases g2 : Lc.signs [47] u.path
    case false =>
      have hf : Hid (Lc.fine L = false) := Lib.hid (by rw [hq.out, Lc.fineU, g2]; simp)
      replace g2 := Lib.hid g2
      go_wp2_with fail
      go_meet
      exact ⟨by rw [hf.out]; rfl, b3⟩
    replace g2 := Lib.hid g2
    go_wp2_with fail
    (refine (c3.out _).mono ?_); rintro e w9 ⟨rfl, rfl⟩
    cases g3 : Lc.signs [47, 63] u.query
    case false =>
      have hf : Hid (Lc.fine L = false) := Lib.hid (by rw [hq.out, Lc.fineU, g3]; simp)
      replace g3 := Lib.hid g3
      go_wp2_with fail
      go_meet
      exact ⟨by rw [hf.out]; rfl, b3⟩
    replace g3 := Lib.hid g3
    go_wp2_with fail
    (refine (c4.out _).mono ?_); rintro e w9 ⟨rfl, rfl⟩
    cases g4 : Lc.signs [47, 63] u.frag
    case false =>
      have hf : Hid (Lc.fine L = false) := Lib.hid (by rw [hq.out, Lc.fineU, g4]; simp)
      replace g4 := Lib.hid g4
      go_wp2_with fail
      go_meet
      exact ⟨by rw [hf.out]; rfl, b3⟩
    replace g4 := Lib.hid g4
    go_wp2_with fail
    have hf : Hid (Lc.fine L = true) := Lib.hid (by rw [hq.out, Lc.fineU, hS.out, g0.out, g1.out, g2.out, g3.out, g4.out]; rfl)
    go_meet
    exact ⟨by rw [hf.out]; rfl, b3⟩
  case rest =>
  obtain ⟨rfl, bx⟩ := hcut
  have kR3 := kR2.out.on bx.out
  have kU3 := kU.out.on bx.out
  have bR3 := bR2.out.trans (bx.out.mono bR2.out.size)
  obtain ⟨x0, x1, x2, x3, x4, x5, x6, x7, x8⟩ := zero_open (show Cells _ _ _ (uArr Lc.none) from kR3)
  have f0 := kR3.free 0
  have f1 := kR3.free 1
  have f2 := kR3.free 2
  have f3 := kR3.free 3
  have f4 := kR3.free 4
  have f5 := kR3.free 5
  have f6 := kR3.free 6
  have f7 := kR3.free 7
  have f8 := kR3.free 8
  obtain ⟨y0, y1, y2, y3, y4, y5, y6, y7, y8⟩ := uri_open (u := u) kU3
  have hN := Lib.hid (nine_cells (A := uArr Lc.none) rfl kR3 (.string (Lc.str u.scheme)) (.string (Lc.str u.host)) (.string (Lc.str u.path)) (.string (Lc.str u.query)) (.string (Lc.str u.frag)) (.bool u.hasS) (.bool u.hasH) (.bool u.hasQ) (.bool u.hasF))
  have hB := Lib.hid (nine_below bR3 (Nat.le_refl _) (.string (Lc.str u.scheme)) (.string (Lc.str u.host)) (.string (Lc.str u.path)) (.string (Lc.str u.query)) (.string (Lc.str u.frag)) (.bool u.hasS) (.bool u.hasH) (.bool u.hasQ) (.bool u.hasF))
  have hN2 := Lib.hid (nine_cells (A := uArr Lc.none) rfl kR3 (.string ⟨#[]⟩) (.string ⟨#[]⟩) (.string ⟨#[]⟩) (.string ⟨#[]⟩) (.string ⟨#[]⟩) (.bool false) (.bool false) (.bool false) (.bool false))
  have hB2 := Lib.hid (nine_below bR3 (Nat.le_refl _) (.string ⟨#[]⟩) (.string ⟨#[]⟩) (.string ⟨#[]⟩) (.string ⟨#[]⟩) (.string ⟨#[]⟩) (.bool false) (.bool false) (.bool false) (.bool false))
  clear kR3 kU3 bR3 bx kR2 kU bR2 hfu cc c0 c1 c2 c3 c4
  cases hq : Lc.fine L
  case true =>
    have hfin : Hid (Lc.parseU L = u ∧ Lc.parseE L = 0) := Lib.hid (by rw [Lc.parseU, Lc.parseE, hq, if_pos rfl, if_pos rfl]; exact ⟨hu.out.symm, rfl⟩)
    rw [show (!true) = false from rfl]
    replace hq := Lib.hid hq
    go_wp2_with fail
    exact uri_end2 (rb := w.heap.size) (u := u) rfl rfl rfl hN.out ⟨by rw [hfin.out.1, hfin.out.2], hB.out⟩
  case false =>
    have hfin : Hid (Lc.parseU L = Lc.none ∧ Lc.parseE L = 120) := Lib.hid (by rw [Lc.parseU, Lc.parseE, hq, if_neg (by simp), if_neg (by simp)]; exact ⟨rfl, rfl⟩)
    rw [show (!false) = true from rfl]
    replace hq := Lib.hid hq
    go_wp2_with fail
    exact uri_end2 (rb := w.heap.size) (u := Lc.none) rfl rfl rfl hN2.out ⟨by rw [hfin.out.1, hfin.out.2], hB2.out⟩
end Go.Proofs.YtbaclacfadkjdaaGreatDoor
