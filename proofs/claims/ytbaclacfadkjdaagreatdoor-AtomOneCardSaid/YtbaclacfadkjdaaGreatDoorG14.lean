/-
  The program's split: a reference's parts, taken from the end on.
  Whether parts are a reference's, as the program asks it; the program's Parse.
  The program's closed forms of the calendar, in plain Lean: years that begin in March; they are the calendar's days.
  What the program's own words of the calendar come to: contracts of isWithin, isLeap, lastDay, monthStart, dayOf, dateOf.
-/
import Derived.Test.YtbaclacfadkjdaaGreatDoorG13
import Derived.Test.YtbaclacfadkjdaaGreatDoorG09
import Derived.Deep.DeepCutAuto
import Derived.Test.YtbaclacfadkjdaaGreatDoorG12
import Derived.Test.YtbaclacfadkjdaaGreatDoorG07
import Derived.Test.YtbaclacfadkjdaaGreatDoorG01
namespace Go.Proofs.YtbaclacfadkjdaaGreatDoor
open Go.RowKit
theorem Lc.any_is (l m : List UInt8) : Lib.indexAny l m = if (Lc.cut l m).length < l.length then ((Lc.cut l m).length : Int) else -1 := by
  rw [Lc.any_cut]
  have h := congrArg List.length (Lc.cut_rest l m)
  rw [List.length_append] at h
  by_cases hr : Lc.rest l m = []
  · rw [if_pos hr, if_neg]
    rw [hr, List.length_nil] at h
    omega
  · rw [if_neg hr, if_pos]
    have := List.length_pos_iff.2 hr
    omega
structure SR (w w' : World) (u : Lc.U) : Prop where
  low : Below w.heap.size w w'
  c : Cells w' w.heap.size 83 (uArr u)
theorem SR.first (w : World) : SR w (w.alloc (.cells (uArr Lc.none) 83)) Lc.none :=
  ⟨(Below.refl _ _).alloc (Nat.le_refl _) _, Cells.new w 83 (uArr Lc.none)⟩
theorem SR.on {w w1 w2 : World} {u : Lc.U} (h : SR w w1 u) (b : Below w1.heap.size w1 w2) : SR w w2 u := ⟨h.low.trans (b.mono h.low.size), h.c.on b⟩
theorem SR.drew {w w1 : World} {u : Lc.U} (h : SR w w1 u) : SR w w1.drew u := ⟨h.low.drew, h.c.drew⟩
theorem SR.set {w w' : World} {u u' : Lc.U} (h : SR w w' u) (i : Nat) (v : Value) (hA : (uArr u).setIfInBounds i v = uArr u') : SR w (w'.setCell ⟨w.heap.size, i, none⟩ v) u' :=
  ⟨h.low.setCell (p := ⟨w.heap.size, i, none⟩) (Nat.le_refl _) _, by have := h.c.set i v; rwa [hA] at this⟩
theorem SR.set2 {w w' : World} {u u' : Lc.U} (h : SR w w' u) (i j : Nat) (v x : Value) (hA : ((uArr u).setIfInBounds i v).setIfInBounds j x = uArr u') : SR w ((w'.setCell ⟨w.heap.size, i, none⟩ v).setCell ⟨w.heap.size, j, none⟩ x) u' :=
  ⟨(h.low.setCell (p := ⟨w.heap.size, i, none⟩) (Nat.le_refl _) _).setCell (p := ⟨w.heap.size, j, none⟩) (Nat.le_refl _) _, by have := (h.c.set i v).set j x; rwa [hA] at this⟩
set_option maxRecDepth 100000 in
set_option maxHeartbeats 12800000 in
theorem pSplit_any (s : ByteArray) (w : World) (hs : s.size ≤ 1000000) (hE : Env w) : Calls Tryz.prog 72 #[.string s] w fun e w' => e = .returned (.agg (uArr (Lc.split s.data.toList))) ∧ Below w.heap.size w w' := by
  have hP : SR w (w.alloc (.cells #[.string ⟨#[]⟩, .string ⟨#[]⟩, .string ⟨#[]⟩, .string ⟨#[]⟩, .string ⟨#[]⟩, .bool false, .bool false, .bool false, .bool false] 83)) Lc.none := SR.first w
  replace hE := Lib.hid (fun w1 b => hE.on (w1 := w1) b)
  have hcu := Lib.hid (fun (t : ByteArray) W h1 (h2 : Below w.heap.size w W) => pCut_any t ⟨#[35]⟩ 35 W h1 rfl (hE.out W h2))
  have hcuq := Lib.hid (fun (t : ByteArray) W h1 (h2 : Below w.heap.size w W) => pCut_any t ⟨#[63]⟩ 63 W h1 rfl (hE.out W h2))
  have hpre := Lib.hid (fun (t : ByteArray) W => pCutPrefix_any t ⟨#[47, 47]⟩ [47, 47] W rfl)
  have hup := Lib.hid (fun (t : ByteArray) W (h : t.size ≤ 1000000) => pUpTo_any t W (by unfold maxLen; omega))
  obtain ⟨L, hL⟩ : ∃ L, L = s.data.toList := ⟨_, rfl⟩
  rw [← hL]
  have hlen : L.length = s.size := by rw [hL, list_len]
  have hcl := Lc.cut_len L [58, 47, 63, 35]
  have hac := Lc.any_is L [58, 47, 63, 35]
  obtain ⟨K, hK⟩ : ∃ K, K = (Lc.cut L [58, 47, 63, 35]).length := ⟨_, rfl⟩
  rw [← hK, hlen] at hcl hac
  have sy : Hid (∀ h : K < s.size, ((s[K].toNat : Int) == 58) = Lc.scB L) := Lib.hid (fun h => by
    have e2 := Lc.sc_is (l := L) (by rw [← hK, hlen]; exact h)
    rw [e2]
    have := one_byte (c := 58) h
    rw [show ((58 : UInt8).toNat : Int) = 58 from rfl] at this
    rw [this]
    subst hL
    simp only [← hK])
  have sn : Hid (¬ K < s.size → Lc.scB L = false) := Lib.hid (fun h => Lc.sc_no (by rw [← hK, hlen]; exact h))
  have sz : Hid (Lc.scB L = true → K < s.size ∧ s.extract 0 K = Lc.str (Lc.scA L) ∧ (s.extract (K + 1) s.size).data.toList = Lc.scR L) := Lib.hid (fun h => by
    have := Lc.sc_yes h
    rw [← hK] at this
    refine ⟨by rw [← hlen]; exact this.1, by rw [sub_list, List.drop_zero, ← hL, this.2.1], by rw [drop_list, ← hL, this.2.2]⟩)
  have hany := Lib.hid (fun W => indexAny_any s ⟨#[58, 47, 63, 35]⟩ W hs rfl (by decide))
  have e1 : Hid (∀ W, Calls Tryz.prog 100 #[.string s, .string ⟨#[58, 47, 63, 35]⟩] W fun e w' => e = .returned (.int .i64 (if K < s.size then (K : Int) else -1)) ∧ Below W.heap.size W w') := Lib.hid (fun W => by
    have := hany.out W
    rw [← hac, hL]
    exact this)
  obtain ⟨J, hJ⟩ : ∃ J : Int, J = if K < s.size then (K : Int) else -1 := ⟨_, rfl⟩
  rw [← hJ] at e1
  replace hJ := Lib.hid hJ
  replace hL := Lib.hid hL
  replace hlen := Lib.hid hlen
  replace hK := Lib.hid hK
  clear hany hac
  go_enter Tryz.func72, Tryz.ntmps72
  go_upto_region 1 with fail
  generalize hw0 : w.alloc (.cells #[.string ⟨#[]⟩, .string ⟨#[]⟩, .string ⟨#[]⟩, .string ⟨#[]⟩, .string ⟨#[]⟩, .bool false, .bool false, .bool false, .bool false] 83) = w0 at *
  clear hw0
  replace hP := Lib.hid hP
  go_wp2_with fail
  (refine (e1.out _).mono ?_); rintro e w1 ⟨rfl, b1⟩
  replace hP := Lib.hid (hP.out.on b1)
  clear e1 b1
  go_upto_region 2 with fail
  go_cut [16] (fun c wx => ∃ q, c = .bool q ∧ Hid (q = Lc.scB L) ∧ w1 = wx)
  case first =>
    by_cases hk : K < s.size
    · obtain rfl : J = (K : Int) := hJ.out.trans (if_pos hk)
      have hb := sy.out hk
      obtain ⟨q, hq⟩ : ∃ q, q = Lc.scB L := ⟨_, rfl⟩
      rw [← hq] at hb
      replace hq := Lib.hid hq
      go_wp2_with fail
      go_meet
      exact ⟨q, rfl, hq, rfl⟩
    · obtain rfl : J = -1 := hJ.out.trans (if_neg hk)
      have hq := Lib.hid (sn.out hk).symm
      go_wp2_with fail
      go_meet
      exact ⟨false, rfl, hq, rfl⟩
  case rest =>
  obtain ⟨q, rfl, hq, rfl⟩ := hcut
  clear sn sy
  go_upto_if 16 with fail
  go_cut [0] (fun x wx => ∃ t : ByteArray, x = .string t ∧ t.size ≤ 1000000 ∧ Hid (t.data.toList = Lc.scR L) ∧ Hid (SR w wx ⟨Lc.scA L, [], [], [], [], Lc.scB L, false, false, false⟩))
  case first =>
    cases q
    · obtain ⟨n1, n2⟩ := Lc.scA_no hq.out.symm
      have q1 : Hid (s.data.toList = Lc.scR L) := Lib.hid (by rw [n2]; exact hL.out.symm)
      have hP' : Hid (SR w w1 ⟨Lc.scA L, [], [], [], [], Lc.scB L, false, false, false⟩) := Lib.hid (by rw [n1, ← hq.out]; exact hP.out)
      clear n1 n2
      go_wp2_with fail
      go_meet
      exact ⟨s, rfl, hs, q1, hP'⟩
    · obtain ⟨k1, k2, k3⟩ := sz.out hq.out.symm
      obtain rfl : J = (K : Int) := hJ.out.trans (if_pos k1)
      have k1i : (K : Int) + 1 ≤ (s.size : Int) := by omega
      have kw : IntKind.i64.wrap ((K : Int) + 1) = (K : Int) + 1 := wrap_small _ (by omega) (by omega)
      have k0i : (0 : Int) ≤ (K : Int) + 1 := by omega
      obtain ⟨x0, x1, x2, x3, x4, x5, x6, x7, x8⟩ := zero_open hP.out.c
      have f0 := hP.out.c.free 0
      have f5 := hP.out.c.free 5
      have hP2 := Lib.hid (hP.out.set2 0 5 (.string (s.extract 0 K)) (.bool true) (u' := ⟨Lc.scA L, [], [], [], [], Lc.scB L, false, false, false⟩) (by rw [k2, ← hq.out]; rfl))
      have k4 := Lib.hid (show (s.extract (K + 1) s.size).size ≤ 1000000 by rw [ByteArray.size_extract]; omega)
      replace k2 := Lib.hid k2
      replace k3 := Lib.hid k3
      replace hq := Lib.hid hq
      clear x1 x2 x3 x4 x6 x7 x8
      go_wp2_with fail
      go_region
      have hP3 := Lib.hid hP2.out.drew
      go_wp2_with fail
      go_meet
      exact ⟨_, rfl, k4.out, k3, hP3⟩
  case rest =>
  obtain ⟨t, rfl, ht, hl, hS⟩ := hcut
  clear sz hP hq hJ hcl hlen hK hL
  obtain ⟨S1, hS1⟩ : ∃ S, S = Lc.scR L := ⟨_, rfl⟩
  rw [← hS1] at hl
  obtain ⟨p0, p1, p2, p3, p4, p5, p6⟩ := Lc.split_end S1
  have ca := hcu.out t wc ht hS.out.low
  rw [hl.out] at ca
  have z1 := Lc.cut_len S1 [35]
  have z2 : S1.length ≤ 1000000 := by rw [← hl.out, list_len]; exact ht
  obtain ⟨a, ha⟩ : ∃ a, a = Lc.cut S1 [35] := ⟨_, rfl⟩
  obtain ⟨ra, hra⟩ : ∃ a, a = Lc.rest S1 [35] := ⟨_, rfl⟩
  rw [← ha] at p0 p1 p2 p3 p4 ca z1
  rw [← hra] at p5 p6 ca
  have z3 := Lc.cut_len a [63]
  have cq := Lib.hid (fun W (h : Below w.heap.size w W) => hcuq.out (Lc.str a) W (by rw [Lc.str_size]; omega) h)
  rw [Lc.str_list] at cq
  obtain ⟨b, hb⟩ : ∃ b, b = Lc.cut a [63] := ⟨_, rfl⟩
  obtain ⟨rb, hrb⟩ : ∃ b, b = Lc.rest a [63] := ⟨_, rfl⟩
  rw [← hb] at p0 p1 p2 cq z3
  rw [← hrb] at p3 p4 cq
  have cp : Hid (∀ W, Calls Tryz.prog 101 #[.string (Lc.str b), .string ⟨#[47, 47]⟩] W fun e w' => e = .returned (.tuple #[.string (Lc.str (if Lc.hoB b then b.drop 2 else b)), .bool (Lc.hoB b)]) ∧ w' = W) := Lib.hid (fun W => by
    have := hpre.out (Lc.str b) W
    rw [Lc.str_list] at this
    exact this)
  obtain ⟨B2, hB2⟩ : ∃ x, x = if Lc.hoB b then b.drop 2 else b := ⟨_, rfl⟩
  have hB2l : B2.length ≤ 1000000 := by
    rw [hB2]
    split
    · rw [List.length_drop]; omega
    · omega
  obtain ⟨T2, hT2⟩ : ∃ x, x = Lc.str B2 := ⟨_, rfl⟩
  have hT2l : T2.data.toList = B2 := by rw [hT2, Lc.str_list]
  have hT2s : T2.size = B2.length := by rw [← hT2l, list_len]
  obtain ⟨n, hn⟩ : ∃ n, n = (Lc.cut B2 [47]).length := ⟨_, rfl⟩
  have hn2 : n ≤ T2.size := by rw [hn, hT2s]; exact Lc.cut_len _ _
  have hu := Lib.hid (fun W => by
    have := hup.out T2 W (by omega)
    rw [hT2l, ← hn] at this
    exact this)
  have g1 : Hid (T2.extract 0 n = Lc.str (Lc.cut B2 [47])) := Lib.hid (by rw [sub_list, List.drop_zero, hT2l, hn, Lc.take_cut])
  have g2 : Hid (T2.extract n T2.size = Lc.str (Lc.rest B2 [47])) := Lib.hid (Lc.str_of (by rw [drop_list, hT2l, hn, Lc.drop_cut]))
  rw [← hB2, ← hT2] at cp
  replace hT2 := Lib.hid hT2
  replace hT2l := Lib.hid hT2l
  replace hT2s := Lib.hid hT2s
  replace hB2l := Lib.hid hB2l
  replace hn := Lib.hid hn
  have hall : Hid (Lc.split L = ⟨Lc.scA L, if Lc.hoB b then Lc.cut (b.drop 2) [47] else [], if Lc.hoB b then Lc.rest (b.drop 2) [47] else b, rb.drop 1, ra.drop 1, Lc.scB L, Lc.hoB b, !rb.isEmpty, !ra.isEmpty⟩) := Lib.hid (by
    unfold Lc.split
    rw [← hS1, p1, p2, p3, p4, p5, p6, p0])
  obtain ⟨fr, hfr⟩ : ∃ x, x = ra.drop 1 := ⟨_, rfl⟩
  obtain ⟨fb, hfb⟩ : ∃ x, x = !ra.isEmpty := ⟨_, rfl⟩
  obtain ⟨qr, hqr⟩ : ∃ x, x = rb.drop 1 := ⟨_, rfl⟩
  obtain ⟨qb, hqb⟩ : ∃ x, x = !rb.isEmpty := ⟨_, rfl⟩
  rw [← hfr, ← hfb] at ca hall
  rw [← hqr, ← hqb] at cq hall
  replace hfr := Lib.hid hfr
  replace hfb := Lib.hid hfb
  replace hqr := Lib.hid hqr
  replace hqb := Lib.hid hqb
  have z4 : Hid (b.length ≤ 1000000) := Lib.hid (by omega)
  replace hS1 := Lib.hid hS1
  replace ha := Lib.hid ha
  replace hra := Lib.hid hra
  replace hb := Lib.hid hb
  replace hrb := Lib.hid hrb
  clear p0 p1 p2 p3 p4 p5 p6 hcu hcuq hpre hup z1 z2 z3 hl ht
  replace ca := Lib.hid ca
  go_wp2_with fail
  (refine ca.out.mono ?_); rintro e w2 ⟨rfl, b2⟩
  have hS2 := Lib.hid (hS.out.on b2)
  clear ca b2 hS
  obtain ⟨x0, x1, x2, x3, x4, x5, x6, x7, x8⟩ := uri_open hS2.out.c
  have f4 := hS2.out.c.free 4
  have f8 := hS2.out.c.free 8
  clear x0 x1 x2 x3 x5 x6 x7
  have hS3 := Lib.hid (hS2.out.set2 4 8 (.string (Lc.str (fr))) (.bool fb) (u' := ⟨Lc.scA L, [], [], [], fr, Lc.scB L, false, false, fb⟩) rfl)
  go_upto_region 5 with fail
  generalize (w2.setCell ⟨w.heap.size, 4, none⟩ (.string (Lc.str (fr)))).setCell ⟨w.heap.size, 8, none⟩ (.bool fb) = w3 at *
  clear x4 x8 f4 f8 hS2
  go_wp2_with fail
  (refine (cq.out _ hS3.out.low).mono ?_); rintro e w4 ⟨rfl, b4⟩
  have hS4 := Lib.hid (hS3.out.on b4)
  clear cq b4 hS3
  obtain ⟨x0, x1, x2, x3, x4, x5, x6, x7, x8⟩ := uri_open hS4.out.c
  have f3 := hS4.out.c.free 3
  have f7 := hS4.out.c.free 7
  clear x0 x1 x2 x4 x5 x6 x8
  have hS5 := Lib.hid (hS4.out.set2 3 7 (.string (Lc.str (qr))) (.bool qb) (u' := ⟨Lc.scA L, [], [], qr, fr, Lc.scB L, false, qb, fb⟩) rfl)
  go_upto_region 6 with fail
  generalize (w4.setCell ⟨w.heap.size, 3, none⟩ (.string (Lc.str (qr)))).setCell ⟨w.heap.size, 7, none⟩ (.bool qb) = w5 at *
  clear x3 x7 f3 f7 hS4
  go_wp2_with fail
  (refine (cp.out _).mono ?_); rintro e w6 ⟨rfl, hw⟩; obtain rfl := hw.symm
  clear cp
  obtain ⟨q, hq⟩ : ∃ q, q = Lc.hoB b := ⟨_, rfl⟩
  rw [← hq] at hall hB2 ⊢
  replace hq := Lib.hid hq
  replace hB2 := Lib.hid hB2
  go_upto_if 47 with fail
  go_cut [0] (fun x wx => ∃ t : ByteArray, x = .string t ∧ Hid (t = Lc.str (if q then Lc.rest (b.drop 2) [47] else b)) ∧ Hid (SR w wx ⟨Lc.scA L, if q then Lc.cut (b.drop 2) [47] else [], [], qr, fr, Lc.scB L, q, qb, fb⟩))
  case first =>
    cases q
    · have hP' : Hid (SR w w5 ⟨Lc.scA L, if false then Lc.cut (b.drop 2) [47] else [], [], qr, fr, Lc.scB L, false, qb, fb⟩) := Lib.hid hS5.out
      clear hn2
      go_wp2_with fail
      go_meet
      exact ⟨_, rfl, Lib.hid rfl, hP'⟩
    · have hB : B2 = b.drop 2 := hB2.out
      obtain ⟨x0, x1, x2, x3, x4, x5, x6, x7, x8⟩ := uri_open hS5.out.c
      have f1 := hS5.out.c.free 1
      have f6 := hS5.out.c.free 6
      clear x0 x2 x3 x4 x5 x7 x8
      have hS6 := Lib.hid (hS5.out.set2 1 6 (.string (T2.extract 0 n)) (.bool true) (u' := ⟨Lc.scA L, if true then Lc.cut (b.drop 2) [47] else [], [], qr, fr, Lc.scB L, true, qb, fb⟩) (by rw [g1.out, hB]; rfl)).drew
      have g3 : Hid (T2.extract n T2.size = Lc.str (if true then Lc.rest (b.drop 2) [47] else b)) := Lib.hid (by rw [g2.out, hB]; rfl)
      have n1 : (n : Int) ≤ (T2.size : Int) := by omega
      have n0 : (0 : Int) ≤ (n : Int) := by omega
      replace hB := Lib.hid hB
      go_wp2_with fail
      (refine (hu.out _).mono ?_); rintro e w7 ⟨rfl, rfl⟩
      go_wp2_with fail
      go_region
      go_wp2_with fail
      go_meet
      exact ⟨_, rfl, g3, hS6⟩
  case rest =>
  clear hu g1 g2 hS5
  obtain ⟨t, rfl, ht, hS⟩ := hcut
  obtain ⟨x0, x1, x2, x3, x4, x5, x6, x7, x8⟩ := uri_open hS.out.c
  have f2 := hS.out.c.free 2
  clear x0 x1 x3 x4 x5 x6 x7 x8
  have hS6 := Lib.hid (hS.out.set 2 (.string t) (u' := Lc.split L) (by rw [hall.out, ht.out]; rfl))
  go_upto_region 11 with fail
  generalize wc.setCell ⟨w.heap.size, 2, none⟩ (.string t) = w8 at *
  clear x2 f2 hS hall
  obtain ⟨u, hu⟩ : ∃ u, u = Lc.split L := ⟨_, rfl⟩
  rw [← hu] at hS6
  replace hu := Lib.hid hu
  obtain ⟨y0, y1, y2, y3, y4, y5, y6, y7, y8⟩ := uri_open hS6.out.c
  have f0 := hS6.out.c.free 0
  have f1 := hS6.out.c.free 1
  have f2 := hS6.out.c.free 2
  have f3 := hS6.out.c.free 3
  have f4 := hS6.out.c.free 4
  have f5 := hS6.out.c.free 5
  have f6 := hS6.out.c.free 6
  have f7 := hS6.out.c.free 7
  have f8 := hS6.out.c.free 8
  have hN := Lib.hid (nine_cells (A := uArr u) rfl hS6.out.c (.string (Lc.str u.scheme)) (.string (Lc.str u.host)) (.string (Lc.str u.path)) (.string (Lc.str u.query)) (.string (Lc.str u.frag)) (.bool u.hasS) (.bool u.hasH) (.bool u.hasQ) (.bool u.hasF))
  have hB := Lib.hid (nine_below hS6.out.low (Nat.le_refl _) (.string (Lc.str u.scheme)) (.string (Lc.str u.host)) (.string (Lc.str u.path)) (.string (Lc.str u.query)) (.string (Lc.str u.frag)) (.bool u.hasS) (.bool u.hasH) (.bool u.hasQ) (.bool u.hasF))
  clear hS6
  go_wp2_with fail
  exact uri_end (rb := w.heap.size) rfl rfl hN.out ⟨by rw [hu.out], hB.out⟩
end Go.Proofs.YtbaclacfadkjdaaGreatDoor
namespace Go.Proofs.YtbaclacfadkjdaaGreatDoor
open Go.RowKit
set_option maxRecDepth 100000 in
set_option maxHeartbeats 6400000 in
theorem pIsRef_any (u : Lc.U) (w : World) (z0 : u.scheme.length ≤ 1000000) (z1 : u.host.length ≤ 1000000) (z2 : u.path.length ≤ 1000000) (z3 : u.query.length ≤ 1000000) (z4 : u.frag.length ≤ 1000000) : Calls Tryz.prog 74 #[.agg (uArr u)] w fun e w' => e = .returned (.bool (Lc.fineU u)) ∧ Below w.heap.size w w' := by
  have k0 := Cells.new w 83 (uArr u)
  have d0 := (Below.refl w.heap.size w).alloc (Nat.le_refl _) (.cells (uArr u) 83)
  have c0 := Lib.hid (fun W => pScheme_any (Lc.str u.scheme) W (by rw [Lc.str_size]; exact z0))
  have c1 := Lib.hid (fun W => pOfSigns_any (Lc.str u.host) ⟨#[91, 93]⟩ [91, 93] W (by rw [Lc.str_size]; exact z1) rfl rfl)
  have c2 := Lib.hid (fun W => pOfSigns_any (Lc.str u.path) ⟨#[47]⟩ [47] W (by rw [Lc.str_size]; exact z2) rfl rfl)
  have c3 := Lib.hid (fun W => pOfSigns_any (Lc.str u.query) ⟨#[47, 63]⟩ [47, 63] W (by rw [Lc.str_size]; exact z3) rfl rfl)
  have c4 := Lib.hid (fun W => pOfSigns_any (Lc.str u.frag) ⟨#[47, 63]⟩ [47, 63] W (by rw [Lc.str_size]; exact z4) rfl rfl)
  rw [Lc.str_list] at c0 c1 c2 c3 c4
  clear z0 z1 z2 z3 z4
  unfold uArr at k0 d0 ⊢
  go_enter Tryz.func74, Tryz.ntmps74
  replace k0 := Lib.hid k0
  replace d0 := Lib.hid d0
  go_upto_region 1 with fail
  generalize w.alloc (.cells #[.string (Lc.str u.scheme), .string (Lc.str u.host), .string (Lc.str u.path), .string (Lc.str u.query), .string (Lc.str u.frag), .bool u.hasS, .bool u.hasH, .bool u.hasQ, .bool u.hasF] 83) = w0 at *
  replace d0 := d0.out
  have d0_ := Below.refl w0.heap.size w0
  have y5 := k0.out.cell (i := 5) (v := .bool u.hasS) rfl
  cases hs : u.hasS
  case false =>
    have h0 : Hid ((!u.hasS || Lc.scheme u.scheme) = true) := Lib.hid (by rw [hs]; rfl)
    rw [hs] at y5
    replace hs := Lib.hid hs
    have y1 := (k0.out.on d0_).cell (i := 1) (v := .string (Lc.str u.host)) rfl
    go_wp2_with fail
    (refine (c1.out _).mono ?_); rintro e v1 ⟨rfl, b1⟩
    have d1 := d0.trans (b1.mono d0.size)
    have d1_ := d0_.trans (b1.mono d0_.size)
    clear b1 y1
    cases h1 : Lc.signs [91, 93] u.host
    case false =>
      have hfin : Hid (Lc.fineU u = false) := Lib.hid (by unfold Lc.fineU; rw [h0.out, h1]; rfl)
      replace h1 := Lib.hid h1
      go_wp2_with fail
      go_ret
      exact ⟨ret_bool hfin.out.symm, d1⟩
    replace h1 := Lib.hid h1
    have y2 := (k0.out.on d1_).cell (i := 2) (v := .string (Lc.str u.path)) rfl
    go_wp2_with fail
    (refine (c2.out _).mono ?_); rintro e v2 ⟨rfl, b2⟩
    have d2 := d1.trans (b2.mono d1.size)
    have d2_ := d1_.trans (b2.mono d1_.size)
    clear b2 y2
    cases h2 : Lc.signs [47] u.path
    case false =>
      have hfin : Hid (Lc.fineU u = false) := Lib.hid (by unfold Lc.fineU; rw [h0.out, h1.out, h2]; rfl)
      replace h2 := Lib.hid h2
      go_wp2_with fail
      go_ret
      exact ⟨ret_bool hfin.out.symm, d2⟩
    replace h2 := Lib.hid h2
    have y3 := (k0.out.on d2_).cell (i := 3) (v := .string (Lc.str u.query)) rfl
    go_wp2_with fail
    (refine (c3.out _).mono ?_); rintro e v3 ⟨rfl, b3⟩
    have d3 := d2.trans (b3.mono d2.size)
    have d3_ := d2_.trans (b3.mono d2_.size)
    clear b3 y3
    cases h3 : Lc.signs [47, 63] u.query
    case false =>
      have hfin : Hid (Lc.fineU u = false) := Lib.hid (by unfold Lc.fineU; rw [h0.out, h1.out, h2.out, h3]; rfl)
      replace h3 := Lib.hid h3
      go_wp2_with fail
      go_ret
      exact ⟨ret_bool hfin.out.symm, d3⟩
    replace h3 := Lib.hid h3
    have y4 := (k0.out.on d3_).cell (i := 4) (v := .string (Lc.str u.frag)) rfl
    go_wp2_with fail
    (refine (c4.out _).mono ?_); rintro e v4 ⟨rfl, b4⟩
    have d4 := d3.trans (b4.mono d3.size)
    have d4_ := d3_.trans (b4.mono d3_.size)
    clear b4 y4
    cases h4 : Lc.signs [47, 63] u.frag
    case false =>
      have hfin : Hid (Lc.fineU u = false) := Lib.hid (by unfold Lc.fineU; rw [h0.out, h1.out, h2.out, h3.out, h4]; rfl)
      replace h4 := Lib.hid h4
      go_wp2_with fail
      go_ret
      exact ⟨ret_bool hfin.out.symm, d4⟩
    replace h4 := Lib.hid h4
    have hfin : Hid (Lc.fineU u = true) := Lib.hid (by unfold Lc.fineU; rw [h0.out, h1.out, h2.out, h3.out, h4.out]; rfl)
    go_wp2_with fail
    go_ret
    exact ⟨ret_bool hfin.out.symm, d4⟩
  rw [hs] at y5
  have y0 := k0.out.cell (i := 0) (v := .string (Lc.str u.scheme)) rfl
  go_wp2_with fail
  (refine (c0.out _).mono ?_); rintro e v0 ⟨rfl, b0⟩
  have e0 := d0.trans (b0.mono d0.size)
  have e0_ := d0_.trans (b0.mono d0_.size)
  clear b0 y0 y5
  cases hc : Lc.scheme u.scheme
  case false =>
    have hfin : Hid (Lc.fineU u = false) := Lib.hid (by unfold Lc.fineU; rw [hs, hc]; rfl)
    replace hs := Lib.hid hs
    replace hc := Lib.hid hc
    go_wp2_with fail
    go_ret
    exact ⟨ret_bool hfin.out.symm, e0⟩
  have h0 : Hid ((!u.hasS || Lc.scheme u.scheme) = true) := Lib.hid (by rw [hs, hc]; rfl)
  replace hs := Lib.hid hs
  replace hc := Lib.hid hc
  have y1 := (k0.out.on e0_).cell (i := 1) (v := .string (Lc.str u.host)) rfl
  go_wp2_with fail
  (refine (c1.out _).mono ?_); rintro e v1 ⟨rfl, b1⟩
  have d1 := e0.trans (b1.mono e0.size)
  have d1_ := e0_.trans (b1.mono e0_.size)
  clear b1 y1
  cases h1 : Lc.signs [91, 93] u.host
  case false =>
    have hfin : Hid (Lc.fineU u = false) := Lib.hid (by unfold Lc.fineU; rw [h0.out, h1]; rfl)
    replace h1 := Lib.hid h1
    go_wp2_with fail
    go_ret
    exact ⟨ret_bool hfin.out.symm, d1⟩
  replace h1 := Lib.hid h1
  have y2 := (k0.out.on d1_).cell (i := 2) (v := .string (Lc.str u.path)) rfl
  go_wp2_with fail
  (refine (c2.out _).mono ?_); rintro e v2 ⟨rfl, b2⟩
  have d2 := d1.trans (b2.mono d1.size)
  have d2_ := d1_.trans (b2.mono d1_.size)
  clear b2 y2
  cases h2 : Lc.signs [47] u.path
  case false =>
    have hfin : Hid (Lc.fineU u = false) := Lib.hid (by unfold Lc.fineU; rw [h0.out, h1.out, h2]; rfl)
    replace h2 := Lib.hid h2
    go_wp2_with fail
    go_ret
    exact ⟨ret_bool hfin.out.symm, d2⟩
  replace h2 := Lib.hid h2
  have y3 := (k0.out.on d2_).cell (i := 3) (v := .string (Lc.str u.query)) rfl
  go_wp2_with fail
  (refine (c3.out _).mono ?_); rintro e v3 ⟨rfl, b3⟩
  have d3 := d2.trans (b3.mono d2.size)
  have d3_ := d2_.trans (b3.mono d2_.size)
  clear b3 y3
  cases h3 : Lc.signs [47, 63] u.query
  case false =>
    have hfin : Hid (Lc.fineU u = false) := Lib.hid (by unfold Lc.fineU; rw [h0.out, h1.out, h2.out, h3]; rfl)
    replace h3 := Lib.hid h3
    go_wp2_with fail
    go_ret
    exact ⟨ret_bool hfin.out.symm, d3⟩
  replace h3 := Lib.hid h3
  have y4 := (k0.out.on d3_).cell (i := 4) (v := .string (Lc.str u.frag)) rfl
  go_wp2_with fail
  (refine (c4.out _).mono ?_); rintro e v4 ⟨rfl, b4⟩
  have d4 := d3.trans (b4.mono d3.size)
  have d4_ := d3_.trans (b4.mono d3_.size)
  clear b4 y4
  cases h4 : Lc.signs [47, 63] u.frag
  case false =>
    have hfin : Hid (Lc.fineU u = false) := Lib.hid (by unfold Lc.fineU; rw [h0.out, h1.out, h2.out, h3.out, h4]; rfl)
    replace h4 := Lib.hid h4
    go_wp2_with fail
    go_ret
    exact ⟨ret_bool hfin.out.symm, d4⟩
  replace h4 := Lib.hid h4
  have hfin : Hid (Lc.fineU u = true) := Lib.hid (by unfold Lc.fineU; rw [h0.out, h1.out, h2.out, h3.out, h4.out]; rfl)
  go_wp2_with fail
  go_ret
  exact ⟨ret_bool hfin.out.symm, d4⟩
set_option maxRecDepth 100000 in
set_option maxHeartbeats 12800000 in
theorem pParse_any (s : ByteArray) (w : World) (hs : s.size ≤ 100000) (hE : Env w) : Calls Tryz.prog 55 #[.string s] w fun e w' => e = .returned (.tuple #[.agg (uArr (Lc.parseU s.data.toList)), .int .i64 (Lc.parseE s.data.toList)]) ∧ Below w.heap.size w w' := by
  have kR := Cells.new w 83 #[.string ⟨#[]⟩, .string ⟨#[]⟩, .string ⟨#[]⟩, .string ⟨#[]⟩, .string ⟨#[]⟩, .bool false, .bool false, .bool false, .bool false]
  have bR := (Below.refl w.heap.size w).alloc (Nat.le_refl _) (.cells #[.string ⟨#[]⟩, .string ⟨#[]⟩, .string ⟨#[]⟩, .string ⟨#[]⟩, .string ⟨#[]⟩, .bool false, .bool false, .bool false, .bool false] 83)
  have cs := Lib.hid (fun W h => pSplit_any s W (by omega) (hE.on h))
  have cc := Lib.hid (fun W h => gCheck_any s W (by omega) (hE.on h))
  obtain ⟨L, hL⟩ : ∃ L, L = s.data.toList := ⟨_, rfl⟩
  have hLs : L.length ≤ 1000000 := by rw [hL, list_len]; omega
  rw [← hL] at cs cc ⊢
  obtain ⟨u, hu⟩ : ∃ u, u = Lc.split L := ⟨_, rfl⟩
  obtain ⟨z0, z1, z2, z3, z4⟩ : _ ∧ _ ∧ _ ∧ _ ∧ _ := Lc.split_len L
  rw [← hu] at cs z0 z1 z2 z3 z4
  obtain ⟨ce, hce⟩ : ∃ ce, ce = G.checkN L := ⟨_, rfl⟩
  rw [← hce] at cc
  have hfu : Hid (Lc.fine L = (decide (ce = 0) && Lc.fineU u)) := Lib.hid (by rw [Lc.fine, ← hce, ← hu])
  have cr := Lib.hid (fun W => pIsRef_any u W (by omega) (by omega) (by omega) (by omega) (by omega))
  replace hE := Lib.hid hE
  replace hL := Lib.hid hL
  replace hu := Lib.hid hu
  replace hce := Lib.hid hce
  clear z0 z1 z2 z3 z4 hs hE
  go_enter Tryz.func55, Tryz.ntmps55
  replace kR := Lib.hid kR
  go_wp2_with fail
  (refine (cs.out _ bR).mono ?_); rintro e w1 ⟨rfl, b1⟩
  have kR1 := kR.out.on b1
  have bR1 := bR.trans (b1.mono bR.size)
  have kU := Cells.new w1 83 (uArr u)
  have bU := (Below.refl w1.heap.size w1).alloc (Nat.le_refl _) (.cells (uArr u) 83)
  have kR2 := kR1.on bU
  have bR2 := bR1.trans (bU.mono bR1.size)
  have hne : ¬ w.heap.size = w1.heap.size := by have := kR1.lt; omega
  clear kR kR1 bR1 b1 bU bR cs
  unfold uArr at kU kR2 bR2 ⊢
  go_upto_region 2 with fail
  generalize w1.alloc (.cells #[.string (Lc.str u.scheme), .string (Lc.str u.host), .string (Lc.str u.path), .string (Lc.str u.query), .string (Lc.str u.frag), .bool u.hasS, .bool u.hasH, .bool u.hasQ, .bool u.hasF] 83) = w2 at *
  replace kU := Lib.hid kU
  replace kR2 := Lib.hid kR2
  replace bR2 := Lib.hid bR2
  go_cut [14] (fun c wx => c = .bool (!Lc.fine L) ∧ Hid (Below w2.heap.size w2 wx))
  case first =>
    go_wp2_with fail
    (refine (cc.out _ bR2.out).mono ?_); rintro e w3 ⟨rfl, b3⟩
    obtain ⟨y0, y1, y2, y3, y4, y5, y6, y7, y8⟩ := uri_open (u := u) (kU.out.on b3)
    replace b3 := Lib.hid b3
    by_cases h0 : ce = 0
    case neg =>
      have h0i : ¬ (ce : Int) = 0 := by omega
      have h0b : ((ce : Int) != 0) = true := by rw [bne_iff_ne]; omega
      have hq : Hid (Lc.fine L = false) := Lib.hid (by rw [hfu.out, decide_eq_false h0]; rfl)
      clear h0
      go_wp2_with fail
      go_meet
      exact ⟨by rw [hq.out]; rfl, b3⟩
    have hq : Hid (Lc.fine L = Lc.fineU u) := Lib.hid (by rw [hfu.out, decide_eq_true h0]; rfl)
    have h0i : (ce : Int) = 0 := by omega
    have h0b : ((ce : Int) != 0) = false := by rw [bne_eq_false_iff_eq]; omega
    clear h0
    go_wp2_with fail
    (refine (cr.out _).mono ?_); rintro e w4 ⟨rfl, b4⟩
    have b5 := Lib.hid (b3.out.trans (b4.mono b3.out.size))
    clear b3 b4
    go_wp2_with fail
    go_meet
    exact ⟨by rw [hq.out], b5⟩
  case rest =>
  obtain ⟨rfl, bx⟩ := hcut
  have kR3 := kR2.out.on bx.out
  have kU3 := kU.out.on bx.out
  have bR3 := bR2.out.trans (bx.out.mono bR2.out.size)
  obtain ⟨x0, x1, x2, x3, x4, x5, x6, x7, x8⟩ := zero_open (show Cells _ _ _ (uArr Lc.none) from kR3)
  have f0 := kR3.free 0
  have f1 := kR3.free 1
  have f2 := kR3.free 2
  have f3 := kR3.free 3
  have f4 := kR3.free 4
  have f5 := kR3.free 5
  have f6 := kR3.free 6
  have f7 := kR3.free 7
  have f8 := kR3.free 8
  obtain ⟨y0, y1, y2, y3, y4, y5, y6, y7, y8⟩ := uri_open (u := u) kU3
  have hN := Lib.hid (nine_cells (A := uArr Lc.none) rfl kR3 (.string (Lc.str u.scheme)) (.string (Lc.str u.host)) (.string (Lc.str u.path)) (.string (Lc.str u.query)) (.string (Lc.str u.frag)) (.bool u.hasS) (.bool u.hasH) (.bool u.hasQ) (.bool u.hasF))
  have hB := Lib.hid (nine_below bR3 (Nat.le_refl _) (.string (Lc.str u.scheme)) (.string (Lc.str u.host)) (.string (Lc.str u.path)) (.string (Lc.str u.query)) (.string (Lc.str u.frag)) (.bool u.hasS) (.bool u.hasH) (.bool u.hasQ) (.bool u.hasF))
  have hN2 := Lib.hid (nine_cells (A := uArr Lc.none) rfl kR3 (.string ⟨#[]⟩) (.string ⟨#[]⟩) (.string ⟨#[]⟩) (.string ⟨#[]⟩) (.string ⟨#[]⟩) (.bool false) (.bool false) (.bool false) (.bool false))
  have hB2 := Lib.hid (nine_below bR3 (Nat.le_refl _) (.string ⟨#[]⟩) (.string ⟨#[]⟩) (.string ⟨#[]⟩) (.string ⟨#[]⟩) (.string ⟨#[]⟩) (.bool false) (.bool false) (.bool false) (.bool false))
  clear kR3 kU3 bR3 bx kR2 kU bR2 hfu cc cr
  cases hq : Lc.fine L
  case true =>
    have hfin : Hid (Lc.parseU L = u ∧ Lc.parseE L = 0) := Lib.hid (by rw [Lc.parseU, Lc.parseE, hq, if_pos rfl, if_pos rfl]; exact ⟨hu.out.symm, rfl⟩)
    rw [show (!true) = false from rfl]
    replace hq := Lib.hid hq
    go_wp2_with fail
    exact uri_end2 (rb := w.heap.size) (u := u) rfl rfl rfl hN.out ⟨by rw [hfin.out.1, hfin.out.2], hB.out⟩
  case false =>
    have hfin : Hid (Lc.parseU L = Lc.none ∧ Lc.parseE L = 120) := Lib.hid (by rw [Lc.parseU, Lc.parseE, hq, if_neg (by simp), if_neg (by simp)]; exact ⟨rfl, rfl⟩)
    rw [show (!false) = true from rfl]
    replace hq := Lib.hid hq
    go_wp2_with fail
    exact uri_end2 (rb := w.heap.size) (u := Lc.none) rfl rfl rfl hN2.out ⟨by rw [hfin.out.1, hfin.out.2], hB2.out⟩
end Go.Proofs.YtbaclacfadkjdaaGreatDoor
namespace Go.Proofs.YtbaclacfadkjdaaGreatDoor
namespace D
def mst (k : Int) : Int := (153 * k + 2) / 5
def cnt (Y k d : Int) : Int := 365 * Y + Y / 4 - Y / 100 + Y / 400 + mst k + d - 1 - 865565
theorem cnt_early {y m d : Int} (h1 : 1 ≤ m) (h2 : m < 3) : cnt (y + 400 - 1) ((m + 9) % 12) d = days y m d := by
  have : m = 1 ∨ m = 2 := by omega
  rcases this with rfl | rfl <;> simp [cnt, mst, days, yd, md, md0] <;> omega
theorem cnt_late {y m d : Int} (h1 : 3 ≤ m) (h2 : m ≤ 12) : cnt (y + 400) ((m + 9) % 12) d = days y m d := by
  have e : yd y + lp y = 365 * (y - 1970) + (y / 4 - y / 100 + y / 400) - 477 := by
    have := yd_succ y
    have h : yd (y + 1) = 365 * (y + 1 - 1970) + ((y + 1 - 1) / 4 - (y + 1 - 1) / 100 + (y + 1 - 1) / 400) - 477 := rfl
    rw [show y + 1 - 1 = y by omega] at h
    omega
  have : m = 3 ∨ m = 4 ∨ m = 5 ∨ m = 6 ∨ m = 7 ∨ m = 8 ∨ m = 9 ∨ m = 10 ∨ m = 11 ∨ m = 12 := by omega
  rcases this with rfl | rfl | rfl | rfl | rfl | rfl | rfl | rfl | rfl | rfl <;> simp [cnt, mst, days, md, md0] <;> omega
structure Back (n c l y k : Int) : Prop where
  cI : c = (4 * (n + 865565) + 3) / 146097
  yI : y = (4 * ((4 * (n + 865565) + 3) % 146097 / 4) + 3) / 1461
  lI : l = (4 * ((4 * (n + 865565) + 3) % 146097 / 4) + 3) % 1461 / 4
  kI : k = (5 * l + 2) / 153
end D
end Go.Proofs.YtbaclacfadkjdaaGreatDoor
namespace Go.Proofs.YtbaclacfadkjdaaGreatDoor
open Go.RowKit
theorem gWithin_yes (n a b : Int) (w : World) (h1 : a ≤ n) (h2 : n ≤ b) :
    Calls Tryz.prog 113 #[.int .i64 n, .int .i64 a, .int .i64 b] w fun e w' => e = .returned (.bool true) ∧ w = w' := by
  go_enter Tryz.func113, Tryz.ntmps113
  go_wp2
  go_ret
  exact ⟨rfl, rfl⟩
theorem gWithin_no (n a b : Int) (w : World) (h : n < a ∨ b < n) :
    Calls Tryz.prog 113 #[.int .i64 n, .int .i64 a, .int .i64 b] w fun e w' => e = .returned (.bool false) ∧ w = w' := by
  go_enter Tryz.func113, Tryz.ntmps113
  by_cases h1 : n < a
  · clear h
    go_wp2
    go_ret
    exact ⟨rfl, rfl⟩
  · have h2 : b < n := by omega
    have h3 : a ≤ n := by omega
    clear h h1
    go_wp2
    go_ret
    exact ⟨ret_bool (decide_eq_false (by omega)), rfl⟩
theorem gLeap_any (y : Int) (w : World) (h0 : 0 ≤ y) :
    Calls Tryz.prog 152 #[.int .i64 y] w fun e w' => e = .returned (.bool (D.leap y)) ∧ w = w' := by
  have H : D.leap y = (decide (y % 4 = 0) && (decide (y % 100 ≠ 0) || decide (y % 400 = 0))) := rfl
  have e1 : y.tmod 4 = y % 4 := Int.tmod_eq_emod_of_nonneg h0
  have e2 : y.tmod 100 = y % 100 := Int.tmod_eq_emod_of_nonneg h0
  have e3 : y.tmod 400 = y % 400 := Int.tmod_eq_emod_of_nonneg h0
  have h4 : y % 400 = 0 → y % 4 = 0 := by omega
  have HH := Lib.hid H
  replace h4 := Lib.hid h4
  clear H
  generalize y % 4 = a at *
  generalize y % 100 = b at *
  generalize y % 400 = c at *
  go_enter Tryz.func152, Tryz.ntmps152
  by_cases ha : a = 0 <;> by_cases hb : b = 0 <;> by_cases hc : c = 0 <;> first | exact absurd (h4.out hc) ha | (go_wp2 <;> go_ret <;> exact ⟨ret_bool (by rw [HH.out]; simp [ha, hb, hc]), rfl⟩)
set_option maxHeartbeats 800000 in
theorem gLastDay_any (y m : Int) (w : World) (h0 : 0 ≤ y) :
    Calls Tryz.prog 114 #[.int .i64 y, .int .i64 m] w fun e w' => e = .returned (.int .i64 (D.mlen y m)) ∧ w = w' := by
  have H : D.mlen y m = if m = 4 ∨ m = 6 ∨ m = 9 ∨ m = 11 then 30 else if m = 2 then 28 + D.lp y else 31 := rfl
  have HL : D.lp y = if D.leap y = true then 1 else 0 := rfl
  by_cases hm : m = 4 ∨ m = 6 ∨ m = 9 ∨ m = 11
  · rw [if_pos hm] at H
    have H := Lib.hid H
    clear HL
    go_enter Tryz.func114, Tryz.ntmps114
    rcases hm with rfl | rfl | rfl | rfl <;> go_wp2 <;> go_ret <;> exact ⟨ret_int H.out.symm, rfl⟩
  · rw [if_neg hm] at H
    have n4 : ¬ m = 4 := fun e => hm (.inl e)
    have n6 : ¬ m = 6 := fun e => hm (.inr (.inl e))
    have n9 : ¬ m = 9 := fun e => hm (.inr (.inr (.inl e)))
    have n11 : ¬ m = 11 := fun e => hm (.inr (.inr (.inr e)))
    clear hm
    go_enter Tryz.func114, Tryz.ntmps114
    by_cases h2 : m = 2
    · rw [if_pos h2] at H
      subst h2
      go_wp2_with fail
      (with_reducible refine (gLeap_any y _ h0).mono ?_); rintro e w1 ⟨rfl, rfl⟩
      cases hl : D.leap y
      · rw [hl] at HL
        have H := Lib.hid (H.trans (by rw [HL]))
        clear HL hl
        go_wp2
        go_ret
        exact ⟨ret_int H.out.symm, rfl⟩
      · rw [hl] at HL
        have H := Lib.hid (H.trans (by rw [HL]))
        clear HL hl
        go_wp2
        go_ret
        exact ⟨ret_int H.out.symm, rfl⟩
    · rw [if_neg h2] at H
      have H := Lib.hid H
      clear HL
      go_wp2
      go_ret
      exact ⟨ret_int H.out.symm, rfl⟩
theorem gMonthStart_any (k : Int) (w : World) (h0 : 0 ≤ k) (h1 : k ≤ 11) :
    Calls Tryz.prog 153 #[.int .i64 k] w fun e w' => e = .returned (.int .i64 (D.mst k)) ∧ w = w' := by
  have H := Lib.hid (show D.mst k = (153 * k + 2) / 5 from rfl)
  go_enter Tryz.func153, Tryz.ntmps153
  go_wp2
  go_ret
  exact ⟨ret_int H.out.symm, rfl⟩
theorem D.mst_bd {k : Int} (h0 : 0 ≤ k) (h1 : k ≤ 11) : 0 ≤ D.mst k ∧ D.mst k ≤ 337 := by unfold D.mst; omega
set_option maxHeartbeats 800000 in
theorem gDayOf_any (y m d : Int) (w : World) (h0 : 0 ≤ y) (h1 : y ≤ 9999) (hm1 : 1 ≤ m) (hm2 : m ≤ 12) (hd1 : 1 ≤ d) (hd2 : d ≤ 31) :
    Calls Tryz.prog 115 #[.int .i64 y, .int .i64 m, .int .i64 d] w fun e w' => e = .returned (.int .i64 (D.days y m d)) ∧ w = w' := by
  obtain ⟨k, hk, k0, k1⟩ : ∃ k, (m + 9) % 12 = k ∧ 0 ≤ k ∧ k ≤ 11 := ⟨_, rfl, by omega, by omega⟩
  obtain ⟨s, hs⟩ : ∃ s, D.mst k = s := ⟨_, rfl⟩
  have hsb := D.mst_bd k0 k1
  rw [hs] at hsb
  by_cases hlt : m < 3
  · have e1 := D.cnt_early (y := y) (d := d) hm1 hlt
    rw [hk] at e1
    have e2 : D.cnt (y + 400 - 1) k d = 365 * (y + 400 - 1) + (y + 400 - 1) / 4 - (y + 400 - 1) / 100 + (y + 400 - 1) / 400 + D.mst k + d - 1 - 865565 := rfl
    rw [e1, hs] at e2
    have e2 := Lib.hid e2
    clear e1
    go_enter Tryz.func115, Tryz.ntmps115
    go_wp2_with fail
    (with_reducible refine (gMonthStart_any k _ k0 k1).mono ?_); rintro e w1 ⟨rfl, rfl⟩
    rw [hs]
    clear hk hs
    go_wp2
    go_ret
    exact ⟨ret_int e2.out.symm, rfl⟩
  · have e1 := D.cnt_late (y := y) (d := d) (by omega) hm2
    rw [hk] at e1
    have e2 : D.cnt (y + 400) k d = 365 * (y + 400) + (y + 400) / 4 - (y + 400) / 100 + (y + 400) / 400 + D.mst k + d - 1 - 865565 := rfl
    rw [e1, hs] at e2
    have e2 := Lib.hid e2
    clear e1
    go_enter Tryz.func115, Tryz.ntmps115
    go_wp2_with fail
    (with_reducible refine (gMonthStart_any k _ k0 k1).mono ?_); rintro e w1 ⟨rfl, rfl⟩
    rw [hs]
    clear hk hs
    go_wp2
    go_ret
    exact ⟨ret_int e2.out.symm, rfl⟩
end Go.Proofs.YtbaclacfadkjdaaGreatDoor
