/-
  The program's split: a reference's parts, taken from the end on.
-/
import Derived.Test.YtmfmgbjkbadndaaProgParts
import Derived.Test.YtmfmgbjkbadndaaRefLoc5
import Derived.Deep.DeepCutAuto
namespace Go.Proofs.Ytmfmgbjkbadndaa
open Go.RowKit

theorem Lc.any_is (l m : List UInt8) : Lib.indexAny l m = if (Lc.cut l m).length < l.length then ((Lc.cut l m).length : Int) else -1 := by
  rw [Lc.any_cut]
  have h := congrArg List.length (Lc.cut_rest l m)
  rw [List.length_append] at h
  by_cases hr : Lc.rest l m = []
  · rw [if_pos hr, if_neg]
    rw [hr, List.length_nil] at h
    omega
  · rw [if_neg hr, if_pos]
    have := List.length_pos_iff.2 hr
    omega

/-- A reference that is being laid in the result's own cells. -/
structure SR (w w' : World) (u : Lc.U) : Prop where
  low : Below w.heap.size w w'
  c : Cells w' w.heap.size 24 (uArr u)
theorem SR.first (w : World) : SR w (w.alloc (.cells (uArr Lc.none) 24)) Lc.none :=
  ⟨(Below.refl _ _).alloc (Nat.le_refl _) _, Cells.new w 24 (uArr Lc.none)⟩
theorem SR.on {w w1 w2 : World} {u : Lc.U} (h : SR w w1 u) (b : Below w1.heap.size w1 w2) : SR w w2 u := ⟨h.low.trans (b.mono h.low.size), h.c.on b⟩
theorem SR.drew {w w1 : World} {u : Lc.U} (h : SR w w1 u) : SR w w1.drew u := ⟨h.low.drew, h.c.drew⟩
theorem SR.set {w w' : World} {u u' : Lc.U} (h : SR w w' u) (i : Nat) (v : Value) (hA : (uArr u).setIfInBounds i v = uArr u') : SR w (w'.setCell ⟨w.heap.size, i, none⟩ v) u' :=
  ⟨h.low.setCell (p := ⟨w.heap.size, i, none⟩) (Nat.le_refl _) _, by have := h.c.set i v; rwa [hA] at this⟩
theorem SR.set2 {w w' : World} {u u' : Lc.U} (h : SR w w' u) (i j : Nat) (v x : Value) (hA : ((uArr u).setIfInBounds i v).setIfInBounds j x = uArr u') : SR w ((w'.setCell ⟨w.heap.size, i, none⟩ v).setCell ⟨w.heap.size, j, none⟩ x) u' :=
  ⟨(h.low.setCell (p := ⟨w.heap.size, i, none⟩) (Nat.le_refl _) _).setCell (p := ⟨w.heap.size, j, none⟩) (Nat.le_refl _) _, by have := (h.c.set i v).set j x; rwa [hA] at this⟩

set_option maxRecDepth 100000 in
set_option maxHeartbeats 12800000 in
theorem pSplit_any (s : ByteArray) (w : World) (hs : s.size ≤ 1000000) (hE : Env w) : Calls Try.prog 22 #[.string s] w fun e w' => e = .returned (.agg (uArr (Lc.split s.data.toList))) ∧ Below w.heap.size w w' := by
  have hP : SR w (w.alloc (.cells #[.string ⟨#[]⟩, .string ⟨#[]⟩, .string ⟨#[]⟩, .string ⟨#[]⟩, .string ⟨#[]⟩, .bool false, .bool false, .bool false, .bool false] 24)) Lc.none := SR.first w
  replace hE := Lib.hid (fun w1 b => hE.on (w1 := w1) b)
  have hcu := Lib.hid (fun (t : ByteArray) W h1 (h2 : Below w.heap.size w W) => pCut_any t ⟨#[35]⟩ 35 W h1 rfl (hE.out W h2))
  have hcuq := Lib.hid (fun (t : ByteArray) W h1 (h2 : Below w.heap.size w W) => pCut_any t ⟨#[63]⟩ 63 W h1 rfl (hE.out W h2))
  have hpre := Lib.hid (fun (t : ByteArray) W => pCutPrefix_any t ⟨#[47, 47]⟩ [47, 47] W rfl)
  have hup := Lib.hid (fun (t : ByteArray) W (h : t.size ≤ 1000000) => pUpTo_any t W (by unfold maxLen; omega))
  obtain ⟨L, hL⟩ : ∃ L, L = s.data.toList := ⟨_, rfl⟩
  rw [← hL]
  have hlen : L.length = s.size := by rw [hL, list_len]
  have hcl := Lc.cut_len L [58, 47, 63, 35]
  have hac := Lc.any_is L [58, 47, 63, 35]
  obtain ⟨K, hK⟩ : ∃ K, K = (Lc.cut L [58, 47, 63, 35]).length := ⟨_, rfl⟩
  rw [← hK, hlen] at hcl hac
  have sy : Hid (∀ h : K < s.size, ((s[K].toNat : Int) == 58) = Lc.scB L) := Lib.hid (fun h => by
    have e2 := Lc.sc_is (l := L) (by rw [← hK, hlen]; exact h)
    rw [e2]
    have := one_byte (c := 58) h
    rw [show ((58 : UInt8).toNat : Int) = 58 from rfl] at this
    rw [this]
    subst hL
    simp only [← hK])
  have sn : Hid (¬ K < s.size → Lc.scB L = false) := Lib.hid (fun h => Lc.sc_no (by rw [← hK, hlen]; exact h))
  have sz : Hid (Lc.scB L = true → K < s.size ∧ s.extract 0 K = Lc.str (Lc.scA L) ∧ (s.extract (K + 1) s.size).data.toList = Lc.scR L) := Lib.hid (fun h => by
    have := Lc.sc_yes h
    rw [← hK] at this
    refine ⟨by rw [← hlen]; exact this.1, by rw [sub_list, List.drop_zero, ← hL, this.2.1], by rw [drop_list, ← hL, this.2.2]⟩)
  have hany := Lib.hid (fun W => indexAny_any s ⟨#[58, 47, 63, 35]⟩ W hs rfl (by decide))
  have e1 : Hid (∀ W, Calls Try.prog 40 #[.string s, .string ⟨#[58, 47, 63, 35]⟩] W fun e w' => e = .returned (.int .i64 (if K < s.size then (K : Int) else -1)) ∧ Below W.heap.size W w') := Lib.hid (fun W => by
    have := hany.out W
    rw [← hac, hL]
    exact this)
  obtain ⟨J, hJ⟩ : ∃ J : Int, J = if K < s.size then (K : Int) else -1 := ⟨_, rfl⟩
  rw [← hJ] at e1
  replace hJ := Lib.hid hJ
  replace hL := Lib.hid hL
  replace hlen := Lib.hid hlen
  replace hK := Lib.hid hK
  clear hany hac
  go_enter Try.func22, Try.ntmps22
  go_upto_region 1 with fail
  generalize hw0 : w.alloc (.cells #[.string ⟨#[]⟩, .string ⟨#[]⟩, .string ⟨#[]⟩, .string ⟨#[]⟩, .string ⟨#[]⟩, .bool false, .bool false, .bool false, .bool false] 24) = w0 at *
  clear hw0
  replace hP := Lib.hid hP
  go_wp2_with fail
  (refine (e1.out _).mono ?_); rintro e w1 ⟨rfl, b1⟩
  replace hP := Lib.hid (hP.out.on b1)
  clear e1 b1
  go_upto_region 2 with fail
  go_cut [16] (fun c wx => ∃ q, c = .bool q ∧ Hid (q = Lc.scB L) ∧ w1 = wx)
  case first =>
    by_cases hk : K < s.size
    · obtain rfl : J = (K : Int) := hJ.out.trans (if_pos hk)
      have hb := sy.out hk
      obtain ⟨q, hq⟩ : ∃ q, q = Lc.scB L := ⟨_, rfl⟩
      rw [← hq] at hb
      replace hq := Lib.hid hq
      go_wp2_with fail
      go_meet
      exact ⟨q, rfl, hq, rfl⟩
    · obtain rfl : J = -1 := hJ.out.trans (if_neg hk)
      have hq := Lib.hid (sn.out hk).symm
      go_wp2_with fail
      go_meet
      exact ⟨false, rfl, hq, rfl⟩
  case rest =>
  obtain ⟨q, rfl, hq, rfl⟩ := hcut
  clear sn sy
  go_upto_if 16 with fail
  go_cut [0] (fun x wx => ∃ t : ByteArray, x = .string t ∧ t.size ≤ 1000000 ∧ Hid (t.data.toList = Lc.scR L) ∧ Hid (SR w wx ⟨Lc.scA L, [], [], [], [], Lc.scB L, false, false, false⟩))
  case first =>
    cases q
    · obtain ⟨n1, n2⟩ := Lc.scA_no hq.out.symm
      have q1 : Hid (s.data.toList = Lc.scR L) := Lib.hid (by rw [n2]; exact hL.out.symm)
      have hP' : Hid (SR w w1 ⟨Lc.scA L, [], [], [], [], Lc.scB L, false, false, false⟩) := Lib.hid (by rw [n1, ← hq.out]; exact hP.out)
      clear n1 n2
      go_wp2_with fail
      go_meet
      exact ⟨s, rfl, hs, q1, hP'⟩
    · obtain ⟨k1, k2, k3⟩ := sz.out hq.out.symm
      obtain rfl : J = (K : Int) := hJ.out.trans (if_pos k1)
      have k1i : (K : Int) + 1 ≤ (s.size : Int) := by omega
      have kw : IntKind.i64.wrap ((K : Int) + 1) = (K : Int) + 1 := wrap_small _ (by omega) (by omega)
      have k0i : (0 : Int) ≤ (K : Int) + 1 := by omega
      obtain ⟨x0, x1, x2, x3, x4, x5, x6, x7, x8⟩ := zero_open hP.out.c
      have f0 := hP.out.c.free 0
      have f5 := hP.out.c.free 5
      have hP2 := Lib.hid (hP.out.set2 0 5 (.string (s.extract 0 K)) (.bool true) (u' := ⟨Lc.scA L, [], [], [], [], Lc.scB L, false, false, false⟩) (by rw [k2, ← hq.out]; rfl))
      have k4 := Lib.hid (show (s.extract (K + 1) s.size).size ≤ 1000000 by rw [ByteArray.size_extract]; omega)
      replace k2 := Lib.hid k2
      replace k3 := Lib.hid k3
      replace hq := Lib.hid hq
      clear x1 x2 x3 x4 x6 x7 x8
      go_wp2_with fail
      go_region
      have hP3 := Lib.hid hP2.out.drew
      go_wp2_with fail
      go_meet
      exact ⟨_, rfl, k4.out, k3, hP3⟩
  case rest =>
  obtain ⟨t, rfl, ht, hl, hS⟩ := hcut
  clear sz hP hq hJ hcl hlen hK hL
  obtain ⟨S1, hS1⟩ : ∃ S, S = Lc.scR L := ⟨_, rfl⟩
  rw [← hS1] at hl
  obtain ⟨p0, p1, p2, p3, p4, p5, p6⟩ := Lc.split_end S1
  have ca := hcu.out t wc ht hS.out.low
  rw [hl.out] at ca
  have z1 := Lc.cut_len S1 [35]
  have z2 : S1.length ≤ 1000000 := by rw [← hl.out, list_len]; exact ht
  obtain ⟨a, ha⟩ : ∃ a, a = Lc.cut S1 [35] := ⟨_, rfl⟩
  obtain ⟨ra, hra⟩ : ∃ a, a = Lc.rest S1 [35] := ⟨_, rfl⟩
  rw [← ha] at p0 p1 p2 p3 p4 ca z1
  rw [← hra] at p5 p6 ca
  have z3 := Lc.cut_len a [63]
  have cq := Lib.hid (fun W (h : Below w.heap.size w W) => hcuq.out (Lc.str a) W (by rw [Lc.str_size]; omega) h)
  rw [Lc.str_list] at cq
  obtain ⟨b, hb⟩ : ∃ b, b = Lc.cut a [63] := ⟨_, rfl⟩
  obtain ⟨rb, hrb⟩ : ∃ b, b = Lc.rest a [63] := ⟨_, rfl⟩
  rw [← hb] at p0 p1 p2 cq z3
  rw [← hrb] at p3 p4 cq
  have cp : Hid (∀ W, Calls Try.prog 42 #[.string (Lc.str b), .string ⟨#[47, 47]⟩] W fun e w' => e = .returned (.tuple #[.string (Lc.str (if Lc.hoB b then b.drop 2 else b)), .bool (Lc.hoB b)]) ∧ w' = W) := Lib.hid (fun W => by
    have := hpre.out (Lc.str b) W
    rw [Lc.str_list] at this
    exact this)
  obtain ⟨B2, hB2⟩ : ∃ x, x = if Lc.hoB b then b.drop 2 else b := ⟨_, rfl⟩
  have hB2l : B2.length ≤ 1000000 := by
    rw [hB2]
    split
    · rw [List.length_drop]; omega
    · omega
  obtain ⟨T2, hT2⟩ : ∃ x, x = Lc.str B2 := ⟨_, rfl⟩
  have hT2l : T2.data.toList = B2 := by rw [hT2, Lc.str_list]
  have hT2s : T2.size = B2.length := by rw [← hT2l, list_len]
  obtain ⟨n, hn⟩ : ∃ n, n = (Lc.cut B2 [47]).length := ⟨_, rfl⟩
  have hn2 : n ≤ T2.size := by rw [hn, hT2s]; exact Lc.cut_len _ _
  have hu := Lib.hid (fun W => by
    have := hup.out T2 W (by omega)
    rw [hT2l, ← hn] at this
    exact this)
  have g1 : Hid (T2.extract 0 n = Lc.str (Lc.cut B2 [47])) := Lib.hid (by rw [sub_list, List.drop_zero, hT2l, hn, Lc.take_cut])
  have g2 : Hid (T2.extract n T2.size = Lc.str (Lc.rest B2 [47])) := Lib.hid (Lc.str_of (by rw [drop_list, hT2l, hn, Lc.drop_cut]))
  rw [← hB2, ← hT2] at cp
  replace hT2 := Lib.hid hT2
  replace hT2l := Lib.hid hT2l
  replace hT2s := Lib.hid hT2s
  replace hB2l := Lib.hid hB2l
  replace hn := Lib.hid hn
  have hall : Hid (Lc.split L = ⟨Lc.scA L, if Lc.hoB b then Lc.cut (b.drop 2) [47] else [], if Lc.hoB b then Lc.rest (b.drop 2) [47] else b, rb.drop 1, ra.drop 1, Lc.scB L, Lc.hoB b, !rb.isEmpty, !ra.isEmpty⟩) := Lib.hid (by
    unfold Lc.split
    rw [← hS1, p1, p2, p3, p4, p5, p6, p0])
  obtain ⟨fr, hfr⟩ : ∃ x, x = ra.drop 1 := ⟨_, rfl⟩
  obtain ⟨fb, hfb⟩ : ∃ x, x = !ra.isEmpty := ⟨_, rfl⟩
  obtain ⟨qr, hqr⟩ : ∃ x, x = rb.drop 1 := ⟨_, rfl⟩
  obtain ⟨qb, hqb⟩ : ∃ x, x = !rb.isEmpty := ⟨_, rfl⟩
  rw [← hfr, ← hfb] at ca hall
  rw [← hqr, ← hqb] at cq hall
  replace hfr := Lib.hid hfr
  replace hfb := Lib.hid hfb
  replace hqr := Lib.hid hqr
  replace hqb := Lib.hid hqb
  have z4 : Hid (b.length ≤ 1000000) := Lib.hid (by omega)
  replace hS1 := Lib.hid hS1
  replace ha := Lib.hid ha
  replace hra := Lib.hid hra
  replace hb := Lib.hid hb
  replace hrb := Lib.hid hrb
  clear p0 p1 p2 p3 p4 p5 p6 hcu hcuq hpre hup z1 z2 z3 hl ht
  replace ca := Lib.hid ca
  go_wp2_with fail
  (refine ca.out.mono ?_); rintro e w2 ⟨rfl, b2⟩
  have hS2 := Lib.hid (hS.out.on b2)
  clear ca b2 hS
  obtain ⟨x0, x1, x2, x3, x4, x5, x6, x7, x8⟩ := uri_open hS2.out.c
  have f4 := hS2.out.c.free 4
  have f8 := hS2.out.c.free 8
  clear x0 x1 x2 x3 x5 x6 x7
  have hS3 := Lib.hid (hS2.out.set2 4 8 (.string (Lc.str (fr))) (.bool fb) (u' := ⟨Lc.scA L, [], [], [], fr, Lc.scB L, false, false, fb⟩) rfl)
  go_upto_region 5 with fail
  generalize (w2.setCell ⟨w.heap.size, 4, none⟩ (.string (Lc.str (fr)))).setCell ⟨w.heap.size, 8, none⟩ (.bool fb) = w3 at *
  clear x4 x8 f4 f8 hS2
  go_wp2_with fail
  (refine (cq.out _ hS3.out.low).mono ?_); rintro e w4 ⟨rfl, b4⟩
  have hS4 := Lib.hid (hS3.out.on b4)
  clear cq b4 hS3
  obtain ⟨x0, x1, x2, x3, x4, x5, x6, x7, x8⟩ := uri_open hS4.out.c
  have f3 := hS4.out.c.free 3
  have f7 := hS4.out.c.free 7
  clear x0 x1 x2 x4 x5 x6 x8
  have hS5 := Lib.hid (hS4.out.set2 3 7 (.string (Lc.str (qr))) (.bool qb) (u' := ⟨Lc.scA L, [], [], qr, fr, Lc.scB L, false, qb, fb⟩) rfl)
  go_upto_region 6 with fail
  generalize (w4.setCell ⟨w.heap.size, 3, none⟩ (.string (Lc.str (qr)))).setCell ⟨w.heap.size, 7, none⟩ (.bool qb) = w5 at *
  clear x3 x7 f3 f7 hS4
  go_wp2_with fail
  (refine (cp.out _).mono ?_); rintro e w6 ⟨rfl, hw⟩; obtain rfl := hw.symm
  clear cp
  obtain ⟨q, hq⟩ : ∃ q, q = Lc.hoB b := ⟨_, rfl⟩
  rw [← hq] at hall hB2 ⊢
  replace hq := Lib.hid hq
  replace hB2 := Lib.hid hB2
  go_upto_if 47 with fail
  go_cut [0] (fun x wx => ∃ t : ByteArray, x = .string t ∧ Hid (t = Lc.str (if q then Lc.rest (b.drop 2) [47] else b)) ∧ Hid (SR w wx ⟨Lc.scA L, if q then Lc.cut (b.drop 2) [47] else [], [], qr, fr, Lc.scB L, q, qb, fb⟩))
  case first =>
    cases q
    · have hP' : Hid (SR w w5 ⟨Lc.scA L, if false then Lc.cut (b.drop 2) [47] else [], [], qr, fr, Lc.scB L, false, qb, fb⟩) := Lib.hid hS5.out
      clear hn2
      go_wp2_with fail
      go_meet
      exact ⟨_, rfl, Lib.hid rfl, hP'⟩
    · have hB : B2 = b.drop 2 := hB2.out
      obtain ⟨x0, x1, x2, x3, x4, x5, x6, x7, x8⟩ := uri_open hS5.out.c
      have f1 := hS5.out.c.free 1
      have f6 := hS5.out.c.free 6
      clear x0 x2 x3 x4 x5 x7 x8
      have hS6 := Lib.hid (hS5.out.set2 1 6 (.string (T2.extract 0 n)) (.bool true) (u' := ⟨Lc.scA L, if true then Lc.cut (b.drop 2) [47] else [], [], qr, fr, Lc.scB L, true, qb, fb⟩) (by rw [g1.out, hB]; rfl)).drew
      have g3 : Hid (T2.extract n T2.size = Lc.str (if true then Lc.rest (b.drop 2) [47] else b)) := Lib.hid (by rw [g2.out, hB]; rfl)
      have n1 : (n : Int) ≤ (T2.size : Int) := by omega
      have n0 : (0 : Int) ≤ (n : Int) := by omega
      replace hB := Lib.hid hB
      go_wp2_with fail
      (refine (hu.out _).mono ?_); rintro e w7 ⟨rfl, rfl⟩
      go_wp2_with fail
      go_region
      go_wp2_with fail
      go_meet
      exact ⟨_, rfl, g3, hS6⟩
  case rest =>
  clear hu g1 g2 hS5
  obtain ⟨t, rfl, ht, hS⟩ := hcut
  obtain ⟨x0, x1, x2, x3, x4, x5, x6, x7, x8⟩ := uri_open hS.out.c
  have f2 := hS.out.c.free 2
  clear x0 x1 x3 x4 x5 x6 x7 x8
  have hS6 := Lib.hid (hS.out.set 2 (.string t) (u' := Lc.split L) (by rw [hall.out, ht.out]; rfl))
  go_upto_region 11 with fail
  generalize wc.setCell ⟨w.heap.size, 2, none⟩ (.string t) = w8 at *
  clear x2 f2 hS hall
  obtain ⟨u, hu⟩ : ∃ u, u = Lc.split L := ⟨_, rfl⟩
  rw [← hu] at hS6
  replace hu := Lib.hid hu
  obtain ⟨y0, y1, y2, y3, y4, y5, y6, y7, y8⟩ := uri_open hS6.out.c
  have f0 := hS6.out.c.free 0
  have f1 := hS6.out.c.free 1
  have f2 := hS6.out.c.free 2
  have f3 := hS6.out.c.free 3
  have f4 := hS6.out.c.free 4
  have f5 := hS6.out.c.free 5
  have f6 := hS6.out.c.free 6
  have f7 := hS6.out.c.free 7
  have f8 := hS6.out.c.free 8
  have hN := Lib.hid (nine_cells (A := uArr u) rfl hS6.out.c (.string (Lc.str u.scheme)) (.string (Lc.str u.host)) (.string (Lc.str u.path)) (.string (Lc.str u.query)) (.string (Lc.str u.frag)) (.bool u.hasS) (.bool u.hasH) (.bool u.hasQ) (.bool u.hasF))
  have hB := Lib.hid (nine_below hS6.out.low (Nat.le_refl _) (.string (Lc.str u.scheme)) (.string (Lc.str u.host)) (.string (Lc.str u.path)) (.string (Lc.str u.query)) (.string (Lc.str u.frag)) (.bool u.hasS) (.bool u.hasH) (.bool u.hasQ) (.bool u.hasF))
  clear hS6
  go_wp2_with fail
  exact uri_end (rb := w.heap.size) rfl rfl hN.out ⟨by rw [hu.out], hB.out⟩
end Go.Proofs.Ytmfmgbjkbadndaa
