/-
  Whether parts are a reference's, as the program asks it; the program's Parse.
-/
import Derived.Test.YtdhondndidoniaaGreatDoorG16
import Derived.Test.YtdhondndidoniaaGreatDoorG18
import Derived.Test.YtdhondndidoniaaGreatDoorG07
namespace Go.Proofs.YtdhondndidoniaaGreatDoor
open Go.RowKit

set_option maxRecDepth 100000 in
set_option maxHeartbeats 6400000 in
theorem pIsRef_any (u : Lc.U) (w : World) (z0 : u.scheme.length ≤ 1000000) (z1 : u.host.length ≤ 1000000) (z2 : u.path.length ≤ 1000000) (z3 : u.query.length ≤ 1000000) (z4 : u.frag.length ≤ 1000000) : Calls Tryz.prog 150 #[.agg (uArr u)] w fun e w' => e = .returned (.bool (Lc.fineU u)) ∧ Below w.heap.size w w' := by
  have k0 := Cells.new w 40 (uArr u)
  have d0 := (Below.refl w.heap.size w).alloc (Nat.le_refl _) (.cells (uArr u) 40)
  have c0 := Lib.hid (fun W => pScheme_any (Lc.str u.scheme) W (by rw [Lc.str_size]; exact z0))
  have c1 := Lib.hid (fun W => pOfSigns_any (Lc.str u.host) ⟨#[91, 93]⟩ [91, 93] W (by rw [Lc.str_size]; exact z1) rfl rfl)
  have c2 := Lib.hid (fun W => pOfSigns_any (Lc.str u.path) ⟨#[47]⟩ [47] W (by rw [Lc.str_size]; exact z2) rfl rfl)
  have c3 := Lib.hid (fun W => pOfSigns_any (Lc.str u.query) ⟨#[47, 63]⟩ [47, 63] W (by rw [Lc.str_size]; exact z3) rfl rfl)
  have c4 := Lib.hid (fun W => pOfSigns_any (Lc.str u.frag) ⟨#[47, 63]⟩ [47, 63] W (by rw [Lc.str_size]; exact z4) rfl rfl)
  rw [Lc.str_list] at c0 c1 c2 c3 c4
  clear z0 z1 z2 z3 z4
  unfold uArr at k0 d0 ⊢
  go_enter Tryz.func150, Tryz.ntmps150
  replace k0 := Lib.hid k0
  replace d0 := Lib.hid d0
  go_upto_region 1 with fail
  generalize w.alloc (.cells #[.string (Lc.str u.scheme), .string (Lc.str u.host), .string (Lc.str u.path), .string (Lc.str u.query), .string (Lc.str u.frag), .bool u.hasS, .bool u.hasH, .bool u.hasQ, .bool u.hasF] 40) = w0 at *
  replace d0 := d0.out
  have d0_ := Below.refl w0.heap.size w0
  have y5 := k0.out.cell (i := 5) (v := .bool u.hasS) rfl
  cases hs : u.hasS
  case false =>
    have h0 : Hid ((!u.hasS || Lc.scheme u.scheme) = true) := Lib.hid (by rw [hs]; rfl)
    rw [hs] at y5
    replace hs := Lib.hid hs
    have y1 := (k0.out.on d0_).cell (i := 1) (v := .string (Lc.str u.host)) rfl
    go_wp2_with fail
    (refine (c1.out _).mono ?_); rintro e v1 ⟨rfl, b1⟩
    have d1 := d0.trans (b1.mono d0.size)
    have d1_ := d0_.trans (b1.mono d0_.size)
    clear b1 y1
    cases h1 : Lc.signs [91, 93] u.host
    case false =>
      have hfin : Hid (Lc.fineU u = false) := Lib.hid (by unfold Lc.fineU; rw [h0.out, h1]; rfl)
      replace h1 := Lib.hid h1
      go_wp2_with fail
      go_ret
      exact ⟨ret_bool hfin.out.symm, d1⟩
    replace h1 := Lib.hid h1
    have y2 := (k0.out.on d1_).cell (i := 2) (v := .string (Lc.str u.path)) rfl
    go_wp2_with fail
    (refine (c2.out _).mono ?_); rintro e v2 ⟨rfl, b2⟩
    have d2 := d1.trans (b2.mono d1.size)
    have d2_ := d1_.trans (b2.mono d1_.size)
    clear b2 y2
    cases h2 : Lc.signs [47] u.path
    case false =>
      have hfin : Hid (Lc.fineU u = false) := Lib.hid (by unfold Lc.fineU; rw [h0.out, h1.out, h2]; rfl)
      replace h2 := Lib.hid h2
      go_wp2_with fail
      go_ret
      exact ⟨ret_bool hfin.out.symm, d2⟩
    replace h2 := Lib.hid h2
    have y3 := (k0.out.on d2_).cell (i := 3) (v := .string (Lc.str u.query)) rfl
    go_wp2_with fail
    (refine (c3.out _).mono ?_); rintro e v3 ⟨rfl, b3⟩
    have d3 := d2.trans (b3.mono d2.size)
    have d3_ := d2_.trans (b3.mono d2_.size)
    clear b3 y3
    cases h3 : Lc.signs [47, 63] u.query
    case false =>
      have hfin : Hid (Lc.fineU u = false) := Lib.hid (by unfold Lc.fineU; rw [h0.out, h1.out, h2.out, h3]; rfl)
      replace h3 := Lib.hid h3
      go_wp2_with fail
      go_ret
      exact ⟨ret_bool hfin.out.symm, d3⟩
    replace h3 := Lib.hid h3
    have y4 := (k0.out.on d3_).cell (i := 4) (v := .string (Lc.str u.frag)) rfl
    go_wp2_with fail
    (refine (c4.out _).mono ?_); rintro e v4 ⟨rfl, b4⟩
    have d4 := d3.trans (b4.mono d3.size)
    have d4_ := d3_.trans (b4.mono d3_.size)
    clear b4 y4
    cases h4 : Lc.signs [47, 63] u.frag
    case false =>
      have hfin : Hid (Lc.fineU u = false) := Lib.hid (by unfold Lc.fineU; rw [h0.out, h1.out, h2.out, h3.out, h4]; rfl)
      replace h4 := Lib.hid h4
      go_wp2_with fail
      go_ret
      exact ⟨ret_bool hfin.out.symm, d4⟩
    replace h4 := Lib.hid h4
    have hfin : Hid (Lc.fineU u = true) := Lib.hid (by unfold Lc.fineU; rw [h0.out, h1.out, h2.out, h3.out, h4.out]; rfl)
    go_wp2_with fail
    go_ret
    exact ⟨ret_bool hfin.out.symm, d4⟩
  rw [hs] at y5
  have y0 := k0.out.cell (i := 0) (v := .string (Lc.str u.scheme)) rfl
  go_wp2_with fail
  (refine (c0.out _).mono ?_); rintro e v0 ⟨rfl, b0⟩
  have e0 := d0.trans (b0.mono d0.size)
  have e0_ := d0_.trans (b0.mono d0_.size)
  clear b0 y0 y5
  cases hc : Lc.scheme u.scheme
  case false =>
    have hfin : Hid (Lc.fineU u = false) := Lib.hid (by unfold Lc.fineU; rw [hs, hc]; rfl)
    replace hs := Lib.hid hs
    replace hc := Lib.hid hc
    go_wp2_with fail
    go_ret
    exact ⟨ret_bool hfin.out.symm, e0⟩
  have h0 : Hid ((!u.hasS || Lc.scheme u.scheme) = true) := Lib.hid (by rw [hs, hc]; rfl)
  replace hs := Lib.hid hs
  replace hc := Lib.hid hc
  have y1 := (k0.out.on e0_).cell (i := 1) (v := .string (Lc.str u.host)) rfl
  go_wp2_with fail
  (refine (c1.out _).mono ?_); rintro e v1 ⟨rfl, b1⟩
  have d1 := e0.trans (b1.mono e0.size)
  have d1_ := e0_.trans (b1.mono e0_.size)
  clear b1 y1
  cases h1 : Lc.signs [91, 93] u.host
  case false =>
    have hfin : Hid (Lc.fineU u = false) := Lib.hid (by unfold Lc.fineU; rw [h0.out, h1]; rfl)
    replace h1 := Lib.hid h1
    go_wp2_with fail
    go_ret
    exact ⟨ret_bool hfin.out.symm, d1⟩
  replace h1 := Lib.hid h1
  have y2 := (k0.out.on d1_).cell (i := 2) (v := .string (Lc.str u.path)) rfl
  go_wp2_with fail
  (refine (c2.out _).mono ?_); rintro e v2 ⟨rfl, b2⟩
  have d2 := d1.trans (b2.mono d1.size)
  have d2_ := d1_.trans (b2.mono d1_.size)
  clear b2 y2
  cases h2 : Lc.signs [47] u.path
  case false =>
    have hfin : Hid (Lc.fineU u = false) := Lib.hid (by unfold Lc.fineU; rw [h0.out, h1.out, h2]; rfl)
    replace h2 := Lib.hid h2
    go_wp2_with fail
    go_ret
    exact ⟨ret_bool hfin.out.symm, d2⟩
  replace h2 := Lib.hid h2
  have y3 := (k0.out.on d2_).cell (i := 3) (v := .string (Lc.str u.query)) rfl
  go_wp2_with fail
  (refine (c3.out _).mono ?_); rintro e v3 ⟨rfl, b3⟩
  have d3 := d2.trans (b3.mono d2.size)
  have d3_ := d2_.trans (b3.mono d2_.size)
  clear b3 y3
  cases h3 : Lc.signs [47, 63] u.query
  case false =>
    have hfin : Hid (Lc.fineU u = false) := Lib.hid (by unfold Lc.fineU; rw [h0.out, h1.out, h2.out, h3]; rfl)
    replace h3 := Lib.hid h3
    go_wp2_with fail
    go_ret
    exact ⟨ret_bool hfin.out.symm, d3⟩
  replace h3 := Lib.hid h3
  have y4 := (k0.out.on d3_).cell (i := 4) (v := .string (Lc.str u.frag)) rfl
  go_wp2_with fail
  (refine (c4.out _).mono ?_); rintro e v4 ⟨rfl, b4⟩
  have d4 := d3.trans (b4.mono d3.size)
  have d4_ := d3_.trans (b4.mono d3_.size)
  clear b4 y4
  cases h4 : Lc.signs [47, 63] u.frag
  case false =>
    have hfin : Hid (Lc.fineU u = false) := Lib.hid (by unfold Lc.fineU; rw [h0.out, h1.out, h2.out, h3.out, h4]; rfl)
    replace h4 := Lib.hid h4
    go_wp2_with fail
    go_ret
    exact ⟨ret_bool hfin.out.symm, d4⟩
  replace h4 := Lib.hid h4
  have hfin : Hid (Lc.fineU u = true) := Lib.hid (by unfold Lc.fineU; rw [h0.out, h1.out, h2.out, h3.out, h4.out]; rfl)
  go_wp2_with fail
  go_ret
  exact ⟨ret_bool hfin.out.symm, d4⟩

set_option maxRecDepth 100000 in
set_option maxHeartbeats 12800000 in
theorem pParse_any (s : ByteArray) (w : World) (hs : s.size ≤ 100000) (hE : Env w) : Calls Tryz.prog 117 #[.string s] w fun e w' => e = .returned (.tuple #[.agg (uArr (Lc.parseU s.data.toList)), .int .i64 (Lc.parseE s.data.toList)]) ∧ Below w.heap.size w w' := by
  have kR := Cells.new w 40 #[.string ⟨#[]⟩, .string ⟨#[]⟩, .string ⟨#[]⟩, .string ⟨#[]⟩, .string ⟨#[]⟩, .bool false, .bool false, .bool false, .bool false]
  have bR := (Below.refl w.heap.size w).alloc (Nat.le_refl _) (.cells #[.string ⟨#[]⟩, .string ⟨#[]⟩, .string ⟨#[]⟩, .string ⟨#[]⟩, .string ⟨#[]⟩, .bool false, .bool false, .bool false, .bool false] 40)
  have cs := Lib.hid (fun W h => pSplit_any s W (by omega) (hE.on h))
  have cc := Lib.hid (fun W h => gCheck_any s W (by omega) (hE.on h))
  obtain ⟨L, hL⟩ : ∃ L, L = s.data.toList := ⟨_, rfl⟩
  have hLs : L.length ≤ 1000000 := by rw [hL, list_len]; omega
  rw [← hL] at cs cc ⊢
  obtain ⟨u, hu⟩ : ∃ u, u = Lc.split L := ⟨_, rfl⟩
  obtain ⟨z0, z1, z2, z3, z4⟩ : _ ∧ _ ∧ _ ∧ _ ∧ _ := Lc.split_len L
  rw [← hu] at cs z0 z1 z2 z3 z4
  obtain ⟨ce, hce⟩ : ∃ ce, ce = G.checkN L := ⟨_, rfl⟩
  rw [← hce] at cc
  have hfu : Hid (Lc.fine L = (decide (ce = 0) && Lc.fineU u)) := Lib.hid (by rw [Lc.fine, ← hce, ← hu])
  have cr := Lib.hid (fun W => pIsRef_any u W (by omega) (by omega) (by omega) (by omega) (by omega))
  replace hE := Lib.hid hE
  replace hL := Lib.hid hL
  replace hu := Lib.hid hu
  replace hce := Lib.hid hce
  clear z0 z1 z2 z3 z4 hs hE
  go_enter Tryz.func117, Tryz.ntmps117
  replace kR := Lib.hid kR
  go_wp2_with fail
  (refine (cs.out _ bR).mono ?_); rintro e w1 ⟨rfl, b1⟩
  have kR1 := kR.out.on b1
  have bR1 := bR.trans (b1.mono bR.size)
  have kU := Cells.new w1 40 (uArr u)
  have bU := (Below.refl w1.heap.size w1).alloc (Nat.le_refl _) (.cells (uArr u) 40)
  have kR2 := kR1.on bU
  have bR2 := bR1.trans (bU.mono bR1.size)
  have hne : ¬ w.heap.size = w1.heap.size := by have := kR1.lt; omega
  clear kR kR1 bR1 b1 bU bR cs
  unfold uArr at kU kR2 bR2 ⊢
  go_upto_region 2 with fail
  generalize w1.alloc (.cells #[.string (Lc.str u.scheme), .string (Lc.str u.host), .string (Lc.str u.path), .string (Lc.str u.query), .string (Lc.str u.frag), .bool u.hasS, .bool u.hasH, .bool u.hasQ, .bool u.hasF] 40) = w2 at *
  replace kU := Lib.hid kU
  replace kR2 := Lib.hid kR2
  replace bR2 := Lib.hid bR2
  go_cut [14] (fun c wx => c = .bool (!Lc.fine L) ∧ Hid (Below w2.heap.size w2 wx))
  case first =>
    go_wp2_with fail
    (refine (cc.out _ bR2.out).mono ?_); rintro e w3 ⟨rfl, b3⟩
    obtain ⟨y0, y1, y2, y3, y4, y5, y6, y7, y8⟩ := uri_open (u := u) (kU.out.on b3)
    replace b3 := Lib.hid b3
    by_cases h0 : ce = 0
    case neg =>
      have h0i : ¬ (ce : Int) = 0 := by omega
      have h0b : ((ce : Int) != 0) = true := by rw [bne_iff_ne]; omega
      have hq : Hid (Lc.fine L = false) := Lib.hid (by rw [hfu.out, decide_eq_false h0]; rfl)
      clear h0
      go_wp2_with fail
      go_meet
      exact ⟨by rw [hq.out]; rfl, b3⟩
    have hq : Hid (Lc.fine L = Lc.fineU u) := Lib.hid (by rw [hfu.out, decide_eq_true h0]; rfl)
    have h0i : (ce : Int) = 0 := by omega
    have h0b : ((ce : Int) != 0) = false := by rw [bne_eq_false_iff_eq]; omega
    clear h0
    go_wp2_with fail
    (refine (cr.out _).mono ?_); rintro e w4 ⟨rfl, b4⟩
    have b5 := Lib.hid (b3.out.trans (b4.mono b3.out.size))
    clear b3 b4
    go_wp2_with fail
    go_meet
    exact ⟨by rw [hq.out], b5⟩
  case rest =>
  obtain ⟨rfl, bx⟩ := hcut
  have kR3 := kR2.out.on bx.out
  have kU3 := kU.out.on bx.out
  have bR3 := bR2.out.trans (bx.out.mono bR2.out.size)
  obtain ⟨x0, x1, x2, x3, x4, x5, x6, x7, x8⟩ := zero_open (show Cells _ _ _ (uArr Lc.none) from kR3)
  have f0 := kR3.free 0
  have f1 := kR3.free 1
  have f2 := kR3.free 2
  have f3 := kR3.free 3
  have f4 := kR3.free 4
  have f5 := kR3.free 5
  have f6 := kR3.free 6
  have f7 := kR3.free 7
  have f8 := kR3.free 8
  obtain ⟨y0, y1, y2, y3, y4, y5, y6, y7, y8⟩ := uri_open (u := u) kU3
  have hN := Lib.hid (nine_cells (A := uArr Lc.none) rfl kR3 (.string (Lc.str u.scheme)) (.string (Lc.str u.host)) (.string (Lc.str u.path)) (.string (Lc.str u.query)) (.string (Lc.str u.frag)) (.bool u.hasS) (.bool u.hasH) (.bool u.hasQ) (.bool u.hasF))
  have hB := Lib.hid (nine_below bR3 (Nat.le_refl _) (.string (Lc.str u.scheme)) (.string (Lc.str u.host)) (.string (Lc.str u.path)) (.string (Lc.str u.query)) (.string (Lc.str u.frag)) (.bool u.hasS) (.bool u.hasH) (.bool u.hasQ) (.bool u.hasF))
  have hN2 := Lib.hid (nine_cells (A := uArr Lc.none) rfl kR3 (.string ⟨#[]⟩) (.string ⟨#[]⟩) (.string ⟨#[]⟩) (.string ⟨#[]⟩) (.string ⟨#[]⟩) (.bool false) (.bool false) (.bool false) (.bool false))
  have hB2 := Lib.hid (nine_below bR3 (Nat.le_refl _) (.string ⟨#[]⟩) (.string ⟨#[]⟩) (.string ⟨#[]⟩) (.string ⟨#[]⟩) (.string ⟨#[]⟩) (.bool false) (.bool false) (.bool false) (.bool false))
  clear kR3 kU3 bR3 bx kR2 kU bR2 hfu cc cr
  cases hq : Lc.fine L
  case true =>
    have hfin : Hid (Lc.parseU L = u ∧ Lc.parseE L = 0) := Lib.hid (by rw [Lc.parseU, Lc.parseE, hq, if_pos rfl, if_pos rfl]; exact ⟨hu.out.symm, rfl⟩)
    rw [show (!true) = false from rfl]
    replace hq := Lib.hid hq
    go_wp2_with fail
    exact uri_end2 (rb := w.heap.size) (u := u) rfl rfl rfl hN.out ⟨by rw [hfin.out.1, hfin.out.2], hB.out⟩
  case false =>
    have hfin : Hid (Lc.parseU L = Lc.none ∧ Lc.parseE L = 120) := Lib.hid (by rw [Lc.parseU, Lc.parseE, hq, if_neg (by simp), if_neg (by simp)]; exact ⟨rfl, rfl⟩)
    rw [show (!false) = true from rfl]
    replace hq := Lib.hid hq
    go_wp2_with fail
    exact uri_end2 (rb := w.heap.size) (u := Lc.none) rfl rfl rfl hN2.out ⟨by rw [hfin.out.1, hfin.out.2], hB2.out⟩
end Go.Proofs.YtdhondndidoniaaGreatDoor
