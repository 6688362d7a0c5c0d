/-
  The statements' walks: short, LocatorBases.
-/
import Derived.Test.YtmfmgbjkbadndaaLocLaw
import Derived.BigRegion
namespace Go.Proofs.Ytmfmgbjkbadndaa
open Go.RowKit

namespace Lc
def total (u : U) : Nat := u.scheme.length + u.host.length + u.path.length + u.query.length + u.frag.length
theorem small_total {u : U} (h : total u ≤ 2000) : Small u := by
  unfold total at h
  exact ⟨by omega, by omega, by omega, by omega, by omega⟩
end Lc

set_option maxRecDepth 100000 in
set_option maxHeartbeats 12800000 in
theorem short_any (u : Lc.U) (w : World) (h : Lc.total u ≤ 1125899906842624) : Calls Try.prog 13 #[.agg (uArr u)] w fun e w' => e = .returned (.bool (decide (Lc.total u ≤ 2000))) ∧ Below w.heap.size w w' := by
  have b0 := (Below.refl w.heap.size w).alloc (Nat.le_refl _) (.cells (uArr u) 24)
  obtain ⟨x0, x1, x2, x3, x4, x5, x6, x7, x8⟩ := uri_open (uri_alloc w u)
  have z : Lc.total u = (Lc.str u.scheme).size + (Lc.str u.host).size + (Lc.str u.path).size + (Lc.str u.query).size + (Lc.str u.frag).size := by
    rw [Lc.total, Lc.str_size, Lc.str_size, Lc.str_size, Lc.str_size, Lc.str_size]
  obtain ⟨T, hT⟩ : ∃ T, T = Lc.total u := ⟨_, rfl⟩
  rw [← hT] at z h ⊢
  clear hT
  unfold uArr at x0 x1 x2 x3 x4 x5 x6 x7 x8 b0 ⊢
  generalize Lc.str u.scheme = a0 at *
  generalize Lc.str u.host = a1 at *
  generalize Lc.str u.path = a2 at *
  generalize Lc.str u.query = a3 at *
  generalize Lc.str u.frag = a4 at *
  replace b0 := Lib.hid b0
  have s0 : (a0.size : Int) ≤ 1125899906842624 := by omega
  have s1 : (a1.size : Int) ≤ 1125899906842624 := by omega
  have s2 : (a2.size : Int) ≤ 1125899906842624 := by omega
  have s3 : (a3.size : Int) ≤ 1125899906842624 := by omega
  have s4 : (a4.size : Int) ≤ 1125899906842624 := by omega
  have hq : Hid (decide ((a0.size : Int) + a1.size + a2.size + a3.size + a4.size ≤ 2000) = decide (T ≤ 2000)) := Lib.hid (by
    rw [decide_eq_decide]; omega)
  replace z := Lib.hid z
  replace h := Lib.hid h
  go_enter Try.func13, Try.ntmps13
  go_wp2_with fail
  go_ret
  exact ⟨ret_bool hq.out, b0.out⟩

set_option maxRecDepth 100000 in
set_option maxHeartbeats 12800000 in
theorem bases_any (b r : Lc.U) (w : World) (hb : Lc.total b ≤ 1125899906842624) (hr : Lc.total r ≤ 1125899906842624) (hE : Env w) : Calls Try.prog 8 #[.agg (uArr b), .agg (uArr r)] w fun e w' => e = .returned (.bool true) ∧ Below w.heap.size w w' := by
  have kb : Cells ((w.alloc (.cells #[.string (Lc.str b.scheme), .string (Lc.str b.host), .string (Lc.str b.path), .string (Lc.str b.query), .string (Lc.str b.frag), .bool b.hasS, .bool b.hasH, .bool b.hasQ, .bool b.hasF] 24)).alloc (.cells #[.string (Lc.str r.scheme), .string (Lc.str r.host), .string (Lc.str r.path), .string (Lc.str r.query), .string (Lc.str r.frag), .bool r.hasS, .bool r.hasH, .bool r.hasQ, .bool r.hasF] 24)) w.heap.size 24 (uArr b) := (Cells.new w 24 (uArr b)).alloc _
  have kr : Cells ((w.alloc (.cells #[.string (Lc.str b.scheme), .string (Lc.str b.host), .string (Lc.str b.path), .string (Lc.str b.query), .string (Lc.str b.frag), .bool b.hasS, .bool b.hasH, .bool b.hasQ, .bool b.hasF] 24)).alloc (.cells #[.string (Lc.str r.scheme), .string (Lc.str r.host), .string (Lc.str r.path), .string (Lc.str r.query), .string (Lc.str r.frag), .bool r.hasS, .bool r.hasH, .bool r.hasQ, .bool r.hasF] 24)) (w.heap.size + 1) 24 (uArr r) := by
    have := Cells.new (w.alloc (.cells #[.string (Lc.str b.scheme), .string (Lc.str b.host), .string (Lc.str b.path), .string (Lc.str b.query), .string (Lc.str b.frag), .bool b.hasS, .bool b.hasH, .bool b.hasQ, .bool b.hasF] 24)) 24 (uArr r)
    rw [World.size_alloc] at this
    exact this
  have b2 : Below w.heap.size w ((w.alloc (.cells #[.string (Lc.str b.scheme), .string (Lc.str b.host), .string (Lc.str b.path), .string (Lc.str b.query), .string (Lc.str b.frag), .bool b.hasS, .bool b.hasH, .bool b.hasQ, .bool b.hasF] 24)).alloc (.cells #[.string (Lc.str r.scheme), .string (Lc.str r.host), .string (Lc.str r.path), .string (Lc.str r.query), .string (Lc.str r.frag), .bool r.hasS, .bool r.hasH, .bool r.hasQ, .bool r.hasF] 24)) := ((Below.refl _ _).alloc (Nat.le_refl _) _).alloc (by simp) _
  show Calls Try.prog 8 #[.agg #[.string (Lc.str b.scheme), .string (Lc.str b.host), .string (Lc.str b.path), .string (Lc.str b.query), .string (Lc.str b.frag), .bool b.hasS, .bool b.hasH, .bool b.hasQ, .bool b.hasF], .agg #[.string (Lc.str r.scheme), .string (Lc.str r.host), .string (Lc.str r.path), .string (Lc.str r.query), .string (Lc.str r.frag), .bool r.hasS, .bool r.hasH, .bool r.hasQ, .bool r.hasF]] w _
  go_enter Try.func8, Try.ntmps8
  go_upto_region 1 with fail
  generalize (w.alloc (.cells #[.string (Lc.str b.scheme), .string (Lc.str b.host), .string (Lc.str b.path), .string (Lc.str b.query), .string (Lc.str b.frag), .bool b.hasS, .bool b.hasH, .bool b.hasQ, .bool b.hasF] 24)).alloc (.cells #[.string (Lc.str r.scheme), .string (Lc.str r.host), .string (Lc.str r.path), .string (Lc.str r.query), .string (Lc.str r.frag), .bool r.hasS, .bool r.hasH, .bool r.hasQ, .bool r.hasF] 24) = w2 at *
  have ca := Lib.hid (awake_any w2 (hE.on b2))
  go_wp2_with fail
  (refine ca.out.mono ?_); rintro e w3 ⟨rfl, b3⟩
  have kb3 := kb.on b3
  have kr3 := kr.on b3
  have g3 := b2.trans (b3.mono b2.size)
  clear kb kr b2 b3 ca
  have cb := short_any b w3 hb
  have cr := Lib.hid (fun W => short_any r W hr)
  have hs := Lib.hid (And.intro (Lc.small_total (u := b)) (Lc.small_total (u := r)))
  unfold uArr at cb
  obtain ⟨x0, x1, x2, x3, x4, x5, x6, x7, x8⟩ := uri_open kb3
  replace cb := Lib.hid cb
  replace kb3 := Lib.hid kb3
  replace kr3 := Lib.hid kr3
  clear hb hr
  go_wp2_with fail
  (refine cb.out.mono ?_); rintro e w4 ⟨rfl, b4⟩
  have kb4 := Lib.hid (kb3.out.on b4)
  have kr4 := kr3.out.on b4
  have g4 := g3.trans (b4.mono g3.size)
  clear cb kb3 kr3 g3 b4 x0 x1 x2 x3 x4 x5 x6 x7 x8
  by_cases hb2 : Lc.total b ≤ 2000
  case neg =>
    rw [decide_eq_false hb2]
    replace hb2 := Lib.hid hb2
    go_wp2_with fail
    go_ret
    exact ⟨rfl, g4⟩
  rw [decide_eq_true hb2]
  obtain ⟨y0, y1, y2, y3, y4, y5, y6, y7, y8⟩ := uri_open kr4
  have cr' := cr.out w4
  unfold uArr at cr'
  replace cr' := Lib.hid cr'
  replace kr4 := Lib.hid kr4
  clear cr
  have hsb := hs.out.1 hb2
  replace hsb := Lib.hid hsb
  replace hb2 := Lib.hid hb2
  go_wp2_with fail
  (refine cr'.out.mono ?_); rintro e w5 ⟨rfl, b5⟩
  have kb5 := Lib.hid (kb4.out.on b5)
  have kr5 := Lib.hid (kr4.out.on b5)
  have g5 := g4.trans (b5.mono g4.size)
  clear cr' kb4 kr4 g4 b5 y0 y1 y2 y3 y4 y5 y6 y7 y8
  by_cases hr2 : Lc.total r ≤ 2000
  case neg =>
    rw [decide_eq_false hr2]
    replace hr2 := Lib.hid hr2
    go_wp2_with fail
    go_ret
    exact ⟨rfl, g5⟩
  rw [decide_eq_true hr2]
  have hsr := Lib.hid (hs.out.2 hr2)
  replace hr2 := Lib.hid hr2
  clear hs
  have y5 := (uri_open kr5.out).2.2.2.2.2.1
  have f5 := kr5.out.free 5
  go_upto_region 7 with fail
  have kr6 := Lib.hid (show Cells (w5.setCell ⟨w.heap.size + 1, 5, none⟩ (.bool true)) (w.heap.size + 1) 24 (uArr { r with hasS := true }) from kr5.out.set 5 (.bool true))
  have kb6 := Lib.hid (kb5.out.other 5 (.bool true) (c := w.heap.size + 1) (by omega))
  have g6 := g5.setCell (p := ⟨w.heap.size + 1, 5, none⟩) (by show w.heap.size ≤ w.heap.size + 1; omega) (.bool true)
  generalize w5.setCell ⟨w.heap.size + 1, 5, none⟩ (.bool true) = w6 at *
  clear kb5 kr5 y5 f5 g5
  have c7 : Calls Try.prog 18 #[.agg #[.string (Lc.str b.scheme), .string (Lc.str b.host), .string (Lc.str b.path), .string (Lc.str b.query), .string (Lc.str b.frag), .bool b.hasS, .bool b.hasH, .bool b.hasQ, .bool b.hasF], .agg #[.string (Lc.str r.scheme), .string (Lc.str r.host), .string (Lc.str r.path), .string (Lc.str r.query), .string (Lc.str r.frag), .bool true, .bool r.hasH, .bool r.hasQ, .bool r.hasF]] w6 fun e w' => e = .returned (.agg #[.string (Lc.str r.scheme), .string (Lc.str r.host), .string (Lc.str (Lc.dots r.path)), .string (Lc.str r.query), .string (Lc.str r.frag), .bool true, .bool r.hasH, .bool r.hasQ, .bool r.hasF]) ∧ Below w6.heap.size w6 w' := by
    have := pResolve_any b { r with hasS := true } w6 hsb.out hsr.out (hE.on g6)
    rw [Lc.resolve, if_pos rfl] at this
    exact this
  have hpz := Lib.hid (show (Lc.str r.path).size ≤ 100000 by rw [Lc.str_size]; exact hsr.out.2.2.1)
  have hE' := Lib.hid hE
  replace c7 := Lib.hid c7
  obtain ⟨x0, x1, x2, x3, x4, x5, x6, x7, x8⟩ := uri_open kb6.out
  obtain ⟨y0, y1, y2, y3, y4, y5, y6, y7, y8⟩ := uri_open kr6.out
  go_wp2_with fail
  (refine c7.out.mono ?_); rintro e w7 ⟨rfl, b7⟩
  have q7 := (Below.refl w7.heap.size w7).alloc (Nat.le_refl _) (.cells #[.string (Lc.str r.scheme), .string (Lc.str r.host), .string (Lc.str (Lc.dots r.path)), .string (Lc.str r.query), .string (Lc.str r.frag), .bool true, .bool r.hasH, .bool r.hasQ, .bool r.hasF] 24)
  have kx8 : Hid (Cells (w7.alloc (.cells #[.string (Lc.str r.scheme), .string (Lc.str r.host), .string (Lc.str (Lc.dots r.path)), .string (Lc.str r.query), .string (Lc.str r.frag), .bool true, .bool r.hasH, .bool r.hasQ, .bool r.hasF] 24)) w7.heap.size 24 (uArr { r with hasS := true, path := Lc.dots r.path })) := Lib.hid (Cells.new w7 24 (uArr { r with hasS := true, path := Lc.dots r.path }))
  have kb8 := Lib.hid ((kb6.out.on b7).on q7)
  have kr8 := Lib.hid ((kr6.out.on b7).on q7)
  have lr7 := (kr6.out.on b7).lt
  have g8 := (g6.trans (b7.mono g6.size)).trans (q7.mono (g6.trans (b7.mono g6.size)).size)
  clear c7 kb6 kr6 g6 b7 q7 x0 x1 x2 x3 x4 x5 x6 x7 x8 y0 y1 y2 y3 y4 y5 y6 y7 y8
  go_upto_region 8 with fail
  generalize w7.alloc (.cells #[.string (Lc.str r.scheme), .string (Lc.str r.host), .string (Lc.str (Lc.dots r.path)), .string (Lc.str r.query), .string (Lc.str r.frag), .bool true, .bool r.hasH, .bool r.hasQ, .bool r.hasF] 24) = w8 at *
  generalize w7.heap.size = bx at *
  have c9 : Calls Try.prog 18 #[.agg #[.string (Lc.str b.scheme), .string (Lc.str b.host), .string (Lc.str b.path), .string (Lc.str b.query), .string (Lc.str b.frag), .bool b.hasS, .bool b.hasH, .bool b.hasQ, .bool b.hasF], .agg #[.string ⟨#[]⟩, .string ⟨#[]⟩, .string ⟨#[]⟩, .string ⟨#[]⟩, .string (Lc.str r.frag), .bool false, .bool false, .bool false, .bool r.hasF]] w8 fun e w' => e = .returned (.agg #[.string (Lc.str b.scheme), .string (Lc.str b.host), .string (Lc.str b.path), .string (Lc.str b.query), .string (Lc.str r.frag), .bool b.hasS, .bool b.hasH, .bool b.hasQ, .bool r.hasF]) ∧ Below w8.heap.size w8 w' := by
    have := pResolve_any b (⟨[], [], [], [], r.frag, false, false, false, r.hasF⟩ : Lc.U) w8 hsb.out ⟨by simp, by simp, by simp, by simp, hsr.out.2.2.2.2⟩ (hE.on g8)
    rw [Lc.resolve, if_neg (by simp), if_neg (by simp), if_pos rfl] at this
    exact this
  replace c9 := Lib.hid c9
  obtain ⟨x0, x1, x2, x3, x4, x5, x6, x7, x8⟩ := uri_open kb8.out
  obtain ⟨y0, y1, y2, y3, y4, y5, y6, y7, y8⟩ := uri_open kr8.out
  go_wp2_with fail
  (refine c9.out.mono ?_); rintro e w9 ⟨rfl, b9⟩
  have q9 := (Below.refl w9.heap.size w9).alloc (Nat.le_refl _) (.cells #[.string (Lc.str b.scheme), .string (Lc.str b.host), .string (Lc.str b.path), .string (Lc.str b.query), .string (Lc.str r.frag), .bool b.hasS, .bool b.hasH, .bool b.hasQ, .bool r.hasF] 24)
  have ky10 : Hid (Cells (w9.alloc (.cells #[.string (Lc.str b.scheme), .string (Lc.str b.host), .string (Lc.str b.path), .string (Lc.str b.query), .string (Lc.str r.frag), .bool b.hasS, .bool b.hasH, .bool b.hasQ, .bool r.hasF] 24)) w9.heap.size 24 (uArr { b with frag := r.frag, hasF := r.hasF })) := Lib.hid (Cells.new w9 24 (uArr { b with frag := r.frag, hasF := r.hasF }))
  have kb10 := Lib.hid ((kb8.out.on b9).on q9)
  have kr10 := Lib.hid ((kr8.out.on b9).on q9)
  have kx10 := Lib.hid ((kx8.out.on b9).on q9)
  have lx9 := (kx8.out.on b9).lt
  have g10 := (g8.trans (b9.mono g8.size)).trans (q9.mono (g8.trans (b9.mono g8.size)).size)
  clear c9 kb8 kr8 kx8 g8 b9 q9 x0 x1 x2 x3 x4 x5 x6 x7 x8 y0 y1 y2 y3 y4 y5 y6 y7 y8
  go_upto_region 9 with fail
  generalize w9.alloc (.cells #[.string (Lc.str b.scheme), .string (Lc.str b.host), .string (Lc.str b.path), .string (Lc.str b.query), .string (Lc.str r.frag), .bool b.hasS, .bool b.hasH, .bool b.hasQ, .bool r.hasF] 24) = wa at *
  generalize w9.heap.size = bY at *
  have y2 := (uri_open kr10.out).2.2.1
  have cd := Lib.hid (pDots_any (Lc.str r.path) wa hpz.out (hE.on g10))
  go_wp2_with fail
  (refine cd.out.mono ?_); rintro e wb ⟨rfl, bb⟩
  rw [Lc.str_list]
  have kb11 := kb10.out.on bb
  have kr11 := kr10.out.on bb
  have kx11 := kx10.out.on bb
  have ky11 := ky10.out.on bb
  have g11 := g10.trans (bb.mono g10.size)
  have z2 := (uri_open kr11).2.2.1
  have f2 := kr11.free 2
  have hx1 : ¬ bx = w.heap.size := by omega
  have hx2 : ¬ bx = w.heap.size + 1 := by omega
  have hy1 : ¬ bY = w.heap.size := by omega
  have hy2 : ¬ bY = w.heap.size + 1 := by omega
  have kr12 : Hid (Cells (wb.setCell ⟨w.heap.size + 1, 2, none⟩ (.string (Lc.str (Lc.dots r.path)))) (w.heap.size + 1) 24 (uArr { r with hasS := true, path := Lc.dots r.path })) := Lib.hid (kr11.set 2 (.string (Lc.str (Lc.dots r.path))))
  have kb12 := Lib.hid (kb11.other 2 (.string (Lc.str (Lc.dots r.path))) (c := w.heap.size + 1) (by omega))
  have kx12 := Lib.hid (kx11.other 2 (.string (Lc.str (Lc.dots r.path))) hx2)
  have ky12 := Lib.hid (ky11.other 2 (.string (Lc.str (Lc.dots r.path))) hy2)
  have g12 := Lib.hid (g11.setCell (p := ⟨w.heap.size + 1, 2, none⟩) (by show w.heap.size ≤ w.heap.size + 1; omega) (.string (Lc.str (Lc.dots r.path))))
  clear kb10 kr10 kx10 ky10 g10 bb y2 cd kb11 kr11 kx11 ky11 g11 lr7 lx9
  go_upto_region 10 with fail
  generalize wb.setCell ⟨w.heap.size + 1, 2, none⟩ (.string (Lc.str (Lc.dots r.path))) = wc at *
  clear z2 f2
  have kb13 : Hid (Cells ((wc.setCell ⟨w.heap.size, 4, none⟩ (.string (Lc.str r.frag))).setCell ⟨w.heap.size, 8, none⟩ (.bool r.hasF)).drew w.heap.size 24 (uArr { b with frag := r.frag, hasF := r.hasF })) := Lib.hid ((kb12.out.set 4 (.string (Lc.str r.frag))).set 8 (.bool r.hasF)).drew
  have kr13 := Lib.hid (((kr12.out.other 4 (.string (Lc.str r.frag)) (c := w.heap.size) (by omega)).other 8 (.bool r.hasF) (c := w.heap.size) (by omega))).drew
  have kx13 := Lib.hid ((kx12.out.other 4 (.string (Lc.str r.frag)) hx1).other 8 (.bool r.hasF) hx1).drew
  have ky13 := Lib.hid ((ky12.out.other 4 (.string (Lc.str r.frag)) hy1).other 8 (.bool r.hasF) hy1).drew
  have g13 := Lib.hid (Cells.below_drewN ((g12.out.setCell (p := ⟨w.heap.size, 4, none⟩) (Nat.le_refl _) (.string (Lc.str r.frag))).setCell (p := ⟨w.heap.size, 8, none⟩) (Nat.le_refl _) (.bool r.hasF)) 1)
  have y4 := (uri_open kr12.out).2.2.2.2.1
  have y8 := (uri_open kr12.out).2.2.2.2.2.2.2.2
  have x4 := (uri_open kb12.out).2.2.2.2.1
  have x8 := (uri_open kb12.out).2.2.2.2.2.2.2.2
  have f4 := kb12.out.free 4
  have f8 := kb12.out.free 8
  clear kb12 kr12 kx12 ky12 g12
  go_region
  replace g13 : Hid (Below w.heap.size w ((wc.setCell ⟨w.heap.size, 4, none⟩ (.string (Lc.str r.frag))).setCell ⟨w.heap.size, 8, none⟩ (.bool r.hasF)).drew) := g13
  generalize ((wc.setCell ⟨w.heap.size, 4, none⟩ (.string (Lc.str r.frag))).setCell ⟨w.heap.size, 8, none⟩ (.bool r.hasF)).drew = wd at *
  clear y4 y8 x4 x8 f4 f8
  obtain ⟨x0, x1, x2, x3, x4, x5, x6, x7, x8⟩ := uri_open kx13.out
  obtain ⟨y0, y1, y2, y3, y4, y5, y6, y7, y8⟩ := uri_open kr13.out
  obtain ⟨u0, u1, u2, u3, u4, u5, u6, u7, u8⟩ := uri_open ky13.out
  obtain ⟨v0, v1, v2, v3, v4, v5, v6, v7, v8⟩ := uri_open kb13.out
  clear kx13 kr13 ky13 kb13
  go_wp2_with fail
  go_ret
  exact ⟨rfl, g13.out⟩
end Go.Proofs.Ytmfmgbjkbadndaa
