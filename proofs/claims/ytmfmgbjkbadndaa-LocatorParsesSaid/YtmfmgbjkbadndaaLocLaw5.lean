/-
  The statements' walks: LocatorPrints.
-/
import Derived.Test.YtmfmgbjkbadndaaLocLaw4
import Derived.Deep.RegionHeld3
namespace Go.Proofs.Ytmfmgbjkbadndaa
open Go.RowKit

theorem keep18 {f : FuncId} {args : Array Value} {v : Value} {W w0 : World} {a0 a1 a2 a3 a4 a5 a6 a7 a8 a9 a10 a11 a12 a13 a14 a15 a16 a17 : Addr} {x0 x1 x2 x3 x4 x5 x6 x7 x8 x9 x10 x11 x12 x13 x14 x15 x16 x17 : Value} (hC : ∀ W, Below w0.heap.size w0 W → Calls Try.prog f args W fun e w' => e = .returned v ∧ Below W.heap.size W w')
    (h : W.cell? a0 = some x0 ∧ W.cell? a1 = some x1 ∧ W.cell? a2 = some x2 ∧ W.cell? a3 = some x3 ∧ W.cell? a4 = some x4 ∧ W.cell? a5 = some x5 ∧ W.cell? a6 = some x6 ∧ W.cell? a7 = some x7 ∧ W.cell? a8 = some x8 ∧ W.cell? a9 = some x9 ∧ W.cell? a10 = some x10 ∧ W.cell? a11 = some x11 ∧ W.cell? a12 = some x12 ∧ W.cell? a13 = some x13 ∧ W.cell? a14 = some x14 ∧ W.cell? a15 = some x15 ∧ W.cell? a16 = some x16 ∧ W.cell? a17 = some x17 ∧ Below w0.heap.size w0 W) :
    Calls Try.prog f args W fun e w' => e = .returned v ∧ (w'.cell? a0 = some x0 ∧ w'.cell? a1 = some x1 ∧ w'.cell? a2 = some x2 ∧ w'.cell? a3 = some x3 ∧ w'.cell? a4 = some x4 ∧ w'.cell? a5 = some x5 ∧ w'.cell? a6 = some x6 ∧ w'.cell? a7 = some x7 ∧ w'.cell? a8 = some x8 ∧ w'.cell? a9 = some x9 ∧ w'.cell? a10 = some x10 ∧ w'.cell? a11 = some x11 ∧ w'.cell? a12 = some x12 ∧ w'.cell? a13 = some x13 ∧ w'.cell? a14 = some x14 ∧ w'.cell? a15 = some x15 ∧ w'.cell? a16 = some x16 ∧ w'.cell? a17 = some x17 ∧ Below w0.heap.size w0 w') := by
  obtain ⟨h0, h1, h2, h3, h4, h5, h6, h7, h8, h9, h10, h11, h12, h13, h14, h15, h16, h17, e⟩ := h
  refine (hC W e).mono fun _ _ ⟨he, hb⟩ => ⟨he, ?_⟩
  have on := fun {a : Addr} {x : Value} (hx : W.cell? a = some x) => (hb.cell (World.block_lt_of_cell? W _ hx)).trans hx
  exact ⟨on h0, on h1, on h2, on h3, on h4, on h5, on h6, on h7, on h8, on h9, on h10, on h11, on h12, on h13, on h14, on h15, on h16, on h17, e.trans (hb.mono e.size)⟩

set_option maxRecDepth 100000 in
set_option maxHeartbeats 12800000 in
theorem prints_any (b r : Lc.U) (w : World) (hb : Lc.total b ≤ 1125899906842624) (hr : Lc.total r ≤ 1125899906842624) (hE : Env w) : Calls Try.prog 4 #[.agg (uArr b), .agg (uArr r)] w fun e w' => e = .returned (.bool true) ∧ Below w.heap.size w w' := by
  have kb : Cells ((w.alloc (.cells #[.string (Lc.str b.scheme), .string (Lc.str b.host), .string (Lc.str b.path), .string (Lc.str b.query), .string (Lc.str b.frag), .bool b.hasS, .bool b.hasH, .bool b.hasQ, .bool b.hasF] 24)).alloc (.cells #[.string (Lc.str r.scheme), .string (Lc.str r.host), .string (Lc.str r.path), .string (Lc.str r.query), .string (Lc.str r.frag), .bool r.hasS, .bool r.hasH, .bool r.hasQ, .bool r.hasF] 24)) w.heap.size 24 (uArr b) := (Cells.new w 24 (uArr b)).alloc _
  have kr : Cells ((w.alloc (.cells #[.string (Lc.str b.scheme), .string (Lc.str b.host), .string (Lc.str b.path), .string (Lc.str b.query), .string (Lc.str b.frag), .bool b.hasS, .bool b.hasH, .bool b.hasQ, .bool b.hasF] 24)).alloc (.cells #[.string (Lc.str r.scheme), .string (Lc.str r.host), .string (Lc.str r.path), .string (Lc.str r.query), .string (Lc.str r.frag), .bool r.hasS, .bool r.hasH, .bool r.hasQ, .bool r.hasF] 24)) (w.heap.size + 1) 24 (uArr r) := by
    have := Cells.new (w.alloc (.cells #[.string (Lc.str b.scheme), .string (Lc.str b.host), .string (Lc.str b.path), .string (Lc.str b.query), .string (Lc.str b.frag), .bool b.hasS, .bool b.hasH, .bool b.hasQ, .bool b.hasF] 24)) 24 (uArr r)
    rw [World.size_alloc] at this
    exact this
  have b2 : Below w.heap.size w ((w.alloc (.cells #[.string (Lc.str b.scheme), .string (Lc.str b.host), .string (Lc.str b.path), .string (Lc.str b.query), .string (Lc.str b.frag), .bool b.hasS, .bool b.hasH, .bool b.hasQ, .bool b.hasF] 24)).alloc (.cells #[.string (Lc.str r.scheme), .string (Lc.str r.host), .string (Lc.str r.path), .string (Lc.str r.query), .string (Lc.str r.frag), .bool r.hasS, .bool r.hasH, .bool r.hasQ, .bool r.hasF] 24)) := ((Below.refl _ _).alloc (Nat.le_refl _) _).alloc (by simp) _
  show Calls Try.prog 4 #[.agg #[.string (Lc.str b.scheme), .string (Lc.str b.host), .string (Lc.str b.path), .string (Lc.str b.query), .string (Lc.str b.frag), .bool b.hasS, .bool b.hasH, .bool b.hasQ, .bool b.hasF], .agg #[.string (Lc.str r.scheme), .string (Lc.str r.host), .string (Lc.str r.path), .string (Lc.str r.query), .string (Lc.str r.frag), .bool r.hasS, .bool r.hasH, .bool r.hasQ, .bool r.hasF]] w _
  go_enter Try.func4, Try.ntmps4
  go_upto_region 1 with fail
  generalize (w.alloc (.cells #[.string (Lc.str b.scheme), .string (Lc.str b.host), .string (Lc.str b.path), .string (Lc.str b.query), .string (Lc.str b.frag), .bool b.hasS, .bool b.hasH, .bool b.hasQ, .bool b.hasF] 24)).alloc (.cells #[.string (Lc.str r.scheme), .string (Lc.str r.host), .string (Lc.str r.path), .string (Lc.str r.query), .string (Lc.str r.frag), .bool r.hasS, .bool r.hasH, .bool r.hasQ, .bool r.hasF] 24) = w3 at *
  have cb := short_any b w3 hb
  have cr := Lib.hid (fun W => short_any r W hr)
  have ca := Lib.hid (fun W (h : Env W) => awake_any W h)
  have hs := Lib.hid (And.intro (Lc.small_total (u := b)) (Lc.small_total (u := r)))
  unfold uArr at cb
  obtain ⟨x0, x1, x2, x3, x4, x5, x6, x7, x8⟩ := uri_open kb
  replace cb := Lib.hid cb
  clear hb hr
  go_wp2_with fail
  (refine cb.out.mono ?_); rintro e w4 ⟨rfl, b4⟩
  have kb4 := Lib.hid (kb.on b4)
  have kr4 := kr.on b4
  have g4 := b2.trans (b4.mono b2.size)
  clear cb kb kr b2 b4 x0 x1 x2 x3 x4 x5 x6 x7 x8
  by_cases hb2 : Lc.total b ≤ 2000
  case neg =>
    rw [decide_eq_false hb2]
    replace hb2 := Lib.hid hb2
    have ca' := Lib.hid (ca.out w4 (hE.on g4))
    go_wp2_with fail
    (refine ca'.out.mono ?_); rintro e w9 ⟨rfl, b9⟩
    have g9 := g4.trans (b9.mono g4.size)
    go_wp2_with fail
    go_ret
    exact ⟨rfl, g9⟩
  rw [decide_eq_true hb2]
  obtain ⟨y0, y1, y2, y3, y4, y5, y6, y7, y8⟩ := uri_open kr4
  have cr' := cr.out w4
  unfold uArr at cr'
  replace cr' := Lib.hid cr'
  replace kr4 := Lib.hid kr4
  clear cr
  have hsb := hs.out.1 hb2
  replace hsb := Lib.hid hsb
  replace hb2 := Lib.hid hb2
  go_wp2_with fail
  (refine cr'.out.mono ?_); rintro e w5 ⟨rfl, b5⟩
  have kb5 := kb4.out.on b5
  have kr5 := kr4.out.on b5
  have g5 := Lib.hid (g4.trans (b5.mono g4.size))
  clear cr' kb4 kr4 g4 b5 y0 y1 y2 y3 y4 y5 y6 y7 y8
  by_cases hr2 : Lc.total r ≤ 2000
  case neg =>
    rw [decide_eq_false hr2]
    replace hr2 := Lib.hid hr2
    have ca' := Lib.hid (ca.out w5 (hE.on g5.out))
    go_wp2_with fail
    (refine ca'.out.mono ?_); rintro e w9 ⟨rfl, b9⟩
    have g9 := g5.out.trans (b9.mono g5.out.size)
    go_wp2_with fail
    go_ret
    exact ⟨rfl, g9⟩
  rw [decide_eq_true hr2]
  have hsr := Lib.hid (hs.out.2 hr2)
  replace hr2 := Lib.hid hr2
  clear hs
  have hpz := Lib.hid (show (Lc.str b.path).size ≤ 100000 by rw [Lc.str_size]; exact hsb.out.2.2.1)
  have hEW := Lib.hid (fun W (h : Below w5.heap.size w5 W) => hE.on (g5.out.trans (h.mono g5.out.size)))
  have d0 := Lib.hid (fun W h => ca.out W (hEW.out W h))
  have d1 := fun W h => pPrint_any b W hsb.out (hEW.out W h)
  have d2 := fun W (_ : Below w5.heap.size w5 W) => lPrint_any b W hsb.out
  have d3 := fun W h => pDots_any (Lc.str b.path) W hpz.out (hEW.out W h)
  have d4 : ∀ W, Below w5.heap.size w5 W → Calls Try.prog 17 #[.string (Lc.str b.path)] W fun e w' => e = .returned (.string (Lc.str (Lc.dots (Lc.str b.path).data.toList))) ∧ Below W.heap.size W w' := fun W _ => (lDots_any (Lc.str b.path) W (Nat.le_trans hpz.out (by omega))).mono fun _ _ ⟨h1, h2⟩ => ⟨h1, by rw [← h2]; exact Below.refl _ _⟩
  have d5 := fun W h => pResolve_any b r W hsb.out hsr.out (hEW.out W h)
  have d6 := fun W (_ : Below w5.heap.size w5 W) => lResolve_any b r W hsb.out hsr.out
  generalize Lc.resolve b r = u at *
  unfold uArr at d1 d2 d5 d6
  replace d1 := Lib.hid d1
  replace d2 := Lib.hid d2
  replace d3 := Lib.hid d3
  replace d4 := Lib.hid d4
  replace d5 := Lib.hid d5
  replace d6 := Lib.hid d6
  obtain ⟨x0, x1, x2, x3, x4, x5, x6, x7, x8⟩ := uri_open kb5
  obtain ⟨y0, y1, y2, y3, y4, y5, y6, y7, y8⟩ := uri_open kr5
  clear kb5 kr5 ca hE hEW
  go_upto_region 3 with fail
  go_region_held3 (fun w' => w'.cell? ⟨w.heap.size, 0, none⟩ = some (.string (Lc.str b.scheme)) ∧ w'.cell? ⟨w.heap.size, 1, none⟩ = some (.string (Lc.str b.host)) ∧ w'.cell? ⟨w.heap.size, 2, none⟩ = some (.string (Lc.str b.path)) ∧ w'.cell? ⟨w.heap.size, 3, none⟩ = some (.string (Lc.str b.query)) ∧ w'.cell? ⟨w.heap.size, 4, none⟩ = some (.string (Lc.str b.frag)) ∧ w'.cell? ⟨w.heap.size, 5, none⟩ = some (.bool b.hasS) ∧ w'.cell? ⟨w.heap.size, 6, none⟩ = some (.bool b.hasH) ∧ w'.cell? ⟨w.heap.size, 7, none⟩ = some (.bool b.hasQ) ∧ w'.cell? ⟨w.heap.size, 8, none⟩ = some (.bool b.hasF) ∧ w'.cell? ⟨w.heap.size + 1, 0, none⟩ = some (.string (Lc.str r.scheme)) ∧ w'.cell? ⟨w.heap.size + 1, 1, none⟩ = some (.string (Lc.str r.host)) ∧ w'.cell? ⟨w.heap.size + 1, 2, none⟩ = some (.string (Lc.str r.path)) ∧ w'.cell? ⟨w.heap.size + 1, 3, none⟩ = some (.string (Lc.str r.query)) ∧ w'.cell? ⟨w.heap.size + 1, 4, none⟩ = some (.string (Lc.str r.frag)) ∧ w'.cell? ⟨w.heap.size + 1, 5, none⟩ = some (.bool r.hasS) ∧ w'.cell? ⟨w.heap.size + 1, 6, none⟩ = some (.bool r.hasH) ∧ w'.cell? ⟨w.heap.size + 1, 7, none⟩ = some (.bool r.hasQ) ∧ w'.cell? ⟨w.heap.size + 1, 8, none⟩ = some (.bool r.hasF) ∧ Below w5.heap.size w5 w') (first | exact ⟨x0, x1, x2, x3, x4, x5, x6, x7, x8, y0, y1, y2, y3, y4, y5, y6, y7, y8, (Below.refl _ _).drew⟩ | assumption)
    (first
        | (go_at_call 10; refine (keep18 (w0 := w5) (a0 := ⟨w.heap.size, 0, none⟩) (a1 := ⟨w.heap.size, 1, none⟩) (a2 := ⟨w.heap.size, 2, none⟩) (a3 := ⟨w.heap.size, 3, none⟩) (a4 := ⟨w.heap.size, 4, none⟩) (a5 := ⟨w.heap.size, 5, none⟩) (a6 := ⟨w.heap.size, 6, none⟩) (a7 := ⟨w.heap.size, 7, none⟩) (a8 := ⟨w.heap.size, 8, none⟩) (a9 := ⟨w.heap.size + 1, 0, none⟩) (a10 := ⟨w.heap.size + 1, 1, none⟩) (a11 := ⟨w.heap.size + 1, 2, none⟩) (a12 := ⟨w.heap.size + 1, 3, none⟩) (a13 := ⟨w.heap.size + 1, 4, none⟩) (a14 := ⟨w.heap.size + 1, 5, none⟩) (a15 := ⟨w.heap.size + 1, 6, none⟩) (a16 := ⟨w.heap.size + 1, 7, none⟩) (a17 := ⟨w.heap.size + 1, 8, none⟩) (x0 := .string (Lc.str b.scheme)) (x1 := .string (Lc.str b.host)) (x2 := .string (Lc.str b.path)) (x3 := .string (Lc.str b.query)) (x4 := .string (Lc.str b.frag)) (x5 := .bool b.hasS) (x6 := .bool b.hasH) (x7 := .bool b.hasQ) (x8 := .bool b.hasF) (x9 := .string (Lc.str r.scheme)) (x10 := .string (Lc.str r.host)) (x11 := .string (Lc.str r.path)) (x12 := .string (Lc.str r.query)) (x13 := .string (Lc.str r.frag)) (x14 := .bool r.hasS) (x15 := .bool r.hasH) (x16 := .bool r.hasQ) (x17 := .bool r.hasF) d0.out ?_).mono ?_; assumption; rintro e w' ⟨rfl, hcb⟩)
        | (go_at_call 14; refine (keep18 (w0 := w5) (a0 := ⟨w.heap.size, 0, none⟩) (a1 := ⟨w.heap.size, 1, none⟩) (a2 := ⟨w.heap.size, 2, none⟩) (a3 := ⟨w.heap.size, 3, none⟩) (a4 := ⟨w.heap.size, 4, none⟩) (a5 := ⟨w.heap.size, 5, none⟩) (a6 := ⟨w.heap.size, 6, none⟩) (a7 := ⟨w.heap.size, 7, none⟩) (a8 := ⟨w.heap.size, 8, none⟩) (a9 := ⟨w.heap.size + 1, 0, none⟩) (a10 := ⟨w.heap.size + 1, 1, none⟩) (a11 := ⟨w.heap.size + 1, 2, none⟩) (a12 := ⟨w.heap.size + 1, 3, none⟩) (a13 := ⟨w.heap.size + 1, 4, none⟩) (a14 := ⟨w.heap.size + 1, 5, none⟩) (a15 := ⟨w.heap.size + 1, 6, none⟩) (a16 := ⟨w.heap.size + 1, 7, none⟩) (a17 := ⟨w.heap.size + 1, 8, none⟩) (x0 := .string (Lc.str b.scheme)) (x1 := .string (Lc.str b.host)) (x2 := .string (Lc.str b.path)) (x3 := .string (Lc.str b.query)) (x4 := .string (Lc.str b.frag)) (x5 := .bool b.hasS) (x6 := .bool b.hasH) (x7 := .bool b.hasQ) (x8 := .bool b.hasF) (x9 := .string (Lc.str r.scheme)) (x10 := .string (Lc.str r.host)) (x11 := .string (Lc.str r.path)) (x12 := .string (Lc.str r.query)) (x13 := .string (Lc.str r.frag)) (x14 := .bool r.hasS) (x15 := .bool r.hasH) (x16 := .bool r.hasQ) (x17 := .bool r.hasF) d1.out ?_).mono ?_; assumption; rintro e w' ⟨rfl, hcb⟩)
        | (go_at_call 15; refine (keep18 (w0 := w5) (a0 := ⟨w.heap.size, 0, none⟩) (a1 := ⟨w.heap.size, 1, none⟩) (a2 := ⟨w.heap.size, 2, none⟩) (a3 := ⟨w.heap.size, 3, none⟩) (a4 := ⟨w.heap.size, 4, none⟩) (a5 := ⟨w.heap.size, 5, none⟩) (a6 := ⟨w.heap.size, 6, none⟩) (a7 := ⟨w.heap.size, 7, none⟩) (a8 := ⟨w.heap.size, 8, none⟩) (a9 := ⟨w.heap.size + 1, 0, none⟩) (a10 := ⟨w.heap.size + 1, 1, none⟩) (a11 := ⟨w.heap.size + 1, 2, none⟩) (a12 := ⟨w.heap.size + 1, 3, none⟩) (a13 := ⟨w.heap.size + 1, 4, none⟩) (a14 := ⟨w.heap.size + 1, 5, none⟩) (a15 := ⟨w.heap.size + 1, 6, none⟩) (a16 := ⟨w.heap.size + 1, 7, none⟩) (a17 := ⟨w.heap.size + 1, 8, none⟩) (x0 := .string (Lc.str b.scheme)) (x1 := .string (Lc.str b.host)) (x2 := .string (Lc.str b.path)) (x3 := .string (Lc.str b.query)) (x4 := .string (Lc.str b.frag)) (x5 := .bool b.hasS) (x6 := .bool b.hasH) (x7 := .bool b.hasQ) (x8 := .bool b.hasF) (x9 := .string (Lc.str r.scheme)) (x10 := .string (Lc.str r.host)) (x11 := .string (Lc.str r.path)) (x12 := .string (Lc.str r.query)) (x13 := .string (Lc.str r.frag)) (x14 := .bool r.hasS) (x15 := .bool r.hasH) (x16 := .bool r.hasQ) (x17 := .bool r.hasF) d2.out ?_).mono ?_; assumption; rintro e w' ⟨rfl, hcb⟩)
        | (go_at_call 16; refine (keep18 (w0 := w5) (a0 := ⟨w.heap.size, 0, none⟩) (a1 := ⟨w.heap.size, 1, none⟩) (a2 := ⟨w.heap.size, 2, none⟩) (a3 := ⟨w.heap.size, 3, none⟩) (a4 := ⟨w.heap.size, 4, none⟩) (a5 := ⟨w.heap.size, 5, none⟩) (a6 := ⟨w.heap.size, 6, none⟩) (a7 := ⟨w.heap.size, 7, none⟩) (a8 := ⟨w.heap.size, 8, none⟩) (a9 := ⟨w.heap.size + 1, 0, none⟩) (a10 := ⟨w.heap.size + 1, 1, none⟩) (a11 := ⟨w.heap.size + 1, 2, none⟩) (a12 := ⟨w.heap.size + 1, 3, none⟩) (a13 := ⟨w.heap.size + 1, 4, none⟩) (a14 := ⟨w.heap.size + 1, 5, none⟩) (a15 := ⟨w.heap.size + 1, 6, none⟩) (a16 := ⟨w.heap.size + 1, 7, none⟩) (a17 := ⟨w.heap.size + 1, 8, none⟩) (x0 := .string (Lc.str b.scheme)) (x1 := .string (Lc.str b.host)) (x2 := .string (Lc.str b.path)) (x3 := .string (Lc.str b.query)) (x4 := .string (Lc.str b.frag)) (x5 := .bool b.hasS) (x6 := .bool b.hasH) (x7 := .bool b.hasQ) (x8 := .bool b.hasF) (x9 := .string (Lc.str r.scheme)) (x10 := .string (Lc.str r.host)) (x11 := .string (Lc.str r.path)) (x12 := .string (Lc.str r.query)) (x13 := .string (Lc.str r.frag)) (x14 := .bool r.hasS) (x15 := .bool r.hasH) (x16 := .bool r.hasQ) (x17 := .bool r.hasF) d3.out ?_).mono ?_; assumption; rintro e w' ⟨rfl, hcb⟩)
        | (go_at_call 17; refine (keep18 (w0 := w5) (a0 := ⟨w.heap.size, 0, none⟩) (a1 := ⟨w.heap.size, 1, none⟩) (a2 := ⟨w.heap.size, 2, none⟩) (a3 := ⟨w.heap.size, 3, none⟩) (a4 := ⟨w.heap.size, 4, none⟩) (a5 := ⟨w.heap.size, 5, none⟩) (a6 := ⟨w.heap.size, 6, none⟩) (a7 := ⟨w.heap.size, 7, none⟩) (a8 := ⟨w.heap.size, 8, none⟩) (a9 := ⟨w.heap.size + 1, 0, none⟩) (a10 := ⟨w.heap.size + 1, 1, none⟩) (a11 := ⟨w.heap.size + 1, 2, none⟩) (a12 := ⟨w.heap.size + 1, 3, none⟩) (a13 := ⟨w.heap.size + 1, 4, none⟩) (a14 := ⟨w.heap.size + 1, 5, none⟩) (a15 := ⟨w.heap.size + 1, 6, none⟩) (a16 := ⟨w.heap.size + 1, 7, none⟩) (a17 := ⟨w.heap.size + 1, 8, none⟩) (x0 := .string (Lc.str b.scheme)) (x1 := .string (Lc.str b.host)) (x2 := .string (Lc.str b.path)) (x3 := .string (Lc.str b.query)) (x4 := .string (Lc.str b.frag)) (x5 := .bool b.hasS) (x6 := .bool b.hasH) (x7 := .bool b.hasQ) (x8 := .bool b.hasF) (x9 := .string (Lc.str r.scheme)) (x10 := .string (Lc.str r.host)) (x11 := .string (Lc.str r.path)) (x12 := .string (Lc.str r.query)) (x13 := .string (Lc.str r.frag)) (x14 := .bool r.hasS) (x15 := .bool r.hasH) (x16 := .bool r.hasQ) (x17 := .bool r.hasF) d4.out ?_).mono ?_; assumption; rintro e w' ⟨rfl, hcb⟩)
        | (go_at_call 18; refine (keep18 (w0 := w5) (a0 := ⟨w.heap.size, 0, none⟩) (a1 := ⟨w.heap.size, 1, none⟩) (a2 := ⟨w.heap.size, 2, none⟩) (a3 := ⟨w.heap.size, 3, none⟩) (a4 := ⟨w.heap.size, 4, none⟩) (a5 := ⟨w.heap.size, 5, none⟩) (a6 := ⟨w.heap.size, 6, none⟩) (a7 := ⟨w.heap.size, 7, none⟩) (a8 := ⟨w.heap.size, 8, none⟩) (a9 := ⟨w.heap.size + 1, 0, none⟩) (a10 := ⟨w.heap.size + 1, 1, none⟩) (a11 := ⟨w.heap.size + 1, 2, none⟩) (a12 := ⟨w.heap.size + 1, 3, none⟩) (a13 := ⟨w.heap.size + 1, 4, none⟩) (a14 := ⟨w.heap.size + 1, 5, none⟩) (a15 := ⟨w.heap.size + 1, 6, none⟩) (a16 := ⟨w.heap.size + 1, 7, none⟩) (a17 := ⟨w.heap.size + 1, 8, none⟩) (x0 := .string (Lc.str b.scheme)) (x1 := .string (Lc.str b.host)) (x2 := .string (Lc.str b.path)) (x3 := .string (Lc.str b.query)) (x4 := .string (Lc.str b.frag)) (x5 := .bool b.hasS) (x6 := .bool b.hasH) (x7 := .bool b.hasQ) (x8 := .bool b.hasF) (x9 := .string (Lc.str r.scheme)) (x10 := .string (Lc.str r.host)) (x11 := .string (Lc.str r.path)) (x12 := .string (Lc.str r.query)) (x13 := .string (Lc.str r.frag)) (x14 := .bool r.hasS) (x15 := .bool r.hasH) (x16 := .bool r.hasQ) (x17 := .bool r.hasF) d5.out ?_).mono ?_; assumption; rintro e w' ⟨rfl, hcb⟩)
        | (go_at_call 19; refine (keep18 (w0 := w5) (a0 := ⟨w.heap.size, 0, none⟩) (a1 := ⟨w.heap.size, 1, none⟩) (a2 := ⟨w.heap.size, 2, none⟩) (a3 := ⟨w.heap.size, 3, none⟩) (a4 := ⟨w.heap.size, 4, none⟩) (a5 := ⟨w.heap.size, 5, none⟩) (a6 := ⟨w.heap.size, 6, none⟩) (a7 := ⟨w.heap.size, 7, none⟩) (a8 := ⟨w.heap.size, 8, none⟩) (a9 := ⟨w.heap.size + 1, 0, none⟩) (a10 := ⟨w.heap.size + 1, 1, none⟩) (a11 := ⟨w.heap.size + 1, 2, none⟩) (a12 := ⟨w.heap.size + 1, 3, none⟩) (a13 := ⟨w.heap.size + 1, 4, none⟩) (a14 := ⟨w.heap.size + 1, 5, none⟩) (a15 := ⟨w.heap.size + 1, 6, none⟩) (a16 := ⟨w.heap.size + 1, 7, none⟩) (a17 := ⟨w.heap.size + 1, 8, none⟩) (x0 := .string (Lc.str b.scheme)) (x1 := .string (Lc.str b.host)) (x2 := .string (Lc.str b.path)) (x3 := .string (Lc.str b.query)) (x4 := .string (Lc.str b.frag)) (x5 := .bool b.hasS) (x6 := .bool b.hasH) (x7 := .bool b.hasQ) (x8 := .bool b.hasF) (x9 := .string (Lc.str r.scheme)) (x10 := .string (Lc.str r.host)) (x11 := .string (Lc.str r.path)) (x12 := .string (Lc.str r.query)) (x13 := .string (Lc.str r.frag)) (x14 := .bool r.hasS) (x15 := .bool r.hasH) (x16 := .bool r.hasQ) (x17 := .bool r.hasF) d6.out ?_).mono ?_; assumption; rintro e w' ⟨rfl, hcb⟩))
  all_goals
    obtain ⟨-, -, -, -, -, -, -, -, -, -, -, -, -, -, -, -, -, -, b6⟩ := hcb
    go_wp2_with fail
    go_ret
    exact ⟨rfl, g5.out.trans (b6.mono g5.out.size)⟩
end Go.Proofs.Ytmfmgbjkbadndaa
