/-
  The program's Resolve of references.
-/
import Derived.Test.YtmfmgbjkbadndaaProgPlaced
namespace Go.Proofs.Ytmfmgbjkbadndaa
open Go.RowKit

/-- A reference in its box, and the result as it was. -/
structure WD (w : World) (u : Lc.U) (W : World) : Prop where
  low : Below w.heap.size w W
  c : Cells W w.heap.size 24 (uArr u)
  z : Cells W (w.heap.size + 1) 24 (uArr Lc.none)
theorem WD.first (w : World) (u : Lc.U) : WD w u ((w.alloc (.cells (uArr u) 24)).alloc (.cells (uArr Lc.none) 24)) := by
  refine ⟨((Below.refl _ _).alloc (Nat.le_refl _) _).alloc (by simp) _, (Cells.new w 24 (uArr u)).alloc _, ?_⟩
  have := Cells.new (w.alloc (.cells (uArr u) 24)) 24 (uArr Lc.none)
  rwa [World.size_alloc] at this
theorem WD.on {w W W' : World} {u : Lc.U} (h : WD w u W) (b : Below W.heap.size W W') : WD w u W' := ⟨h.low.trans (b.mono h.low.size), h.c.on b, h.z.on b⟩
theorem WD.set {w W : World} {u u' : Lc.U} (h : WD w u W) (i : Nat) (v : Value) (hA : (uArr u).setIfInBounds i v = uArr u') : WD w u' (W.setCell ⟨w.heap.size, i, none⟩ v) :=
  ⟨h.low.setCell (p := ⟨w.heap.size, i, none⟩) (Nat.le_refl _) _, by have := h.c.set i v; rwa [hA] at this, h.z.other i v (by omega)⟩
theorem WD.done {w W : World} {u : Lc.U} (h : WD w u W) : Cells (nineSet W (w.heap.size + 1) (.string (Lc.str u.scheme)) (.string (Lc.str u.host)) (.string (Lc.str u.path)) (.string (Lc.str u.query)) (.string (Lc.str u.frag)) (.bool u.hasS) (.bool u.hasH) (.bool u.hasQ) (.bool u.hasF)) (w.heap.size + 1) 24 (uArr u) ∧ Below w.heap.size w (nineSet W (w.heap.size + 1) (.string (Lc.str u.scheme)) (.string (Lc.str u.host)) (.string (Lc.str u.path)) (.string (Lc.str u.query)) (.string (Lc.str u.frag)) (.bool u.hasS) (.bool u.hasH) (.bool u.hasQ) (.bool u.hasF)) :=
  ⟨nine_cells rfl h.z _ _ _ _ _ _ _ _ _, nine_below h.low (by omega) _ _ _ _ _ _ _ _ _⟩

set_option maxRecDepth 100000 in
set_option maxHeartbeats 6400000 in
theorem pWithout_any (u : Lc.U) (w : World) (hu : u.path.length ≤ 1000000) : Calls Try.prog 38 #[.agg (uArr u)] w fun e w' => e = .returned (.agg (uArr { u with path := Lc.dots u.path })) ∧ Below w.heap.size w w' := by
  have h0 : WD w u ((w.alloc (.cells #[.string (Lc.str u.scheme), .string (Lc.str u.host), .string (Lc.str u.path), .string (Lc.str u.query), .string (Lc.str u.frag), .bool u.hasS, .bool u.hasH, .bool u.hasQ, .bool u.hasF] 24)).alloc (.cells #[.string ⟨#[]⟩, .string ⟨#[]⟩, .string ⟨#[]⟩, .string ⟨#[]⟩, .string ⟨#[]⟩, .bool false, .bool false, .bool false, .bool false] 24)) := WD.first w u
  have cd := Lib.hid (fun W => pDots_at (Lc.str u.path) W (by rw [Lc.str_size]; exact hu))
  rw [Lc.str_list] at cd
  clear hu
  unfold uArr
  go_enter Try.func38, Try.ntmps38
  go_upto_region 1 with fail
  generalize (w.alloc (.cells #[.string (Lc.str u.scheme), .string (Lc.str u.host), .string (Lc.str u.path), .string (Lc.str u.query), .string (Lc.str u.frag), .bool u.hasS, .bool u.hasH, .bool u.hasQ, .bool u.hasF] 24)).alloc (.cells #[.string ⟨#[]⟩, .string ⟨#[]⟩, .string ⟨#[]⟩, .string ⟨#[]⟩, .string ⟨#[]⟩, .bool false, .bool false, .bool false, .bool false] 24) = w0 at *
  have y2 := (uri_open h0.c).2.2.1
  replace h0 := Lib.hid h0
  go_wp2_with fail
  (refine (cd.out _).mono ?_); rintro e w1 ⟨rfl, b1⟩
  have h1 := Lib.hid (h0.out.on b1)
  clear h0 y2 b1
  have y2 := (uri_open h1.out.c).2.2.1
  have f2 := h1.out.c.free 2
  have h2 := Lib.hid (h1.out.set 2 (.string (Lc.str (Lc.dots u.path))) (u' := { u with path := Lc.dots u.path }) rfl)
  go_upto_region 2 with fail
  generalize w1.setCell ⟨w.heap.size, 2, none⟩ (.string (Lc.str (Lc.dots u.path))) = w2 at *
  clear h1 y2 f2
  obtain ⟨U, hU⟩ : ∃ U, U = { u with path := Lc.dots u.path } := ⟨_, rfl⟩
  have hR : Hid (∀ W, Below w.heap.size w W → (Ending.returned (.agg (uArr U)) = Ending.returned (.agg #[.string (Lc.str ({ u with path := Lc.dots u.path } : Lc.U).scheme), .string (Lc.str ({ u with path := Lc.dots u.path } : Lc.U).host), .string (Lc.str ({ u with path := Lc.dots u.path } : Lc.U).path), .string (Lc.str ({ u with path := Lc.dots u.path } : Lc.U).query), .string (Lc.str ({ u with path := Lc.dots u.path } : Lc.U).frag), .bool ({ u with path := Lc.dots u.path } : Lc.U).hasS, .bool ({ u with path := Lc.dots u.path } : Lc.U).hasH, .bool ({ u with path := Lc.dots u.path } : Lc.U).hasQ, .bool ({ u with path := Lc.dots u.path } : Lc.U).hasF])) ∧ Below w.heap.size w W) := Lib.hid (fun W b => ⟨by rw [hU]; rfl, b⟩)
  rw [← hU] at h2
  replace hU := Lib.hid hU
  obtain ⟨y0, y1, y2, y3, y4, y5, y6, y7, y8⟩ := uri_open h2.out.c
  obtain ⟨x0, x1, x2, x3, x4, x5, x6, x7, x8⟩ := zero_open h2.out.z
  have f0 := h2.out.z.free 0
  have f1 := h2.out.z.free 1
  have f2 := h2.out.z.free 2
  have f3 := h2.out.z.free 3
  have f4 := h2.out.z.free 4
  have f5 := h2.out.z.free 5
  have f6 := h2.out.z.free 6
  have f7 := h2.out.z.free 7
  have f8 := h2.out.z.free 8
  have hD := Lib.hid h2.out.done
  clear h2
  go_wp2_with fail
  exact uri_end (rb := w.heap.size + 1) rfl rfl hD.out.1 (hR.out _ hD.out.2)

/-- A resolution under way: base, reference as it stands, the result as it was. -/
structure RP (w : World) (b t : Lc.U) (W : World) : Prop where
  low : Below w.heap.size w W
  cb : Cells W w.heap.size 24 (uArr b)
  cr : Cells W (w.heap.size + 1) 24 (uArr t)
  cz : Cells W (w.heap.size + 1 + 1) 24 (uArr Lc.none)
theorem RP.first (w : World) (b t : Lc.U) : RP w b t (((w.alloc (.cells (uArr b) 24)).alloc (.cells (uArr t) 24)).alloc (.cells (uArr Lc.none) 24)) := by
  refine ⟨(((Below.refl _ _).alloc (Nat.le_refl _) _).alloc (by simp) _).alloc (by simp; omega) _, ((Cells.new w 24 (uArr b)).alloc _).alloc _, ?_, ?_⟩
  · have := Cells.new (w.alloc (.cells (uArr b) 24)) 24 (uArr t)
    rw [World.size_alloc] at this
    exact this.alloc _
  · have := Cells.new ((w.alloc (.cells (uArr b) 24)).alloc (.cells (uArr t) 24)) 24 (uArr Lc.none)
    rw [World.size_alloc, World.size_alloc] at this
    exact this
theorem RP.on {w W W' : World} {b t : Lc.U} (h : RP w b t W) (k : Below W.heap.size W W') : RP w b t W' := ⟨h.low.trans (k.mono h.low.size), h.cb.on k, h.cr.on k, h.cz.on k⟩
theorem RP.drew {w W : World} {b t : Lc.U} (h : RP w b t W) : RP w b t W.drew := ⟨Cells.below_drewN h.low 1, h.cb, h.cr, h.cz⟩
theorem RP.set {w W : World} {b t t' : Lc.U} (h : RP w b t W) (i : Nat) (v : Value) (hA : (uArr t).setIfInBounds i v = uArr t') : RP w b t' (W.setCell ⟨w.heap.size + 1, i, none⟩ v) :=
  ⟨h.low.setCell (p := ⟨w.heap.size + 1, i, none⟩) (by show w.heap.size ≤ w.heap.size + 1; omega) _, h.cb.other i v (by omega), by have := h.cr.set i v; rwa [hA] at this, h.cz.other i v (by omega)⟩
theorem RP.done {w W : World} {b t : Lc.U} (h : RP w b t W) (u : Lc.U) : Cells (nineSet W (w.heap.size + 1 + 1) (.string (Lc.str u.scheme)) (.string (Lc.str u.host)) (.string (Lc.str u.path)) (.string (Lc.str u.query)) (.string (Lc.str u.frag)) (.bool u.hasS) (.bool u.hasH) (.bool u.hasQ) (.bool u.hasF)) (w.heap.size + 1 + 1) 24 (uArr u) ∧ Below w.heap.size w (nineSet W (w.heap.size + 1 + 1) (.string (Lc.str u.scheme)) (.string (Lc.str u.host)) (.string (Lc.str u.path)) (.string (Lc.str u.query)) (.string (Lc.str u.frag)) (.bool u.hasS) (.bool u.hasH) (.bool u.hasQ) (.bool u.hasF)) :=
  ⟨nine_cells rfl h.cz _ _ _ _ _ _ _ _ _, nine_below h.low (by omega) _ _ _ _ _ _ _ _ _⟩

theorem Lc.lead_len (p : List UInt8) : (Lc.lead p).length ≤ p.length := by
  unfold Lc.lead
  rw [List.length_reverse]
  have := (List.dropWhile_sublist (fun b => b != 47) (l := p.reverse)).length_le
  rwa [List.length_reverse] at this
theorem Lc.dots_placed (b : Lc.U) (p : List UInt8) : (if Lc.begins [47] p then Lc.dots p else if b.hasH ∧ b.path = [] then Lc.dots (47 :: p) else Lc.dots (Lc.lead b.path ++ p)) = Lc.dots (Lc.placed b p) := by
  unfold Lc.placed
  split
  · rfl
  split <;> rfl
theorem Lc.placed_len (b : Lc.U) (p : List UInt8) : (Lc.placed b p).length ≤ b.path.length + p.length + 1 := by
  have := Lc.lead_len b.path
  unfold Lc.placed
  split
  · omega
  split
  · simp
  · rw [List.length_append]; omega
set_option maxRecDepth 100000 in
set_option maxHeartbeats 12800000 in
theorem pResolve_at (b r : Lc.U) (w : World) (hb : Lc.Small b) (hr : Lc.Small r) : Calls Try.prog 18 #[.agg (uArr b), .agg (uArr r)] w fun e w' => e = .returned (.agg (uArr (Lc.resolve b r))) ∧ Below w.heap.size w w' := by
  obtain ⟨Q, hQ⟩ : ∃ Q, Q = Lc.resolve b r := ⟨_, rfl⟩
  rw [← hQ]
  replace hQ := Lib.hid hQ
  have zr : Hid (r.path.length ≤ 100000) := Lib.hid (Lc.small_of hr)
  have zb : Hid (b.path.length ≤ 100000) := Lib.hid (Lc.small_of hb)
  have cp := Lib.hid (fun W => pPlaced_any b r.path W hb zr.out)
  clear hb hr
  have h0 : RP w b r (((w.alloc (.cells #[.string (Lc.str b.scheme), .string (Lc.str b.host), .string (Lc.str b.path), .string (Lc.str b.query), .string (Lc.str b.frag), .bool b.hasS, .bool b.hasH, .bool b.hasQ, .bool b.hasF] 24)).alloc (.cells #[.string (Lc.str r.scheme), .string (Lc.str r.host), .string (Lc.str r.path), .string (Lc.str r.query), .string (Lc.str r.frag), .bool r.hasS, .bool r.hasH, .bool r.hasQ, .bool r.hasF] 24)).alloc (.cells #[.string ⟨#[]⟩, .string ⟨#[]⟩, .string ⟨#[]⟩, .string ⟨#[]⟩, .string ⟨#[]⟩, .bool false, .bool false, .bool false, .bool false] 24)) := RP.first w b r
  show Calls Try.prog 18 #[.agg #[.string (Lc.str b.scheme), .string (Lc.str b.host), .string (Lc.str b.path), .string (Lc.str b.query), .string (Lc.str b.frag), .bool b.hasS, .bool b.hasH, .bool b.hasQ, .bool b.hasF], .agg #[.string (Lc.str r.scheme), .string (Lc.str r.host), .string (Lc.str r.path), .string (Lc.str r.query), .string (Lc.str r.frag), .bool r.hasS, .bool r.hasH, .bool r.hasQ, .bool r.hasF]] w _
  go_enter Try.func18, Try.ntmps18
  go_upto_region 1 with fail
  generalize ((w.alloc (.cells #[.string (Lc.str b.scheme), .string (Lc.str b.host), .string (Lc.str b.path), .string (Lc.str b.query), .string (Lc.str b.frag), .bool b.hasS, .bool b.hasH, .bool b.hasQ, .bool b.hasF] 24)).alloc (.cells #[.string (Lc.str r.scheme), .string (Lc.str r.host), .string (Lc.str r.path), .string (Lc.str r.query), .string (Lc.str r.frag), .bool r.hasS, .bool r.hasH, .bool r.hasQ, .bool r.hasF] 24)).alloc (.cells #[.string ⟨#[]⟩, .string ⟨#[]⟩, .string ⟨#[]⟩, .string ⟨#[]⟩, .string ⟨#[]⟩, .bool false, .bool false, .bool false, .bool false] 24) = W0 at *
  have y5 := (uri_open h0.cr).2.2.2.2.2.1
  replace h0 := Lib.hid h0
  by_cases hS : r.hasS = true
  case pos =>
    rw [hS] at y5
    have hS2 := Lib.hid hS
    clear hS
    go_upto_region 2 with fail
    clear y5
    obtain ⟨U, hU⟩ : ∃ U, U = ({ (r : Lc.U) with path := Lc.dots (r : Lc.U).path } : Lc.U) := ⟨_, rfl⟩
    have hq : Hid (Q = U) := Lib.hid (by rw [hU]; rw [hQ.out, Lc.resolve, if_pos hS2.out])
    have cw0 := pWithout_any (r) W0 (by have := zr.out; omega)
    rw [← hU] at cw0
    unfold uArr at cw0
    try dsimp only at cw0
    replace cw0 := Lib.hid cw0
    replace hU := Lib.hid hU
    obtain ⟨y0, y1, y2, y3, y4, y5, y6, y7, y8⟩ := uri_open h0.out.cr
    try dsimp only at y0 y1 y2 y3 y4 y5 y6 y7 y8
    go_wp2_with fail
    (refine (cw0.out).mono ?_); rintro e v1 ⟨rfl, k1⟩
    have hz := Lib.hid (h0.out.on k1)
    clear cw0 k1 y0 y1 y2 y3 y4 y5 y6 y7 y8 h0
    obtain ⟨x0, x1, x2, x3, x4, x5, x6, x7, x8⟩ := zero_open hz.out.cz
    have f0 := hz.out.cz.free 0
    have f1 := hz.out.cz.free 1
    have f2 := hz.out.cz.free 2
    have f3 := hz.out.cz.free 3
    have f4 := hz.out.cz.free 4
    have f5 := hz.out.cz.free 5
    have f6 := hz.out.cz.free 6
    have f7 := hz.out.cz.free 7
    have f8 := hz.out.cz.free 8
    have hD := Lib.hid (hz.out.done U)
    clear hz
    go_wp2_with fail
    exact uri_end (rb := w.heap.size + 1 + 1) rfl rfl hD.out.1 ⟨by rw [hq.out], hD.out.2⟩
  replace hS : r.hasS = false := by simpa using hS
  rw [hS] at y5
  have hS2 := Lib.hid hS
  clear hS
  go_upto_region 3 with fail
  clear y5
  obtain ⟨b0, b1, b2, b3, b4, b5, b6, b7, b8⟩ := uri_open h0.out.cb
  obtain ⟨r0, r1, r2, r3, r4, r5, r6, r7, r8⟩ := uri_open h0.out.cr
  have g0 := h0.out.cr.free 0
  have g5 := h0.out.cr.free 5
  clear b1 b2 b3 b4 b6 b7 b8
  clear r1 r2 r3 r4 r6 r7 r8
  have h1 := Lib.hid (((h0.out).set 0 (.string (Lc.str b.scheme)) (t' := ⟨b.scheme, r.host, r.path, r.query, r.frag, r.hasS, r.hasH, r.hasQ, r.hasF⟩) rfl).set 5 (.bool b.hasS) (t' := ⟨b.scheme, r.host, r.path, r.query, r.frag, b.hasS, r.hasH, r.hasQ, r.hasF⟩) rfl).drew
  go_region
  generalize (((W0).setCell ⟨w.heap.size + 1, 0, none⟩ (.string (Lc.str b.scheme))).setCell ⟨w.heap.size + 1, 5, none⟩ (.bool b.hasS)).drew = W1 at *
  clear b0 b5 r0 r5 g0 g5 h0
  have y6 := (uri_open h1.out.cr).2.2.2.2.2.2.1
  try dsimp only at y6
  by_cases hH : r.hasH = true
  case pos =>
    rw [hH] at y6
    have hH2 := Lib.hid hH
    clear hH
    go_upto_region 5 with fail
    clear y6
    obtain ⟨U, hU⟩ : ∃ U, U = ({ (⟨b.scheme, r.host, r.path, r.query, r.frag, b.hasS, r.hasH, r.hasQ, r.hasF⟩ : Lc.U) with path := Lc.dots (⟨b.scheme, r.host, r.path, r.query, r.frag, b.hasS, r.hasH, r.hasQ, r.hasF⟩ : Lc.U).path } : Lc.U) := ⟨_, rfl⟩
    have hq : Hid (Q = U) := Lib.hid (by rw [hU]; rw [hQ.out, Lc.resolve, if_neg (by rw [hS2.out]; simp), if_pos hH2.out, hH2.out])
    have cw0 := pWithout_any (⟨b.scheme, r.host, r.path, r.query, r.frag, b.hasS, r.hasH, r.hasQ, r.hasF⟩) W1 (by have := zr.out; dsimp only; omega)
    rw [← hU] at cw0
    unfold uArr at cw0
    try dsimp only at cw0
    replace cw0 := Lib.hid cw0
    replace hU := Lib.hid hU
    obtain ⟨y0, y1, y2, y3, y4, y5, y6, y7, y8⟩ := uri_open h1.out.cr
    try dsimp only at y0 y1 y2 y3 y4 y5 y6 y7 y8
    go_wp2_with fail
    (refine (cw0.out).mono ?_); rintro e v1 ⟨rfl, k1⟩
    have hz := Lib.hid (h1.out.on k1)
    clear cw0 k1 y0 y1 y2 y3 y4 y5 y6 y7 y8 h1
    obtain ⟨x0, x1, x2, x3, x4, x5, x6, x7, x8⟩ := zero_open hz.out.cz
    have f0 := hz.out.cz.free 0
    have f1 := hz.out.cz.free 1
    have f2 := hz.out.cz.free 2
    have f3 := hz.out.cz.free 3
    have f4 := hz.out.cz.free 4
    have f5 := hz.out.cz.free 5
    have f6 := hz.out.cz.free 6
    have f7 := hz.out.cz.free 7
    have f8 := hz.out.cz.free 8
    have hD := Lib.hid (hz.out.done U)
    clear hz
    go_wp2_with fail
    exact uri_end (rb := w.heap.size + 1 + 1) rfl rfl hD.out.1 ⟨by rw [hq.out], hD.out.2⟩
  replace hH : r.hasH = false := by simpa using hH
  rw [hH] at y6
  have hH2 := Lib.hid hH
  clear hH
  go_upto_region 6 with fail
  clear y6
  obtain ⟨b0, b1, b2, b3, b4, b5, b6, b7, b8⟩ := uri_open h1.out.cb
  obtain ⟨r0, r1, r2, r3, r4, r5, r6, r7, r8⟩ := uri_open h1.out.cr
  have g1 := h1.out.cr.free 1
  have g6 := h1.out.cr.free 6
  clear b0 b2 b3 b4 b5 b7 b8
  clear r0 r2 r3 r4 r5 r7 r8
  have h2 := Lib.hid (((h1.out).set 1 (.string (Lc.str b.host)) (t' := ⟨b.scheme, b.host, r.path, r.query, r.frag, b.hasS, r.hasH, r.hasQ, r.hasF⟩) rfl).set 6 (.bool b.hasH) (t' := ⟨b.scheme, b.host, r.path, r.query, r.frag, b.hasS, b.hasH, r.hasQ, r.hasF⟩) rfl).drew
  go_region
  generalize (((W1).setCell ⟨w.heap.size + 1, 1, none⟩ (.string (Lc.str b.host))).setCell ⟨w.heap.size + 1, 6, none⟩ (.bool b.hasH)).drew = W2 at *
  clear b1 b6 r1 r6 g1 g6 h1
  have y2 := (uri_open h2.out.cr).2.2.1
  try dsimp only at y2
  by_cases hp : r.path = []
  case neg =>
    have e0 : ¬ (Lc.str r.path).data.toList = [] := by rw [Lc.str_list]; exact hp
    have e3 : ¬ (Lc.str r.path).toList = [] := by rw [ByteArray.toList_eq]; exact e0
    have e2 : ((Lc.str r.path).toList == []) = false := by rw [beq_eq_false_iff_ne]; exact e3
    have e4 : ((Lc.str r.path).toList != []) = true := by rw [bne, e2]; rfl
    replace hp := Lib.hid hp
    replace e0 := Lib.hid e0
    go_upto_region 8 with fail
    clear e2 e3 e4 e0
    have cp0 := cp.out W2
    unfold uArr at cp0
    replace cp0 := Lib.hid cp0
    obtain ⟨b0, b1, b2, b3, b4, b5, b6, b7, b8⟩ := uri_open h2.out.cb
    go_wp2_with fail
    (refine (cp0.out).mono ?_); rintro e v3 ⟨rfl, k3⟩
    have h3 := Lib.hid (h2.out.on k3)
    clear cp0 k3 y2 h2 b0 b1 b2 b3 b4 b5 b6 b7 b8
    have y2 := (uri_open h3.out.cr).2.2.1
    have g2 := h3.out.cr.free 2
    have h4 := Lib.hid (h3.out.set 2 (.string (Lc.str (Lc.placed b r.path))) (t' := ⟨b.scheme, b.host, Lc.placed b r.path, r.query, r.frag, b.hasS, b.hasH, r.hasQ, r.hasF⟩) rfl)
    go_upto_region 9 with fail
    generalize v3.setCell ⟨w.heap.size + 1, 2, none⟩ (.string (Lc.str (Lc.placed b r.path))) = W4 at *
    clear y2 g2 h3
    obtain ⟨U, hU⟩ : ∃ U, U = ({ (⟨b.scheme, b.host, Lc.placed b r.path, r.query, r.frag, b.hasS, b.hasH, r.hasQ, r.hasF⟩ : Lc.U) with path := Lc.dots (⟨b.scheme, b.host, Lc.placed b r.path, r.query, r.frag, b.hasS, b.hasH, r.hasQ, r.hasF⟩ : Lc.U).path } : Lc.U) := ⟨_, rfl⟩
    have hq : Hid (Q = U) := Lib.hid (by rw [hU]; rw [hQ.out, Lc.resolve, if_neg (by rw [hS2.out]; simp), if_neg (by rw [hH2.out]; simp), if_neg hp.out, Lc.dots_placed])
    have cw0 := pWithout_any (⟨b.scheme, b.host, Lc.placed b r.path, r.query, r.frag, b.hasS, b.hasH, r.hasQ, r.hasF⟩) W4 (by have := Lc.placed_len b r.path; have := zr.out; have := zb.out; dsimp only; omega)
    rw [← hU] at cw0
    unfold uArr at cw0
    try dsimp only at cw0
    replace cw0 := Lib.hid cw0
    replace hU := Lib.hid hU
    obtain ⟨y0, y1, y2, y3, y4, y5, y6, y7, y8⟩ := uri_open h4.out.cr
    try dsimp only at y0 y1 y2 y3 y4 y5 y6 y7 y8
    go_wp2_with fail
    (refine (cw0.out).mono ?_); rintro e v1 ⟨rfl, k1⟩
    have hz := Lib.hid (h4.out.on k1)
    clear cw0 k1 y0 y1 y2 y3 y4 y5 y6 y7 y8 h4
    obtain ⟨x0, x1, x2, x3, x4, x5, x6, x7, x8⟩ := zero_open hz.out.cz
    have f0 := hz.out.cz.free 0
    have f1 := hz.out.cz.free 1
    have f2 := hz.out.cz.free 2
    have f3 := hz.out.cz.free 3
    have f4 := hz.out.cz.free 4
    have f5 := hz.out.cz.free 5
    have f6 := hz.out.cz.free 6
    have f7 := hz.out.cz.free 7
    have f8 := hz.out.cz.free 8
    have hD := Lib.hid (hz.out.done U)
    clear hz
    go_wp2_with fail
    exact uri_end (rb := w.heap.size + 1 + 1) rfl rfl hD.out.1 ⟨by rw [hq.out], hD.out.2⟩
  have e0 : (Lc.str r.path).size = 0 := by rw [Lc.str_size, hp]; rfl
  have e1 : (Lc.str r.path).toList = [] := by rw [ByteArray.toList_eq, lnil e0]
  have e3 : ((Lc.str r.path).toList == []) = true := by rw [e1]; rfl
  have e4 : ((Lc.str r.path).toList != []) = false := by rw [bne, e3]; rfl
  replace hp := Lib.hid hp
  replace e0 := Lib.hid e0
  go_upto_region 10 with fail
  clear e1 e3 e4 e0
  have b2 := (uri_open h2.out.cb).2.2.1
  have g2 := h2.out.cr.free 2
  have h3 := Lib.hid (h2.out.set 2 (.string (Lc.str b.path)) (t' := ⟨b.scheme, b.host, b.path, r.query, r.frag, b.hasS, b.hasH, r.hasQ, r.hasF⟩) rfl)
  go_upto_region 11 with fail
  generalize W2.setCell ⟨w.heap.size + 1, 2, none⟩ (.string (Lc.str b.path)) = W3 at *
  clear b2 g2 h2 y2
  have y7 := (uri_open h3.out.cr).2.2.2.2.2.2.2.1
  try dsimp only at y7
  have hq9 : Hid (Q = ⟨b.scheme, b.host, b.path, if r.hasQ then r.query else b.query, r.frag, b.hasS, b.hasH, if r.hasQ then true else b.hasQ, r.hasF⟩) := Lib.hid (by
    rw [hQ.out, Lc.resolve, if_neg (by rw [hS2.out]; simp), if_neg (by rw [hH2.out]; simp), if_pos hp.out])
  by_cases hq1 : r.hasQ = true
  case neg =>
    replace hq1 : r.hasQ = false := by simpa using hq1
    rw [hq1] at y7
    have hq2 := Lib.hid hq1
    clear hq1
    go_upto_region 12 with fail
    clear y7
    obtain ⟨b0, b1, b2, b3, b4, b5, b6, b7, b8⟩ := uri_open h3.out.cb
    obtain ⟨r0, r1, r2, r3, r4, r5, r6, r7, r8⟩ := uri_open h3.out.cr
    have g3 := h3.out.cr.free 3
    have g7 := h3.out.cr.free 7
    clear b0 b1 b2 b4 b5 b6 b8
    clear r0 r1 r2 r4 r5 r6 r8
    have h4 := Lib.hid (((h3.out).set 3 (.string (Lc.str b.query)) (t' := ⟨b.scheme, b.host, b.path, b.query, r.frag, b.hasS, b.hasH, r.hasQ, r.hasF⟩) rfl).set 7 (.bool b.hasQ) (t' := ⟨b.scheme, b.host, b.path, b.query, r.frag, b.hasS, b.hasH, b.hasQ, r.hasF⟩) rfl).drew
    go_region
    generalize (((W3).setCell ⟨w.heap.size + 1, 3, none⟩ (.string (Lc.str b.query))).setCell ⟨w.heap.size + 1, 7, none⟩ (.bool b.hasQ)).drew = W4 at *
    clear b3 b7 r3 r7 g3 g7 h3
    obtain ⟨U, hU⟩ : ∃ U, U = (⟨b.scheme, b.host, b.path, b.query, r.frag, b.hasS, b.hasH, b.hasQ, r.hasF⟩ : Lc.U) := ⟨_, rfl⟩
    have hq : Hid (Q = U) := Lib.hid (by rw [hq9.out, hU, hq2.out]; rfl)
    rw [← hU] at h4
    replace hU := Lib.hid hU
    obtain ⟨y0, y1, y2, y3, y4, y5, y6, y7, y8⟩ := uri_open h4.out.cr
    obtain ⟨x0, x1, x2, x3, x4, x5, x6, x7, x8⟩ := zero_open h4.out.cz
    have f0 := h4.out.cz.free 0
    have f1 := h4.out.cz.free 1
    have f2 := h4.out.cz.free 2
    have f3 := h4.out.cz.free 3
    have f4 := h4.out.cz.free 4
    have f5 := h4.out.cz.free 5
    have f6 := h4.out.cz.free 6
    have f7 := h4.out.cz.free 7
    have f8 := h4.out.cz.free 8
    have hD := Lib.hid (h4.out.done U)
    clear h4
    go_wp2_with fail
    exact uri_end (rb := w.heap.size + 1 + 1) rfl rfl hD.out.1 ⟨by rw [hq.out], hD.out.2⟩
  rw [hq1] at y7
  have hq2 := Lib.hid hq1
  clear hq1
  go_upto_region 13 with fail
  clear y7
  obtain ⟨U, hU⟩ : ∃ U, U = (⟨b.scheme, b.host, b.path, r.query, r.frag, b.hasS, b.hasH, r.hasQ, r.hasF⟩ : Lc.U) := ⟨_, rfl⟩
  have hq : Hid (Q = U) := Lib.hid (by rw [hq9.out, hU, hq2.out]; rfl)
  rw [← hU] at h3
  replace hU := Lib.hid hU
  obtain ⟨y0, y1, y2, y3, y4, y5, y6, y7, y8⟩ := uri_open h3.out.cr
  obtain ⟨x0, x1, x2, x3, x4, x5, x6, x7, x8⟩ := zero_open h3.out.cz
  have f0 := h3.out.cz.free 0
  have f1 := h3.out.cz.free 1
  have f2 := h3.out.cz.free 2
  have f3 := h3.out.cz.free 3
  have f4 := h3.out.cz.free 4
  have f5 := h3.out.cz.free 5
  have f6 := h3.out.cz.free 6
  have f7 := h3.out.cz.free 7
  have f8 := h3.out.cz.free 8
  have hD := Lib.hid (h3.out.done U)
  clear h3
  go_wp2_with fail
  exact uri_end (rb := w.heap.size + 1 + 1) rfl rfl hD.out.1 ⟨by rw [hq.out], hD.out.2⟩
end Go.Proofs.Ytmfmgbjkbadndaa
