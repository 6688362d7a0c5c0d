/-
  What the document's own words of references come to: Resolve.
-/
import Derived.Test.YtmfmgbjkbadndaaRefLoc5
import Derived.Deep.RegionWith
import Derived.BigRegion
import Derived.Deep.DeepCutAuto
import Derived.Deep.RegionHeld3
namespace Go.Proofs.Ytmfmgbjkbadndaa
open Go.RowKit

namespace Lc
theorem lead_at {p : List UInt8} {k : Nat} (hk : k ≤ p.length) (h : (47 : UInt8) ∉ p.drop k) (h2 : k = 0 ∨ ∃ j, ∃ h : j < p.length, k = j + 1 ∧ p[j] = 47) : p.take k = lead p := by
  have e := List.take_append_drop k p
  have hr : p.reverse = (p.drop k).reverse ++ (p.take k).reverse := by rw [← List.reverse_append, e]
  unfold lead
  rw [hr, List.dropWhile_append_of_pos]
  · rcases h2 with rfl | ⟨j, hj, rfl, hj2⟩
    · simp
    · rw [List.take_succ_eq_append_getElem hj, List.reverse_append, hj2]
      simp
  · intro c hc
    rw [bne_iff_ne]
    rintro rfl
    exact h (by simpa using hc)
theorem small_of {u : U} (h : Small u) : u.path.length ≤ 100000 := h.2.2.1
end Lc

/-- A resolution under way: base, reference, the result as it was, what has been laid. -/
structure RS (w : World) (bt : Nat) (b r t : Lc.U) (W : World) : Prop where
  low : Below w.heap.size w W
  cb : Cells W w.heap.size 24 (uArr b)
  cr : Cells W (w.heap.size + 1) 24 (uArr r)
  cz : Cells W (w.heap.size + 1 + 1) 24 (uArr Lc.none)
  ct : Cells W bt 24 (uArr t)
  hb : w.heap.size + 1 + 1 < bt
theorem RS.first {w w3 : World} {b r : Lc.U} (low : Below w.heap.size w w3) (kb : Cells w3 w.heap.size 24 (uArr b)) (kr : Cells w3 (w.heap.size + 1) 24 (uArr r)) (kz : Cells w3 (w.heap.size + 1 + 1) 24 (uArr Lc.none)) :
    RS w w3.heap.size b r ⟨b.scheme, [], [], [], r.frag, b.hasS, false, false, r.hasF⟩ (w3.alloc (.cells (uArr ⟨b.scheme, [], [], [], r.frag, b.hasS, false, false, r.hasF⟩) 24)) :=
  ⟨low.alloc low.size _, kb.alloc _, kr.alloc _, kz.alloc _, Cells.new _ _ _, kz.lt⟩
theorem RS.set {w W : World} {bt : Nat} {b r t t' : Lc.U} (h : RS w bt b r t W) (i : Nat) (v : Value) (hA : (uArr t).setIfInBounds i v = uArr t') : RS w bt b r t' (W.setCell ⟨bt, i, none⟩ v) := by
  have hb := h.hb
  exact ⟨h.low.setCell (p := ⟨bt, i, none⟩) (by show w.heap.size ≤ bt; omega) _, h.cb.other i v (by omega), h.cr.other i v (by omega), h.cz.other i v (by omega), by have := h.ct.set i v; rwa [hA] at this, hb⟩
theorem RS.drew {w W : World} {bt : Nat} {b r t : Lc.U} (h : RS w bt b r t W) : RS w bt b r t W.drew := ⟨Cells.below_drewN h.low 1, h.cb, h.cr, h.cz, h.ct, h.hb⟩
theorem RS.nine {w W : World} {bt : Nat} {b r t : Lc.U} (h : RS w bt b r t W) (u : Lc.U) : RS w bt b r u (nineSet W bt (.string (Lc.str u.scheme)) (.string (Lc.str u.host)) (.string (Lc.str u.path)) (.string (Lc.str u.query)) (.string (Lc.str u.frag)) (.bool u.hasS) (.bool u.hasH) (.bool u.hasQ) (.bool u.hasF)) := by
  have hb := h.hb
  exact ⟨nine_below h.low (by omega) _ _ _ _ _ _ _ _ _, nine_other h.cb (by omega) _ _ _ _ _ _ _ _ _, nine_other h.cr (by omega) _ _ _ _ _ _ _ _ _, nine_other h.cz (by omega) _ _ _ _ _ _ _ _ _, nine_cells rfl h.ct _ _ _ _ _ _ _ _ _, hb⟩
/-- THE END. -/
theorem RS.done {w W : World} {bt : Nat} {b r t : Lc.U} (h : RS w bt b r t W) : Cells (nineSet W (w.heap.size + 1 + 1) (.string (Lc.str t.scheme)) (.string (Lc.str t.host)) (.string (Lc.str t.path)) (.string (Lc.str t.query)) (.string (Lc.str t.frag)) (.bool t.hasS) (.bool t.hasH) (.bool t.hasQ) (.bool t.hasF)) (w.heap.size + 1 + 1) 24 (uArr t) ∧ Below w.heap.size w (nineSet W (w.heap.size + 1 + 1) (.string (Lc.str t.scheme)) (.string (Lc.str t.host)) (.string (Lc.str t.path)) (.string (Lc.str t.query)) (.string (Lc.str t.frag)) (.bool t.hasS) (.bool t.hasH) (.bool t.hasQ) (.bool t.hasF)) :=
  ⟨nine_cells rfl h.cz _ _ _ _ _ _ _ _ _, nine_below h.low (by omega) _ _ _ _ _ _ _ _ _⟩

set_option maxRecDepth 100000 in
set_option maxHeartbeats 12800000 in
theorem lResolve_any (b r : Lc.U) (w : World) (hb : Lc.Small b) (hr : Lc.Small r) : Calls Try.prog 19 #[.agg (uArr b), .agg (uArr r)] w fun e w' => e = .returned (.agg (uArr (Lc.resolve b r))) ∧ Below w.heap.size w w' := by
  obtain ⟨Q, hQ⟩ : ∃ Q, Q = Lc.resolve b r := ⟨_, rfl⟩
  rw [← hQ]
  replace hQ := Lib.hid hQ
  have cd := Lib.hid (fun (t : ByteArray) W (h : t.size ≤ 1000000) => lDots_any t W h)
  have zr : Hid ((Lc.str r.path).size ≤ 100000) := Lib.hid (by rw [Lc.str_size]; exact Lc.small_of hr)
  have zb : Hid ((Lc.str b.path).size ≤ 100000) := Lib.hid (by rw [Lc.str_size]; exact Lc.small_of hb)
  have cr := Lib.hid (fun W => cd.out (Lc.str r.path) W (Nat.le_trans zr.out (by omega)))
  have crl := Lib.hid (Lc.str_list r.path)
  clear hb hr
  have kb : Cells (((w.alloc (.cells #[.string (Lc.str b.scheme), .string (Lc.str b.host), .string (Lc.str b.path), .string (Lc.str b.query), .string (Lc.str b.frag), .bool b.hasS, .bool b.hasH, .bool b.hasQ, .bool b.hasF] 24)).alloc (.cells #[.string (Lc.str r.scheme), .string (Lc.str r.host), .string (Lc.str r.path), .string (Lc.str r.query), .string (Lc.str r.frag), .bool r.hasS, .bool r.hasH, .bool r.hasQ, .bool r.hasF] 24)).alloc (.cells #[.string ⟨#[]⟩, .string ⟨#[]⟩, .string ⟨#[]⟩, .string ⟨#[]⟩, .string ⟨#[]⟩, .bool false, .bool false, .bool false, .bool false] 24)) w.heap.size 24 (uArr b) := ((Cells.new w 24 (uArr b)).alloc _).alloc _
  have kr : Cells (((w.alloc (.cells #[.string (Lc.str b.scheme), .string (Lc.str b.host), .string (Lc.str b.path), .string (Lc.str b.query), .string (Lc.str b.frag), .bool b.hasS, .bool b.hasH, .bool b.hasQ, .bool b.hasF] 24)).alloc (.cells #[.string (Lc.str r.scheme), .string (Lc.str r.host), .string (Lc.str r.path), .string (Lc.str r.query), .string (Lc.str r.frag), .bool r.hasS, .bool r.hasH, .bool r.hasQ, .bool r.hasF] 24)).alloc (.cells #[.string ⟨#[]⟩, .string ⟨#[]⟩, .string ⟨#[]⟩, .string ⟨#[]⟩, .string ⟨#[]⟩, .bool false, .bool false, .bool false, .bool false] 24)) (w.heap.size + 1) 24 (uArr r) := by
    have := Cells.new (w.alloc (.cells #[.string (Lc.str b.scheme), .string (Lc.str b.host), .string (Lc.str b.path), .string (Lc.str b.query), .string (Lc.str b.frag), .bool b.hasS, .bool b.hasH, .bool b.hasQ, .bool b.hasF] 24)) 24 (uArr r)
    rw [World.size_alloc] at this
    exact this.alloc _
  have kz : Cells (((w.alloc (.cells #[.string (Lc.str b.scheme), .string (Lc.str b.host), .string (Lc.str b.path), .string (Lc.str b.query), .string (Lc.str b.frag), .bool b.hasS, .bool b.hasH, .bool b.hasQ, .bool b.hasF] 24)).alloc (.cells #[.string (Lc.str r.scheme), .string (Lc.str r.host), .string (Lc.str r.path), .string (Lc.str r.query), .string (Lc.str r.frag), .bool r.hasS, .bool r.hasH, .bool r.hasQ, .bool r.hasF] 24)).alloc (.cells #[.string ⟨#[]⟩, .string ⟨#[]⟩, .string ⟨#[]⟩, .string ⟨#[]⟩, .string ⟨#[]⟩, .bool false, .bool false, .bool false, .bool false] 24)) (w.heap.size + 1 + 1) 24 (uArr Lc.none) := by
    have := Cells.new ((w.alloc (.cells #[.string (Lc.str b.scheme), .string (Lc.str b.host), .string (Lc.str b.path), .string (Lc.str b.query), .string (Lc.str b.frag), .bool b.hasS, .bool b.hasH, .bool b.hasQ, .bool b.hasF] 24)).alloc (.cells #[.string (Lc.str r.scheme), .string (Lc.str r.host), .string (Lc.str r.path), .string (Lc.str r.query), .string (Lc.str r.frag), .bool r.hasS, .bool r.hasH, .bool r.hasQ, .bool r.hasF] 24)) 24 (uArr Lc.none)
    rw [World.size_alloc, World.size_alloc] at this
    exact this
  have b3 : Below w.heap.size w (((w.alloc (.cells #[.string (Lc.str b.scheme), .string (Lc.str b.host), .string (Lc.str b.path), .string (Lc.str b.query), .string (Lc.str b.frag), .bool b.hasS, .bool b.hasH, .bool b.hasQ, .bool b.hasF] 24)).alloc (.cells #[.string (Lc.str r.scheme), .string (Lc.str r.host), .string (Lc.str r.path), .string (Lc.str r.query), .string (Lc.str r.frag), .bool r.hasS, .bool r.hasH, .bool r.hasQ, .bool r.hasF] 24)).alloc (.cells #[.string ⟨#[]⟩, .string ⟨#[]⟩, .string ⟨#[]⟩, .string ⟨#[]⟩, .string ⟨#[]⟩, .bool false, .bool false, .bool false, .bool false] 24)) := (((Below.refl _ _).alloc (Nat.le_refl _) _).alloc (by simp) _).alloc (by simp; omega) _
  show Calls Try.prog 19 #[.agg #[.string (Lc.str b.scheme), .string (Lc.str b.host), .string (Lc.str b.path), .string (Lc.str b.query), .string (Lc.str b.frag), .bool b.hasS, .bool b.hasH, .bool b.hasQ, .bool b.hasF], .agg #[.string (Lc.str r.scheme), .string (Lc.str r.host), .string (Lc.str r.path), .string (Lc.str r.query), .string (Lc.str r.frag), .bool r.hasS, .bool r.hasH, .bool r.hasQ, .bool r.hasF]] w _
  go_enter Try.func19, Try.ntmps19
  go_upto_region 1 with fail
  generalize ((w.alloc (.cells #[.string (Lc.str b.scheme), .string (Lc.str b.host), .string (Lc.str b.path), .string (Lc.str b.query), .string (Lc.str b.frag), .bool b.hasS, .bool b.hasH, .bool b.hasQ, .bool b.hasF] 24)).alloc (.cells #[.string (Lc.str r.scheme), .string (Lc.str r.host), .string (Lc.str r.path), .string (Lc.str r.query), .string (Lc.str r.frag), .bool r.hasS, .bool r.hasH, .bool r.hasQ, .bool r.hasF] 24)).alloc (.cells #[.string ⟨#[]⟩, .string ⟨#[]⟩, .string ⟨#[]⟩, .string ⟨#[]⟩, .string ⟨#[]⟩, .bool false, .bool false, .bool false, .bool false] 24) = w3 at *
  have h0 := Lib.hid (RS.first b3 kb kr kz)
  obtain ⟨p0, p1, p2, p3, p4, p5, p6, p7, p8⟩ := uri_open kb
  obtain ⟨r0, r1, r2, r3, r4, r5, r6, r7, r8⟩ := uri_open kr
  have hbt := Lib.hid kz.lt
  clear kb kr kz b3 p1 p2 p3 p4 p6 p7 p8 r0 r1 r2 r3 r5 r6 r7
  go_upto_region 2 with fail
  replace h0 : Hid (RS w w3.heap.size b r ⟨b.scheme, [], [], [], r.frag, b.hasS, false, false, r.hasF⟩ (w3.alloc (.cells #[.string (Lc.str b.scheme), .string ⟨#[]⟩, .string ⟨#[]⟩, .string ⟨#[]⟩, .string (Lc.str r.frag), .bool b.hasS, .bool false, .bool false, .bool r.hasF] 24))) := h0
  generalize w3.alloc (.cells #[.string (Lc.str b.scheme), .string ⟨#[]⟩, .string ⟨#[]⟩, .string ⟨#[]⟩, .string (Lc.str r.frag), .bool b.hasS, .bool false, .bool false, .bool r.hasF] 24) = W at *
  generalize w3.heap.size = bt at *
  clear p0 p5 r4 r8
  obtain ⟨r0, r1, r2, r3, r4, r5, r6, r7, r8⟩ := uri_open h0.out.cr
  cases hS : r.hasS
  case true =>
    obtain ⟨t0, t1, t2, t3, t4, t5, t6, t7, t8⟩ := uri_open h0.out.ct
    have g0 := h0.out.ct.free 0
    have g1 := h0.out.ct.free 1
    have g2 := h0.out.ct.free 2
    have g3 := h0.out.ct.free 3
    have g4 := h0.out.ct.free 4
    have g5 := h0.out.ct.free 5
    have g6 := h0.out.ct.free 6
    have g7 := h0.out.ct.free 7
    have g8 := h0.out.ct.free 8
    rw [hS] at r5
    have h1 : Hid (RS w bt b r r ((((((((((W.setCell ⟨bt, 0, none⟩ (.string (Lc.str r.scheme))).setCell ⟨bt, 1, none⟩ (.string (Lc.str r.host))).setCell ⟨bt, 2, none⟩ (.string (Lc.str r.path))).setCell ⟨bt, 3, none⟩ (.string (Lc.str r.query))).setCell ⟨bt, 4, none⟩ (.string (Lc.str r.frag))).setCell ⟨bt, 5, none⟩ (.bool true)).setCell ⟨bt, 6, none⟩ (.bool r.hasH)).setCell ⟨bt, 7, none⟩ (.bool r.hasQ)).setCell ⟨bt, 8, none⟩ (.bool r.hasF)))) := Lib.hid (by have := h0.out.nine r; rw [hS] at this; exact this)
    have hq0 : Hid (Q = { r with path := Lc.dots r.path }) := Lib.hid (by rw [hQ.out, Lc.resolve, if_pos hS])
    replace hS := Lib.hid hS
    go_upto_region 4 with fail
    generalize (((((((((W.setCell ⟨bt, 0, none⟩ (.string (Lc.str r.scheme))).setCell ⟨bt, 1, none⟩ (.string (Lc.str r.host))).setCell ⟨bt, 2, none⟩ (.string (Lc.str r.path))).setCell ⟨bt, 3, none⟩ (.string (Lc.str r.query))).setCell ⟨bt, 4, none⟩ (.string (Lc.str r.frag))).setCell ⟨bt, 5, none⟩ (.bool true)).setCell ⟨bt, 6, none⟩ (.bool r.hasH)).setCell ⟨bt, 7, none⟩ (.bool r.hasQ)).setCell ⟨bt, 8, none⟩ (.bool r.hasF)) = W1 at *
    clear r0 r1 r2 r3 r4 r5 r6 r7 r8 t0 t1 t2 t3 t4 t5 t6 t7 t8 g0 g1 g2 g3 g4 g5 g6 g7 g8 h0
    have r2 := (uri_open h1.out.cr).2.2.1
    have t2 := (uri_open h1.out.ct).2.2.1
    have g2 := h1.out.ct.free 2
    have hT' := Lib.hid (h1.out.set 2 (.string (Lc.str (Lc.dots r.path))) (t' := { r with path := Lc.dots r.path }) rfl)
    go_wp2_with fail
    (refine (cr.out _).mono ?_); rintro e w9 ⟨rfl, rfl⟩
    rw [crl.out]
    go_upto_region 5 with fail
    generalize W1.setCell ⟨bt, 2, none⟩ (.string (Lc.str (Lc.dots r.path))) = W2 at *
    clear r2 t2 g2 h1
    rw [← hq0.out] at hT'
    have hT := hT'
    clear hT'
    obtain ⟨y0, y1, y2, y3, y4, y5, y6, y7, y8⟩ := uri_open hT.out.ct
    obtain ⟨x0, x1, x2, x3, x4, x5, x6, x7, x8⟩ := zero_open hT.out.cz
    have f0 := hT.out.cz.free 0
    have f1 := hT.out.cz.free 1
    have f2 := hT.out.cz.free 2
    have f3 := hT.out.cz.free 3
    have f4 := hT.out.cz.free 4
    have f5 := hT.out.cz.free 5
    have f6 := hT.out.cz.free 6
    have f7 := hT.out.cz.free 7
    have f8 := hT.out.cz.free 8
    have hD := Lib.hid hT.out.done
    clear hT
    go_wp2_with fail
    exact uri_end (rb := w.heap.size + 1 + 1) rfl rfl hD.out.1 ⟨rfl, hD.out.2⟩
  rw [hS] at r5
  have hres := Lib.hid hS
  clear hS
  cases hH : r.hasH
  case true =>
    rw [hH] at r6
    replace hH := Lib.hid hH
    obtain ⟨t0, t1, t2, t3, t4, t5, t6, t7, t8⟩ := uri_open h0.out.ct
    have g1 := h0.out.ct.free 1
    have g2 := h0.out.ct.free 2
    have g3 := h0.out.ct.free 3
    have g6 := h0.out.ct.free 6
    have g7 := h0.out.ct.free 7
    clear t0 t4 t5 t8 r0 r4 r8
    have h1 := Lib.hid (((((h0.out.set 1 (.string (Lc.str r.host)) (t' := ⟨b.scheme, r.host, [], [], r.frag, b.hasS, false, false, r.hasF⟩) rfl).set 6 (.bool true) (t' := ⟨b.scheme, r.host, [], [], r.frag, b.hasS, true, false, r.hasF⟩) rfl).set 2 (.string (Lc.str (Lc.dots r.path))) (t' := ⟨b.scheme, r.host, Lc.dots r.path, [], r.frag, b.hasS, true, false, r.hasF⟩) rfl).set 3 (.string (Lc.str r.query)) (t' := ⟨b.scheme, r.host, Lc.dots r.path, r.query, r.frag, b.hasS, true, false, r.hasF⟩) rfl).set 7 (.bool r.hasQ) (t' := ⟨b.scheme, r.host, Lc.dots r.path, r.query, r.frag, b.hasS, true, r.hasQ, r.hasF⟩) rfl).drew
    have hq0 : Hid (Q = ⟨b.scheme, r.host, Lc.dots r.path, r.query, r.frag, b.hasS, true, r.hasQ, r.hasF⟩) := Lib.hid (by rw [hQ.out, Lc.resolve, if_neg (by rw [hres.out]; simp), if_pos hH.out])
    rw [← hq0.out] at h1
    go_upto_region 7 with fail
    have o1 : ¬ w.heap.size + 1 = bt := by have := h0.out.hb; omega
    have o2 : ¬ bt = w.heap.size + 1 := fun e => o1 e.symm
    go_region_held3 (fun w' => w'.cell? ⟨w.heap.size + 1, 1, none⟩ = some (.string (Lc.str r.host)) ∧ w'.cell? ⟨w.heap.size + 1, 2, none⟩ = some (.string (Lc.str r.path)) ∧ w'.cell? ⟨w.heap.size + 1, 3, none⟩ = some (.string (Lc.str r.query)) ∧ w'.cell? ⟨w.heap.size + 1, 7, none⟩ = some (.bool r.hasQ)) (go_keep) ((go_at_call 17; refine (cr.out _).mono ?_; rintro e w9 ⟨rfl, rfl⟩; rw [crl.out]))
    generalize (((((W.setCell ⟨bt, 1, none⟩ (.string (Lc.str r.host))).setCell ⟨bt, 6, none⟩ (.bool true)).setCell ⟨bt, 2, none⟩ (.string (Lc.str (Lc.dots r.path)))).setCell ⟨bt, 3, none⟩ (.string (Lc.str r.query))).setCell ⟨bt, 7, none⟩ (.bool r.hasQ)).drew = W2 at *
    clear h0 r1 r2 r3 r5 r6 r7 t1 t2 t3 t6 t7 g1 g2 g3 g6 g7
    obtain ⟨y0, y1, y2, y3, y4, y5, y6, y7, y8⟩ := uri_open h1.out.ct
    obtain ⟨x0, x1, x2, x3, x4, x5, x6, x7, x8⟩ := zero_open h1.out.cz
    have f0 := h1.out.cz.free 0
    have f1 := h1.out.cz.free 1
    have f2 := h1.out.cz.free 2
    have f3 := h1.out.cz.free 3
    have f4 := h1.out.cz.free 4
    have f5 := h1.out.cz.free 5
    have f6 := h1.out.cz.free 6
    have f7 := h1.out.cz.free 7
    have f8 := h1.out.cz.free 8
    have hD := Lib.hid h1.out.done
    clear h1
    go_wp2_with fail
    exact uri_end (rb := w.heap.size + 1 + 1) rfl rfl hD.out.1 ⟨rfl, hD.out.2⟩
  rw [hH] at r6
  replace hH := Lib.hid hH
  obtain ⟨b0, b1, b2, b3, b4, b5, b6, b7, b8⟩ := uri_open h0.out.cb
  obtain ⟨t0, t1, t2, t3, t4, t5, t6, t7, t8⟩ := uri_open h0.out.ct
  have g1 := h0.out.ct.free 1
  have g6 := h0.out.ct.free 6
  clear t0 t2 t3 t4 t5 t7 t8 b0 b2 b3 b4 b5 b7 b8 r0 r1 r2 r3 r4 r7 r8
  have h9 := Lib.hid ((h0.out.set 1 (.string (Lc.str b.host)) (t' := ⟨b.scheme, b.host, [], [], r.frag, b.hasS, false, false, r.hasF⟩) rfl).set 6 (.bool b.hasH) (t' := ⟨b.scheme, b.host, [], [], r.frag, b.hasS, b.hasH, false, r.hasF⟩) rfl).drew
  have hq9 : Hid (Lc.resolve b r = if r.path = [] then ⟨b.scheme, b.host, b.path, if r.hasQ then r.query else b.query, r.frag, b.hasS, b.hasH, if r.hasQ then true else b.hasQ, r.hasF⟩ else ⟨b.scheme, b.host, if Lc.begins [47] r.path then Lc.dots r.path else if b.hasH ∧ b.path = [] then Lc.dots (47 :: r.path) else Lc.dots (Lc.lead b.path ++ r.path), r.query, r.frag, b.hasS, b.hasH, r.hasQ, r.hasF⟩) := Lib.hid (by
    rw [Lc.resolve, if_neg (by rw [hres.out]; simp), if_neg (by rw [hH.out]; simp)])
  go_upto_region 9 with fail
  go_region
  generalize ((W.setCell ⟨bt, 1, none⟩ (.string (Lc.str b.host))).setCell ⟨bt, 6, none⟩ (.bool b.hasH)).drew = W9 at *
  clear h0 b1 b6 t1 t6 g1 g6 r5 r6
  obtain ⟨r0, r1, r2, r3, r4, r5, r6, r7, r8⟩ := uri_open h9.out.cr
  obtain ⟨b0, b1, b2, b3, b4, b5, b6, b7, b8⟩ := uri_open h9.out.cb
  obtain ⟨t0, t1, t2, t3, t4, t5, t6, t7, t8⟩ := uri_open h9.out.ct
  have g2 := h9.out.ct.free 2
  have g3 := h9.out.ct.free 3
  have g7 := h9.out.ct.free 7
  clear r0 r1 r4 r5 r6 r8 b0 b1 b4 b5 b8 t0 t1 t4 t5 t6 t8
  by_cases hp : r.path = []
  case pos =>
    have e0 : (Lc.str r.path).size = 0 := by rw [Lc.str_size, hp]; rfl
    have e1 : (Lc.str r.path).toList = [] := by rw [ByteArray.toList_eq, lnil e0]
    have e2 := empty_is e0
    have e3 : ((Lc.str r.path).toList == []) = true := by rw [e1]; rfl
    have h10 := Lib.hid (h9.out.set 2 (.string (Lc.str b.path)) (t' := ⟨b.scheme, b.host, b.path, [], r.frag, b.hasS, b.hasH, false, r.hasF⟩) rfl)
    replace e0 := Lib.hid e0
    replace hp := Lib.hid hp
    go_upto_region 16 with fail
    generalize W9.setCell ⟨bt, 2, none⟩ (.string (Lc.str b.path)) = WA at *
    clear h9 r2 r3 r7 b2 b3 b6 b7 t2 t3 t7 g2 g3 g7 e1 e2 e3
    obtain ⟨b0, b1, b2, b3, b4, b5, b6, b7, b8⟩ := uri_open h10.out.cb
    obtain ⟨t0, t1, t2, t3, t4, t5, t6, t7, t8⟩ := uri_open h10.out.ct
    have g3 := h10.out.ct.free 3
    have g7 := h10.out.ct.free 7
    have h11 := Lib.hid ((h10.out.set 3 (.string (Lc.str b.query)) (t' := ⟨b.scheme, b.host, b.path, b.query, r.frag, b.hasS, b.hasH, false, r.hasF⟩) rfl).set 7 (.bool b.hasQ) (t' := ⟨b.scheme, b.host, b.path, b.query, r.frag, b.hasS, b.hasH, b.hasQ, r.hasF⟩) rfl).drew
    clear b0 b1 b2 b4 b5 b6 b8 t0 t1 t2 t4 t5 t6 t8
    go_region
    generalize ((WA.setCell ⟨bt, 3, none⟩ (.string (Lc.str b.query))).setCell ⟨bt, 7, none⟩ (.bool b.hasQ)).drew = WB at *
    clear h10 b3 b7 t3 t7 g3 g7
    obtain ⟨r0, r1, r2, r3, r4, r5, r6, r7, r8⟩ := uri_open h11.out.cr
    obtain ⟨t0, t1, t2, t3, t4, t5, t6, t7, t8⟩ := uri_open h11.out.ct
    have g3 := h11.out.ct.free 3
    have g7 := h11.out.ct.free 7
    clear r0 r1 r2 r4 r5 r6 r8 t0 t1 t2 t4 t5 t6 t8
    cases hX : r.hasQ
    case false =>
      have hq0 : Hid (Q = ⟨b.scheme, b.host, b.path, b.query, r.frag, b.hasS, b.hasH, b.hasQ, r.hasF⟩) := Lib.hid (by rw [hQ.out, hq9.out, if_pos hp.out, hX]; rfl)
      rw [hX] at r7
      rw [← hq0.out] at h11
      replace hX := Lib.hid hX
      go_upto_region 19 with fail
      clear r3 r7 t3 t7 g3 g7
      obtain ⟨y0, y1, y2, y3, y4, y5, y6, y7, y8⟩ := uri_open h11.out.ct
      obtain ⟨x0, x1, x2, x3, x4, x5, x6, x7, x8⟩ := zero_open h11.out.cz
      have f0 := h11.out.cz.free 0
      have f1 := h11.out.cz.free 1
      have f2 := h11.out.cz.free 2
      have f3 := h11.out.cz.free 3
      have f4 := h11.out.cz.free 4
      have f5 := h11.out.cz.free 5
      have f6 := h11.out.cz.free 6
      have f7 := h11.out.cz.free 7
      have f8 := h11.out.cz.free 8
      have hD := Lib.hid h11.out.done
      clear h11
      go_wp2_with fail
      exact uri_end (rb := w.heap.size + 1 + 1) rfl rfl hD.out.1 ⟨rfl, hD.out.2⟩
    have h12 := Lib.hid ((h11.out.set 3 (.string (Lc.str r.query)) (t' := ⟨b.scheme, b.host, b.path, r.query, r.frag, b.hasS, b.hasH, b.hasQ, r.hasF⟩) rfl).set 7 (.bool true) (t' := ⟨b.scheme, b.host, b.path, r.query, r.frag, b.hasS, b.hasH, true, r.hasF⟩) rfl)
    have hq0 : Hid (Q = ⟨b.scheme, b.host, b.path, r.query, r.frag, b.hasS, b.hasH, true, r.hasF⟩) := Lib.hid (by rw [hQ.out, hq9.out, if_pos hp.out, hX]; rfl)
    rw [hX] at r7
    rw [← hq0.out] at h12
    replace hX := Lib.hid hX
    go_upto_region 19 with fail
    generalize (WB.setCell ⟨bt, 3, none⟩ (.string (Lc.str r.query))).setCell ⟨bt, 7, none⟩ (.bool true) = WC at *
    clear h11 r3 r7 t3 t7 g3 g7
    obtain ⟨y0, y1, y2, y3, y4, y5, y6, y7, y8⟩ := uri_open h12.out.ct
    obtain ⟨x0, x1, x2, x3, x4, x5, x6, x7, x8⟩ := zero_open h12.out.cz
    have f0 := h12.out.cz.free 0
    have f1 := h12.out.cz.free 1
    have f2 := h12.out.cz.free 2
    have f3 := h12.out.cz.free 3
    have f4 := h12.out.cz.free 4
    have f5 := h12.out.cz.free 5
    have f6 := h12.out.cz.free 6
    have f7 := h12.out.cz.free 7
    have f8 := h12.out.cz.free 8
    have hD := Lib.hid h12.out.done
    clear h12
    go_wp2_with fail
    exact uri_end (rb := w.heap.size + 1 + 1) rfl rfl hD.out.1 ⟨rfl, hD.out.2⟩
  have e0 : ¬ (Lc.str r.path).size = 0 := by rw [Lc.str_size]; exact fun e => hp (List.length_eq_zero_iff.1 e)
  have e1 : ¬ (Lc.str r.path).toList = [] := by rw [ByteArray.toList_eq, Lc.str_list]; exact hp
  have e2 := ne_empty (s := Lc.str r.path) (by omega)
  have e3 : ((Lc.str r.path).toList == []) = false := by rw [beq_eq_false_iff_ne]; exact e1
  have hqn : Hid (∀ P : List UInt8, (if Lc.begins [47] r.path then Lc.dots r.path else if b.hasH ∧ b.path = [] then Lc.dots (47 :: r.path) else Lc.dots (Lc.lead b.path ++ r.path)) = P → Q = ⟨b.scheme, b.host, P, r.query, r.frag, b.hasS, b.hasH, r.hasQ, r.hasF⟩) := Lib.hid (fun P h => by rw [hQ.out, hq9.out, if_neg hp, h])
  replace hp := Lib.hid hp
  replace e0 := Lib.hid e0
  have cbg := Lib.hid (fun W => lBegins_any (Lc.str r.path) ⟨#[47]⟩ [47] W (by have := zr.out; unfold maxLen; omega) rfl)
  rw [crl.out] at cbg
  clear t3 t7 g3 g7
  go_wp2_with fail
  (refine (cbg.out _).mono ?_); rintro e w9 ⟨rfl, rfl⟩
  clear cbg e1 e2 e3
  cases hB : Lc.begins [47] r.path
  case true =>
    have hq0 := Lib.hid (hqn.out (Lc.dots r.path) (by rw [if_pos hB]))
    have h10 := Lib.hid (h9.out.set 2 (.string (Lc.str (Lc.dots r.path))) (t' := ⟨b.scheme, b.host, Lc.dots r.path, [], r.frag, b.hasS, b.hasH, false, r.hasF⟩) rfl)
    clear hqn
    replace hB := Lib.hid hB
    clear b2 b3 b6 b7 r3 r7
    go_wp2_with fail
    (refine (cr.out _).mono ?_); rintro e w9 ⟨rfl, rfl⟩
    rw [crl.out]
    go_upto_region 24 with fail
    generalize W9.setCell ⟨bt, 2, none⟩ (.string (Lc.str (Lc.dots r.path))) = WA at *
    clear h9 r2 t2 g2
    have h11 := Lib.hid ((h10.out.set 3 (.string (Lc.str r.query)) (t' := ⟨b.scheme, b.host, Lc.dots r.path, r.query, r.frag, b.hasS, b.hasH, false, r.hasF⟩) rfl).set 7 (.bool r.hasQ) (t' := ⟨b.scheme, b.host, Lc.dots r.path, r.query, r.frag, b.hasS, b.hasH, r.hasQ, r.hasF⟩) rfl).drew
    rw [← hq0.out] at h11
    obtain ⟨r0, r1, r2, r3, r4, r5, r6, r7, r8⟩ := uri_open h10.out.cr
    obtain ⟨t0, t1, t2, t3, t4, t5, t6, t7, t8⟩ := uri_open h10.out.ct
    have g3 := h10.out.ct.free 3
    have g7 := h10.out.ct.free 7
    clear r0 r1 r2 r4 r5 r6 r8 t0 t1 t2 t4 t5 t6 t8
    go_region
    generalize ((WA.setCell ⟨bt, 3, none⟩ (.string (Lc.str r.query))).setCell ⟨bt, 7, none⟩ (.bool r.hasQ)).drew = WB at *
    clear h10 r3 r7 t3 t7 g3 g7
    obtain ⟨y0, y1, y2, y3, y4, y5, y6, y7, y8⟩ := uri_open h11.out.ct
    obtain ⟨x0, x1, x2, x3, x4, x5, x6, x7, x8⟩ := zero_open h11.out.cz
    have f0 := h11.out.cz.free 0
    have f1 := h11.out.cz.free 1
    have f2 := h11.out.cz.free 2
    have f3 := h11.out.cz.free 3
    have f4 := h11.out.cz.free 4
    have f5 := h11.out.cz.free 5
    have f6 := h11.out.cz.free 6
    have f7 := h11.out.cz.free 7
    have f8 := h11.out.cz.free 8
    have hD := Lib.hid h11.out.done
    clear h11
    go_wp2_with fail
    exact uri_end (rb := w.heap.size + 1 + 1) rfl rfl hD.out.1 ⟨rfl, hD.out.2⟩
  by_cases hE : b.hasH = true ∧ b.path = []
  case pos =>
    have hq0 := Lib.hid (hqn.out (Lc.dots (47 :: r.path)) (by rw [if_neg (by rw [hB]; simp), if_pos hE]))
    have h10 := Lib.hid (h9.out.set 2 (.string (Lc.str (Lc.dots (47 :: r.path)))) (t' := ⟨b.scheme, b.host, Lc.dots (47 :: r.path), [], r.frag, b.hasS, b.hasH, false, r.hasF⟩) rfl)
    clear hqn
    have e0 : (Lc.str b.path).size = 0 := by rw [Lc.str_size, hE.2]; rfl
    have e1 : (Lc.str b.path).toList = [] := by rw [ByteArray.toList_eq, lnil e0]
    have e2 := empty_is e0
    have e3 : ((Lc.str b.path).toList == []) = true := by rw [e1]; rfl
    rw [hE.1] at b6
    have q1 : ¬ 9223372036854775807 < 1 + (Lc.str r.path).size := by have := zr.out; omega
    have q2 : Hid (((⟨#[47]⟩ : ByteArray) ++ Lc.str r.path).size ≤ 1000000) := Lib.hid (by rw [ByteArray.size_append]; have := zr.out; show 1 + (Lc.str r.path).size ≤ _; omega)
    have q3 : Hid (((⟨#[47]⟩ : ByteArray) ++ Lc.str r.path).data.toList = 47 :: r.path) := Lib.hid (by rw [ByteArray.data_append, Array.toList_append, crl.out]; rfl)
    replace hB := Lib.hid hB
    replace hE := Lib.hid hE
    replace e0 := Lib.hid e0
    clear b3 b7 r3 r7
    go_wp2_with fail
    (refine (cd.out _ _ q2.out).mono ?_); rintro e w9 ⟨rfl, rfl⟩
    rw [q3.out]
    go_upto_region 24 with fail
    generalize W9.setCell ⟨bt, 2, none⟩ (.string (Lc.str (Lc.dots (47 :: r.path)))) = WA at *
    clear h9 r2 t2 g2 b2 b6 e1 e2 e3 q1
    have h11 := Lib.hid ((h10.out.set 3 (.string (Lc.str r.query)) (t' := ⟨b.scheme, b.host, Lc.dots (47 :: r.path), r.query, r.frag, b.hasS, b.hasH, false, r.hasF⟩) rfl).set 7 (.bool r.hasQ) (t' := ⟨b.scheme, b.host, Lc.dots (47 :: r.path), r.query, r.frag, b.hasS, b.hasH, r.hasQ, r.hasF⟩) rfl).drew
    rw [← hq0.out] at h11
    obtain ⟨r0, r1, r2, r3, r4, r5, r6, r7, r8⟩ := uri_open h10.out.cr
    obtain ⟨t0, t1, t2, t3, t4, t5, t6, t7, t8⟩ := uri_open h10.out.ct
    have g3 := h10.out.ct.free 3
    have g7 := h10.out.ct.free 7
    clear r0 r1 r2 r4 r5 r6 r8 t0 t1 t2 t4 t5 t6 t8
    go_region
    generalize ((WA.setCell ⟨bt, 3, none⟩ (.string (Lc.str r.query))).setCell ⟨bt, 7, none⟩ (.bool r.hasQ)).drew = WB at *
    clear h10 r3 r7 t3 t7 g3 g7
    obtain ⟨y0, y1, y2, y3, y4, y5, y6, y7, y8⟩ := uri_open h11.out.ct
    obtain ⟨x0, x1, x2, x3, x4, x5, x6, x7, x8⟩ := zero_open h11.out.cz
    have f0 := h11.out.cz.free 0
    have f1 := h11.out.cz.free 1
    have f2 := h11.out.cz.free 2
    have f3 := h11.out.cz.free 3
    have f4 := h11.out.cz.free 4
    have f5 := h11.out.cz.free 5
    have f6 := h11.out.cz.free 6
    have f7 := h11.out.cz.free 7
    have f8 := h11.out.cz.free 8
    have hD := Lib.hid h11.out.done
    clear h11
    go_wp2_with fail
    exact uri_end (rb := w.heap.size + 1 + 1) rfl rfl hD.out.1 ⟨rfl, hD.out.2⟩
  have hres2 : Hid (Q = ⟨b.scheme, b.host, Lc.dots (Lc.lead b.path ++ r.path), r.query, r.frag, b.hasS, b.hasH, r.hasQ, r.hasF⟩) := Lib.hid (hqn.out _ (by rw [if_neg (by rw [hB]; simp), if_neg hE]))
  have hcase : b.hasH = false ∨ (b.hasH = true ∧ b.path ≠ []) := by
    cases hX : b.hasH
    · exact .inl rfl
    · exact .inr ⟨rfl, fun e => hE ⟨hX, e⟩⟩
  replace hB := Lib.hid hB
  clear hqn hE b3 b7 r3 r7
  go_upto_region 22 with fail
  go_cut [101] (fun c wx => c = .bool false ∧ W9 = wx)
  case first =>
    rcases hcase with hX | ⟨hX, hY⟩
    · rw [hX] at b6
      replace hX := Lib.hid hX
      go_wp2_with fail
      go_meet
      exact ⟨rfl, rfl⟩
    · have e0 : ¬ (Lc.str b.path).size = 0 := by rw [Lc.str_size]; exact fun e => hY (List.length_eq_zero_iff.1 e)
      have e1 : ¬ (Lc.str b.path).toList = [] := by rw [ByteArray.toList_eq, Lc.str_list]; exact hY
      have e2 := ne_empty (s := Lc.str b.path) (by omega)
      have e3 : ((Lc.str b.path).toList == []) = false := by rw [beq_eq_false_iff_ne]; exact e1
      rw [hX] at b6
      replace hX := Lib.hid hX
      replace hY := Lib.hid hY
      replace e0 := Lib.hid e0
      go_wp2_with fail
      go_meet
      exact ⟨rfl, rfl⟩
  case rest =>
  obtain ⟨rfl, rfl⟩ := hcut
  clear hcase b6
  have cbl := Lib.hid (Lc.str_list b.path)
  have hlen : Hid (b.path.length = (Lc.str b.path).size) := Lib.hid (Lc.str_size b.path).symm
  have hbs : (Lc.str b.path).size ≤ 100000 := zb.out
  have o1 : ¬ w.heap.size = bt := by have := h9.out.hb; omega
  have o2 : ¬ w.heap.size + 1 = bt := by have := h9.out.hb; omega
  have o3 : ¬ bt = w.heap.size := fun e => o1 e.symm
  have o4 : ¬ bt = w.heap.size + 1 := fun e => o2 e.symm
  go_wp2_with fail
  go_loop [6] (fun i => ∃ k : Nat, k ≤ (Lc.str b.path).size ∧ i = .int .i64 k ∧ Hid ((47 : UInt8) ∉ b.path.drop k)) (fun i => (intOf i).toNat)
  case atStart => exact ⟨_, Nat.le_refl _, rfl, Lib.hid (by rw [← hlen.out, List.drop_length]; simp)⟩
  case round =>
    obtain ⟨k, hk, rfl, hall⟩ := hrel
    cases k with
    | zero =>
      obtain ⟨K, hK0⟩ : ∃ K : Nat, K = 0 := ⟨0, rfl⟩
      rw [show ((0 : Nat) : Int) = (K : Int) by rw [hK0]]
      have hki : ¬ (0 : Int) < (K : Int) := by omega
      have hkb : decide ((0 : Int) < (K : Int)) = false := by simpa using hki
      have hkl : K ≤ (Lc.str b.path).size := by omega
      have hall2 : Hid ((47 : UInt8) ∉ b.path.drop K) := by rw [hK0]; exact hall
      clear hall hk
      have hall := hall2
      clear hall2
      have hK := Lib.hid (Lc.lead_at (p := b.path) (k := K) (by omega) hall.out (.inl hK0))
      clear hall
      replace hK0 := Lib.hid hK0
      have q1 : ¬ 9223372036854775807 < min (K) (Lc.str b.path).size + (Lc.str r.path).size := by have := zr.out; have := zb.out; omega
      have q4 : ¬ 9223372036854775807 < K + (Lc.str r.path).size := by have := zr.out; have := zb.out; omega
      have q5 : (0 : Int) ≤ (K : Int) := by omega
      have q6 : (K : Int) ≤ ((Lc.str b.path).size : Int) := by omega
      have q2 : Hid (((Lc.str b.path).extract 0 (K) ++ Lc.str r.path).size ≤ 1000000) := Lib.hid (by rw [ByteArray.size_append, ByteArray.size_extract]; have := zr.out; have := zb.out; omega)
      have q3 : Hid (((Lc.str b.path).extract 0 (K) ++ Lc.str r.path).data.toList = Lc.lead b.path ++ r.path) := Lib.hid (by rw [ByteArray.data_append, Array.toList_append, crl.out, take_list, cbl.out, hK.out])
      have cw := Lib.hid (fun W => cd.out _ W q2.out)
      rw [q3.out] at cw
      clear hK
      have h10 := Lib.hid (h9.out.set 2 (.string (Lc.str (Lc.dots (Lc.lead b.path ++ r.path)))) (t' := ⟨b.scheme, b.host, Lc.dots (Lc.lead b.path ++ r.path), [], r.frag, b.hasS, b.hasH, false, r.hasF⟩) rfl).drew
      have hq0 := hres2
      go_upto_region 13 with fail
      go_region_held3 (fun w' => w'.cell? ⟨w.heap.size, 2, none⟩ = some (.string (Lc.str b.path)) ∧ w'.cell? ⟨w.heap.size + 1, 2, none⟩ = some (.string (Lc.str r.path))) (go_keep) ((go_at_call 17; refine (cw.out _).mono ?_; rintro e w9 ⟨rfl, rfl⟩))
      go_upto_region 24 with fail
      generalize (W9.setCell ⟨bt, 2, none⟩ (.string (Lc.str (Lc.dots (Lc.lead b.path ++ r.path))))).drew = WA at *
      clear h9 r2 t2 g2 b2 q1 o1 o2 o3 o4 cw
      have h11 := Lib.hid ((h10.out.set 3 (.string (Lc.str r.query)) (t' := ⟨b.scheme, b.host, Lc.dots (Lc.lead b.path ++ r.path), r.query, r.frag, b.hasS, b.hasH, false, r.hasF⟩) rfl).set 7 (.bool r.hasQ) (t' := ⟨b.scheme, b.host, Lc.dots (Lc.lead b.path ++ r.path), r.query, r.frag, b.hasS, b.hasH, r.hasQ, r.hasF⟩) rfl).drew
      rw [← hq0.out] at h11
      obtain ⟨r0, r1, r2, r3, r4, r5, r6, r7, r8⟩ := uri_open h10.out.cr
      obtain ⟨t0, t1, t2, t3, t4, t5, t6, t7, t8⟩ := uri_open h10.out.ct
      have g3 := h10.out.ct.free 3
      have g7 := h10.out.ct.free 7
      clear r0 r1 r2 r4 r5 r6 r8 t0 t1 t2 t4 t5 t6 t8
      go_region
      generalize ((WA.setCell ⟨bt, 3, none⟩ (.string (Lc.str r.query))).setCell ⟨bt, 7, none⟩ (.bool r.hasQ)).drew = WB at *
      clear h10 r3 r7 t3 t7 g3 g7
      obtain ⟨y0, y1, y2, y3, y4, y5, y6, y7, y8⟩ := uri_open h11.out.ct
      obtain ⟨x0, x1, x2, x3, x4, x5, x6, x7, x8⟩ := zero_open h11.out.cz
      have f0 := h11.out.cz.free 0
      have f1 := h11.out.cz.free 1
      have f2 := h11.out.cz.free 2
      have f3 := h11.out.cz.free 3
      have f4 := h11.out.cz.free 4
      have f5 := h11.out.cz.free 5
      have f6 := h11.out.cz.free 6
      have f7 := h11.out.cz.free 7
      have f8 := h11.out.cz.free 8
      have hD := Lib.hid h11.out.done
      clear h11
      go_wp2_with fail
      exact uri_end (rb := w.heap.size + 1 + 1) rfl rfl hD.out.1 ⟨rfl, hD.out.2⟩
    | succ j =>
      rw [show ((j + 1 : Nat) : Int) = (j : Int) + 1 from by omega]
      have hj : j < (Lc.str b.path).size := by omega
      have hj2 : j < b.path.length := by rw [hlen.out]; exact hj
      have hmk : b.path[j] = (Lc.str b.path)[j] := by
        have e : (Lc.str b.path).data.toList[j]'(by rw [list_len]; exact hj) = (Lc.str b.path)[j] := rfl
        rw [← e]
        simp only [cbl.out]
      by_cases he : (Lc.str b.path)[j] = 47
      · have hb7 : (((Lc.str b.path)[j].toNat : Int) != 47) = false := by rw [he]; rfl
        have hK := Lib.hid (Lc.lead_at (p := b.path) (k := j + 1) (by omega) hall.out (.inr ⟨j, hj2, rfl, hmk.trans he⟩))
        clear hall
        have q1 : ¬ 9223372036854775807 < min (j + 1) (Lc.str b.path).size + (Lc.str r.path).size := by have := zr.out; have := zb.out; omega
        have q4 : ¬ 9223372036854775807 < j + 1 + (Lc.str r.path).size := by have := zr.out; have := zb.out; omega
        have q5 : (0 : Int) ≤ (j : Int) + 1 := by omega
        have q6 : (j : Int) + 1 ≤ ((Lc.str b.path).size : Int) := by omega
        have q2 : Hid (((Lc.str b.path).extract 0 (j + 1) ++ Lc.str r.path).size ≤ 1000000) := Lib.hid (by rw [ByteArray.size_append, ByteArray.size_extract]; have := zr.out; have := zb.out; omega)
        have q3 : Hid (((Lc.str b.path).extract 0 (j + 1) ++ Lc.str r.path).data.toList = Lc.lead b.path ++ r.path) := Lib.hid (by rw [ByteArray.data_append, Array.toList_append, crl.out, take_list, cbl.out, hK.out])
        have cw := Lib.hid (fun W => cd.out _ W q2.out)
        rw [q3.out] at cw
        clear hK
        have h10 := Lib.hid (h9.out.set 2 (.string (Lc.str (Lc.dots (Lc.lead b.path ++ r.path)))) (t' := ⟨b.scheme, b.host, Lc.dots (Lc.lead b.path ++ r.path), [], r.frag, b.hasS, b.hasH, false, r.hasF⟩) rfl).drew
        have hq0 := hres2
        go_upto_region 13 with fail
        go_region_held3 (fun w' => w'.cell? ⟨w.heap.size, 2, none⟩ = some (.string (Lc.str b.path)) ∧ w'.cell? ⟨w.heap.size + 1, 2, none⟩ = some (.string (Lc.str r.path))) (go_keep) ((go_at_call 17; refine (cw.out _).mono ?_; rintro e w9 ⟨rfl, rfl⟩))
        go_upto_region 24 with fail
        generalize (W9.setCell ⟨bt, 2, none⟩ (.string (Lc.str (Lc.dots (Lc.lead b.path ++ r.path))))).drew = WA at *
        clear h9 r2 t2 g2 b2 q1 o1 o2 o3 o4 cw
        have h11 := Lib.hid ((h10.out.set 3 (.string (Lc.str r.query)) (t' := ⟨b.scheme, b.host, Lc.dots (Lc.lead b.path ++ r.path), r.query, r.frag, b.hasS, b.hasH, false, r.hasF⟩) rfl).set 7 (.bool r.hasQ) (t' := ⟨b.scheme, b.host, Lc.dots (Lc.lead b.path ++ r.path), r.query, r.frag, b.hasS, b.hasH, r.hasQ, r.hasF⟩) rfl).drew
        rw [← hq0.out] at h11
        obtain ⟨r0, r1, r2, r3, r4, r5, r6, r7, r8⟩ := uri_open h10.out.cr
        obtain ⟨t0, t1, t2, t3, t4, t5, t6, t7, t8⟩ := uri_open h10.out.ct
        have g3 := h10.out.ct.free 3
        have g7 := h10.out.ct.free 7
        clear r0 r1 r2 r4 r5 r6 r8 t0 t1 t2 t4 t5 t6 t8
        go_region
        generalize ((WA.setCell ⟨bt, 3, none⟩ (.string (Lc.str r.query))).setCell ⟨bt, 7, none⟩ (.bool r.hasQ)).drew = WB at *
        clear h10 r3 r7 t3 t7 g3 g7
        obtain ⟨y0, y1, y2, y3, y4, y5, y6, y7, y8⟩ := uri_open h11.out.ct
        obtain ⟨x0, x1, x2, x3, x4, x5, x6, x7, x8⟩ := zero_open h11.out.cz
        have f0 := h11.out.cz.free 0
        have f1 := h11.out.cz.free 1
        have f2 := h11.out.cz.free 2
        have f3 := h11.out.cz.free 3
        have f4 := h11.out.cz.free 4
        have f5 := h11.out.cz.free 5
        have f6 := h11.out.cz.free 6
        have f7 := h11.out.cz.free 7
        have f8 := h11.out.cz.free 8
        have hD := Lib.hid h11.out.done
        clear h11
        go_wp2_with fail
        exact uri_end (rb := w.heap.size + 1 + 1) rfl rfl hD.out.1 ⟨rfl, hD.out.2⟩
      · have hb7 : (((Lc.str b.path)[j].toNat : Int) != 47) = true := by
          rw [bne_iff_ne]
          exact fun e => he (UInt8.toNat_inj.1 (by have : (47 : UInt8).toNat = 47 := rfl; omega))
        have hnx : Hid ((47 : UInt8) ∉ b.path.drop j) := Lib.hid (Lc.free_more hj2 hall.out (fun e => he (hmk.symm.trans e)))
        clear hmk he
        go_wp2_with fail
        go_round
        case rel => exact ⟨j, by omega, by go_num, hnx⟩
        case measure => simp [intOf]
end Go.Proofs.Ytmfmgbjkbadndaa
