/-
  The statements' walks: LocatorSmall.
-/
import Derived.Test.YtmfmgbjkbadndaaLocLaw6
import Derived.Test.YtmfmgbjkbadndaaPieces
import Derived.Deep.RegionHeld3
namespace Go.Proofs.Ytmfmgbjkbadndaa
open Go.RowKit

theorem keep36 {f : FuncId} {args : Array Value} {v : Value} {W w0 : World} {a0 a1 a2 a3 a4 a5 a6 a7 a8 a9 a10 a11 a12 a13 a14 a15 a16 a17 a18 a19 a20 a21 a22 a23 a24 a25 a26 a27 a28 a29 a30 a31 a32 a33 a34 a35 : Addr} {x0 x1 x2 x3 x4 x5 x6 x7 x8 x9 x10 x11 x12 x13 x14 x15 x16 x17 x18 x19 x20 x21 x22 x23 x24 x25 x26 x27 x28 x29 x30 x31 x32 x33 x34 x35 : Value} (hC : ∀ W, Below w0.heap.size w0 W → Calls Try.prog f args W fun e w' => e = .returned v ∧ Below W.heap.size W w')
    (h : W.cell? a0 = some x0 ∧ W.cell? a1 = some x1 ∧ W.cell? a2 = some x2 ∧ W.cell? a3 = some x3 ∧ W.cell? a4 = some x4 ∧ W.cell? a5 = some x5 ∧ W.cell? a6 = some x6 ∧ W.cell? a7 = some x7 ∧ W.cell? a8 = some x8 ∧ W.cell? a9 = some x9 ∧ W.cell? a10 = some x10 ∧ W.cell? a11 = some x11 ∧ W.cell? a12 = some x12 ∧ W.cell? a13 = some x13 ∧ W.cell? a14 = some x14 ∧ W.cell? a15 = some x15 ∧ W.cell? a16 = some x16 ∧ W.cell? a17 = some x17 ∧ W.cell? a18 = some x18 ∧ W.cell? a19 = some x19 ∧ W.cell? a20 = some x20 ∧ W.cell? a21 = some x21 ∧ W.cell? a22 = some x22 ∧ W.cell? a23 = some x23 ∧ W.cell? a24 = some x24 ∧ W.cell? a25 = some x25 ∧ W.cell? a26 = some x26 ∧ W.cell? a27 = some x27 ∧ W.cell? a28 = some x28 ∧ W.cell? a29 = some x29 ∧ W.cell? a30 = some x30 ∧ W.cell? a31 = some x31 ∧ W.cell? a32 = some x32 ∧ W.cell? a33 = some x33 ∧ W.cell? a34 = some x34 ∧ W.cell? a35 = some x35 ∧ Below w0.heap.size w0 W) :
    Calls Try.prog f args W fun e w' => e = .returned v ∧ (w'.cell? a0 = some x0 ∧ w'.cell? a1 = some x1 ∧ w'.cell? a2 = some x2 ∧ w'.cell? a3 = some x3 ∧ w'.cell? a4 = some x4 ∧ w'.cell? a5 = some x5 ∧ w'.cell? a6 = some x6 ∧ w'.cell? a7 = some x7 ∧ w'.cell? a8 = some x8 ∧ w'.cell? a9 = some x9 ∧ w'.cell? a10 = some x10 ∧ w'.cell? a11 = some x11 ∧ w'.cell? a12 = some x12 ∧ w'.cell? a13 = some x13 ∧ w'.cell? a14 = some x14 ∧ w'.cell? a15 = some x15 ∧ w'.cell? a16 = some x16 ∧ w'.cell? a17 = some x17 ∧ w'.cell? a18 = some x18 ∧ w'.cell? a19 = some x19 ∧ w'.cell? a20 = some x20 ∧ w'.cell? a21 = some x21 ∧ w'.cell? a22 = some x22 ∧ w'.cell? a23 = some x23 ∧ w'.cell? a24 = some x24 ∧ w'.cell? a25 = some x25 ∧ w'.cell? a26 = some x26 ∧ w'.cell? a27 = some x27 ∧ w'.cell? a28 = some x28 ∧ w'.cell? a29 = some x29 ∧ w'.cell? a30 = some x30 ∧ w'.cell? a31 = some x31 ∧ w'.cell? a32 = some x32 ∧ w'.cell? a33 = some x33 ∧ w'.cell? a34 = some x34 ∧ w'.cell? a35 = some x35 ∧ Below w0.heap.size w0 w') := by
  obtain ⟨h0, h1, h2, h3, h4, h5, h6, h7, h8, h9, h10, h11, h12, h13, h14, h15, h16, h17, h18, h19, h20, h21, h22, h23, h24, h25, h26, h27, h28, h29, h30, h31, h32, h33, h34, h35, e⟩ := h
  refine (hC W e).mono fun _ _ ⟨he, hb⟩ => ⟨he, ?_⟩
  have on := fun {a : Addr} {x : Value} (hx : W.cell? a = some x) => (hb.cell (World.block_lt_of_cell? W _ hx)).trans hx
  exact ⟨on h0, on h1, on h2, on h3, on h4, on h5, on h6, on h7, on h8, on h9, on h10, on h11, on h12, on h13, on h14, on h15, on h16, on h17, on h18, on h19, on h20, on h21, on h22, on h23, on h24, on h25, on h26, on h27, on h28, on h29, on h30, on h31, on h32, on h33, on h34, on h35, e.trans (hb.mono e.size)⟩

set_option maxRecDepth 100000 in
set_option maxHeartbeats 25600000 in
theorem small_any {eo fo : Option Addr} {ce cf m1 m2 : Nat} (L M : List UInt8) (w : World) (hL : BytesAt eo L w) (hm1 : L.length = m1) (hz1 : m1 ≤ maxLen) (hM : BytesAt fo M w) (hm2 : M.length = m2) (hz2 : m2 ≤ maxLen) (hE : Env w) :
    Calls Try.prog 9 #[.slice eo m1 ce, .slice fo m2 cf] w fun e w' => e = .returned (.bool true) ∧ Below w.heap.size w w' := by
  have ca := Lib.hid (fun W (h : Env W) => awake_any W h)
  replace hm1 := Lib.hid hm1
  replace hm2 := Lib.hid hm2
  have xA := (Below.refl w.heap.size w).alloc (Nat.le_refl _) (.cells #[.string ⟨#[47]⟩, .string ⟨#[97]⟩, .string ⟨#[46]⟩, .string ⟨#[46, 46]⟩, .string ⟨#[47, 46, 46]⟩, .string ⟨#[47, 47, 104]⟩, .string ⟨#[63]⟩, .string ⟨#[35]⟩, .string ⟨#[58]⟩, .string ⟨#[37, 52, 49]⟩, .string ⟨#[98, 58]⟩, .string ⟨#[47, 46]⟩, .string ⟨#[195, 169]⟩, .string ⟨#[37]⟩, .string ⟨#[91]⟩, .string ⟨#[120, 47]⟩] 9)
  have hS : StrsAt w.heap.size [⟨#[47]⟩, ⟨#[97]⟩, ⟨#[46]⟩, ⟨#[46, 46]⟩, ⟨#[47, 46, 46]⟩, ⟨#[47, 47, 104]⟩, ⟨#[63]⟩, ⟨#[35]⟩, ⟨#[58]⟩, ⟨#[37, 52, 49]⟩, ⟨#[98, 58]⟩, ⟨#[47, 46]⟩, ⟨#[195, 169]⟩, ⟨#[37]⟩, ⟨#[91]⟩, ⟨#[120, 47]⟩] (w.alloc (.cells #[.string ⟨#[47]⟩, .string ⟨#[97]⟩, .string ⟨#[46]⟩, .string ⟨#[46, 46]⟩, .string ⟨#[47, 46, 46]⟩, .string ⟨#[47, 47, 104]⟩, .string ⟨#[63]⟩, .string ⟨#[35]⟩, .string ⟨#[58]⟩, .string ⟨#[37, 52, 49]⟩, .string ⟨#[98, 58]⟩, .string ⟨#[47, 46]⟩, .string ⟨#[195, 169]⟩, .string ⟨#[37]⟩, .string ⟨#[91]⟩, .string ⟨#[120, 47]⟩] 9)) := strsAt_cells (heap_alloc_new w _)
  have hS1 : ∀ p ∈ ([⟨#[47]⟩, ⟨#[97]⟩, ⟨#[46]⟩, ⟨#[46, 46]⟩, ⟨#[47, 46, 46]⟩, ⟨#[47, 47, 104]⟩, ⟨#[63]⟩, ⟨#[35]⟩, ⟨#[58]⟩, ⟨#[37, 52, 49]⟩, ⟨#[98, 58]⟩, ⟨#[47, 46]⟩, ⟨#[195, 169]⟩, ⟨#[37]⟩, ⟨#[91]⟩, ⟨#[120, 47]⟩] : List ByteArray), p.size ≤ 10 := by decide
  have hLA := Lib.hid (hL.below xA)
  have hMA := Lib.hid (hM.below xA)
  have hlen : ([⟨#[47]⟩, ⟨#[97]⟩, ⟨#[46]⟩, ⟨#[46, 46]⟩, ⟨#[47, 46, 46]⟩, ⟨#[47, 47, 104]⟩, ⟨#[63]⟩, ⟨#[35]⟩, ⟨#[58]⟩, ⟨#[37, 52, 49]⟩, ⟨#[98, 58]⟩, ⟨#[47, 46]⟩, ⟨#[195, 169]⟩, ⟨#[37]⟩, ⟨#[91]⟩, ⟨#[120, 47]⟩] : List ByteArray).length = 16 := rfl
  generalize ([⟨#[47]⟩, ⟨#[97]⟩, ⟨#[46]⟩, ⟨#[46, 46]⟩, ⟨#[47, 46, 46]⟩, ⟨#[47, 47, 104]⟩, ⟨#[63]⟩, ⟨#[35]⟩, ⟨#[58]⟩, ⟨#[37, 52, 49]⟩, ⟨#[98, 58]⟩, ⟨#[47, 46]⟩, ⟨#[195, 169]⟩, ⟨#[37]⟩, ⟨#[91]⟩, ⟨#[120, 47]⟩] : List ByteArray) = PS at hS hS1 hlen
  replace hlen := Lib.hid hlen
  replace hS1 := Lib.hid hS1
  replace hS := Lib.hid hS
  replace xA := Lib.hid xA
  clear hL hM
  go_enter Try.func9, Try.ntmps9
  go_wp2_with fail
  (with_reducible refine (pieces_any L PS _ hLA.out hm1.out hS.out hlen.out (by decide) (by decide) hz1 hS1.out).mono ?_); rintro e wp ⟨⟨s, rfl, hs⟩, bp⟩
  replace hMA := Lib.hid (hMA.out.below bp)
  have hS2 : Hid (StrsAt w.heap.size PS wp) := Lib.hid (fun j hj => (bp.cell (World.block_lt_of_cell? _ _ (hS.out j hj))).trans (hS.out j hj))
  replace xA := Lib.hid (xA.out.trans (bp.mono xA.out.size))
  clear bp hS hLA
  go_wp2_with fail
  (with_reducible refine (pieces_any M PS _ hMA.out hm2.out hS2.out hlen.out (by decide) (by decide) hz2 hS1.out).mono ?_); rintro e wq ⟨⟨t, rfl, ht⟩, bq⟩
  replace xA := Lib.hid (xA.out.trans (bq.mono xA.out.size))
  clear bq hS2 hMA hm1 hm2 hz1 hz2 hlen hS1
  have hsb := Lib.hid (Lc.small_split (s := s) (by omega))
  have hsr := Lib.hid (Lc.small_split (s := t) (by omega))
  have c1 := Lib.hid (fun W => lSplit_any s W (by omega))
  have c2 := Lib.hid (fun W => lSplit_any t W (by omega))
  have p1 := Lib.hid (pParse_any s wq (by omega) (hE.on xA.out))
  have p2 := Lib.hid (fun W => lParse_any s W (by omega))
  have hps : Lc.str (Lc.print (Lc.split s.data.toList)) = s := by rw [Lc.print_split, ← Lc.str_of rfl]
  have hsz := Lib.hid (show s.size ≤ 100000 by omega)
  obtain ⟨b, hbd⟩ : ∃ b, b = Lc.split s.data.toList := ⟨_, rfl⟩
  obtain ⟨r, hrd⟩ : ∃ r, r = Lc.split t.data.toList := ⟨_, rfl⟩
  rw [← hbd] at c1 hsb hps
  rw [← hrd] at c2 hsr
  clear hbd hrd
  replace hps := Lib.hid hps
  generalize Lc.parseU s.data.toList = u0 at *
  generalize Lc.parseE s.data.toList = pe at *
  go_wp2_with fail
  (refine p1.out.mono ?_); rintro e w1 ⟨rfl, b1⟩
  have k1 := Lib.hid (uri_alloc w1 u0)
  have q1 := (Below.refl w1.heap.size w1).alloc (Nat.le_refl _) (.cells (uArr u0) 24)
  have g1 := xA.out.trans (b1.mono xA.out.size)
  replace g1 := Lib.hid (g1.trans (q1.mono g1.size))
  unfold uArr at g1 ⊢
  clear q1 b1 xA p1
  go_wp2_with fail
  (refine (p2.out _).mono ?_); rintro e w2 ⟨rfl, b2⟩
  replace k1 := Lib.hid (k1.out.on b2)
  replace g1 := Lib.hid (g1.out.trans (b2.mono g1.out.size))
  have k2 := Lib.hid (uri_alloc w2 u0)
  have q2 := (Below.refl w2.heap.size w2).alloc (Nat.le_refl _) (.cells (uArr u0) 24)
  replace k1 := Lib.hid (k1.out.on q2)
  replace g1 := Lib.hid (g1.out.trans (q2.mono g1.out.size))
  unfold uArr at g1 ⊢
  clear q2 b2 p2
  go_wp2_with fail
  (refine (c1.out _).mono ?_); rintro e w3 ⟨rfl, b3⟩
  replace k1 := Lib.hid (k1.out.on b3)
  replace k2 := Lib.hid (k2.out.on b3)
  replace g1 := Lib.hid (g1.out.trans (b3.mono g1.out.size))
  clear b3 c1
  go_wp2_with fail
  (refine (c2.out _).mono ?_); rintro e w4 ⟨rfl, b4⟩
  replace k1 := Lib.hid (k1.out.on b4)
  replace k2 := Lib.hid (k2.out.on b4)
  have g2 := g1.out.trans (b4.mono g1.out.size)
  have q4 := ((Below.refl w4.heap.size w4).alloc (Nat.le_refl _) (.cells #[.string (Lc.str b.scheme), .string (Lc.str b.host), .string (Lc.str b.path), .string (Lc.str b.query), .string (Lc.str b.frag), .bool b.hasS, .bool b.hasH, .bool b.hasQ, .bool b.hasF] 24)).alloc (by simp) (.cells #[.string (Lc.str r.scheme), .string (Lc.str r.host), .string (Lc.str r.path), .string (Lc.str r.query), .string (Lc.str r.frag), .bool r.hasS, .bool r.hasH, .bool r.hasQ, .bool r.hasF] 24)
  have kb5 : Cells ((w4.alloc (.cells #[.string (Lc.str b.scheme), .string (Lc.str b.host), .string (Lc.str b.path), .string (Lc.str b.query), .string (Lc.str b.frag), .bool b.hasS, .bool b.hasH, .bool b.hasQ, .bool b.hasF] 24)).alloc (.cells #[.string (Lc.str r.scheme), .string (Lc.str r.host), .string (Lc.str r.path), .string (Lc.str r.query), .string (Lc.str r.frag), .bool r.hasS, .bool r.hasH, .bool r.hasQ, .bool r.hasF] 24)) w4.heap.size 24 (uArr b) := (Cells.new w4 24 (uArr b)).alloc _
  have kr5 : Cells ((w4.alloc (.cells #[.string (Lc.str b.scheme), .string (Lc.str b.host), .string (Lc.str b.path), .string (Lc.str b.query), .string (Lc.str b.frag), .bool b.hasS, .bool b.hasH, .bool b.hasQ, .bool b.hasF] 24)).alloc (.cells #[.string (Lc.str r.scheme), .string (Lc.str r.host), .string (Lc.str r.path), .string (Lc.str r.query), .string (Lc.str r.frag), .bool r.hasS, .bool r.hasH, .bool r.hasQ, .bool r.hasF] 24)) (w4.heap.size + 1) 24 (uArr r) := by
    have := Cells.new (w4.alloc (.cells #[.string (Lc.str b.scheme), .string (Lc.str b.host), .string (Lc.str b.path), .string (Lc.str b.query), .string (Lc.str b.frag), .bool b.hasS, .bool b.hasH, .bool b.hasQ, .bool b.hasF] 24)) 24 (uArr r)
    rw [World.size_alloc] at this
    exact this
  have k15 := k1.out.on q4
  have k25 := k2.out.on q4
  have g5 := g2.trans (q4.mono g2.size)
  clear b4 g2 g1 c2 k1 k2 q4
  unfold uArr
  go_upto_region 6 with fail
  generalize (w4.alloc (.cells #[.string (Lc.str b.scheme), .string (Lc.str b.host), .string (Lc.str b.path), .string (Lc.str b.query), .string (Lc.str b.frag), .bool b.hasS, .bool b.hasH, .bool b.hasQ, .bool b.hasF] 24)).alloc (.cells #[.string (Lc.str r.scheme), .string (Lc.str r.host), .string (Lc.str r.path), .string (Lc.str r.query), .string (Lc.str r.frag), .bool r.hasS, .bool r.hasH, .bool r.hasQ, .bool r.hasF] 24) = w5 at *
  generalize hB1 : w4.heap.size + 1 = B1 at *
  generalize w4.heap.size = B0 at *
  generalize w1.heap.size = B2 at *
  generalize w2.heap.size = B3 at *
  clear hB1
  replace g5 := Lib.hid g5
  have hEW := Lib.hid (fun W (h : Below w5.heap.size w5 W) => hE.on (g5.out.trans (h.mono g5.out.size)))
  have d0 := Lib.hid (fun W h => ca.out W (hEW.out W h))
  have d1 := fun W h => pPrint_any b W hsb.out (hEW.out W h)
  rw [hps.out] at d1
  have d3 := fun W h => pDots_any s W hsz.out (hEW.out W h)
  have d4 : ∀ W, Below w5.heap.size w5 W → Calls Try.prog 17 #[.string s] W fun e w' => e = .returned (.string (Lc.str (Lc.dots s.data.toList))) ∧ Below W.heap.size W w' := fun W _ => (lDots_any s W (Nat.le_trans hsz.out (by omega))).mono fun _ _ ⟨h1, h2⟩ => ⟨h1, by rw [← h2]; exact Below.refl _ _⟩
  have d5 := fun W h => pResolve_any b r W hsb.out hsr.out (hEW.out W h)
  have d6 := fun W (_ : Below w5.heap.size w5 W) => lResolve_any b r W hsb.out hsr.out
  generalize Lc.resolve b r = u at *
  generalize Lc.str (Lc.dots s.data.toList) = sd at *
  unfold uArr at d1 d5 d6
  replace d1 := Lib.hid d1
  replace d3 := Lib.hid d3
  replace d4 := Lib.hid d4
  replace d5 := Lib.hid d5
  replace d6 := Lib.hid d6
  obtain ⟨x0, x1, x2, x3, x4, x5, x6, x7, x8⟩ := uri_open kb5
  obtain ⟨y0, y1, y2, y3, y4, y5, y6, y7, y8⟩ := uri_open kr5
  obtain ⟨u1, u2, u3, u4, u5, u6, u7, u8, u9⟩ := uri_open k15
  obtain ⟨v1, v2, v3, v4, v5, v6, v7, v8, v9⟩ := uri_open k25
  clear kb5 kr5 k15 k25 ca hE hEW hs ht
  go_region_held3 (fun w' => w'.cell? ⟨B0, 0, none⟩ = some (.string (Lc.str b.scheme)) ∧ w'.cell? ⟨B0, 1, none⟩ = some (.string (Lc.str b.host)) ∧ w'.cell? ⟨B0, 2, none⟩ = some (.string (Lc.str b.path)) ∧ w'.cell? ⟨B0, 3, none⟩ = some (.string (Lc.str b.query)) ∧ w'.cell? ⟨B0, 4, none⟩ = some (.string (Lc.str b.frag)) ∧ w'.cell? ⟨B0, 5, none⟩ = some (.bool b.hasS) ∧ w'.cell? ⟨B0, 6, none⟩ = some (.bool b.hasH) ∧ w'.cell? ⟨B0, 7, none⟩ = some (.bool b.hasQ) ∧ w'.cell? ⟨B0, 8, none⟩ = some (.bool b.hasF) ∧ w'.cell? ⟨B1, 0, none⟩ = some (.string (Lc.str r.scheme)) ∧ w'.cell? ⟨B1, 1, none⟩ = some (.string (Lc.str r.host)) ∧ w'.cell? ⟨B1, 2, none⟩ = some (.string (Lc.str r.path)) ∧ w'.cell? ⟨B1, 3, none⟩ = some (.string (Lc.str r.query)) ∧ w'.cell? ⟨B1, 4, none⟩ = some (.string (Lc.str r.frag)) ∧ w'.cell? ⟨B1, 5, none⟩ = some (.bool r.hasS) ∧ w'.cell? ⟨B1, 6, none⟩ = some (.bool r.hasH) ∧ w'.cell? ⟨B1, 7, none⟩ = some (.bool r.hasQ) ∧ w'.cell? ⟨B1, 8, none⟩ = some (.bool r.hasF) ∧ w'.cell? ⟨B2, 0, none⟩ = some (.string (Lc.str u0.scheme)) ∧ w'.cell? ⟨B2, 1, none⟩ = some (.string (Lc.str u0.host)) ∧ w'.cell? ⟨B2, 2, none⟩ = some (.string (Lc.str u0.path)) ∧ w'.cell? ⟨B2, 3, none⟩ = some (.string (Lc.str u0.query)) ∧ w'.cell? ⟨B2, 4, none⟩ = some (.string (Lc.str u0.frag)) ∧ w'.cell? ⟨B2, 5, none⟩ = some (.bool u0.hasS) ∧ w'.cell? ⟨B2, 6, none⟩ = some (.bool u0.hasH) ∧ w'.cell? ⟨B2, 7, none⟩ = some (.bool u0.hasQ) ∧ w'.cell? ⟨B2, 8, none⟩ = some (.bool u0.hasF) ∧ w'.cell? ⟨B3, 0, none⟩ = some (.string (Lc.str u0.scheme)) ∧ w'.cell? ⟨B3, 1, none⟩ = some (.string (Lc.str u0.host)) ∧ w'.cell? ⟨B3, 2, none⟩ = some (.string (Lc.str u0.path)) ∧ w'.cell? ⟨B3, 3, none⟩ = some (.string (Lc.str u0.query)) ∧ w'.cell? ⟨B3, 4, none⟩ = some (.string (Lc.str u0.frag)) ∧ w'.cell? ⟨B3, 5, none⟩ = some (.bool u0.hasS) ∧ w'.cell? ⟨B3, 6, none⟩ = some (.bool u0.hasH) ∧ w'.cell? ⟨B3, 7, none⟩ = some (.bool u0.hasQ) ∧ w'.cell? ⟨B3, 8, none⟩ = some (.bool u0.hasF) ∧ Below w5.heap.size w5 w') (first | exact ⟨x0, x1, x2, x3, x4, x5, x6, x7, x8, y0, y1, y2, y3, y4, y5, y6, y7, y8, u1, u2, u3, u4, u5, u6, u7, u8, u9, v1, v2, v3, v4, v5, v6, v7, v8, v9, (Below.refl _ _).drew⟩ | assumption)
    (first
        | (go_at_call 10; refine (keep36 (w0 := w5) (a0 := ⟨B0, 0, none⟩) (a1 := ⟨B0, 1, none⟩) (a2 := ⟨B0, 2, none⟩) (a3 := ⟨B0, 3, none⟩) (a4 := ⟨B0, 4, none⟩) (a5 := ⟨B0, 5, none⟩) (a6 := ⟨B0, 6, none⟩) (a7 := ⟨B0, 7, none⟩) (a8 := ⟨B0, 8, none⟩) (a9 := ⟨B1, 0, none⟩) (a10 := ⟨B1, 1, none⟩) (a11 := ⟨B1, 2, none⟩) (a12 := ⟨B1, 3, none⟩) (a13 := ⟨B1, 4, none⟩) (a14 := ⟨B1, 5, none⟩) (a15 := ⟨B1, 6, none⟩) (a16 := ⟨B1, 7, none⟩) (a17 := ⟨B1, 8, none⟩) (a18 := ⟨B2, 0, none⟩) (a19 := ⟨B2, 1, none⟩) (a20 := ⟨B2, 2, none⟩) (a21 := ⟨B2, 3, none⟩) (a22 := ⟨B2, 4, none⟩) (a23 := ⟨B2, 5, none⟩) (a24 := ⟨B2, 6, none⟩) (a25 := ⟨B2, 7, none⟩) (a26 := ⟨B2, 8, none⟩) (a27 := ⟨B3, 0, none⟩) (a28 := ⟨B3, 1, none⟩) (a29 := ⟨B3, 2, none⟩) (a30 := ⟨B3, 3, none⟩) (a31 := ⟨B3, 4, none⟩) (a32 := ⟨B3, 5, none⟩) (a33 := ⟨B3, 6, none⟩) (a34 := ⟨B3, 7, none⟩) (a35 := ⟨B3, 8, none⟩) (x0 := .string (Lc.str b.scheme)) (x1 := .string (Lc.str b.host)) (x2 := .string (Lc.str b.path)) (x3 := .string (Lc.str b.query)) (x4 := .string (Lc.str b.frag)) (x5 := .bool b.hasS) (x6 := .bool b.hasH) (x7 := .bool b.hasQ) (x8 := .bool b.hasF) (x9 := .string (Lc.str r.scheme)) (x10 := .string (Lc.str r.host)) (x11 := .string (Lc.str r.path)) (x12 := .string (Lc.str r.query)) (x13 := .string (Lc.str r.frag)) (x14 := .bool r.hasS) (x15 := .bool r.hasH) (x16 := .bool r.hasQ) (x17 := .bool r.hasF) (x18 := .string (Lc.str u0.scheme)) (x19 := .string (Lc.str u0.host)) (x20 := .string (Lc.str u0.path)) (x21 := .string (Lc.str u0.query)) (x22 := .string (Lc.str u0.frag)) (x23 := .bool u0.hasS) (x24 := .bool u0.hasH) (x25 := .bool u0.hasQ) (x26 := .bool u0.hasF) (x27 := .string (Lc.str u0.scheme)) (x28 := .string (Lc.str u0.host)) (x29 := .string (Lc.str u0.path)) (x30 := .string (Lc.str u0.query)) (x31 := .string (Lc.str u0.frag)) (x32 := .bool u0.hasS) (x33 := .bool u0.hasH) (x34 := .bool u0.hasQ) (x35 := .bool u0.hasF) d0.out ?_).mono ?_; assumption; rintro e w' ⟨rfl, hcb⟩)
        | (go_at_call 14; refine (keep36 (w0 := w5) (a0 := ⟨B0, 0, none⟩) (a1 := ⟨B0, 1, none⟩) (a2 := ⟨B0, 2, none⟩) (a3 := ⟨B0, 3, none⟩) (a4 := ⟨B0, 4, none⟩) (a5 := ⟨B0, 5, none⟩) (a6 := ⟨B0, 6, none⟩) (a7 := ⟨B0, 7, none⟩) (a8 := ⟨B0, 8, none⟩) (a9 := ⟨B1, 0, none⟩) (a10 := ⟨B1, 1, none⟩) (a11 := ⟨B1, 2, none⟩) (a12 := ⟨B1, 3, none⟩) (a13 := ⟨B1, 4, none⟩) (a14 := ⟨B1, 5, none⟩) (a15 := ⟨B1, 6, none⟩) (a16 := ⟨B1, 7, none⟩) (a17 := ⟨B1, 8, none⟩) (a18 := ⟨B2, 0, none⟩) (a19 := ⟨B2, 1, none⟩) (a20 := ⟨B2, 2, none⟩) (a21 := ⟨B2, 3, none⟩) (a22 := ⟨B2, 4, none⟩) (a23 := ⟨B2, 5, none⟩) (a24 := ⟨B2, 6, none⟩) (a25 := ⟨B2, 7, none⟩) (a26 := ⟨B2, 8, none⟩) (a27 := ⟨B3, 0, none⟩) (a28 := ⟨B3, 1, none⟩) (a29 := ⟨B3, 2, none⟩) (a30 := ⟨B3, 3, none⟩) (a31 := ⟨B3, 4, none⟩) (a32 := ⟨B3, 5, none⟩) (a33 := ⟨B3, 6, none⟩) (a34 := ⟨B3, 7, none⟩) (a35 := ⟨B3, 8, none⟩) (x0 := .string (Lc.str b.scheme)) (x1 := .string (Lc.str b.host)) (x2 := .string (Lc.str b.path)) (x3 := .string (Lc.str b.query)) (x4 := .string (Lc.str b.frag)) (x5 := .bool b.hasS) (x6 := .bool b.hasH) (x7 := .bool b.hasQ) (x8 := .bool b.hasF) (x9 := .string (Lc.str r.scheme)) (x10 := .string (Lc.str r.host)) (x11 := .string (Lc.str r.path)) (x12 := .string (Lc.str r.query)) (x13 := .string (Lc.str r.frag)) (x14 := .bool r.hasS) (x15 := .bool r.hasH) (x16 := .bool r.hasQ) (x17 := .bool r.hasF) (x18 := .string (Lc.str u0.scheme)) (x19 := .string (Lc.str u0.host)) (x20 := .string (Lc.str u0.path)) (x21 := .string (Lc.str u0.query)) (x22 := .string (Lc.str u0.frag)) (x23 := .bool u0.hasS) (x24 := .bool u0.hasH) (x25 := .bool u0.hasQ) (x26 := .bool u0.hasF) (x27 := .string (Lc.str u0.scheme)) (x28 := .string (Lc.str u0.host)) (x29 := .string (Lc.str u0.path)) (x30 := .string (Lc.str u0.query)) (x31 := .string (Lc.str u0.frag)) (x32 := .bool u0.hasS) (x33 := .bool u0.hasH) (x34 := .bool u0.hasQ) (x35 := .bool u0.hasF) d1.out ?_).mono ?_; assumption; rintro e w' ⟨rfl, hcb⟩)
        | (go_at_call 16; refine (keep36 (w0 := w5) (a0 := ⟨B0, 0, none⟩) (a1 := ⟨B0, 1, none⟩) (a2 := ⟨B0, 2, none⟩) (a3 := ⟨B0, 3, none⟩) (a4 := ⟨B0, 4, none⟩) (a5 := ⟨B0, 5, none⟩) (a6 := ⟨B0, 6, none⟩) (a7 := ⟨B0, 7, none⟩) (a8 := ⟨B0, 8, none⟩) (a9 := ⟨B1, 0, none⟩) (a10 := ⟨B1, 1, none⟩) (a11 := ⟨B1, 2, none⟩) (a12 := ⟨B1, 3, none⟩) (a13 := ⟨B1, 4, none⟩) (a14 := ⟨B1, 5, none⟩) (a15 := ⟨B1, 6, none⟩) (a16 := ⟨B1, 7, none⟩) (a17 := ⟨B1, 8, none⟩) (a18 := ⟨B2, 0, none⟩) (a19 := ⟨B2, 1, none⟩) (a20 := ⟨B2, 2, none⟩) (a21 := ⟨B2, 3, none⟩) (a22 := ⟨B2, 4, none⟩) (a23 := ⟨B2, 5, none⟩) (a24 := ⟨B2, 6, none⟩) (a25 := ⟨B2, 7, none⟩) (a26 := ⟨B2, 8, none⟩) (a27 := ⟨B3, 0, none⟩) (a28 := ⟨B3, 1, none⟩) (a29 := ⟨B3, 2, none⟩) (a30 := ⟨B3, 3, none⟩) (a31 := ⟨B3, 4, none⟩) (a32 := ⟨B3, 5, none⟩) (a33 := ⟨B3, 6, none⟩) (a34 := ⟨B3, 7, none⟩) (a35 := ⟨B3, 8, none⟩) (x0 := .string (Lc.str b.scheme)) (x1 := .string (Lc.str b.host)) (x2 := .string (Lc.str b.path)) (x3 := .string (Lc.str b.query)) (x4 := .string (Lc.str b.frag)) (x5 := .bool b.hasS) (x6 := .bool b.hasH) (x7 := .bool b.hasQ) (x8 := .bool b.hasF) (x9 := .string (Lc.str r.scheme)) (x10 := .string (Lc.str r.host)) (x11 := .string (Lc.str r.path)) (x12 := .string (Lc.str r.query)) (x13 := .string (Lc.str r.frag)) (x14 := .bool r.hasS) (x15 := .bool r.hasH) (x16 := .bool r.hasQ) (x17 := .bool r.hasF) (x18 := .string (Lc.str u0.scheme)) (x19 := .string (Lc.str u0.host)) (x20 := .string (Lc.str u0.path)) (x21 := .string (Lc.str u0.query)) (x22 := .string (Lc.str u0.frag)) (x23 := .bool u0.hasS) (x24 := .bool u0.hasH) (x25 := .bool u0.hasQ) (x26 := .bool u0.hasF) (x27 := .string (Lc.str u0.scheme)) (x28 := .string (Lc.str u0.host)) (x29 := .string (Lc.str u0.path)) (x30 := .string (Lc.str u0.query)) (x31 := .string (Lc.str u0.frag)) (x32 := .bool u0.hasS) (x33 := .bool u0.hasH) (x34 := .bool u0.hasQ) (x35 := .bool u0.hasF) d3.out ?_).mono ?_; assumption; rintro e w' ⟨rfl, hcb⟩)
        | (go_at_call 17; refine (keep36 (w0 := w5) (a0 := ⟨B0, 0, none⟩) (a1 := ⟨B0, 1, none⟩) (a2 := ⟨B0, 2, none⟩) (a3 := ⟨B0, 3, none⟩) (a4 := ⟨B0, 4, none⟩) (a5 := ⟨B0, 5, none⟩) (a6 := ⟨B0, 6, none⟩) (a7 := ⟨B0, 7, none⟩) (a8 := ⟨B0, 8, none⟩) (a9 := ⟨B1, 0, none⟩) (a10 := ⟨B1, 1, none⟩) (a11 := ⟨B1, 2, none⟩) (a12 := ⟨B1, 3, none⟩) (a13 := ⟨B1, 4, none⟩) (a14 := ⟨B1, 5, none⟩) (a15 := ⟨B1, 6, none⟩) (a16 := ⟨B1, 7, none⟩) (a17 := ⟨B1, 8, none⟩) (a18 := ⟨B2, 0, none⟩) (a19 := ⟨B2, 1, none⟩) (a20 := ⟨B2, 2, none⟩) (a21 := ⟨B2, 3, none⟩) (a22 := ⟨B2, 4, none⟩) (a23 := ⟨B2, 5, none⟩) (a24 := ⟨B2, 6, none⟩) (a25 := ⟨B2, 7, none⟩) (a26 := ⟨B2, 8, none⟩) (a27 := ⟨B3, 0, none⟩) (a28 := ⟨B3, 1, none⟩) (a29 := ⟨B3, 2, none⟩) (a30 := ⟨B3, 3, none⟩) (a31 := ⟨B3, 4, none⟩) (a32 := ⟨B3, 5, none⟩) (a33 := ⟨B3, 6, none⟩) (a34 := ⟨B3, 7, none⟩) (a35 := ⟨B3, 8, none⟩) (x0 := .string (Lc.str b.scheme)) (x1 := .string (Lc.str b.host)) (x2 := .string (Lc.str b.path)) (x3 := .string (Lc.str b.query)) (x4 := .string (Lc.str b.frag)) (x5 := .bool b.hasS) (x6 := .bool b.hasH) (x7 := .bool b.hasQ) (x8 := .bool b.hasF) (x9 := .string (Lc.str r.scheme)) (x10 := .string (Lc.str r.host)) (x11 := .string (Lc.str r.path)) (x12 := .string (Lc.str r.query)) (x13 := .string (Lc.str r.frag)) (x14 := .bool r.hasS) (x15 := .bool r.hasH) (x16 := .bool r.hasQ) (x17 := .bool r.hasF) (x18 := .string (Lc.str u0.scheme)) (x19 := .string (Lc.str u0.host)) (x20 := .string (Lc.str u0.path)) (x21 := .string (Lc.str u0.query)) (x22 := .string (Lc.str u0.frag)) (x23 := .bool u0.hasS) (x24 := .bool u0.hasH) (x25 := .bool u0.hasQ) (x26 := .bool u0.hasF) (x27 := .string (Lc.str u0.scheme)) (x28 := .string (Lc.str u0.host)) (x29 := .string (Lc.str u0.path)) (x30 := .string (Lc.str u0.query)) (x31 := .string (Lc.str u0.frag)) (x32 := .bool u0.hasS) (x33 := .bool u0.hasH) (x34 := .bool u0.hasQ) (x35 := .bool u0.hasF) d4.out ?_).mono ?_; assumption; rintro e w' ⟨rfl, hcb⟩)
        | (go_at_call 18; refine (keep36 (w0 := w5) (a0 := ⟨B0, 0, none⟩) (a1 := ⟨B0, 1, none⟩) (a2 := ⟨B0, 2, none⟩) (a3 := ⟨B0, 3, none⟩) (a4 := ⟨B0, 4, none⟩) (a5 := ⟨B0, 5, none⟩) (a6 := ⟨B0, 6, none⟩) (a7 := ⟨B0, 7, none⟩) (a8 := ⟨B0, 8, none⟩) (a9 := ⟨B1, 0, none⟩) (a10 := ⟨B1, 1, none⟩) (a11 := ⟨B1, 2, none⟩) (a12 := ⟨B1, 3, none⟩) (a13 := ⟨B1, 4, none⟩) (a14 := ⟨B1, 5, none⟩) (a15 := ⟨B1, 6, none⟩) (a16 := ⟨B1, 7, none⟩) (a17 := ⟨B1, 8, none⟩) (a18 := ⟨B2, 0, none⟩) (a19 := ⟨B2, 1, none⟩) (a20 := ⟨B2, 2, none⟩) (a21 := ⟨B2, 3, none⟩) (a22 := ⟨B2, 4, none⟩) (a23 := ⟨B2, 5, none⟩) (a24 := ⟨B2, 6, none⟩) (a25 := ⟨B2, 7, none⟩) (a26 := ⟨B2, 8, none⟩) (a27 := ⟨B3, 0, none⟩) (a28 := ⟨B3, 1, none⟩) (a29 := ⟨B3, 2, none⟩) (a30 := ⟨B3, 3, none⟩) (a31 := ⟨B3, 4, none⟩) (a32 := ⟨B3, 5, none⟩) (a33 := ⟨B3, 6, none⟩) (a34 := ⟨B3, 7, none⟩) (a35 := ⟨B3, 8, none⟩) (x0 := .string (Lc.str b.scheme)) (x1 := .string (Lc.str b.host)) (x2 := .string (Lc.str b.path)) (x3 := .string (Lc.str b.query)) (x4 := .string (Lc.str b.frag)) (x5 := .bool b.hasS) (x6 := .bool b.hasH) (x7 := .bool b.hasQ) (x8 := .bool b.hasF) (x9 := .string (Lc.str r.scheme)) (x10 := .string (Lc.str r.host)) (x11 := .string (Lc.str r.path)) (x12 := .string (Lc.str r.query)) (x13 := .string (Lc.str r.frag)) (x14 := .bool r.hasS) (x15 := .bool r.hasH) (x16 := .bool r.hasQ) (x17 := .bool r.hasF) (x18 := .string (Lc.str u0.scheme)) (x19 := .string (Lc.str u0.host)) (x20 := .string (Lc.str u0.path)) (x21 := .string (Lc.str u0.query)) (x22 := .string (Lc.str u0.frag)) (x23 := .bool u0.hasS) (x24 := .bool u0.hasH) (x25 := .bool u0.hasQ) (x26 := .bool u0.hasF) (x27 := .string (Lc.str u0.scheme)) (x28 := .string (Lc.str u0.host)) (x29 := .string (Lc.str u0.path)) (x30 := .string (Lc.str u0.query)) (x31 := .string (Lc.str u0.frag)) (x32 := .bool u0.hasS) (x33 := .bool u0.hasH) (x34 := .bool u0.hasQ) (x35 := .bool u0.hasF) d5.out ?_).mono ?_; assumption; rintro e w' ⟨rfl, hcb⟩)
        | (go_at_call 19; refine (keep36 (w0 := w5) (a0 := ⟨B0, 0, none⟩) (a1 := ⟨B0, 1, none⟩) (a2 := ⟨B0, 2, none⟩) (a3 := ⟨B0, 3, none⟩) (a4 := ⟨B0, 4, none⟩) (a5 := ⟨B0, 5, none⟩) (a6 := ⟨B0, 6, none⟩) (a7 := ⟨B0, 7, none⟩) (a8 := ⟨B0, 8, none⟩) (a9 := ⟨B1, 0, none⟩) (a10 := ⟨B1, 1, none⟩) (a11 := ⟨B1, 2, none⟩) (a12 := ⟨B1, 3, none⟩) (a13 := ⟨B1, 4, none⟩) (a14 := ⟨B1, 5, none⟩) (a15 := ⟨B1, 6, none⟩) (a16 := ⟨B1, 7, none⟩) (a17 := ⟨B1, 8, none⟩) (a18 := ⟨B2, 0, none⟩) (a19 := ⟨B2, 1, none⟩) (a20 := ⟨B2, 2, none⟩) (a21 := ⟨B2, 3, none⟩) (a22 := ⟨B2, 4, none⟩) (a23 := ⟨B2, 5, none⟩) (a24 := ⟨B2, 6, none⟩) (a25 := ⟨B2, 7, none⟩) (a26 := ⟨B2, 8, none⟩) (a27 := ⟨B3, 0, none⟩) (a28 := ⟨B3, 1, none⟩) (a29 := ⟨B3, 2, none⟩) (a30 := ⟨B3, 3, none⟩) (a31 := ⟨B3, 4, none⟩) (a32 := ⟨B3, 5, none⟩) (a33 := ⟨B3, 6, none⟩) (a34 := ⟨B3, 7, none⟩) (a35 := ⟨B3, 8, none⟩) (x0 := .string (Lc.str b.scheme)) (x1 := .string (Lc.str b.host)) (x2 := .string (Lc.str b.path)) (x3 := .string (Lc.str b.query)) (x4 := .string (Lc.str b.frag)) (x5 := .bool b.hasS) (x6 := .bool b.hasH) (x7 := .bool b.hasQ) (x8 := .bool b.hasF) (x9 := .string (Lc.str r.scheme)) (x10 := .string (Lc.str r.host)) (x11 := .string (Lc.str r.path)) (x12 := .string (Lc.str r.query)) (x13 := .string (Lc.str r.frag)) (x14 := .bool r.hasS) (x15 := .bool r.hasH) (x16 := .bool r.hasQ) (x17 := .bool r.hasF) (x18 := .string (Lc.str u0.scheme)) (x19 := .string (Lc.str u0.host)) (x20 := .string (Lc.str u0.path)) (x21 := .string (Lc.str u0.query)) (x22 := .string (Lc.str u0.frag)) (x23 := .bool u0.hasS) (x24 := .bool u0.hasH) (x25 := .bool u0.hasQ) (x26 := .bool u0.hasF) (x27 := .string (Lc.str u0.scheme)) (x28 := .string (Lc.str u0.host)) (x29 := .string (Lc.str u0.path)) (x30 := .string (Lc.str u0.query)) (x31 := .string (Lc.str u0.frag)) (x32 := .bool u0.hasS) (x33 := .bool u0.hasH) (x34 := .bool u0.hasQ) (x35 := .bool u0.hasF) d6.out ?_).mono ?_; assumption; rintro e w' ⟨rfl, hcb⟩))
  all_goals
    obtain ⟨-, -, -, -, -, -, -, -, -, -, -, -, -, -, -, -, -, -, -, -, -, -, -, -, -, -, -, -, -, -, -, -, -, -, -, -, b6⟩ := hcb
    go_wp2_with fail
    go_ret
    exact ⟨rfl, g5.out.trans (b6.mono g5.out.size)⟩
end Go.Proofs.Ytmfmgbjkbadndaa
