/-
  The statements' walks: MediaSmall.
-/
import Derived.Test.YtbaodnmgggdcjaaDoorMediaLaw4
import Derived.Test.YtbaodnmgggdcjaaDoorPieces
namespace Go.Proofs.YtbaodnmgggdcjaaDoor
open Go.RowKit

theorem keep9 {f : FuncId} {args : Array Value} {v : Value} {W w0 : World} {a0 a1 a2 a3 a4 a5 a6 a7 a8 : Addr} {x0 x1 x2 x3 x4 x5 x6 x7 x8 : Value} (hC : ∀ W, Below w0.heap.size w0 W → Calls Tryd.prog f args W fun e w' => e = .returned v ∧ Below W.heap.size W w')
    (h : W.cell? a0 = some x0 ∧ W.cell? a1 = some x1 ∧ W.cell? a2 = some x2 ∧ W.cell? a3 = some x3 ∧ W.cell? a4 = some x4 ∧ W.cell? a5 = some x5 ∧ W.cell? a6 = some x6 ∧ W.cell? a7 = some x7 ∧ W.cell? a8 = some x8 ∧ Below w0.heap.size w0 W) :
    Calls Tryd.prog f args W fun e w' => e = .returned v ∧ (w'.cell? a0 = some x0 ∧ w'.cell? a1 = some x1 ∧ w'.cell? a2 = some x2 ∧ w'.cell? a3 = some x3 ∧ w'.cell? a4 = some x4 ∧ w'.cell? a5 = some x5 ∧ w'.cell? a6 = some x6 ∧ w'.cell? a7 = some x7 ∧ w'.cell? a8 = some x8 ∧ Below w0.heap.size w0 w') := by
  obtain ⟨h0, h1, h2, h3, h4, h5, h6, h7, h8, e⟩ := h
  refine (hC W e).mono fun _ _ ⟨he, hb⟩ => ⟨he, ?_⟩
  have on := fun {a : Addr} {x : Value} (hx : W.cell? a = some x) => (hb.cell (World.block_lt_of_cell? W _ hx)).trans hx
  exact ⟨on h0, on h1, on h2, on h3, on h4, on h5, on h6, on h7, on h8, e.trans (hb.mono e.size)⟩

set_option maxRecDepth 100000 in
set_option maxHeartbeats 25600000 in
theorem small_any {eo fo : Option Addr} {ce cf m1 m2 : Nat} (L M : List UInt8) (w : World) (hL : BytesAt eo L w) (hm1 : L.length = m1) (hz1 : m1 ≤ maxLen) (hM : BytesAt fo M w) (hm2 : M.length = m2) (hz2 : m2 ≤ maxLen) (hE : Env w) :
    Calls Tryd.prog 8 #[.slice eo m1 ce, .slice fo m2 cf] w fun e w' => e = .returned (.bool true) ∧ Below w.heap.size w w' := by
  replace hm1 := Lib.hid hm1
  replace hm2 := Lib.hid hm2
  have xA := (Below.refl w.heap.size w).alloc (Nat.le_refl _) (.cells #[.string ⟨#[116, 101, 120, 116]⟩, .string ⟨#[47]⟩, .string ⟨#[104, 116, 109, 108]⟩, .string ⟨#[42]⟩, .string ⟨#[59]⟩, .string ⟨#[113, 61]⟩, .string ⟨#[48, 46, 53]⟩, .string ⟨#[32]⟩, .string ⟨#[97, 61]⟩, .string ⟨#[34, 98, 32, 99, 34]⟩, .string ⟨#[34, 92, 34, 34]⟩, .string ⟨#[84, 101, 120, 116, 47, 72, 84, 77, 76]⟩, .string ⟨#[116, 101, 120, 116, 47, 42]⟩, .string ⟨#[42, 47, 42]⟩, .string ⟨#[61]⟩, .string ⟨#[34]⟩] 9)
  have hS : StrsAt w.heap.size [⟨#[116, 101, 120, 116]⟩, ⟨#[47]⟩, ⟨#[104, 116, 109, 108]⟩, ⟨#[42]⟩, ⟨#[59]⟩, ⟨#[113, 61]⟩, ⟨#[48, 46, 53]⟩, ⟨#[32]⟩, ⟨#[97, 61]⟩, ⟨#[34, 98, 32, 99, 34]⟩, ⟨#[34, 92, 34, 34]⟩, ⟨#[84, 101, 120, 116, 47, 72, 84, 77, 76]⟩, ⟨#[116, 101, 120, 116, 47, 42]⟩, ⟨#[42, 47, 42]⟩, ⟨#[61]⟩, ⟨#[34]⟩] (w.alloc (.cells #[.string ⟨#[116, 101, 120, 116]⟩, .string ⟨#[47]⟩, .string ⟨#[104, 116, 109, 108]⟩, .string ⟨#[42]⟩, .string ⟨#[59]⟩, .string ⟨#[113, 61]⟩, .string ⟨#[48, 46, 53]⟩, .string ⟨#[32]⟩, .string ⟨#[97, 61]⟩, .string ⟨#[34, 98, 32, 99, 34]⟩, .string ⟨#[34, 92, 34, 34]⟩, .string ⟨#[84, 101, 120, 116, 47, 72, 84, 77, 76]⟩, .string ⟨#[116, 101, 120, 116, 47, 42]⟩, .string ⟨#[42, 47, 42]⟩, .string ⟨#[61]⟩, .string ⟨#[34]⟩] 9)) := strsAt_cells (heap_alloc_new w _)
  have hS1 : ∀ p ∈ ([⟨#[116, 101, 120, 116]⟩, ⟨#[47]⟩, ⟨#[104, 116, 109, 108]⟩, ⟨#[42]⟩, ⟨#[59]⟩, ⟨#[113, 61]⟩, ⟨#[48, 46, 53]⟩, ⟨#[32]⟩, ⟨#[97, 61]⟩, ⟨#[34, 98, 32, 99, 34]⟩, ⟨#[34, 92, 34, 34]⟩, ⟨#[84, 101, 120, 116, 47, 72, 84, 77, 76]⟩, ⟨#[116, 101, 120, 116, 47, 42]⟩, ⟨#[42, 47, 42]⟩, ⟨#[61]⟩, ⟨#[34]⟩] : List ByteArray), p.size ≤ 10 := by decide
  have hLA := Lib.hid (hL.below xA)
  have hMA := Lib.hid (hM.below xA)
  have hlen : ([⟨#[116, 101, 120, 116]⟩, ⟨#[47]⟩, ⟨#[104, 116, 109, 108]⟩, ⟨#[42]⟩, ⟨#[59]⟩, ⟨#[113, 61]⟩, ⟨#[48, 46, 53]⟩, ⟨#[32]⟩, ⟨#[97, 61]⟩, ⟨#[34, 98, 32, 99, 34]⟩, ⟨#[34, 92, 34, 34]⟩, ⟨#[84, 101, 120, 116, 47, 72, 84, 77, 76]⟩, ⟨#[116, 101, 120, 116, 47, 42]⟩, ⟨#[42, 47, 42]⟩, ⟨#[61]⟩, ⟨#[34]⟩] : List ByteArray).length = 16 := rfl
  generalize ([⟨#[116, 101, 120, 116]⟩, ⟨#[47]⟩, ⟨#[104, 116, 109, 108]⟩, ⟨#[42]⟩, ⟨#[59]⟩, ⟨#[113, 61]⟩, ⟨#[48, 46, 53]⟩, ⟨#[32]⟩, ⟨#[97, 61]⟩, ⟨#[34, 98, 32, 99, 34]⟩, ⟨#[34, 92, 34, 34]⟩, ⟨#[84, 101, 120, 116, 47, 72, 84, 77, 76]⟩, ⟨#[116, 101, 120, 116, 47, 42]⟩, ⟨#[42, 47, 42]⟩, ⟨#[61]⟩, ⟨#[34]⟩] : List ByteArray) = PS at hS hS1 hlen
  replace hlen := Lib.hid hlen
  replace hS1 := Lib.hid hS1
  replace hS := Lib.hid hS
  replace xA := Lib.hid xA
  clear hL hM
  go_enter Tryd.func8, Tryd.ntmps8
  go_wp2_with fail
  (with_reducible refine (pieces_any L PS _ hLA.out hm1.out hS.out hlen.out (by decide) (by decide) hz1 hS1.out).mono ?_); rintro e wp ⟨⟨s, rfl, hs⟩, bp⟩
  replace hMA := Lib.hid (hMA.out.below bp)
  have hS2 : Hid (StrsAt w.heap.size PS wp) := Lib.hid (fun j hj => (bp.cell (World.block_lt_of_cell? _ _ (hS.out j hj))).trans (hS.out j hj))
  replace xA := Lib.hid (xA.out.trans (bp.mono xA.out.size))
  clear bp hS hLA
  go_wp2_with fail
  (with_reducible refine (pieces_any M PS _ hMA.out hm2.out hS2.out hlen.out (by decide) (by decide) hz2 hS1.out).mono ?_); rintro e wq ⟨⟨t, rfl, ht⟩, bq⟩
  replace xA := Lib.hid (xA.out.trans (bq.mono xA.out.size))
  clear bq hS2 hMA
  go_wp2_with fail
  (with_reducible refine (mParse_any s _ (by omega) (hE.on xA.out)).mono ?_); rintro e w1 ⟨v, rfl, ho, b1⟩
  have hpar := refMParse_any s
  have hsz := mp_size s
  generalize mpM s = m at *
  generalize mpE s = er at *
  obtain ⟨rt, rs, ps⟩ := m
  dsimp only at *
  obtain ⟨co, cc, rfl, hc⟩ := pairs_of_owns ho
  obtain ⟨hl, hz, hzp⟩ := wt_pairs (ps := ps) (c := s.size) (by omega) (by omega)
  obtain ⟨n, hn⟩ : ∃ n, ps.length = n := ⟨_, rfl⟩
  rw [hn] at hl ⊢
  replace hn := Lib.hid hn
  have hzb := Lib.hid (fun p hp => Nat.le_trans (hz p hp) (show 100000 ≤ 70368744177664 by decide))
  replace hz := Lib.hid hz
  replace hzp := Lib.hid hzp
  have hrt : rt.size ≤ 100000 := by omega
  have hrs : rs.size ≤ 100000 := by omega
  have x1 := xA.out.trans (b1.mono xA.out.size)
  have hX := Lib.hid (x1.alloc x1.size (.cells #[.string rt, .string rs, .slice co n cc] 25))
  have k0 := Lib.hid (Box3.new w1 (.string rt) (.string rs) (.slice co n cc))
  have hC := Lib.hid (hc.below ((Below.refl _ w1).alloc (Nat.le_refl _) (.cells #[.string rt, .string rs, .slice co n cc] 25)))
  clear ho hc b1 x1 xA hsz
  go_wp2_with fail
  (with_reducible refine (hpar _ (by omega)).mono ?_); rintro e w2 ⟨v, rfl, ho, b2⟩
  obtain ⟨ao, ca, rfl, hp⟩ := pairs_of_owns ho
  rw [hn.out]
  replace hX := Lib.hid (hX.out.trans (b2.mono hX.out.size))
  replace k0 := Lib.hid (k0.out.on b2)
  replace hC := Lib.hid (hC.out.below b2)
  have l1 : w1.heap.size < w2.heap.size := k0.out.lt
  clear ho b2 hpar
  have b3 := Lib.hid ((Below.refl _ w2).alloc (Nat.le_refl _) (.cells #[.string rt, .string rs, .slice ao n ca] 25))
  replace hX := Lib.hid (hX.out.alloc hX.out.size (.cells #[.string rt, .string rs, .slice ao n ca] 25))
  have k1 := Lib.hid (Box3.new w2 (.string rt) (.string rs) (.slice ao n ca))
  replace k0 := Lib.hid (k0.out.on b3.out)
  replace hC := Lib.hid (hC.out.below b3.out)
  have hP := Lib.hid (hp.below b3.out)
  clear hp b3
  go_wp2_with fail
  (with_reducible refine (refMParse_any t _ (by omega)).mono ?_); rintro e w3 ⟨v, rfl, ho, b4⟩
  have hsz := mp_size t
  generalize mpM t = m at *
  generalize mpE t = er2 at *
  obtain ⟨mt, ms, qs⟩ := m
  dsimp only at *
  obtain ⟨bo, cb, rfl, hq⟩ := pairs_of_owns ho
  obtain ⟨hl2, hz2', -⟩ := wt_pairs (ps := qs) (c := t.size) (by omega) (by omega)
  obtain ⟨n2, hn2⟩ : ∃ n, qs.length = n := ⟨_, rfl⟩
  rw [hn2] at hl2 ⊢
  replace hn2 := Lib.hid hn2
  have hz2b := Lib.hid (fun p hp => Nat.le_trans (hz2' p hp) (show 100000 ≤ 70368744177664 by decide))
  have hz2 := Lib.hid hz2'
  clear hz2'
  replace hX := Lib.hid (hX.out.trans (b4.mono hX.out.size))
  replace k0 := Lib.hid (k0.out.on b4)
  replace hC := Lib.hid (hC.out.below b4)
  replace k1 := Lib.hid (k1.out.on b4)
  replace hP := Lib.hid (hP.out.below b4)
  have l2 : w1.heap.size < w3.heap.size := k0.out.lt
  have l3 : w2.heap.size < w3.heap.size := k1.out.lt
  clear ho b4 hsz
  have b5 := Lib.hid ((Below.refl _ w3).alloc (Nat.le_refl _) (.cells #[.string mt, .string ms, .slice bo n2 cb] 25))
  replace hX := Lib.hid (hX.out.alloc hX.out.size (.cells #[.string mt, .string ms, .slice bo n2 cb] 25))
  have k2 := Lib.hid (Box3.new w3 (.string mt) (.string ms) (.slice bo n2 cb))
  replace k0 := Lib.hid (k0.out.on b5.out)
  replace hC := Lib.hid (hC.out.below b5.out)
  replace k1 := Lib.hid (k1.out.on b5.out)
  replace hP := Lib.hid (hP.out.below b5.out)
  have hQ := Lib.hid (hq.below b5.out)
  clear hq b5
  have hlm : n ≤ maxLen := by unfold maxLen; omega
  have hl2m : n2 ≤ maxLen := by unfold maxLen; omega
  have hsame : ∀ W, PairsIn W co ps → PairsIn W ao ps → Calls Tryd.prog 12 #[.agg #[.string rt, .string rs, .slice co n cc], .agg #[.string rt, .string rs, .slice ao n ca]] W fun e w' => e = .returned (.bool true) ∧ Below W.heap.size W w' := fun W h1 h2 => by
    have := refSame_any (ca := cc) (cb := ca) rt rs rt rs ps ps W h1 hn.out (by omega) h2 hn.out
    rw [decide_eq_true rfl] at this
    exact this
  go_wp2_with fail
  obtain ⟨w9, h9⟩ : ∃ w9, w3.alloc (.cells #[.string mt, .string ms, .slice bo n2 cb] 25) = w9 := ⟨_, rfl⟩
  rw [h9] at hX k0 hC k1 hP k2 hQ
  obtain ⟨B0, hB0⟩ : ∃ B, w1.heap.size = B := ⟨_, rfl⟩
  obtain ⟨B1, hB1⟩ : ∃ B, w2.heap.size = B := ⟨_, rfl⟩
  obtain ⟨B2, hB2⟩ : ∃ B, w3.heap.size = B := ⟨_, rfl⟩
  rw [hB0] at k0
  rw [hB1] at k1
  rw [hB2] at k2
  have c0 := k0.out.c0
  have c1 := k0.out.c1
  have c2 := k0.out.c2
  have d0 := k1.out.c0
  have d1 := k1.out.c1
  have d2 := k1.out.c2
  have f0 := k2.out.c0
  have f1 := k2.out.c1
  have f2 := k2.out.c2
  clear k0 k1 k2 l1 l2 l3
  rw [h9, hB0, hB1, hB2]
  clear hB0 hB1 hB2 h9
  go_region_held3 (fun w' => w'.cell? ⟨B0, 0, none⟩ = some (.string rt) ∧ w'.cell? ⟨B0, 1, none⟩ = some (.string rs) ∧ w'.cell? ⟨B0, 2, none⟩ = some (.slice co n cc) ∧ w'.cell? ⟨B1, 0, none⟩ = some (.string rt) ∧ w'.cell? ⟨B1, 1, none⟩ = some (.string rs) ∧ w'.cell? ⟨B1, 2, none⟩ = some (.slice ao n ca) ∧ w'.cell? ⟨B2, 0, none⟩ = some (.string mt) ∧ w'.cell? ⟨B2, 1, none⟩ = some (.string ms) ∧ w'.cell? ⟨B2, 2, none⟩ = some (.slice bo n2 cb) ∧ Below w9.heap.size w9 w') (first | exact ⟨c0, c1, c2, d0, d1, d2, f0, f1, f2, (Below.refl _ _).drew⟩ | assumption)
    (first
        | (go_at_call 9; refine (keep9 (w0 := w9) (a0 := ⟨B0, 0, none⟩) (a1 := ⟨B0, 1, none⟩) (a2 := ⟨B0, 2, none⟩) (a3 := ⟨B1, 0, none⟩) (a4 := ⟨B1, 1, none⟩) (a5 := ⟨B1, 2, none⟩) (a6 := ⟨B2, 0, none⟩) (a7 := ⟨B2, 1, none⟩) (a8 := ⟨B2, 2, none⟩) (x0 := .string rt) (x1 := .string rs) (x2 := .slice co n cc) (x3 := .string rt) (x4 := .string rs) (x5 := .slice ao n ca) (x6 := .string mt) (x7 := .string ms) (x8 := .slice bo n2 cb) (fun W hb => awake_any W (hE.on (hX.out.trans (hb.mono hX.out.size)))) ?_).mono ?_; assumption; rintro e w' ⟨rfl, hcb⟩)
        | (go_at_call 12; refine (keep9 (w0 := w9) (a0 := ⟨B0, 0, none⟩) (a1 := ⟨B0, 1, none⟩) (a2 := ⟨B0, 2, none⟩) (a3 := ⟨B1, 0, none⟩) (a4 := ⟨B1, 1, none⟩) (a5 := ⟨B1, 2, none⟩) (a6 := ⟨B2, 0, none⟩) (a7 := ⟨B2, 1, none⟩) (a8 := ⟨B2, 2, none⟩) (x0 := .string rt) (x1 := .string rs) (x2 := .slice co n cc) (x3 := .string rt) (x4 := .string rs) (x5 := .slice ao n ca) (x6 := .string mt) (x7 := .string ms) (x8 := .slice bo n2 cb) (fun W hb => hsame W (hC.out.below hb) (hP.out.below hb)) ?_).mono ?_; assumption; rintro e w' ⟨rfl, hcb⟩)
        | (go_at_call 16; refine (keep9 (w0 := w9) (a0 := ⟨B0, 0, none⟩) (a1 := ⟨B0, 1, none⟩) (a2 := ⟨B0, 2, none⟩) (a3 := ⟨B1, 0, none⟩) (a4 := ⟨B1, 1, none⟩) (a5 := ⟨B1, 2, none⟩) (a6 := ⟨B2, 0, none⟩) (a7 := ⟨B2, 1, none⟩) (a8 := ⟨B2, 2, none⟩) (x0 := .string rt) (x1 := .string rs) (x2 := .slice co n cc) (x3 := .string rt) (x4 := .string rs) (x5 := .slice ao n ca) (x6 := .string mt) (x7 := .string ms) (x8 := .slice bo n2 cb) (fun W hb => mFits_any rt rs mt ms ps qs W (hP.out.below hb) hn.out hl (hQ.out.below hb) hn2.out hl2 hz.out hz2.out (hE.on (hX.out.trans (hb.mono hX.out.size)))) ?_).mono ?_; assumption; rintro e w' ⟨rfl, hcb⟩)
        | (go_at_call 17; refine (keep9 (w0 := w9) (a0 := ⟨B0, 0, none⟩) (a1 := ⟨B0, 1, none⟩) (a2 := ⟨B0, 2, none⟩) (a3 := ⟨B1, 0, none⟩) (a4 := ⟨B1, 1, none⟩) (a5 := ⟨B1, 2, none⟩) (a6 := ⟨B2, 0, none⟩) (a7 := ⟨B2, 1, none⟩) (a8 := ⟨B2, 2, none⟩) (x0 := .string rt) (x1 := .string rs) (x2 := .slice co n cc) (x3 := .string rt) (x4 := .string rs) (x5 := .slice ao n ca) (x6 := .string mt) (x7 := .string ms) (x8 := .slice bo n2 cb) (fun W hb => refFits_any rt rs mt ms ps qs W (hP.out.below hb) hn.out hlm (hQ.out.below hb) hn2.out hl2m hzb.out hz2b.out) ?_).mono ?_; assumption; rintro e w' ⟨rfl, hcb⟩)
        | (go_at_call 18; refine (keep9 (w0 := w9) (a0 := ⟨B0, 0, none⟩) (a1 := ⟨B0, 1, none⟩) (a2 := ⟨B0, 2, none⟩) (a3 := ⟨B1, 0, none⟩) (a4 := ⟨B1, 1, none⟩) (a5 := ⟨B1, 2, none⟩) (a6 := ⟨B2, 0, none⟩) (a7 := ⟨B2, 1, none⟩) (a8 := ⟨B2, 2, none⟩) (x0 := .string rt) (x1 := .string rs) (x2 := .slice co n cc) (x3 := .string rt) (x4 := .string rs) (x5 := .slice ao n ca) (x6 := .string mt) (x7 := .string ms) (x8 := .slice bo n2 cb) (fun W hb => mPrint_any rt rs ps W (hP.out.below hb) hn.out hl hrt hrs hzp.out (hE.on (hX.out.trans (hb.mono hX.out.size)))) ?_).mono ?_; assumption; rintro e w' ⟨rfl, hcb⟩)
        | (go_at_call 19; refine (keep9 (w0 := w9) (a0 := ⟨B0, 0, none⟩) (a1 := ⟨B0, 1, none⟩) (a2 := ⟨B0, 2, none⟩) (a3 := ⟨B1, 0, none⟩) (a4 := ⟨B1, 1, none⟩) (a5 := ⟨B1, 2, none⟩) (a6 := ⟨B2, 0, none⟩) (a7 := ⟨B2, 1, none⟩) (a8 := ⟨B2, 2, none⟩) (x0 := .string rt) (x1 := .string rs) (x2 := .slice co n cc) (x3 := .string rt) (x4 := .string rs) (x5 := .slice ao n ca) (x6 := .string mt) (x7 := .string ms) (x8 := .slice bo n2 cb) (fun W hb => refMPrint_any rt rs ps W (hP.out.below hb) hn.out hl hrt hrs hzp.out) ?_).mono ?_; assumption; rintro e w' ⟨rfl, hcb⟩))
  all_goals
    obtain ⟨-, -, -, -, -, -, -, -, -, b6⟩ := hcb
    go_wp2
    go_ret
    exact ⟨rfl, hX.out.trans (b6.mono hX.out.size)⟩
end Go.Proofs.YtbaodnmgggdcjaaDoor
