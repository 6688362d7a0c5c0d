/-
  What the law's own maker of an entry comes to: Made: some entry, of a bulk.
  An entry picked, in a box; another one that has some of its kids.
  From a reading of small numbers handed over to what the walks ask; a tree handed over, with its row's capacity.
-/
import Derived.Test.YtbaclacfadkjdaaGreatDoorG32
import Derived.Test.YtbaclacfadkjdaaGreatDoorG31
import Derived.Test.YtbaclacfadkjdaaGreatDoorG30
namespace Go.Proofs.YtbaclacfadkjdaaGreatDoor
open Go.RowKit
set_option linter.unusedSimpArgs false
set_option linter.unusedVariables false
def BitsIn (w : World) (ao : Option Addr) (l : List (Nat × Nat × Nat)) : Prop := ∀ j (h : j < l.length), ∃ b off, ao = some ⟨b, off, none⟩ ∧ w.cell? ⟨b, off + j * 3, none⟩ = some (.int .u8 (l[j].1 : Int)) ∧ w.cell? ⟨b, off + j * 3 + 1, none⟩ = some (.int .u8 (l[j].2.1 : Int)) ∧ w.cell? ⟨b, off + j * 3 + 2, none⟩ = some (.int .u8 (l[j].2.2 : Int)) ∧ l[j].1 < 256 ∧ l[j].2.1 < 256 ∧ l[j].2.2 < 256
theorem BitsIn.below {w w' : World} {ao : Option Addr} {l : List (Nat × Nat × Nat)} (h : BitsIn w ao l) (hb : Below w.heap.size w w') : BitsIn w' ao l := by
  intro j hj
  obtain ⟨b, off, e, c0, c1, c2, r⟩ := h j hj
  have hlt : b < w.heap.size := World.block_lt_of_cell? w _ c0
  exact ⟨b, off, e, (hb.cell hlt).trans c0, (hb.cell hlt).trans c1, (hb.cell hlt).trans c2, r⟩
def MadeTold (w : World) (x : Ending) (w' : World) : Prop := Below w.heap.size w w' ∧ ∃ (A : Array Value) (n : Gv.Node), x = .returned (.agg A) ∧ Nd w' A n ∧ Gv.wt n ≤ 60000 ∧ ∀ bo m cb, A[4]? = some (.slice bo m cb) → (bo = none → m = 0 ∧ cb = 0) ∧ m ≤ cb
theorem own_cap {S : Nat → Prop} {B n cb : Nat} {bo : Option Addr} {kids : List Gv.Node} {w : World} (h : OwnsKids S B (.slice bo n cb) kids w) : (bo = none → n = 0 ∧ cb = 0) ∧ n ≤ cb := by
  obtain ⟨css, h1, h2, h3⟩ := h
  obtain ⟨_, ⟨e, h0⟩ | ⟨g, cap, cur, e, _, _, hc, _⟩⟩ := h2
  · injection e with e1 e2 e3
    subst e1; subst e2; subst e3
    exact ⟨fun _ => ⟨rfl, rfl⟩, Nat.le_refl _⟩
  · injection e with e1 e2 e3
    subst e1; subst e3
    exact ⟨fun x => (by cases x), by omega⟩
theorem plain_wt {t : ByteArray} (h : t.size ≤ 40) : Gv.wt (.mk 0 ⟨#[104, 116, 116, 112, 58, 47, 47, 119, 119, 119, 46, 119, 51, 46, 111, 114, 103, 47, 50, 48, 48, 53, 47, 65, 116, 111, 109]⟩ ⟨#[101, 110, 116, 114, 121]⟩ [] [auN, elN ⟨#[116, 105, 116, 108, 101]⟩ t] ⟨#[]⟩) ≤ 2000 := by
  have h1 := elN_wt (nm := ⟨#[116, 105, 116, 108, 101]⟩) (by decide) h
  have h2 : Gv.wt auN ≤ 1000 := by decide +kernel
  have ea : ByteArray.size ⟨#[104, 116, 116, 112, 58, 47, 47, 119, 119, 119, 46, 119, 51, 46, 111, 114, 103, 47, 50, 48, 48, 53, 47, 65, 116, 111, 109]⟩ = 27 := rfl
  have eb : ByteArray.size ⟨#[101, 110, 116, 114, 121]⟩ = 5 := rfl
  have he : ByteArray.size ⟨#[]⟩ = 0 := rfl
  rw [Gv.wt_mk]
  simp only [Gv.wts, ea, eb, he, List.length_nil, List.map_nil, List.sum_nil]
  omega
theorem made_tail {w w1 wx : World} {rb n1 c1 n2 c2 i : Nat} {nm : ByteArray} {ao bo : Option Addr} {as' : List Gv.Att} {kids : List Gv.Node} {F : Func} {tmps : Array Value} (hres : F.results = #[ResultVar.cell i 25]) (h2 : tmps[i]? = some (.pointer (some ⟨w.heap.size, 0, none⟩)))
    (g : KIn w1.heap.size rb w1 ⟨#[104, 116, 116, 112, 58, 47, 47, 119, 119, 119, 46, 119, 51, 46, 111, 114, 103, 47, 50, 48, 48, 53, 47, 65, 116, 111, 109]⟩ nm (.slice ao n1 c1) (.slice bo n2 c2) as' kids wx) (z : Cells wx w.heap.size 25 #[.int .i64 0, .string ⟨#[]⟩, .string ⟨#[]⟩, .slice none 0 0, .slice none 0 0, .string ⟨#[]⟩]) (l1 : w.heap.size < w1.heap.size) (b1 : Below w.heap.size w w1) (hwt : Gv.wt (.mk 0 ⟨#[104, 116, 116, 112, 58, 47, 47, 119, 119, 119, 46, 119, 51, 46, 111, 114, 103, 47, 50, 48, 48, 53, 47, 65, 116, 111, 109]⟩ nm as' kids ⟨#[]⟩) ≤ 60000) :
    bodyPost Tryz.prog F (MadeTold w) .ret { tmps := tmps, defers := [] } ((((((wx.setCell ⟨w.heap.size, 0, none⟩ (.int .i64 0)).setCell ⟨w.heap.size, 1, none⟩ (.string ⟨#[104, 116, 116, 112, 58, 47, 47, 119, 119, 119, 46, 119, 51, 46, 111, 114, 103, 47, 50, 48, 48, 53, 47, 65, 116, 111, 109]⟩)).setCell ⟨w.heap.size, 2, none⟩ (.string nm)).setCell ⟨w.heap.size, 3, none⟩ (.slice ao n1 c1)).setCell ⟨w.heap.size, 4, none⟩ (.slice bo n2 c2)).setCell ⟨w.heap.size, 5, none⟩ (.string ⟨#[]⟩)) := by
  have hl : as'.length ≤ maxLen := by rw [Gv.wt_mk] at hwt; unfold maxLen; omega
  have hns : ¬ w1.heap.size ≤ w.heap.size := by omega
  refine node_end (i := i) hres h2 (six_cells z _ _ _ _ _ _) ⟨six_below (b1.trans (g.low.mono b1.size)) (by omega) _ _ _ _ _ _, _, _, rfl, ⟨fun b => w1.heap.size ≤ b, ?_⟩, hwt, fun bo' m cb' e => ?_⟩
  · exact ((((((g.node hl).stay (stay_set hns)).stay (stay_set hns)).stay (stay_set hns)).stay (stay_set hns)).stay (stay_set hns)).stay (stay_set hns)
  · have e : (.slice bo n2 c2 : Value) = .slice bo' m cb' := by injection e
    injection e with e1 e2 e3
    subst e1; subst e2; subst e3
    exact own_cap g.kid
set_option maxRecDepth 100000 in
set_option maxHeartbeats 12800000 in
theorem made_any {ao : Option Addr} {cap : Nat} (L : List (Nat × Nat × Nat)) (bare : Bool) (w : World) (hL : BitsIn w ao L) (hlen : L.length ≤ 9223372036854775807) :
    Calls Tryz.prog 14 #[.slice ao L.length cap, .bool bare] w (MadeTold w) := by
  obtain ⟨i0, hi, hz0, hz1, hz2⟩ := info_parts infoNode
  have b1 := (Below.refl w.heap.size w).alloc (Nat.le_refl _) (.cells #[.int .i64 0, .string ⟨#[]⟩, .string ⟨#[]⟩, .slice none 0 0, .slice none 0 0, .string ⟨#[]⟩] 25)
  have z1 := Cells.new w 25 #[.int .i64 0, .string ⟨#[]⟩, .string ⟨#[]⟩, .slice none 0 0, .slice none 0 0, .string ⟨#[]⟩]
  go_enter Tryz.func14, Tryz.ntmps14
  go_upto_region 1 with fail
  generalize w.alloc (.cells #[.int .i64 0, .string ⟨#[]⟩, .string ⟨#[]⟩, .slice none 0 0, .slice none 0 0, .string ⟨#[]⟩] 25) = w1 at *
  have l1 := Lib.hid z1.lt
  have hL1 := Lib.hid (hL.below b1)
  replace b1 := Lib.hid b1
  replace z1 := Lib.hid z1
  clear hL
  go_wp2_with fail
  (refine (plain_any ⟨#[116]⟩ w1).mono ?_); rintro e w2 ⟨g, rfl, hO, b2⟩
  have bx := (Below.refl w2.heap.size w2).alloc (Nat.le_refl _) (.cells #[.int .i64 0, .string ⟨#[104, 116, 116, 112, 58, 47, 47, 119, 119, 119, 46, 119, 51, 46, 111, 114, 103, 47, 50, 48, 48, 53, 47, 65, 116, 111, 109]⟩, .string ⟨#[101, 110, 116, 114, 121]⟩, .slice none 0 0, .slice (some ⟨g, 0, none⟩) 2 2, .string ⟨#[]⟩] 25)
  have g3 : KIn w1.heap.size w2.heap.size w1 ⟨#[104, 116, 116, 112, 58, 47, 47, 119, 119, 119, 46, 119, 51, 46, 111, 114, 103, 47, 50, 48, 48, 53, 47, 65, 116, 111, 109]⟩ ⟨#[101, 110, 116, 114, 121]⟩ (.slice none 0 0) (.slice (some ⟨g, 0, none⟩) 2 2) [] [auN, elN ⟨#[116, 105, 116, 108, 101]⟩ ⟨#[116]⟩] (w2.alloc (.cells #[.int .i64 0, .string ⟨#[104, 116, 116, 112, 58, 47, 47, 119, 119, 119, 46, 119, 51, 46, 111, 114, 103, 47, 50, 48, 48, 53, 47, 65, 116, 111, 109]⟩, .string ⟨#[101, 110, 116, 114, 121]⟩, .slice none 0 0, .slice (some ⟨g, 0, none⟩) 2 2, .string ⟨#[]⟩] 25)) := by
    have hz := b2.size
    refine ⟨Cells.new _ _ _, atts_none _ _, ?_, ?_, b2.trans (bx.mono b2.size), by omega⟩
    · exact (hO.mono (S' := fun b => (w1.heap.size ≤ b ∧ b ≠ w2.heap.size) ∧ some b ≠ (Value.slice none 0 0).ownBlock) (fun b hb hl => ⟨⟨by omega, by omega⟩, by simp [Value.ownBlock]⟩)).on bx
    · intro e
      obtain ⟨css, _, h2, _⟩ := hO
      have := (World.ownsRow.lt h2 w2.heap.size e.symm).2
      omega
  replace g3 := Lib.hid g3
  clear hO b2 bx
  go_upto_if 8 with fail
  generalize w2.alloc (.cells #[.int .i64 0, .string ⟨#[104, 116, 116, 112, 58, 47, 47, 119, 119, 119, 46, 119, 51, 46, 111, 114, 103, 47, 50, 48, 48, 53, 47, 65, 116, 111, 109]⟩, .string ⟨#[101, 110, 116, 114, 121]⟩, .slice none 0 0, .slice (some ⟨g, 0, none⟩) 2 2, .string ⟨#[]⟩] 25) = w3 at *
  go_cut [9] (fun _ wx => Hid (KSt w1 w2.heap.size ⟨#[101, 110, 116, 114, 121]⟩ 2000 wx))
  case first =>
    cases bare with
    | false =>
      go_wp2_with fail
      go_meet
      exact Lib.hid ⟨_, _, _, _, g3.out, plain_wt (by decide)⟩
    | true =>
      have x4 := g3.out.n.cell (i := 4) rfl
      have f4 := g3.out.n.free 4
      go_wp2_with fail
      go_meet
      refine Lib.hid ⟨_, _, _, [], g3.out.kids (v' := .slice none 0 0) (kids_nil _ _ _) (by simp [Value.ownBlock]), ?_⟩
      decide +kernel
  case rest =>
  have hS := hcut
  clear hcut
  generalize wc = w4 at *
  clear wc g3
  go_wp2_with fail
  go_loopw [6] (fun iv wr => ∃ i : Nat, iv = .int .i64 (i : Int) ∧ i ≤ 12 ∧ Hid (KSt w1 w2.heap.size ⟨#[101, 110, 116, 114, 121]⟩ (2000 + i * 3001) wr)) (fun iv _ => 12 - (intOf iv).toNat)
  case atStart => exact ⟨0, rfl, by omega, by simpa using hS⟩
  case round =>
    obtain ⟨i, rfl, hi12, hSi⟩ := hrel
    clear hS
    by_cases hlt : i < L.length ∧ i < 12
    case neg =>
      obtain ⟨ao5, ca5, bo5, cb5, as5, kd5, g5, hz5, -, -⟩ := KSt.open' hSi.out
      have zE : Cells wr w.heap.size 25 _ := (g5.low.block w.heap.size l1.out).trans z1.out
      obtain ⟨x0, x1, x2, x3, x4, x5⟩ := node_open g5.n
      obtain ⟨z0, z1', z2, z3, z4, z5'⟩ := node_open (show Cells wr _ _ (nodeArr 0 ⟨#[]⟩ ⟨#[]⟩ (.slice none 0 0) (.slice none 0 0) ⟨#[]⟩) from zE)
      have f0 := zE.free 0
      have f1 := zE.free 1
      have f2 := zE.free 2
      have f3 := zE.free 3
      have f4 := zE.free 4
      have f5 := zE.free 5
      have aE : amSp = ⟨#[104, 116, 116, 112, 58, 47, 47, 119, 119, 119, 46, 119, 51, 46, 111, 114, 103, 47, 50, 48, 48, 53, 47, 65, 116, 111, 109]⟩ := rfl
      rw [aE] at x1
      replace aE := Lib.hid aE
      replace g5 := Lib.hid g5
      replace hz5 := Lib.hid hz5
      replace zE := Lib.hid zE
      have hno : (¬ (i : Int) < (L.length : Int)) ∨ ((i : Int) < (L.length : Int) ∧ ¬ (i : Int) < 12) := by omega
      rcases hno with hno | ⟨hno, hno2⟩
      all_goals
        go_wp2_with fail
        exact made_tail rfl rfl g5.out zE.out l1.out b1.out (Nat.le_trans hz5.out (by omega))
    obtain ⟨hltL, hlt12⟩ := hlt
    have hki : (i : Int) < (L.length : Int) := by omega
    have hki2 : (i : Int) < 12 := by omega
    obtain ⟨ao5, ca5, bo5, cb5, as5, kd5, g5, hz5, -, lk5⟩ := KSt.open' hSi.out
    have hn5 := Lib.hid g5.n
    replace hz5 := Lib.hid hz5
    have hbits := hL1.out.below g5.low
    obtain ⟨bb, boff, rfl, c0, c1, c2, m0, m1, m2⟩ := hbits i hltL
    generalize L[i] = mm at *
    obtain ⟨p0, p1, p2⟩ := mm
    dsimp only at *
    replace g5 := Lib.hid g5
    clear hbits
    have hon := fun {W : World} {a : Addr} {v : Value} (b : Below wr.heap.size wr W) (hx : wr.cell? a = some v) => (b.cell (World.block_lt_of_cell? wr _ hx)).trans hx
    have hcw : Hid (∀ w', Below wr.heap.size wr w' → w'.cell? ⟨bb, boff + i * 3, none⟩ = some (.int .u8 (p0 : Int)) ∧ w'.cell? ⟨bb, boff + i * 3 + 1, none⟩ = some (.int .u8 (p1 : Int)) ∧ w'.cell? ⟨bb, boff + i * 3 + 2, none⟩ = some (.int .u8 (p2 : Int)) ∧ w'.cell? ⟨w2.heap.size, 4, none⟩ = some (.slice bo5 kd5.length cb5)) := Lib.hid (fun _ b => ⟨hon b c0, hon b c1, hon b c2, (hn5.out.on b).cell (i := 4) rfl⟩)
    clear hon
    go_upto_region 7 with fail
    refine wp_region_last (n := 10) (S := fun w' => w'.cell? ⟨bb, boff + i * 3, none⟩ = some (.int .u8 (p0 : Int)) ∧ w'.cell? ⟨bb, boff + i * 3 + 1, none⟩ = some (.int .u8 (p1 : Int)) ∧ w'.cell? ⟨bb, boff + i * 3 + 2, none⟩ = some (.int .u8 (p2 : Int)) ∧ w'.cell? ⟨w2.heap.size, 4, none⟩ = some (.slice bo5 kd5.length cb5)) (by kernel_rfl) (by rfl) (by rfl) (by rfl) (by rfl) (by kernel_rfl) (hcw.out _ (Below.refl _ _).drew) (fun hH => ?_)
    simp only [lastNop, nopOf, List.setIfInBounds_toArray, List.set_cons_succ, List.set_cons_zero]
    have hb0 := Lib.hid (Below.refl wr.heap.size wr).drew
    generalize wr.drew = v0 at *
    refine wpAnyH_take (i := 0) (v := .pointer (some ⟨w2.heap.size, 4, none⟩)) rfl (by kernel_rfl) (by kernel_rfl) (by kernel_rfl) (fun _ _ _ h => h) (Or.inl ⟨by rfl, ?_⟩) (by assumption) ?_
    · intro w' hSw; (try dsimp only at hSw); go_simp
    try simp only [Act.put, List.setIfInBounds_toArray, List.set_cons_zero, List.set_cons_succ]
    refine wpAnyH_take (i := 1) (v := .slice bo5 kd5.length cb5) rfl (by kernel_rfl) (by kernel_rfl) (by kernel_rfl) (fun _ _ _ h => h) (Or.inl ⟨by rfl, ?_⟩) (by assumption) ?_
    · intro w' hSw; (try dsimp only at hSw); go_simp
    try simp only [Act.put, List.setIfInBounds_toArray, List.set_cons_zero, List.set_cons_succ]
    refine wpAnyH_take (i := 2) (v := .slice (some ⟨bb, boff, none⟩) L.length cap) rfl (by kernel_rfl) (by kernel_rfl) (by kernel_rfl) (fun _ _ _ h => h) (Or.inl ⟨by rfl, ?_⟩) (by assumption) ?_
    · intro w' hSw; (try dsimp only at hSw); go_simp
    try simp only [Act.put, List.setIfInBounds_toArray, List.set_cons_zero, List.set_cons_succ]
    refine wpAnyH_take (i := 3) (v := .int .i64 (i : Int)) rfl (by kernel_rfl) (by kernel_rfl) (by kernel_rfl) (fun _ _ _ h => h) (Or.inl ⟨by rfl, ?_⟩) (by assumption) ?_
    · intro w' hSw; (try dsimp only at hSw); go_simp
    try simp only [Act.put, List.setIfInBounds_toArray, List.set_cons_zero, List.set_cons_succ]
    refine wpAnyH_take (i := 4) (v := .pointer (some ⟨bb, boff + i * 3, none⟩)) rfl (by kernel_rfl) (by kernel_rfl) (by kernel_rfl) (fun _ _ _ h => h) (Or.inl ⟨by rfl, ?_⟩) (by assumption) ?_
    · intro w' hSw; (try dsimp only at hSw); go_simp
    try simp only [Act.put, List.setIfInBounds_toArray, List.set_cons_zero, List.set_cons_succ]
    refine wpAnyH_take (i := 5) (v := .agg #[.int .u8 (p0 : Int), .int .u8 (p1 : Int), .int .u8 (p2 : Int)]) rfl (by kernel_rfl) (by kernel_rfl) (by kernel_rfl) (fun _ _ _ h => h) (Or.inl ⟨by rfl, ?_⟩) (by assumption) ?_
    · intro w' hSw; (try dsimp only at hSw); go_simp
    try simp only [Act.put, List.setIfInBounds_toArray, List.set_cons_zero, List.set_cons_succ]
    refine wpAnyH_ready (rs := [6]) (by kernel_rfl) (by simp) (AllReadyH.cons rfl (fun K hK => ?_) AllReadyH.nil)
    go_simp
    refine (kid_any p0 p1 p2 m0 m1 m2 v0).mono ?_
    rintro e v1 ⟨ba, c, n, rfl, hN, hw⟩
    obtain ⟨nk, nsp, nnm, nd, nas, nkd, nao, nbo, nca, ncb, ncs, hne, hce, -⟩ := hN.open'
    have hN1 := Lib.hid (hN.mono (S' := fun b => wr.heap.size ≤ b) (fun b hb _ => Nat.le_trans hb0.out.size hb))
    subst hce
    replace hne := Lib.hid hne
    replace hw := Lib.hid hw
    clear hN
    have hb1 := Lib.hid (hb0.out.trans (ba.mono hb0.out.size))
    refine hK.out _ _ (hcw.out _ hb1.out) (fun hH1 => ?_)
    clear hK K hH ba
    try simp only [Act.put, List.setIfInBounds_toArray, List.set_cons_zero, List.set_cons_succ]
    refine wpAnyH_ready (rs := [7]) (by kernel_rfl) (by simp) (AllReadyH.cons rfl (fun K hK => ?_) AllReadyH.nil)
    go_simp
    have ba := (Below.refl v1.heap.size v1).alloc (Nat.le_refl _) (.cells #[.int .i64 nk, .string nsp, .string nnm, .slice nao nas.length nca, .slice nbo nkd.length ncb, .string nd] 25)
    have hr := Lib.hid (am_cells_row v1 [.int .i64 nk, .string nsp, .string nnm, .slice nao nas.length nca, .slice nbo nkd.length ncb, .string nd] 25)
    have hN2 := Lib.hid (hN1.out.on ba)
    have hb2 := Lib.hid (hb1.out.trans (ba.mono hb1.out.size))
    refine hK.out _ _ (hcw.out _ hb2.out) (fun hH2 => ?_)
    clear hK K hH1 ba hN1
    generalize v1.alloc (.cells #[.int .i64 nk, .string nsp, .string nnm, .slice nao nas.length nca, .slice nbo nkd.length ncb, .string nd] 25) = v2 at *
    try simp only [Act.put, List.setIfInBounds_toArray, List.set_cons_zero, List.set_cons_succ]
    refine wpAnyH_ready (rs := [8]) (by kernel_rfl) (by simp) (AllReadyH.cons rfl (fun K hK => ?_) AllReadyH.nil)
    have gW := g5.out.on hb2.out
    have hlW := gW.n.lt
    obtain ⟨css, hcl, hown, hkd⟩ := gW.kid
    refine step_append_lies _ (by rfl) _ _ _ (by rfl) w1.heap.size 25 i0 _ 6 104 Tryz.underlying23 hi hz0 hz1 hz2 rfl (by decide) (.slice bo5 kd5.length cb5) kd5.length css.flatten (by rfl) hown ⟨v1.heap.size, 0, none⟩ 1 1 [.int .i64 nk, .string nsp, .string nnm, .slice nao nas.length nca, .slice nbo nkd.length ncb, .string nd] rfl rfl hr.out (by simp [Value.oneCell']) (by decide) (by unfold maxLen; omega) (by omega) (by have := gW.low.size; omega) _ rfl ?_
    intro gg cap5 v3 hown5 hg5 hat5 hlt5
    have nV : Cells v3 w2.heap.size 25 _ := (hg5.block w2.heap.size hlW gW.kb).trans gW.n
    have hbl : ∀ x, x < w1.heap.size → v3.heap[x]? = v2.heap[x]? := fun x hx => hg5.block x (by have := gW.low.size; omega) (fun e => by have := (World.ownsRow.lt hown x e.symm).1; omega)
    have hbw : bb < w1.heap.size := by
      obtain ⟨b', o', e', h', -⟩ := hL1.out i hltL
      injection e' with e'; injection e' with e' _ _
      rw [e']
      exact World.block_lt_of_cell? w1 _ h'
    have hsame : ∀ o, v3.cell? ⟨bb, o, none⟩ = v2.cell? ⟨bb, o, none⟩ := fun o => World.cell?_of_block (a := ⟨bb, o, none⟩) (hbl bb hbw)
    have hS2 := hcw.out _ hb2.out
    refine hK.out _ _ ⟨(hsame _).trans hS2.1, (hsame _).trans hS2.2.1, (hsame _).trans hS2.2.2.1, nV.cell (i := 4) rfl⟩ (fun hH3 => ?_)
    have nF := nV.free 4
    have nC := nV.cell (i := 4) rfl
    clear hK K hH2 nV hsame hbl hS2
    try simp only [Act.put, List.setIfInBounds_toArray, List.set_cons_zero, List.set_cons_succ]
    refine wpAnyH_take (i := 9) (v := .pointer (some ⟨w2.heap.size, 4, none⟩)) rfl (by kernel_rfl) (by kernel_rfl) (by kernel_rfl) (fun _ _ _ h => h) (Or.inl ⟨by rfl, ?_⟩) (by assumption) ?_
    · intro w' hSw; (try dsimp only at hSw); go_simp
    try simp only [Act.put, List.setIfInBounds_toArray, List.set_cons_zero, List.set_cons_succ]
    refine wpAnyH_take (i := 10) (v := .bool true) rfl (by kernel_rfl) (by kernel_rfl) (by kernel_rfl) (fun _ _ _ h => h) (Or.inl ⟨by rfl, ?_⟩) (by assumption) ?_
    · intro w' hSw; (try dsimp only at hSw); go_simp
    try simp only [Act.put, List.setIfInBounds_toArray, List.set_cons_zero, List.set_cons_succ]
    refine wpAnyH_done (by kernel_rfl) ?_ _
    show Oper.wp _ _ _ _ _ _
    go_simp
    have st9 : Hid (KSt w1 w2.heap.size ⟨#[101, 110, 116, 114, 121]⟩ (2000 + i * 3001 + (3000 + 1)) (v3.setCell ⟨w2.heap.size, 4, none⟩ (.slice (some ⟨gg, 0, none⟩) (kd5.length + 1) cap5))) := Lib.hid (KSt.moreKid gW hz5.out hw.out hcl hkd (kid_new g5.out hN2.out (Nat.le_refl _)) hown5 hg5 (hat5.imp (fun e => e.symm) (fun e => by rw [e]; first | rfl | simp [Value.ownBlock])))
    clear hown5 hg5 hat5 hlt5 hown hkd gW nC nF hcw
    generalize v3.setCell ⟨w2.heap.size, 4, none⟩ (.slice (some ⟨gg, 0, none⟩) (kd5.length + 1) cap5) = w9 at *
    go_wp2_with fail
    go_round
    case rel => exact ⟨i + 1, by go_num, by omega, Lib.hid (KSt.le st9.out (by omega))⟩
    case measure => simp [intOf]; omega
end Go.Proofs.YtbaclacfadkjdaaGreatDoor
namespace Go.Proofs.YtbaclacfadkjdaaGreatDoor
open Go.RowKit
theorem attW_mem {a : Gv.Att} : ∀ {l : List Gv.Att}, a ∈ l → Gv.attW a ≤ (l.map Gv.attW).sum
  | b :: l, h => by
    rcases List.mem_cons.1 h with rfl | h
    · simp
    · have := attW_mem h; simp; omega
theorem wt_mem_kids {n : Gv.Node} : ∀ {l : List Gv.Node}, n ∈ l → Gv.wt n ≤ Gv.wts l
  | m :: l, h => by
    simp only [Gv.wts]
    rcases List.mem_cons.1 h with rfl | h
    · omega
    · have := wt_mem_kids h; omega
theorem kids_count : ∀ l : List Gv.Node, l.length ≤ Gv.wts l
  | [] => Nat.zero_le _
  | n :: l => by have := kids_count l; have := Gv.wt_pos n; simp only [Gv.wts, List.length_cons]; omega
theorem wts_reverse : ∀ l : List Gv.Node, Gv.wts l.reverse = Gv.wts l
  | [] => rfl
  | n :: l => by
    rw [List.reverse_cons, wts_append, wts_reverse l]
    simp only [Gv.wts]
    omega
theorem sized_of_wt : ∀ (k : Nat) (n : Gv.Node), Gv.wt n ≤ k → k ≤ 100000000 → Sized n
  | 0, n, h, _ => by have := Gv.wt_pos n; omega
  | k + 1, .mk x sp nm as' kids d, h, hk => by
    rw [Gv.wt_mk] at h
    have hl := kids_count kids
    refine .mk (by omega) (by omega) (by omega) (by omega) (fun a ha => ?_) (fun n hn => ?_)
    · have h1 := attW_mem ha
      have h2 : Gv.attW a = a.space.size + a.name.size + a.value.size := rfl
      omega
    · have := wt_mem_kids hn
      exact sized_of_wt k n (by omega) (by omega)
structure Picked (w0 : World) (nb : Nat) (k : Int) (sp nm d : ByteArray) (as' : List Gv.Att) (kids : List Gv.Node) (ao : Option Addr) (ca : Nat) (bo : Option Addr) (cb : Nat) (cs : Nat → List Value) (w : World) : Prop where
  c : Cells w nb 25 (nodeArr k sp nm (.slice ao as'.length ca) (.slice bo kids.length cb) d)
  att : AttsAt (fun b => b < nb) w (.slice ao as'.length ca) as'
  row : RowsAt (fun b => b < nb) w (.slice bo kids.length cb) kids.length cs
  kid : ∀ j (h : j < kids.length), NodeAt (fun b => b < nb) w (cs j) kids[j]
  la : as'.length ≤ maxLen
  lk : kids.length ≤ maxLen
  z : Sized (.mk k sp nm as' kids d)
  low : Below w0.heap.size w0 w
theorem Picked.on {w0 w w' : World} {nb : Nat} {k : Int} {sp nm d : ByteArray} {as' : List Gv.Att} {kids : List Gv.Node} {ao : Option Addr} {ca : Nat} {bo : Option Addr} {cb : Nat} {cs : Nat → List Value} (h : Picked w0 nb k sp nm d as' kids ao ca bo cb cs w) (hb : Below w.heap.size w w') : Picked w0 nb k sp nm d as' kids ao ca bo cb cs w' :=
  ⟨h.c.on hb, h.att.stay (stay_below hb), h.row.stay (stay_below hb), fun j hj => (h.kid j hj).on hb, h.la, h.lk, h.z, h.low.trans (hb.mono h.low.size)⟩
theorem Picked.far {w0 w w' : World} {nb mb : Nat} {k : Int} {sp nm d : ByteArray} {as' : List Gv.Att} {kids : List Gv.Node} {ao : Option Addr} {ca : Nat} {bo : Option Addr} {cb : Nat} {cs : Nat → List Value} (h : Picked w0 nb k sp nm d as' kids ao ca bo cb cs w) (hb : Below mb w w') (hn : nb < mb) (h0 : w0.heap.size ≤ mb) : Picked w0 nb k sp nm d as' kids ao ca bo cb cs w' := by
  have st : Stay (fun b => b < nb) w w' := fun b o hlt _ => hb.cell (p := ⟨b, o, none⟩) (show b < mb by omega)
  exact ⟨(hb.block nb hn).trans h.c, h.att.stay st, h.row.stay st, fun j hj => (h.kid j hj).stay st, h.la, h.lk, h.z, h.low.trans (hb.mono h0)⟩
theorem Picked.nd {w0 w : World} {nb : Nat} {k : Int} {sp nm d : ByteArray} {as' : List Gv.Att} {kids : List Gv.Node} {ao : Option Addr} {ca : Nat} {bo : Option Addr} {cb : Nat} {cs : Nat → List Value} (h : Picked w0 nb k sp nm d as' kids ao ca bo cb cs w) : NodeAt (fun b => b < nb) w [.int .i64 k, .string sp, .string nm, .slice ao as'.length ca, .slice bo kids.length cb, .string d] (.mk k sp nm as' kids d) :=
  .mk cs ⟨h.la, h.lk⟩ h.att h.row h.kid
theorem picked_new {w0 w w' : World} {S : Nat → Prop} {nb : Nat} {k : Int} {sp nm d : ByteArray} {as' : List Gv.Att} {kids : List Gv.Node} {ao : Option Addr} {ca : Nat} {bo : Option Addr} {cb : Nat} {cs : Nat → List Value} (ha : AttsAt S w (.slice ao as'.length ca) as') (hr : RowsAt S w (.slice bo kids.length cb) kids.length cs) (hk : ∀ j (h : j < kids.length), NodeAt S w (cs j) kids[j]) (la : as'.length ≤ maxLen) (lk : kids.length ≤ maxLen) (hz : Sized (.mk k sp nm as' kids d))
    (hn : w.heap.size ≤ nb) (st : Stay (fun b => b < nb) w w') (hc : Cells w' nb 25 (nodeArr k sp nm (.slice ao as'.length ca) (.slice bo kids.length cb) d)) (hlow : Below w0.heap.size w0 w') : Picked w0 nb k sp nm d as' kids ao ca bo cb cs w' := by
  have up : ∀ b, S b → b < w.heap.size → b < nb := fun b _ hb => by omega
  exact ⟨hc, (ha.mono up).stay st, (hr.mono up).stay st, fun j hj => ((hk j hj).mono up).stay st, la, lk, hz, hlow⟩
structure Other (mb : Nat) (w0 : World) (k : Int) (sp nm d : ByteArray) (va vk : Value) (kids : List Gv.Node) (w : World) : Prop where
  c : Cells w mb 25 (nodeArr k sp nm va vk d)
  kid : OwnsKids (fun b => b < mb) (mb + 1) vk kids w
  low : Below mb w0 w
theorem Other.on {mb : Nat} {w0 w w' : World} {k : Int} {sp nm d : ByteArray} {va vk : Value} {kids : List Gv.Node} (h : Other mb w0 k sp nm d va vk kids w) (hb : Below w.heap.size w w') : Other mb w0 k sp nm d va vk kids w' :=
  ⟨h.c.on hb, h.kid.on hb, h.low.trans (hb.mono (Nat.le_of_lt h.c.lt))⟩
theorem Other.put {mb : Nat} {w0 w w' : World} {k : Int} {sp nm d : ByteArray} {va vk v' : Value} {kids kids' : List Gv.Node} (h : Other mb w0 k sp nm d va vk kids w) (hk : OwnsKids (fun b => b < mb) (mb + 1) v' kids' w') (hg : w.grownBy w' vk.ownBlock) : Other mb w0 k sp nm d va v' kids' (w'.setCell ⟨mb, 4, none⟩ v') := by
  have hlt := h.c.lt
  have hv : ∀ j, vk.ownBlock = some j → mb + 1 ≤ j := fun j e => by
    obtain ⟨css, _, h2, _⟩ := h.kid
    exact (World.ownsRow.lt h2 j e).1
  have hv' : ∀ j, v'.ownBlock = some j → mb + 1 ≤ j := fun j e => by
    obtain ⟨css, _, h2, _⟩ := hk
    exact (World.ownsRow.lt h2 j e).1
  have kn : Cells w' mb 25 (nodeArr k sp nm va vk d) := (hg.block mb hlt (fun e => by have := hv mb e.symm; omega)).trans h.c
  refine ⟨?_, hk.set (fun x => by omega) (fun e => by have := hv' mb e.symm; omega) 4 v', (h.low.grown hg (by omega) (fun j e => by have := hv j e; omega)).setCell (p := ⟨mb, 4, none⟩) (Nat.le_refl _) _⟩
  have := kn.set 4 v'
  simpa [nodeArr] using this
theorem Other.start {mb : Nat} {w0 w : World} {k : Int} {sp nm d : ByteArray} {va vk : Value} (hc : Cells w mb 25 (nodeArr k sp nm va vk d)) (hl : Below mb w0 w) : Other mb w0 k sp nm d va (.slice none 0 0) [] (w.setCell ⟨mb, 4, none⟩ (.slice none 0 0)) := by
  refine ⟨?_, kids_nil _ _ _, hl.setCell (p := ⟨mb, 4, none⟩) (Nat.le_refl _) _⟩
  have := hc.set 4 (.slice none 0 0)
  simpa [nodeArr] using this
theorem Other.node {mb : Nat} {w0 w : World} {k : Int} {sp nm d : ByteArray} {as' : List Gv.Att} {kids : List Gv.Node} {ao : Option Addr} {ca : Nat} {vk : Value} (h : Other mb w0 k sp nm d (.slice ao as'.length ca) vk kids w) (ha : AttsAt (fun b => b < mb) w0 (.slice ao as'.length ca) as') (la : as'.length ≤ maxLen) :
    ∃ bo cb, vk = .slice bo kids.length cb ∧ Nd w (nodeArr k sp nm (.slice ao as'.length ca) (.slice bo kids.length cb) d) (.mk k sp nm as' kids d) := by
  obtain ⟨bo, cb, cs, rfl, hr, hn, hl, _⟩ := (h.kid.mono (S' := fun _ => True) (fun _ _ _ => trivial)).rows (fun _ _ _ => trivial)
  have st : Stay (fun b => b < mb) w0 w := fun b o hlt _ => h.low.cell (p := ⟨b, o, none⟩) hlt
  exact ⟨bo, cb, rfl, fun _ => True, .mk cs ⟨la, hl⟩ ((ha.stay st).mono (fun _ _ _ => trivial)) hr hn⟩
end Go.Proofs.YtbaclacfadkjdaaGreatDoor
namespace Go.Proofs.YtbaclacfadkjdaaGreatDoor
open Go.ChangeShapes Go.WideShapes Go.ChangeAt Go.RowKit Go.Deep
set_option maxRecDepth 100000 in
theorem bit_open {H : Type} {enc : TypeId × Value → H} {W : World} {spare : Nat → Bool} {held : Bool} {n : Nat} {cs : List Value} {x : DataW H × List MemPlace}
    (h : DataW.trod enc Tryz.prog W 0 spare held n 36 cs = some x) :
    ∃ r : Nat × Nat × Nat, cs = [.int .u8 (r.1 : Int), .int .u8 (r.2.1 : Int), .int .u8 (r.2.2 : Int)] ∧ r.1 < 256 ∧ r.2.1 < 256 ∧ r.2.2 < 256 := by
  obtain ⟨y0, y1, y2, m, hx, hlen, h0, h1, h2⟩ := Deep.trod_struct3 Tryz.underlying36 h
  have c3 : Tryz.prog.cellsOf 36 = 3 := by kernel_rfl
  have c1 : Tryz.prog.cellsOf 5 = 1 := by kernel_rfl
  rw [c3] at hlen
  match cs, hlen with
  | [x0, x1, x2], _ =>
    simp only [c1] at h0 h1 h2
    obtain ⟨s0, e0, f0, z0⟩ := DataW.trod_int Tryz.underlying5 h0
    obtain ⟨s1, e1, f1, z1⟩ := DataW.trod_int Tryz.underlying5 h1
    obtain ⟨s2, e2, f2, z2⟩ := DataW.trod_int Tryz.underlying5 h2
    simp at e0 e1 e2
    subst e0; subst e1; subst e2
    obtain ⟨m0, rfl⟩ := Int.eq_ofNat_of_zero_le (bounds_u8 z0).1
    obtain ⟨m1, rfl⟩ := Int.eq_ofNat_of_zero_le (bounds_u8 z1).1
    obtain ⟨m2, rfl⟩ := Int.eq_ofNat_of_zero_le (bounds_u8 z2).1
    have b0 := (bounds_u8 z0).2
    have b1 := (bounds_u8 z1).2
    have b2 := (bounds_u8 z2).2
    exact ⟨(m0, m1, m2), rfl, by show m0 < 256; omega, by show m1 < 256; omega, by show m2 < 256; omega⟩
set_option maxRecDepth 100000 in
theorem bits_read {H : Type} {enc : TypeId × Value → H} {W : World} {spare : Nat → Bool} {held : Bool} {v : Value} {d : DataW H} {p : List MemPlace} (h : DataW.Trod enc Tryz.prog W 0 spare held 32 v d p) (hv : ∃ ao len cap, v = .slice ao len cap) :
    ∃ (ao : Option Addr) (cap : Nat) (L : List (Nat × Nat × Nat)), v = .slice ao L.length cap ∧ BitsIn W ao L ∧ L.length ≤ maxLen := by
  obtain ⟨ao', len', cap', rfl⟩ := hv
  obtain ⟨n, h⟩ := h
  rcases DataW.trod_slice (cs := [.slice ao' len' cap']) Tryz.underlying32 (by simpa [Value.cells] using h) with ⟨hcs, _⟩ | ⟨a', len, cap, elems, rest, m, _, hcs, hx, _, hl, hm, hel, hall, _, _⟩
  · simp at hcs
    obtain ⟨rfl, rfl, rfl⟩ := hcs
    exact ⟨none, 0, [], rfl, fun j hj => (by simp at hj), by simp⟩
  · simp at hcs
    obtain ⟨rfl, rfl, rfl⟩ := hcs
    have c3 : Tryz.prog.cellsOf 36 = 3 := by kernel_rfl
    have hrow : ∀ i, i < len' → ∃ r : Nat × Nat × Nat, (∀ j u, ([.int .u8 (r.1 : Int), .int .u8 (r.2.1 : Int), .int .u8 (r.2.2 : Int)] : List Value)[j]? = some u → W.cell? ((a'.add (i * 3)).add j) = some u) ∧ r.1 < 256 ∧ r.2.1 < 256 ∧ r.2.2 < 256 := fun i hi => by
      have hi' := hall i hi
      rw [List.getElem?_eq_getElem (by omega), Option.bind_eq_some_iff] at hi'
      obtain ⟨cs, hc, ht⟩ := hi'
      rw [c3] at hc
      obtain ⟨_, hat⟩ := row_at hc
      obtain ⟨r, e, z⟩ := bit_open ht
      exact ⟨r, fun j u hu => hat j u (by rw [e]; exact hu), z⟩
    obtain ⟨R, hR⟩ := choose_lt hrow
    refine ⟨some a', cap', (List.range len').map R, by simp, fun j hj => ?_, by simp; omega⟩
    have hj' : j < len' := by simpa using hj
    have h0 := (hR 0 (by omega)).1 0 _ rfl
    rw [Nat.zero_mul, add_zero', add_zero'] at h0
    obtain ⟨b, off, rfl⟩ := plain_of h0
    obtain ⟨q, z0, z1, z2⟩ := hR j hj'
    have q0 := q 0 _ rfl
    have q1 := q 1 _ rfl
    have q2 := q 2 _ rfl
    simp only [WideShapes.add_plain] at q0 q1 q2
    simp only [List.getElem_map, List.getElem_range]
    exact ⟨b, off, rfl, q0, q1, q2, z0, z1, z2⟩
set_option maxRecDepth 100000 in
theorem bit_read {H : Type} {enc : TypeId × Value → H} {W : World} {spare : Nat → Bool} {held : Bool} {base : Nat} {v : Value} {d : DataW H} {p : List MemPlace} (hv : Value.okWide Tryz.prog W .any base 36 v) (h : DataW.Trod enc Tryz.prog W 0 spare held 36 v d p) :
    ∃ r : Nat × Nat × Nat, v = .agg #[.int .u8 (r.1 : Int), .int .u8 (r.2.1 : Int), .int .u8 (r.2.2 : Int)] ∧ r.1 < 256 ∧ r.2.1 < 256 ∧ r.2.2 < 256 := by
  obtain ⟨cs, rfl, hsz⟩ := okWide_struct Tryz.underlying36 hv
  obtain ⟨fuel, hf⟩ := h
  obtain ⟨r, e, z⟩ := bit_open (cs := cs.toList) (by simpa [Value.cells] using hf)
  exact ⟨r, by rw [← e], z⟩
set_option maxRecDepth 100000 in
theorem kids_cap {H : Type} {enc : TypeId × Value → H} {W : World} {spare : Nat → Bool} {held : Bool} {c : List Value} {d : DataW H} {p : List MemPlace} (h : DataW.Trod enc Tryz.prog W 0 spare held 25 (.agg c.toArray) d p) :
    ∀ bo m cb, c[4]? = some (.slice bo m cb) → (bo = none → m = 0 ∧ cb = 0) ∧ m ≤ cb := by
  obtain ⟨fuel, hf⟩ := h
  have hf' : DataW.trod enc Tryz.prog W 0 spare held fuel 25 c = some (d, p) := by simpa [Value.cells] using hf
  obtain ⟨y0, y1, y2, y3, y4, y5, m, rfl, hx, hlen, h0, h1, h2, h3, h4, h5⟩ := trod_struct6 Tryz.underlying25 hf'
  have c6 : Tryz.prog.cellsOf 25 = 6 := by kernel_rfl
  have cn : Tryz.prog.cellsOf 23 = 1 := by kernel_rfl
  rw [c6] at hlen
  match c, hlen with
  | [x0, x1, x2, x3, x4, x5], _ =>
    simp only [cn] at h4
    intro bo n cb e
    obtain rfl : x4 = .slice bo n cb := by simpa using e
    rcases DataW.trod_slice (cs := [.slice bo n cb]) Tryz.underlying23 (by simpa using h4) with ⟨hcs, _⟩ | ⟨a', len, cap, elems, rest, m2, hm2, hcs, hx4, _, hl, _⟩
    · simp at hcs
      obtain ⟨rfl, rfl, rfl⟩ := hcs
      exact ⟨fun _ => ⟨rfl, rfl⟩, Nat.le_refl _⟩
    · simp at hcs
      obtain ⟨rfl, rfl, rfl⟩ := hcs
      exact ⟨fun x => (by cases x), hl⟩
end Go.Proofs.YtbaclacfadkjdaaGreatDoor
