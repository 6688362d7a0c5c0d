/-
  The program's own Strip.
  The program's own makers of what the server sets: element, editLink; hasUpdated.
-/
import Derived.Test.YtdhondndidoniaaGreatDoorG13
import Derived.Test.YtdhondndidoniaaGreatDoorG09
import Derived.Test.YtdhondndidoniaaGreatDoorG12
namespace Go.Proofs.YtdhondndidoniaaGreatDoor
open Go.RowKit
set_option linter.unusedVariables false

theorem OwnsKids.base {S : Nat → Prop} {B B' : Nat} {v : Value} {kids : List Gv.Node} {w : World} (h : OwnsKids S B v kids w) (hB : B' ≤ B) : OwnsKids S B' v kids w := by
  obtain ⟨css, h1, h2, h3⟩ := h
  refine ⟨css, h1, ⟨h2.1, ?_⟩, h3⟩
  rcases h2.2 with h | ⟨g, cap, cur, e, hb, r⟩
  · exact .inl h
  · exact .inr ⟨g, cap, cur, e, Nat.le_trans hB hb, r⟩

set_option maxRecDepth 100000 in
set_option maxHeartbeats 12800000 in
theorem ppStrip_at {S : Nat → Prop} (k : Int) (sp nm d : ByteArray) (as' : List Gv.Att) (kids : List Gv.Node) (ao bo : Option Addr) (ca cb : Nat) (w : World) (hk0 : KidsAt S w (.slice bo kids.length cb) kids) (hz : Gv.wt (.mk k sp nm as' kids d) ≤ 100000) :
    Calls Tryz.prog 12 #[.agg #[.int .i64 k, .string sp, .string nm, .slice ao as'.length ca, .slice bo kids.length cb, .string d]] w fun e w' => ∃ yo yc, e = .returned (.agg #[.int .i64 k, .string sp, .string nm, .slice ao as'.length ca, .slice yo (Pr.joined (Pr.left (.mk k sp nm as' kids d))).length yc, .string d]) ∧ OwnsKids (fun b => S b ∧ b < w.heap.size) w.heap.size (.slice yo (Pr.joined (Pr.left (.mk k sp nm as' kids d))).length yc) (Pr.joined (Pr.left (.mk k sp nm as' kids d))) w' ∧ Below w.heap.size w w' := by
  have b1 := ((Below.refl w.heap.size w).alloc (Nat.le_refl _) (.cells #[.int .i64 k, .string sp, .string nm, .slice ao as'.length ca, .slice bo kids.length cb, .string d] 27)).alloc (by simp) (.cells #[.int .i64 0, .string ⟨#[]⟩, .string ⟨#[]⟩, .slice none 0 0, .slice none 0 0, .string ⟨#[]⟩] 27)
  have C1 := Lib.hid ((Cells.new w 27 (nodeArr k sp nm (.slice ao as'.length ca) (.slice bo kids.length cb) d)).alloc (.cells #[.int .i64 0, .string ⟨#[]⟩, .string ⟨#[]⟩, .slice none 0 0, .slice none 0 0, .string ⟨#[]⟩] 27))
  have Z1 := Cells.new (w.alloc (.cells (nodeArr k sp nm (.slice ao as'.length ca) (.slice bo kids.length cb) d) 27)) 27 #[.int .i64 0, .string ⟨#[]⟩, .string ⟨#[]⟩, .slice none 0 0, .slice none 0 0, .string ⟨#[]⟩]
  rw [World.size_alloc] at Z1
  unfold nodeArr at C1 Z1
  have hkl : kids.length ≤ 100000 := by
    have h1 := Am.kids_wt (.mk k sp nm as' kids d)
    exact Nat.le_trans h1 hz
  have hkw : ∀ x ∈ kids, Gv.wt x ≤ 100000 := fun x hx => Nat.le_trans (Am.mem_kids (n := .mk k sp nm as' kids d) hx) hz
  obtain ⟨cs0, hr0, hn0⟩ := hk0
  have hkid := Lib.hid (KidsAt.on (w' := _) (show KidsAt (fun b => S b ∧ b < w.heap.size) w _ _ from ⟨cs0, hr0.mono fun b hb hl => ⟨hb, hl⟩, fun j hj => (hn0 j hj).mono fun b hb hl => ⟨hb, hl⟩⟩) b1)
  clear hr0 hn0
  go_enter Tryz.func12, Tryz.ntmps12
  go_upto_region 1 with fail
  have hw1 : w.heap.size + 2 = ((w.alloc (.cells #[.int .i64 k, .string sp, .string nm, .slice ao as'.length ca, .slice bo kids.length cb, .string d] 27)).alloc (.cells #[.int .i64 0, .string ⟨#[]⟩, .string ⟨#[]⟩, .slice none 0 0, .slice none 0 0, .string ⟨#[]⟩] 27)).heap.size := by simp
  generalize (w.alloc (.cells #[.int .i64 k, .string sp, .string nm, .slice ao as'.length ca, .slice bo kids.length cb, .string d] 27)).alloc (.cells #[.int .i64 0, .string ⟨#[]⟩, .string ⟨#[]⟩, .slice none 0 0, .slice none 0 0, .string ⟨#[]⟩] 27) = w1 at *
  have cc := Lib.hid (ppClients_any w1 (fun b hb => by have := hb.2; omega) hkid.out hkl hkw)
  replace hw1 := Lib.hid hw1
  replace b1 := Lib.hid b1
  replace Z1 := Lib.hid Z1
  replace hz := Lib.hid hz
  clear hkw hkid
  have x4 := C1.out.cell (i := 4) rfl
  go_wp2_with fail
  (refine cc.out.mono ?_); rintro e w4 ⟨v4, rfl, hO4, b4⟩
  obtain ⟨yo, yc, ycs, rfl, -⟩ := (hO4.mono (S' := fun _ => True) (fun _ _ _ => trivial)).rows (fun _ _ _ => trivial)
  obtain ⟨J, hJ⟩ : ∃ J, J = Pr.joined (kids.filter fun x => !Pr.own x) := ⟨_, rfl⟩
  rw [← hJ] at hO4 ⊢
  have hsz := hw1.out
  have hvb : ∀ x, (Value.slice yo J.length yc).ownBlock = some x → w.heap.size + 2 ≤ x := fun x e => by have := (World.ownsRow.lt hO4.choose_spec.2.1 x e).1; omega
  have O4 := C1.out.on b4
  have hO5 := Lib.hid (hO4.set (c := w.heap.size) (fun e => by have := e.2; omega) (fun e => by have := hvb _ e.symm; omega) 4 (.slice yo J.length yc))
  have O5 := Lib.hid (O4.set 4 (.slice yo J.length yc))
  have Z5 := Lib.hid ((Z1.out.on b4).other (c := w.heap.size) 4 (.slice yo J.length yc) (by omega))
  have B5 := Lib.hid ((b1.out.trans (b4.mono b1.out.size)).setCell (p := ⟨w.heap.size, 4, none⟩) (Nat.le_refl _) (.slice yo J.length yc))
  have nF := O4.free 4
  have nC := O4.cell (i := 4) rfl
  have hvb' := Lib.hid hvb
  replace hJ := Lib.hid hJ
  clear x4 cc hO4 b4 O4 C1 Z1 hvb hsz
  go_upto_region 2 with fail
  clear nF nC
  generalize w4.setCell ⟨w.heap.size, 4, none⟩ (.slice yo J.length yc) = w5 at *
  obtain ⟨x0, x1, x2, x3, x4, x5⟩ := node_open (show Cells w5 _ _ (nodeArr k sp nm (.slice ao as'.length ca) (.slice yo J.length yc) d) from O5.out)
  obtain ⟨z0, z1, z2, z3, z4, z5⟩ := node_open (show Cells w5 _ _ (nodeArr 0 ⟨#[]⟩ ⟨#[]⟩ (.slice none 0 0) (.slice none 0 0) ⟨#[]⟩) from Z5.out)
  have f0 := Z5.out.free 0
  have f1 := Z5.out.free 1
  have f2 := Z5.out.free 2
  have f3 := Z5.out.free 3
  have f4 := Z5.out.free 4
  have f5 := Z5.out.free 5
  have hF := Lib.hid (six_cells Z5.out (.int .i64 k) (.string sp) (.string nm) (.slice ao as'.length ca) (.slice yo J.length yc) (.string d))
  have hB := Lib.hid (six_below (b := w.heap.size + 1) B5.out (by omega) (.int .i64 k) (.string sp) (.string nm) (.slice ao as'.length ca) (.slice yo J.length yc) (.string d))
  have hn0 : ¬ (S (w.heap.size + 1) ∧ w.heap.size + 1 < w.heap.size) := fun e => by have := e.2; omega
  have hne0 : some (w.heap.size + 1) ≠ (Value.slice yo J.length yc).ownBlock := fun e => by have := hvb'.out _ e.symm; omega
  have hO6 := Lib.hid ((((((hO5.out.set hn0 hne0 0 (.int .i64 k)).set hn0 hne0 1 (.string sp)).set hn0 hne0 2 (.string nm)).set hn0 hne0 3 (.slice ao as'.length ca)).set hn0 hne0 4 (.slice yo J.length yc)).set hn0 hne0 5 (.string d))
  clear O5 Z5 hO5 hne0 hn0
  go_wp2_with fail
  refine node_end (i := 2) (rb := w.heap.size + 1) rfl rfl hF.out ?_
  rw [show Pr.joined (Pr.left (.mk k sp nm as' kids d)) = J from hJ.out.symm]
  exact ⟨yo, yc, rfl, hO6.out.base (by have := hw1.out; omega), hB.out⟩
theorem ppStrip_any (n : Gv.Node) {A : Array Value} (w : World) (h : Nd w A n) (hz : Gv.wt n ≤ 100000) :
    Calls Tryz.prog 12 #[.agg A] w fun e w' => ∃ A', e = .returned (.agg A') ∧ Nd w' A' (Pr.strip n) ∧ Below w.heap.size w w' := by
  obtain ⟨S, k, sp, nm, d, as', kids, ao, bo, ca, cb, rfl, rfl, ha, hk0, hla, hlk⟩ := h.form
  refine (ppStrip_at k sp nm d as' kids ao bo ca cb w hk0 hz).mono ?_
  rintro e w' ⟨yo, yc, rfl, hO, hB⟩
  refine ⟨_, rfl, ?_, hB⟩
  obtain ⟨bo6, cb6, cs6, e6, hr6, hn6, hl6, -⟩ := (hO.mono (S' := fun _ => True) (fun _ _ _ => trivial)).rows (fun _ _ _ => trivial)
  injection e6 with e7 _ e8
  subst e7; subst e8
  exact ⟨fun _ => True, .mk cs6 ⟨hla, hl6⟩ ((ha.stay (stay_below hB)).mono (fun _ _ _ => trivial)) hr6 hn6⟩
end Go.Proofs.YtdhondndidoniaaGreatDoor
namespace Go.Proofs.YtdhondndidoniaaGreatDoor
open Go.RowKit
set_option linter.unusedVariables false
set_option linter.unusedSimpArgs false

set_option maxRecDepth 100000 in
set_option maxHeartbeats 3200000 in
theorem ppEl_any (s nm text : ByteArray) (w : World) :
    Calls Tryz.prog 23 #[.string s, .string nm, .string text] w fun e w' => ∃ g, e = .returned (.agg (nodeArr 0 s nm (.slice none 0 0) (.slice (some ⟨g, 0, none⟩) 1 1) ⟨#[]⟩)) ∧ NodeAt (fun b => w.heap.size ≤ b) w' (nodeArr 0 s nm (.slice none 0 0) (.slice (some ⟨g, 0, none⟩) 1 1) ⟨#[]⟩).toList (Pr.el s nm text) ∧ Below w.heap.size w w' := by
  have hM : Hid (Pr.el s nm text = .mk 0 s nm [] [txtN text] ⟨#[]⟩) := Lib.hid rfl
  generalize Pr.el s nm text = M at *
  have Z := (Cells.new w 27 #[.int .i64 0, .string ⟨#[]⟩, .string ⟨#[]⟩, .slice none 0 0, .slice none 0 0, .string ⟨#[]⟩])
  have bZ := (Below.refl w.heap.size w).alloc (Nat.le_refl _) (.cells #[.int .i64 0, .string ⟨#[]⟩, .string ⟨#[]⟩, .slice none 0 0, .slice none 0 0, .string ⟨#[]⟩] 27)
  go_enter Tryz.func23, Tryz.ntmps23
  go_upto_region 1 with fail
  generalize w.alloc (.cells #[.int .i64 0, .string ⟨#[]⟩, .string ⟨#[]⟩, .slice none 0 0, .slice none 0 0, .string ⟨#[]⟩] 27) = w1 at *
  have hlt := Z.lt
  have T2 := Cells.new w1 27 #[.int .i64 1, .string ⟨#[]⟩, .string ⟨#[]⟩, .slice none 0 0, .slice none 0 0, .string text]
  have bT := (Below.refl w1.heap.size w1).alloc (Nat.le_refl _) (.cells #[.int .i64 1, .string ⟨#[]⟩, .string ⟨#[]⟩, .slice none 0 0, .slice none 0 0, .string text] 27)
  have Z2 := Z.on bT
  have b2 := bZ.trans (bT.mono bZ.size)
  obtain ⟨z0, z1, z2, z3, z4, z5⟩ := node_open (show Cells _ _ _ (nodeArr 0 ⟨#[]⟩ ⟨#[]⟩ (.slice none 0 0) (.slice none 0 0) ⟨#[]⟩) from Z2)
  have f0 := Z2.free 0
  have f1 := Z2.free 1
  have f2 := Z2.free 2
  have f3 := Z2.free 3
  have f4 := Z2.free 4
  have f5 := Z2.free 5
  have hF := Lib.hid (six_cells Z2 (.int .i64 0) (.string s) (.string nm) (.slice none 0 0) (.slice (some ⟨w1.heap.size, 0, none⟩) 1 1) (.string ⟨#[]⟩))
  have hB := Lib.hid (six_below b2 (Nat.le_refl _) (.int .i64 0) (.string s) (.string nm) (.slice none 0 0) (.slice (some ⟨w1.heap.size, 0, none⟩) 1 1) (.string ⟨#[]⟩))
  have hne : ¬ w1.heap.size = w.heap.size := by omega
  have hK := Lib.hid ((((((T2.other 0 (.int .i64 0) hne).other 1 (.string s) hne).other 2 (.string nm) hne).other 3 (.slice none 0 0) hne).other 4 (.slice (some ⟨w1.heap.size, 0, none⟩) 1 1) hne).other 5 (.string ⟨#[]⟩) hne)
  have hle := Lib.hid (show w.heap.size ≤ w1.heap.size by omega)
  clear Z2 Z bZ bT b2 T2 hne hlt
  go_wp2_with fail
  exact node_end (i := 6) (rb := w.heap.size) rfl rfl hF.out ⟨w1.heap.size, rfl, by rw [hM.out]; exact nd_mk (atts_nil _ _) (rows_one hK.out hle.out (node_plain _ _ 1 ⟨#[]⟩ ⟨#[]⟩ text)) (by unfold maxLen; simp) (by unfold maxLen; simp), hB.out⟩


set_option maxRecDepth 100000 in
set_option maxHeartbeats 3200000 in
theorem ppLink_any (t : ByteArray) (w : World) :
    Calls Tryz.prog 25 #[.string t] w fun e w' => ∃ g, e = .returned (.agg (nodeArr 0 ⟨#[104, 116, 116, 112, 58, 47, 47, 119, 119, 119, 46, 119, 51, 46, 111, 114, 103, 47, 50, 48, 48, 53, 47, 65, 116, 111, 109]⟩ ⟨#[108, 105, 110, 107]⟩ (.slice (some ⟨g, 0, none⟩) 2 2) (.slice none 0 0) ⟨#[]⟩)) ∧ NodeAt (fun b => w.heap.size ≤ b) w' (nodeArr 0 ⟨#[104, 116, 116, 112, 58, 47, 47, 119, 119, 119, 46, 119, 51, 46, 111, 114, 103, 47, 50, 48, 48, 53, 47, 65, 116, 111, 109]⟩ ⟨#[108, 105, 110, 107]⟩ (.slice (some ⟨g, 0, none⟩) 2 2) (.slice none 0 0) ⟨#[]⟩).toList (Pr.linkEl t) ∧ Below w.heap.size w w' := by
  have Z := (Cells.new w 27 #[.int .i64 0, .string ⟨#[]⟩, .string ⟨#[]⟩, .slice none 0 0, .slice none 0 0, .string ⟨#[]⟩])
  have bZ := (Below.refl w.heap.size w).alloc (Nat.le_refl _) (.cells #[.int .i64 0, .string ⟨#[]⟩, .string ⟨#[]⟩, .slice none 0 0, .slice none 0 0, .string ⟨#[]⟩] 27)
  go_enter Tryz.func25, Tryz.ntmps25
  go_upto_region 1 with fail
  generalize w.alloc (.cells #[.int .i64 0, .string ⟨#[]⟩, .string ⟨#[]⟩, .slice none 0 0, .slice none 0 0, .string ⟨#[]⟩] 27) = w1 at *
  have hlt := Z.lt
  have T2 := Cells.new w1 49 #[.string ⟨#[]⟩, .string ⟨#[114, 101, 108]⟩, .string ⟨#[101, 100, 105, 116]⟩, .string ⟨#[]⟩, .string ⟨#[104, 114, 101, 102]⟩, .string t]
  have bT := (Below.refl w1.heap.size w1).alloc (Nat.le_refl _) (.cells #[.string ⟨#[]⟩, .string ⟨#[114, 101, 108]⟩, .string ⟨#[101, 100, 105, 116]⟩, .string ⟨#[]⟩, .string ⟨#[104, 114, 101, 102]⟩, .string t] 49)
  have Z2 := Z.on bT
  have b2 := bZ.trans (bT.mono bZ.size)
  obtain ⟨z0, z1, z2, z3, z4, z5⟩ := node_open (show Cells _ _ _ (nodeArr 0 ⟨#[]⟩ ⟨#[]⟩ (.slice none 0 0) (.slice none 0 0) ⟨#[]⟩) from Z2)
  have f0 := Z2.free 0
  have f1 := Z2.free 1
  have f2 := Z2.free 2
  have f3 := Z2.free 3
  have f4 := Z2.free 4
  have f5 := Z2.free 5
  have hF := Lib.hid (six_cells Z2 (.int .i64 0) (.string ⟨#[104, 116, 116, 112, 58, 47, 47, 119, 119, 119, 46, 119, 51, 46, 111, 114, 103, 47, 50, 48, 48, 53, 47, 65, 116, 111, 109]⟩) (.string ⟨#[108, 105, 110, 107]⟩) (.slice (some ⟨w1.heap.size, 0, none⟩) 2 2) (.slice none 0 0) (.string ⟨#[]⟩))
  have hB := Lib.hid (six_below b2 (Nat.le_refl _) (.int .i64 0) (.string ⟨#[104, 116, 116, 112, 58, 47, 47, 119, 119, 119, 46, 119, 51, 46, 111, 114, 103, 47, 50, 48, 48, 53, 47, 65, 116, 111, 109]⟩) (.string ⟨#[108, 105, 110, 107]⟩) (.slice (some ⟨w1.heap.size, 0, none⟩) 2 2) (.slice none 0 0) (.string ⟨#[]⟩))
  have hne : ¬ w1.heap.size = w.heap.size := by omega
  have hK := Lib.hid ((((((T2.other 0 (.int .i64 0) hne).other 1 (.string ⟨#[104, 116, 116, 112, 58, 47, 47, 119, 119, 119, 46, 119, 51, 46, 111, 114, 103, 47, 50, 48, 48, 53, 47, 65, 116, 111, 109]⟩) hne).other 2 (.string ⟨#[108, 105, 110, 107]⟩) hne).other 3 (.slice (some ⟨w1.heap.size, 0, none⟩) 2 2) hne).other 4 (.slice none 0 0) hne).other 5 (.string ⟨#[]⟩) hne)
  have hle := Lib.hid (show w.heap.size ≤ w1.heap.size by omega)
  clear Z2 Z bZ bT b2 T2 hne hlt
  go_wp2_with fail
  exact node_end (i := 2) (rb := w.heap.size) rfl rfl hF.out ⟨w1.heap.size, rfl, link_at hK.out hle.out, hB.out⟩

theorem ppUpd1_any (n : Gv.Node) {A : Array Value} (w : World) (h : Nd w A n) :
    Calls Tryz.prog 52 #[.agg A] w fun e w' => e = .returned (.bool (Am.isEl n Am.atomS (Am.lit "updated"))) ∧ Below w.heap.size w w' := by
  have kU := fun W (hW : Nd W A n) => ppIs_any n ⟨#[104, 116, 116, 112, 58, 47, 47, 119, 119, 119, 46, 119, 51, 46, 111, 114, 103, 47, 50, 48, 48, 53, 47, 65, 116, 111, 109]⟩ ⟨#[117, 112, 100, 97, 116, 101, 100]⟩ W hW
  rw [am_atom, pr_updated] at kU
  obtain ⟨S, k, sp, nm, d, as', kids, ao, bo, ca, cb, hn, rfl, -, -, -, -⟩ := h.form
  have b1 := (Below.refl w.heap.size w).alloc (Nat.le_refl _) (.cells #[.int .i64 k, .string sp, .string nm, .slice ao as'.length ca, .slice bo kids.length cb, .string d] 27)
  have C0 := Lib.hid (Cells.new w 27 #[.int .i64 k, .string sp, .string nm, .slice ao as'.length ca, .slice bo kids.length cb, .string d])
  have cc := Lib.hid (kU _ (h.on b1))
  replace b1 := Lib.hid b1
  clear kU h hn
  go_enter Tryz.func52, Tryz.ntmps52
  go_upto_region 1 with fail
  generalize w.alloc (.cells #[.int .i64 k, .string sp, .string nm, .slice ao as'.length ca, .slice bo kids.length cb, .string d] 27) = w0 at *
  obtain ⟨x0, x1, x2, x3, x4, x5⟩ := node_open (show Cells _ _ _ (nodeArr k sp nm (.slice ao as'.length ca) (.slice bo kids.length cb) d) from C0.out)
  go_wp2_with fail
  (with_reducible refine (cc.out).mono ?_); rintro e w1 ⟨rfl, b2⟩
  have b3 := b1.out.trans (b2.mono b1.out.size)
  go_wp2_with fail
  go_ret
  exact ⟨rfl, b3⟩

theorem two_rows {S : Nat → Prop} {w : World} {g : Nat} {c d : List Value} {n m : Gv.Node} (hc : Cells w g 27 (c ++ d).toArray) (hn : NodeAt S w c n) (hm : NodeAt S w d m) : RowsAt (fun _ => True) w (.slice (some ⟨g, 0, none⟩) 2 2) 2 (fun j => if j = 0 then c else d) ∧ ∀ j (h : j < [n, m].length), NodeAt S w (if j = 0 then c else d) [n, m][j] := by
  have h6 := hn.six
  have h7 := hm.six
  refine ⟨⟨_, _, rfl, fun j hj => ?_⟩, fun j hj => ?_⟩
  · have hj0 : j = 0 ∨ j = 1 := by omega
    rcases hj0 with rfl | rfl
    · refine ⟨h6, g, 0, rfl, trivial, fun i u hu => ?_⟩
      have hu : c[i]? = some u := hu
      have hi := (List.getElem?_eq_some_iff.1 hu).1
      have := hc.cell (i := i) (v := u) (by rw [← Array.getElem?_toList]; rw [List.getElem?_append_left hi]; exact hu)
      simpa using this
    · refine ⟨h7, g, 0, rfl, trivial, fun i u hu => ?_⟩
      have hu : d[i]? = some u := hu
      have := hc.cell (i := 6 + i) (v := u) (by rw [← Array.getElem?_toList]; rw [List.getElem?_append_right (by omega)]; rw [show 6 + i - c.length = i by omega]; exact hu)
      simpa using this
  · have hj0 : j = 0 ∨ j = 1 := by simp at hj; omega
    rcases hj0 with rfl | rfl
    · exact hn
    · exact hm
theorem any_take {l : List Gv.Node} {p : Gv.Node → Bool} {j : Nat} (h : j < l.length) (h0 : (l.take j).any p = false) (h1 : p l[j] = false) : (l.take (j + 1)).any p = false := by
  rw [List.take_succ_eq_append_getElem h, List.any_append, h0]
  simp [h1]
theorem any_found {l : List Gv.Node} {p : Gv.Node → Bool} {j : Nat} (h : j < l.length) (h1 : p l[j] = true) : l.any p = true := List.any_eq_true.2 ⟨_, List.getElem_mem h, h1⟩

set_option maxRecDepth 100000 in
set_option maxHeartbeats 3200000 in
theorem ppIndex_any {S : Nat → Prop} {bo : Option Addr} {cb : Nat} {kids : List Gv.Node} (w : World) (hK : KidsAt S w (.slice bo kids.length cb) kids) (hlen : kids.length ≤ 1000000) :
    Calls Tryz.prog 97 #[.slice bo kids.length cb, .func (.func 52) #[] #[]] w fun e w' => ∃ i : Int, e = .returned (.int .i64 i) ∧ Hid (decide (0 ≤ i) = kids.any fun x => Am.isEl x Am.atomS (Am.lit "updated")) ∧ Below w.heap.size w w' := by
  replace hK := Lib.hid hK
  go_enter Tryz.func97, Tryz.ntmps97
  go_wp2_with fail
  go_loopw [8] (fun i wr => ∃ j : Nat, j ≤ kids.length ∧ i = .int .i64 (j : Int) ∧ Hid (((kids.take j).any fun x => Am.isEl x Am.atomS (Am.lit "updated")) = false) ∧ Hid (Below w.heap.size w wr)) (fun i _ => kids.length - (intOf i).toNat)
  case atStart => exact ⟨0, Nat.zero_le _, rfl, Lib.hid (by simp), Lib.hid (Below.refl _ _)⟩
  case round =>
    obtain ⟨j, hj, rfl, hD, bw⟩ := hrel
    by_cases hlt : j < kids.length
    case neg =>
      have hki : ¬ (j : Int) < (kids.length : Int) := by omega
      have hr : Hid ((kids.any fun x => Am.isEl x Am.atomS (Am.lit "updated")) = false) := Lib.hid (by have := hD.out; rwa [List.take_of_length_le (by omega)] at this)
      clear hD
      go_wp2_with fail
      go_ret
      exact ⟨-1, rfl, Lib.hid (by rw [hr.out]; rfl), bw.out⟩
    have hki : (j : Int) < (kids.length : Int) := by omega
    have hj0 : (0 : Int) ≤ (j : Int) := by omega
    have hm := Lib.hid (@any_take kids (fun x => Am.isEl x Am.atomS (Am.lit "updated")) j hlt hD.out)
    have hf := Lib.hid (@any_found kids (fun x => Am.isEl x Am.atomS (Am.lit "updated")) j hlt)
    obtain ⟨b, off, k2, sp2, nm2, d2, as2, kd2, po, qo, pc, qc, rfl, ek, p0, p1, p2, p3, p4, p5, hA2, hK2, hz1, hz2⟩ := (hK.out.on bw.out).kid hlt
    have hnd : Nd wr #[.int .i64 k2, .string sp2, .string nm2, .slice po as2.length pc, .slice qo kd2.length qc, .string d2] kids[j] := by
      rw [ek]
      exact ⟨_, nd_mk hA2 hK2 hz1 hz2⟩
    have cc := Lib.hid (ppUpd1_any kids[j] wr hnd)
    clear hA2 hK2 hz1 hz2 ek hnd hD
    generalize Am.isEl kids[j] Am.atomS (Am.lit "updated") = c1 at *
    go_wp2_with fail
    (with_reducible refine (cc.out).mono ?_); rintro e w2 ⟨rfl, b2⟩
    have B2 := Lib.hid (bw.out.trans (b2.mono bw.out.size))
    clear p0 p1 p2 p3 p4 p5 cc b2 bw
    cases c1 with
    | true =>
      have hr := Lib.hid (hf.out rfl)
      clear hm hf
      go_wp2_with fail
      go_ret
      exact ⟨(j : Int), rfl, Lib.hid (by rw [hr.out]; exact decide_eq_true hj0), B2.out⟩
    | false =>
      have hr := Lib.hid (hm.out rfl)
      clear hm hf
      go_wp2_with fail
      go_roundw
      case rel => exact ⟨j + 1, by omega, by go_num, hr, B2⟩
      case measure => simp [intOf]; omega

theorem ppHas_any {S : Nat → Prop} {bo : Option Addr} {cb : Nat} {kids : List Gv.Node} (w : World) (hK : KidsAt S w (.slice bo kids.length cb) kids) (hlen : kids.length ≤ 1000000) :
    Calls Tryz.prog 24 #[.slice bo kids.length cb] w fun e w' => e = .returned (.bool (kids.any fun x => Am.isEl x Am.atomS (Am.lit "updated"))) ∧ Below w.heap.size w w' := by
  have hc : Calls Tryz.prog 51 #[.slice bo kids.length cb, .func (.func 52) #[] #[]] w fun e w' => e = .returned (.bool (kids.any fun x => Am.isEl x Am.atomS (Am.lit "updated"))) ∧ Below w.heap.size w w' := by
    have cc := Lib.hid (ppIndex_any w hK hlen)
    generalize (kids.any fun x => Am.isEl x Am.atomS (Am.lit "updated")) = Q at *
    go_enter Tryz.func51, Tryz.ntmps51
    go_wp2_with fail
    (refine (cc.out).mono ?_); rintro e w1 ⟨i, rfl, hi, b1⟩
    go_wp2_with fail
    go_ret
    exact ⟨by rw [← hi.out]; rfl, b1⟩
  generalize (kids.any fun x => Am.isEl x Am.atomS (Am.lit "updated")) = Q at *
  replace hc := Lib.hid hc
  go_enter Tryz.func24, Tryz.ntmps24
  go_wp2_with fail
  (refine (hc.out).mono ?_); rintro e w1 ⟨rfl, b1⟩
  go_wp2_with fail
  go_ret
  exact ⟨rfl, b1⟩
end Go.Proofs.YtdhondndidoniaaGreatDoor
