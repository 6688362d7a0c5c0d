/-
  What the program's own Press comes to. (Printed by gen_pppress.py.)
-/
import Derived.Test.YtdhondndidoniaaGreatDoorG14
import Derived.Test.YtdhondndidoniaaGreatDoorG32
import Derived.Test.YtdhondndidoniaaGreatDoorG36
import Derived.Test.YtdhondndidoniaaGreatDoorG18
import Derived.Test.YtdhondndidoniaaGreatDoorG37
namespace Go.Proofs.YtdhondndidoniaaGreatDoor
open Go.RowKit
set_option linter.unusedVariables false
set_option linter.unusedSimpArgs false

theorem pp_end {R : Ending → World → Prop} {tmps : Array Value} {w : World} {rb : Nat} {k c : Int} {sp nm d : ByteArray} {va vk : Value} (hva : ∃ a b e, va = .slice a b e) (hvk : ∃ a b e, vk = .slice a b e)
    (h8 : tmps[8]? = some (.pointer (some ⟨rb, 0, none⟩))) (h9 : tmps[9]? = some (.int .i64 c)) (hc : Cells w rb 27 (nodeArr k sp nm va vk d))
    (hR : R (.returned (.tuple #[.agg (nodeArr k sp nm va vk d), .int .i64 c])) w) : bodyPost Tryz.prog Tryz.f8 R .ret { tmps := tmps, defers := [] } w := by
  obtain ⟨a1, a2, a3, rfl⟩ := hva
  obtain ⟨b1, b2, b3, rfl⟩ := hvk
  refine ⟨rfl, _, ?_, hR⟩
  have l8 : 8 < tmps.size := (Array.getElem?_eq_some_iff.1 h8).1
  have g8 : tmps[8] = .pointer (some ⟨rb, 0, none⟩) := (Array.getElem?_eq_some_iff.1 h8).2
  have l9 : 9 < tmps.size := (Array.getElem?_eq_some_iff.1 h9).1
  have g9 : tmps[9] = .int .i64 c := (Array.getElem?_eq_some_iff.1 h9).2
  obtain ⟨x0, x1, x2, x3, x4, x5⟩ := node_open hc
  simp [results, Tryz.results8, go_sem, l8, l9, g8, g9, x0, x1, x2, x3, x4, x5]
  rfl
theorem OwnsKids.lies {S : Nat → Prop} {B : Nat} {v : Value} {kids : List Gv.Node} {w : World} (h : OwnsKids S B v kids w) : KidsAt (fun _ => True) w v kids ∧ kids.length ≤ maxLen := by
  obtain ⟨bo6, cb6, cs6, e6, hr6, hn6, hl6, -⟩ := (h.mono (S' := fun _ => True) (fun _ _ _ => trivial)).rows (fun _ _ _ => trivial)
  exact ⟨⟨cs6, hr6, hn6⟩, hl6⟩
/-- An entry's box, whose kids grow; the result's box. -/
structure Pn (n₀ b0 rb B : Nat) (k : Int) (sp nm d : ByteArray) (va xv v : Value) (D : List Gv.Node) (Wr W : World) : Prop where
  cb : Cells W b0 27 #[.int .i64 k, .string sp, .string nm, va, xv, .string d]
  cr : Cells W rb 27 #[.int .i64 0, .string ⟨#[]⟩, .string ⟨#[]⟩, .slice none 0 0, .slice none 0 0, .string ⟨#[]⟩]
  ow : OwnsKids (fun b => b ≠ b0 ∧ b ≠ rb) B v D W
  kb : Below n₀ Wr W
  h0 : n₀ ≤ b0
  h1 : b0 < B
  h2 : n₀ ≤ rb
  h3 : rb < B
  h4 : b0 ≠ rb
  hB : B ≤ W.heap.size
section
variable {n₀ b0 rb B : Nat} {k : Int} {sp nm d : ByteArray} {va xv v : Value} {D : List Gv.Node} {Wr W W' : World}
theorem Pn.low (h : Pn n₀ b0 rb B k sp nm d va xv v D Wr W) : n₀ ≤ W.heap.size := Nat.le_trans h.h0 (Nat.le_of_lt h.cb.lt)
theorem Pn.own (h : Pn n₀ b0 rb B k sp nm d va xv v D Wr W) {j : Nat} (e : v.ownBlock = some j) : B ≤ j ∧ j < W.heap.size := by
  obtain ⟨css, _, hr, _⟩ := h.ow
  exact World.ownsRow.lt hr j e
theorem Pn.on (h : Pn n₀ b0 rb B k sp nm d va xv v D Wr W) (hb : Below W.heap.size W W') : Pn n₀ b0 rb B k sp nm d va xv v D Wr W' :=
  ⟨h.cb.on hb, h.cr.on hb, h.ow.on hb, h.kb.trans (hb.mono h.low), h.h0, h.h1, h.h2, h.h3, h.h4, Nat.le_trans h.hB hb.size⟩
theorem Pn.app (h : Pn n₀ b0 rb B k sp nm d va xv v D Wr W) {v' : Value} {D' : List Gv.Node} (ho : OwnsKids (fun b => b ≠ b0 ∧ b ≠ rb) B v' D' W') (hg : W.grownBy W' v.ownBlock) : Pn n₀ b0 rb B k sp nm d va xv v' D' Wr W' :=
  ⟨(hg.block b0 h.cb.lt (fun e => by have := (h.own e.symm).1; have := h.h1; omega)).trans h.cb, (hg.block rb h.cr.lt (fun e => by have := (h.own e.symm).1; have := h.h3; omega)).trans h.cr, ho, h.kb.grown hg h.low (fun j e => by have := (h.own e).1; have := h.h0; have := h.h1; omega), h.h0, h.h1, h.h2, h.h3, h.h4, Nat.le_trans h.hB hg.size⟩
theorem Pn.set (h : Pn n₀ b0 rb B k sp nm d va xv v D Wr W) (y : Value) : Pn n₀ b0 rb B k sp nm d va y v D Wr (W.setCell ⟨b0, 4, none⟩ y) :=
  ⟨h.cb.set 4 y, h.cr.other 4 y (fun e => h.h4 e.symm), h.ow.set (fun e => e.1 rfl) (fun e => by have := (h.own e.symm).1; have := h.h1; omega) 4 y, h.kb.setCell (p := ⟨b0, 4, none⟩) h.h0 y, h.h0, h.h1, h.h2, h.h3, h.h4, by rw [World.size_setCell]; exact h.hB⟩
end

set_option maxRecDepth 100000 in
set_option maxHeartbeats 12800000 in
theorem ppPress_any (n : Gv.Node) {A : Array Value} (id edit : ByteArray) (t : Int) (w : World) (h : Nd w A n) (hz : Gv.wt n ≤ 100000) (hi : id.size ≤ 100000) (he : edit.size ≤ 100000) (hE : Env w) :
    Calls Tryz.prog 8 #[.agg A, .string id, .string edit, .int .i64 t] w fun e w' => ∃ A', e = .returned (.tuple #[.agg A', .int .i64 (Pr.pressE n id edit t)]) ∧ Nd w' A' (Pr.pressN n id edit t) ∧ Below w.heap.size w w' := by
  have hPE : Hid (Pr.pressE n id edit t = if ckE n false ≠ 0 then ckE n false else if D.textE t 0 ≠ 0 then D.textE t 0 else if G.checkN id.data.toList ≠ 0 ∨ G.checkN edit.data.toList ≠ 0 ∨ id.data.toList = [] then 1 else 0) := Lib.hid rfl
  have hPN : Hid (Pr.pressE n id edit t ≠ 0 → Pr.pressN n id edit t = .mk 0 ⟨#[]⟩ ⟨#[]⟩ [] [] ⟨#[]⟩) := Lib.hid (fun h => Pr.pressN_err h)
  have hPY : Hid (Pr.pressE n id edit t = 0 → Pr.pressN n id edit t = Pr.press n id ⟨(D.text t 0).toArray⟩ edit) := Lib.hid (fun h => if_pos h)
  generalize Pr.pressN n id edit t = PN at *
  generalize Pr.pressE n id edit t = PE at *
  have kC := Lib.hid (fun W A (hW : Nd W A n) hE => aCheck_any n false W hW hz hE)
  have kP := Lib.hid (fun W hE => dPrint_any t 0 W hE)
  have kI := Lib.hid (fun W hE => gCheck_any id W (by omega) hE)
  have kE := Lib.hid (fun W hE => gCheck_any edit W (by omega) hE)
  generalize ckE n false = c1 at *
  generalize D.textE t 0 = c2 at *
  generalize (⟨(D.text t 0).toArray⟩ : ByteArray) = tx at *
  generalize G.checkN id.data.toList = c3 at *
  generalize G.checkN edit.data.toList = c4 at *
  replace hE := Lib.hid hE
  obtain ⟨S, k, sp, nm, d, as', kids, ao, bo, ca, cb, hn, rfl, ha, ⟨cs, hrow0, hk0⟩, hla, hlk⟩ := h.form
  have b1 := ((Below.refl w.heap.size w).alloc (Nat.le_refl _) (.cells #[.int .i64 k, .string sp, .string nm, .slice ao as'.length ca, .slice bo kids.length cb, .string d] 27)).alloc (by simp) (.cells #[.int .i64 0, .string ⟨#[]⟩, .string ⟨#[]⟩, .slice none 0 0, .slice none 0 0, .string ⟨#[]⟩] 27)
  have C1 := Lib.hid ((Cells.new w 27 #[.int .i64 k, .string sp, .string nm, .slice ao as'.length ca, .slice bo kids.length cb, .string d]).alloc (.cells #[.int .i64 0, .string ⟨#[]⟩, .string ⟨#[]⟩, .slice none 0 0, .slice none 0 0, .string ⟨#[]⟩] 27))
  have Z1 := Cells.new (w.alloc (.cells #[.int .i64 k, .string sp, .string nm, .slice ao as'.length ca, .slice bo kids.length cb, .string d] 27)) 27 #[.int .i64 0, .string ⟨#[]⟩, .string ⟨#[]⟩, .slice none 0 0, .slice none 0 0, .string ⟨#[]⟩]
  rw [World.size_alloc] at Z1
  have N1 := Lib.hid (h.on b1)
  have hatt := Lib.hid ((ha.mono (S' := fun b => b < w.heap.size) fun _ _ hl => hl))
  have hkid := Lib.hid (KidsAt.on (w' := _) (show KidsAt (fun b => b < w.heap.size) w _ _ from ⟨cs, hrow0.mono fun b _ hl => hl, fun j hj => (hk0 j hj).mono fun b _ hl => hl⟩) b1)
  clear h ha hrow0 hk0
  replace hz := Lib.hid hz
  replace hn := Lib.hid hn
  go_enter Tryz.func8, Tryz.ntmps8
  go_upto_region 1 with fail
  have hw1 : w.heap.size + 2 = ((w.alloc (.cells #[.int .i64 k, .string sp, .string nm, .slice ao as'.length ca, .slice bo kids.length cb, .string d] 27)).alloc (.cells #[.int .i64 0, .string ⟨#[]⟩, .string ⟨#[]⟩, .slice none 0 0, .slice none 0 0, .string ⟨#[]⟩] 27)).heap.size := by simp
  generalize (w.alloc (.cells #[.int .i64 k, .string sp, .string nm, .slice ao as'.length ca, .slice bo kids.length cb, .string d] 27)).alloc (.cells #[.int .i64 0, .string ⟨#[]⟩, .string ⟨#[]⟩, .slice none 0 0, .slice none 0 0, .string ⟨#[]⟩] 27) = w1 at *
  have hw1 := Lib.hid hw1
  replace b1 := Lib.hid b1
  replace Z1 := Lib.hid Z1
  obtain ⟨rb, hrb⟩ : ∃ rb, rb = w.heap.size + 1 := ⟨_, rfl⟩
  rw [← hrb] at Z1 ⊢
  have hrl : Hid (w.heap.size ≤ rb) := Lib.hid (by omega)
  replace hrb := Lib.hid hrb
  obtain ⟨x0, x1, x2, x3, x4, x5⟩ := node_open (show Cells _ _ _ (nodeArr k sp nm (.slice ao as'.length ca) (.slice bo kids.length cb) d) from C1.out)
  have cc := Lib.hid (kC.out w1 _ N1.out (hE.out.on b1.out))
  go_wp2_with fail
  (with_reducible refine (cc.out).mono ?_); rintro e w2 ⟨rfl, b⟩
  have C2 := Lib.hid (C1.out.on b)
  have Z2 := Lib.hid (Z1.out.on b)
  have N2 := Lib.hid (N1.out.on b)
  have b2 := Lib.hid (b1.out.trans (b.mono b1.out.size))
  have u12 := Lib.hid b
  clear x0 x1 x2 x3 x4 x5 cc b kC
  by_cases hc0 : c1 ≠ 0
  case pos =>
    have e0 : (c1 == 0) = false := beq_false_of_ne hc0
    have e1 : ¬ c1 = 0 := hc0
    have hpe : Hid (PE = c1) := Lib.hid (by rw [hPE.out, if_pos hc0])
    have hpn := Lib.hid (hPN.out (by rw [hpe.out]; first | exact hc0 | decide))
    replace hc0 := Lib.hid hc0
    clear hi he hla hlk
    go_upto_region 3 with fail
    obtain ⟨z0, z1, z2, z3, z4, z5⟩ := node_open (show Cells _ _ _ (nodeArr 0 ⟨#[]⟩ ⟨#[]⟩ (.slice none 0 0) (.slice none 0 0) ⟨#[]⟩) from Z2.out)
    have f0 := Z2.out.free 0
    have f1 := Z2.out.free 1
    have f2 := Z2.out.free 2
    have f3 := Z2.out.free 3
    have f4 := Z2.out.free 4
    have f5 := Z2.out.free 5
    have hF := Lib.hid (six_cells Z2.out (.int .i64 0) (.string ⟨#[]⟩) (.string ⟨#[]⟩) (.slice none 0 0) (.slice none 0 0) (.string ⟨#[]⟩))
    have hB := Lib.hid (six_below (b := rb) b2.out hrl.out (.int .i64 0) (.string ⟨#[]⟩) (.string ⟨#[]⟩) (.slice none 0 0) (.slice none 0 0) (.string ⟨#[]⟩))
    go_wp2_with fail
    exact pp_end (rb := rb) ⟨_, _, _, rfl⟩ ⟨_, _, _, rfl⟩ rfl rfl hF.out ⟨_, by rw [hpe.out], by rw [hpn.out]; exact ⟨fun _ => True, node_plain _ _ 0 ⟨#[]⟩ ⟨#[]⟩ ⟨#[]⟩⟩, hB.out⟩
  rw [Classical.not_not] at hc0
  subst hc0
  have cc := Lib.hid (kP.out w2 (hE.out.on b2.out))
  go_wp2_with fail
  (with_reducible refine (cc.out).mono ?_); rintro e w3 ⟨rfl, b⟩
  have C3 := Lib.hid (C2.out.on b)
  have Z3 := Lib.hid (Z2.out.on b)
  have N3 := Lib.hid (N2.out.on b)
  have b3 := Lib.hid (b2.out.trans (b.mono b2.out.size))
  have u13 := Lib.hid (u12.out.trans (b.mono u12.out.size))
  clear cc b kP u12
  by_cases hc0 : c2 ≠ 0
  case pos =>
    have e0 : (c2 == 0) = false := beq_false_of_ne hc0
    have e1 : ¬ c2 = 0 := hc0
    have hpe : Hid (PE = c2) := Lib.hid (by rw [hPE.out, if_neg (by decide), if_pos hc0])
    have hpn := Lib.hid (hPN.out (by rw [hpe.out]; first | exact hc0 | decide))
    replace hc0 := Lib.hid hc0
    clear hi he hla hlk
    go_upto_region 6 with fail
    obtain ⟨z0, z1, z2, z3, z4, z5⟩ := node_open (show Cells _ _ _ (nodeArr 0 ⟨#[]⟩ ⟨#[]⟩ (.slice none 0 0) (.slice none 0 0) ⟨#[]⟩) from Z3.out)
    have f0 := Z3.out.free 0
    have f1 := Z3.out.free 1
    have f2 := Z3.out.free 2
    have f3 := Z3.out.free 3
    have f4 := Z3.out.free 4
    have f5 := Z3.out.free 5
    have hF := Lib.hid (six_cells Z3.out (.int .i64 0) (.string ⟨#[]⟩) (.string ⟨#[]⟩) (.slice none 0 0) (.slice none 0 0) (.string ⟨#[]⟩))
    have hB := Lib.hid (six_below (b := rb) b3.out hrl.out (.int .i64 0) (.string ⟨#[]⟩) (.string ⟨#[]⟩) (.slice none 0 0) (.slice none 0 0) (.string ⟨#[]⟩))
    go_wp2_with fail
    exact pp_end (rb := rb) ⟨_, _, _, rfl⟩ ⟨_, _, _, rfl⟩ rfl rfl hF.out ⟨_, by rw [hpe.out], by rw [hpn.out]; exact ⟨fun _ => True, node_plain _ _ 0 ⟨#[]⟩ ⟨#[]⟩ ⟨#[]⟩⟩, hB.out⟩
  rw [Classical.not_not] at hc0
  subst hc0
  by_cases hid : id.data.toList = []
  case pos =>
    have e0 : (id.toList == []) = true := by rw [ByteArray.toList_eq]; simpa using hid
    have hpe : Hid (PE = 1) := Lib.hid (by rw [hPE.out, if_neg (by decide), if_neg (by decide), if_pos (.inr (.inr hid))])
    have hpn := Lib.hid (hPN.out (by rw [hpe.out]; first | exact hc0 | decide))
    replace hid := Lib.hid hid
    clear hi he hla hlk
    go_upto_region 8 with fail
    obtain ⟨z0, z1, z2, z3, z4, z5⟩ := node_open (show Cells _ _ _ (nodeArr 0 ⟨#[]⟩ ⟨#[]⟩ (.slice none 0 0) (.slice none 0 0) ⟨#[]⟩) from Z3.out)
    have f0 := Z3.out.free 0
    have f1 := Z3.out.free 1
    have f2 := Z3.out.free 2
    have f3 := Z3.out.free 3
    have f4 := Z3.out.free 4
    have f5 := Z3.out.free 5
    have hF := Lib.hid (six_cells Z3.out (.int .i64 0) (.string ⟨#[]⟩) (.string ⟨#[]⟩) (.slice none 0 0) (.slice none 0 0) (.string ⟨#[]⟩))
    have hB := Lib.hid (six_below (b := rb) b3.out hrl.out (.int .i64 0) (.string ⟨#[]⟩) (.string ⟨#[]⟩) (.slice none 0 0) (.slice none 0 0) (.string ⟨#[]⟩))
    go_wp2_with fail
    exact pp_end (rb := rb) ⟨_, _, _, rfl⟩ ⟨_, _, _, rfl⟩ rfl rfl hF.out ⟨_, by rw [hpe.out], by rw [hpn.out]; exact ⟨fun _ => True, node_plain _ _ 0 ⟨#[]⟩ ⟨#[]⟩ ⟨#[]⟩⟩, hB.out⟩
  have e0 : (id.toList == []) = false := by rw [ByteArray.toList_eq]; exact beq_false_of_ne hid
  have cc := Lib.hid (kI.out w3 (hE.out.on b3.out))
  go_wp2_with fail
  (with_reducible refine (cc.out).mono ?_); rintro e w4 ⟨rfl, b⟩
  have C4 := Lib.hid (C3.out.on b)
  have Z4 := Lib.hid (Z3.out.on b)
  have N4 := Lib.hid (N3.out.on b)
  have b4 := Lib.hid (b3.out.trans (b.mono b3.out.size))
  have u14 := Lib.hid (u13.out.trans (b.mono u13.out.size))
  clear cc b kI u13
  by_cases hc3 : c3 ≠ 0
  case pos =>
    have e3 : (c3 == 0) = false := beq_false_of_ne hc3
    have e4 : ¬ c3 = 0 := hc3
    have hpe : Hid (PE = 1) := Lib.hid (by rw [hPE.out, if_neg (by decide), if_neg (by decide), if_pos (.inl hc3)])
    have hpn := Lib.hid (hPN.out (by rw [hpe.out]; first | exact hc0 | decide))
    replace hc3 := Lib.hid hc3
    clear hi he hla hlk
    go_upto_region 8 with fail
    obtain ⟨z0, z1, z2, z3, z4, z5⟩ := node_open (show Cells _ _ _ (nodeArr 0 ⟨#[]⟩ ⟨#[]⟩ (.slice none 0 0) (.slice none 0 0) ⟨#[]⟩) from Z4.out)
    have f0 := Z4.out.free 0
    have f1 := Z4.out.free 1
    have f2 := Z4.out.free 2
    have f3 := Z4.out.free 3
    have f4 := Z4.out.free 4
    have f5 := Z4.out.free 5
    have hF := Lib.hid (six_cells Z4.out (.int .i64 0) (.string ⟨#[]⟩) (.string ⟨#[]⟩) (.slice none 0 0) (.slice none 0 0) (.string ⟨#[]⟩))
    have hB := Lib.hid (six_below (b := rb) b4.out hrl.out (.int .i64 0) (.string ⟨#[]⟩) (.string ⟨#[]⟩) (.slice none 0 0) (.slice none 0 0) (.string ⟨#[]⟩))
    go_wp2_with fail
    exact pp_end (rb := rb) ⟨_, _, _, rfl⟩ ⟨_, _, _, rfl⟩ rfl rfl hF.out ⟨_, by rw [hpe.out], by rw [hpn.out]; exact ⟨fun _ => True, node_plain _ _ 0 ⟨#[]⟩ ⟨#[]⟩ ⟨#[]⟩⟩, hB.out⟩
  rw [Classical.not_not] at hc3
  subst hc3
  have cc := Lib.hid (kE.out w4 (hE.out.on b4.out))
  go_wp2_with fail
  (with_reducible refine (cc.out).mono ?_); rintro e w5 ⟨rfl, b⟩
  have C5 := Lib.hid (C4.out.on b)
  have Z5 := Lib.hid (Z4.out.on b)
  have N5 := Lib.hid (N4.out.on b)
  have b5 := Lib.hid (b4.out.trans (b.mono b4.out.size))
  have u15 := Lib.hid (u14.out.trans (b.mono u14.out.size))
  clear cc b kE u14
  by_cases hc4 : c4 ≠ 0
  case pos =>
    have e3 : (c4 == 0) = false := beq_false_of_ne hc4
    have e4 : ¬ c4 = 0 := hc4
    have hpe : Hid (PE = 1) := Lib.hid (by rw [hPE.out, if_neg (by decide), if_neg (by decide), if_pos (.inr (.inl hc4))])
    have hpn := Lib.hid (hPN.out (by rw [hpe.out]; first | exact hc0 | decide))
    replace hc4 := Lib.hid hc4
    clear hi he hla hlk
    go_upto_region 8 with fail
    obtain ⟨z0, z1, z2, z3, z4, z5⟩ := node_open (show Cells _ _ _ (nodeArr 0 ⟨#[]⟩ ⟨#[]⟩ (.slice none 0 0) (.slice none 0 0) ⟨#[]⟩) from Z5.out)
    have f0 := Z5.out.free 0
    have f1 := Z5.out.free 1
    have f2 := Z5.out.free 2
    have f3 := Z5.out.free 3
    have f4 := Z5.out.free 4
    have f5 := Z5.out.free 5
    have hF := Lib.hid (six_cells Z5.out (.int .i64 0) (.string ⟨#[]⟩) (.string ⟨#[]⟩) (.slice none 0 0) (.slice none 0 0) (.string ⟨#[]⟩))
    have hB := Lib.hid (six_below (b := rb) b5.out hrl.out (.int .i64 0) (.string ⟨#[]⟩) (.string ⟨#[]⟩) (.slice none 0 0) (.slice none 0 0) (.string ⟨#[]⟩))
    go_wp2_with fail
    exact pp_end (rb := rb) ⟨_, _, _, rfl⟩ ⟨_, _, _, rfl⟩ rfl rfl hF.out ⟨_, by rw [hpe.out], by rw [hpn.out]; exact ⟨fun _ => True, node_plain _ _ 0 ⟨#[]⟩ ⟨#[]⟩ ⟨#[]⟩⟩, hB.out⟩
  rw [Classical.not_not] at hc4
  subst hc4
  have hpe : Hid (PE = 0) := Lib.hid (by rw [hPE.out, if_neg (by decide), if_neg (by decide), if_neg (by rintro (h | h | h); exact h rfl; exact h rfl; exact hid h)])
  have hpn := Lib.hid (hPY.out hpe.out)
  replace hid := Lib.hid hid
  clear hPE hPN hPY
  have cc := Lib.hid (ppStrip_at (S := fun b => b < w.heap.size) k sp nm d as' kids ao bo ca cb w5 (hkid.out.on u15.out) (by rw [← hn.out]; exact hz.out))
  have hpm := Lib.hid (Pr.press_mk k sp nm as' kids d id tx edit)
  have hup := Lib.hid (Pr.any_upd (.mk k sp nm as' kids d))
  rw [hn.out] at hpn
  obtain ⟨J, hJ⟩ : ∃ J, J = Pr.joined (Pr.left (.mk k sp nm as' kids d)) := ⟨_, rfl⟩
  rw [← hJ] at cc hpm hup
  obtain ⟨ub, hub⟩ : ∃ ub, ub = Pr.hasUpd (.mk k sp nm as' kids d) := ⟨_, rfl⟩
  rw [← hub] at hpm hup
  have hJl : J.length ≤ 100000 := by
    rw [hJ]
    refine Nat.le_trans (Pr.joined_len _) (Nat.le_trans (List.length_filter_le _ _) ?_)
    have h1 := Am.kids_wt (.mk k sp nm as' kids d)
    rw [← hn.out] at h1 ⊢
    exact Nat.le_trans h1 hz.out
  replace hJ := Lib.hid hJ
  replace hub := Lib.hid hub
  clear hkid hz
  obtain ⟨x0, x1, x2, x3, x4, x5⟩ := node_open (show Cells _ _ _ (nodeArr k sp nm (.slice ao as'.length ca) (.slice bo kids.length cb) d) from C5.out)
  go_wp2_with fail
  (refine cc.out.mono ?_); rintro e w6 ⟨yo, yc, rfl, hO, b⟩
  have hw5 := Lib.hid (show w.heap.size + 2 ≤ w5.heap.size by have h1 := u15.out.size; have h2 := hw1.out; omega)
  have hp0 : Hid (Pn w.heap.size w.heap.size rb w5.heap.size k sp nm d (.slice ao as'.length ca) (.slice yo J.length yc) (.slice yo J.length yc) J w _) := Lib.hid (⟨six_cells (C5.out.on b) (.int .i64 k) (.string sp) (.string nm) (.slice ao as'.length ca) (.slice yo J.length yc) (.string d), ((((((Z5.out.on b).other (c := w.heap.size) 0 (.int .i64 k) (by have := hrb.out; omega)).other (c := w.heap.size) 1 (.string sp) (by have := hrb.out; omega)).other (c := w.heap.size) 2 (.string nm) (by have := hrb.out; omega)).other (c := w.heap.size) 3 (.slice ao as'.length ca) (by have := hrb.out; omega)).other (c := w.heap.size) 4 (.slice yo J.length yc) (by have := hrb.out; omega)).other (c := w.heap.size) 5 (.string d) (by have := hrb.out; omega), by
      have hne : some w.heap.size ≠ (Value.slice yo J.length yc).ownBlock := fun e => by
        obtain ⟨css, _, hr, _⟩ := hO
        have := (World.ownsRow.lt hr _ e.symm).1
        have := hw5.out
        omega
      have hn0 : ¬ (w.heap.size < w.heap.size ∧ w.heap.size < w5.heap.size) := fun e => by omega
      exact ((((((hO.set hn0 hne 0 (.int .i64 k)).set hn0 hne 1 (.string sp)).set hn0 hne 2 (.string nm)).set hn0 hne 3 (.slice ao as'.length ca)).set hn0 hne 4 (.slice yo J.length yc)).set hn0 hne 5 (.string d)).mono fun b hb _ => by have := hb.1; have := hrb.out; exact ⟨by omega, by omega⟩, six_below (b := w.heap.size) (b5.out.trans (b.mono b5.out.size)) (Nat.le_refl _) (.int .i64 k) (.string sp) (.string nm) (.slice ao as'.length ca) (.slice yo J.length yc) (.string d), Nat.le_refl _, by have := hw5.out; omega, hrl.out, by have := hw5.out; have := hrb.out; omega, by have := hrb.out; omega, by simp only [World.size_setCell]; exact b.size⟩)
  have C6 := C5.out.on b
  obtain ⟨q0, q1, q2, q3, q4, q5⟩ := node_open (show Cells _ _ _ (nodeArr k sp nm (.slice ao as'.length ca) (.slice bo kids.length cb) d) from C6)
  have f0 := C6.free 0
  have f1 := C6.free 1
  have f2 := C6.free 2
  have f3 := C6.free 3
  have f4 := C6.free 4
  have f5 := C6.free 5
  clear x0 x1 x2 x3 x4 x5 cc hO b C6 C5 Z5 N5 b5 u15
  go_upto_region 10 with fail
  clear q0 q1 q2 q3 q4 q5 f0 f1 f2 f3 f4 f5
  generalize (((((w6.setCell ⟨w.heap.size, 0, none⟩ (.int .i64 k)).setCell ⟨w.heap.size, 1, none⟩ (.string sp)).setCell ⟨w.heap.size, 2, none⟩ (.string nm)).setCell ⟨w.heap.size, 3, none⟩ (.slice ao as'.length ca)).setCell ⟨w.heap.size, 4, none⟩ (.slice yo J.length yc)).setCell ⟨w.heap.size, 5, none⟩ (.string d) = t0 at *
  obtain ⟨B, hBe⟩ : ∃ B, B = w5.heap.size := ⟨_, rfl⟩
  rw [← hBe] at hp0
  clear hBe hw5
  go_upto_region 10 with fail
  refine wp_region_last (n := 7) (S := fun w' => w'.cell? ⟨w.heap.size, 4, none⟩ = some (.slice yo J.length yc)) (by kernel_rfl) (by rfl) (by rfl) (by rfl) (by rfl) (by kernel_rfl) (hp0.out.cb.cell (i := 4) rfl) (fun hSd => ?_)
  simp only [lastNop, nopOf, List.setIfInBounds_toArray, List.set_cons_succ, List.set_cons_zero]
  replace hp0 := Lib.hid (hp0.out.on (Below.refl _ _).drew)
  generalize t0.drew = s1 at *
  refine wpAnyH_take (i := 0) (v := .pointer (some ⟨w.heap.size, 4, none⟩)) rfl (by kernel_rfl) (by kernel_rfl) (by kernel_rfl) (fun _ _ _ h => h) (Or.inl ⟨by rfl, ?_⟩) (by assumption) ?_
  · intro w' hSw; (try dsimp only at hSw); go_simp
  try simp only [Act.put, List.setIfInBounds_toArray, List.set_cons_zero, List.set_cons_succ]
  refine wpAnyH_take (i := 1) (v := .slice yo J.length yc) rfl (by kernel_rfl) (by kernel_rfl) (by kernel_rfl) (fun _ _ _ h => h) (Or.inl ⟨by rfl, ?_⟩) (by assumption) ?_
  · intro w' hSw; (try dsimp only at hSw); go_simp
  try simp only [Act.put, List.setIfInBounds_toArray, List.set_cons_zero, List.set_cons_succ]
  refine wpAnyH_take (i := 2) (v := .string id) rfl (by kernel_rfl) (by kernel_rfl) (by kernel_rfl) (fun _ _ _ h => h) (Or.inl ⟨by rfl, ?_⟩) (by assumption) ?_
  · intro w' hSw; (try dsimp only at hSw); go_simp
  try simp only [Act.put, List.setIfInBounds_toArray, List.set_cons_zero, List.set_cons_succ]
  refine wpAnyH_ready (rs := [3]) (by kernel_rfl) (by simp) (AllReadyH.cons rfl (fun K hK => ?_) AllReadyH.nil)
  go_simp
  refine (ppEl_any ⟨#[104, 116, 116, 112, 58, 47, 47, 119, 119, 119, 46, 119, 51, 46, 111, 114, 103, 47, 50, 48, 48, 53, 47, 65, 116, 111, 109]⟩ ⟨#[105, 100]⟩ id s1).mono ?_; rintro e r1 ⟨g1, rfl, hN, ba⟩
  have hle := Lib.hid (show (rb < s1.heap.size ∧ w.heap.size < s1.heap.size) ∧ ∀ g, (Value.slice yo J.length yc).ownBlock = some g → g < s1.heap.size from ⟨⟨hp0.out.cr.lt, hp0.out.cb.lt⟩, fun g e => (hp0.out.own e).2⟩)
  replace hp0 := Lib.hid (hp0.out.on ba)
  refine hK.out _ _ (hp0.out.cb.cell (i := 4) rfl) (fun hH1a => ?_)
  clear hK K
  clear ba
  try simp only [Act.put, List.setIfInBounds_toArray, List.set_cons_zero, List.set_cons_succ]
  unfold nodeArr at hN
  try unfold nodeArr
  refine wpAnyH_ready (rs := [4]) (by kernel_rfl) (by simp) (AllReadyH.cons rfl (fun K hK => ?_) AllReadyH.nil)
  go_simp
  have ba := (Below.refl r1.heap.size r1).alloc (Nat.le_refl _) (.cells #[.int .i64 0, .string ⟨#[104, 116, 116, 112, 58, 47, 47, 119, 119, 119, 46, 119, 51, 46, 111, 114, 103, 47, 50, 48, 48, 53, 47, 65, 116, 111, 109]⟩, .string ⟨#[105, 100]⟩, .slice none 0 0, .slice (some ⟨g1, 0, none⟩) 1 1, .string ⟨#[]⟩] 27)
  have hG := Lib.hid (Cells.new r1 27 #[.int .i64 0, .string ⟨#[104, 116, 116, 112, 58, 47, 47, 119, 119, 119, 46, 119, 51, 46, 111, 114, 103, 47, 50, 48, 48, 53, 47, 65, 116, 111, 109]⟩, .string ⟨#[105, 100]⟩, .slice none 0 0, .slice (some ⟨g1, 0, none⟩) 1 1, .string ⟨#[]⟩])
  replace hN := hN.on ba
  replace hp0 := Lib.hid (hp0.out.on ba)
  refine hK.out _ _ (hp0.out.cb.cell (i := 4) rfl) (fun hH1b => ?_)
  clear hK K
  clear ba
  try simp only [Act.put, List.setIfInBounds_toArray, List.set_cons_zero, List.set_cons_succ]
  generalize r1.alloc (.cells #[.int .i64 0, .string ⟨#[104, 116, 116, 112, 58, 47, 47, 119, 119, 119, 46, 119, 51, 46, 111, 114, 103, 47, 50, 48, 48, 53, 47, 65, 116, 111, 109]⟩, .string ⟨#[105, 100]⟩, .slice none 0 0, .slice (some ⟨g1, 0, none⟩) 1 1, .string ⟨#[]⟩] 27) = m1 at *
  refine wpAnyH_ready (rs := [5]) (by kernel_rfl) (by simp) (AllReadyH.cons rfl (fun K hK => ?_) AllReadyH.nil)
  refine step_app_more (K2 := [Pr.el ⟨#[104, 116, 116, 112, 58, 47, 47, 119, 119, 119, 46, 119, 51, 46, 111, 114, 103, 47, 50, 48, 48, 53, 47, 65, 116, 111, 109]⟩ ⟨#[105, 100]⟩ id]) rfl _ _ rfl rfl hp0.out.ow rfl (node_row hG.out hN) rfl (fun j hj => by
    have hj0 : j = 0 := by simp at hj; exact hj
    subst hj0
    exact hN.mono fun b hb _ => ⟨⟨by have := hle.out.1; omega, by have := hle.out.1; omega⟩, fun e => by have := hle.out.2 _ e.symm; omega⟩) (fun e => (by cases e)) (by omega) hp0.out.hB ?_
  intro v' q1 hO hg hat
  obtain ⟨h1, c1, rfl⟩ := hO.full (by simp)
  obtain ⟨D1, hD1⟩ : ∃ D1, D1 = J ++ [Pr.el ⟨#[104, 116, 116, 112, 58, 47, 47, 119, 119, 119, 46, 119, 51, 46, 111, 114, 103, 47, 50, 48, 48, 53, 47, 65, 116, 111, 109]⟩ ⟨#[105, 100]⟩ id] := ⟨_, rfl⟩
  have hlD1 : D1.length ≤ 100012 := by rw [hD1]; simp; omega
  rw [← hD1] at hO hat ⊢
  replace hD1 := Lib.hid hD1
  have hp1 := Lib.hid (hp0.out.app hO hg)
  refine hK.out _ _ (hp1.out.cb.cell (i := 4) rfl) (fun hH1c => ?_)
  clear hK K
  clear hO hg hat hp0 hN hG hle
  try simp only [Act.put, List.setIfInBounds_toArray, List.set_cons_zero, List.set_cons_succ]
  refine wpAnyH_take (i := 6) (v := .pointer (some ⟨w.heap.size, 4, none⟩)) rfl (by kernel_rfl) (by kernel_rfl) (by kernel_rfl) (fun _ _ _ h => h) (Or.inl ⟨by rfl, ?_⟩) (by assumption) ?_
  · intro w' hSw; (try dsimp only at hSw); go_simp
  try simp only [Act.put, List.setIfInBounds_toArray, List.set_cons_zero, List.set_cons_succ]
  refine wpAnyH_take (i := 7) (v := .bool true) rfl (by kernel_rfl) (by kernel_rfl) (by kernel_rfl) (fun _ _ _ h => h) (Or.inl ⟨by rfl, ?_⟩) (by assumption) ?_
  · intro w' hSw; (try dsimp only at hSw); go_simp
  try simp only [Act.put, List.setIfInBounds_toArray, List.set_cons_zero, List.set_cons_succ]
  refine wpAnyH_done (by kernel_rfl) ?_ _
  show Oper.wp _ _ _ _ _ _
  have c4 := hp1.out.cb.cell (i := 4) rfl
  have f4 := hp1.out.cb.free 4
  replace hp1 := Lib.hid (hp1.out.set (.slice (some ⟨h1, 0, none⟩) D1.length c1))
  go_simp
  clear c4 f4
  generalize q1.setCell ⟨w.heap.size, 4, none⟩ (.slice (some ⟨h1, 0, none⟩) D1.length c1) = t1 at *
  have hany : Hid ((D1.any fun x => Am.isEl x Am.atomS (Am.lit "updated")) = ub) := Lib.hid (by rw [hD1.out, List.any_append, hup.out, Pr.id_lit, List.any_cons, Pr.id_no]; simp)
  obtain ⟨zo, zc, zcs, ze, zr, zk, zn⟩ := hp1.out.ow.parts2
  injection ze with ze1 _ ze3
  subst ze1; subst ze3
  have cc := Lib.hid (ppHas_any t1 (show KidsAt (fun _ => True) t1 _ _ from ⟨zcs, zr, fun j h => (zk j h).mono fun _ _ _ => trivial⟩) (by omega))
  clear zr zk zn zcs
  rw [hany.out] at cc
  clear hany hup
  have c4 := hp1.out.cb.cell (i := 4) rfl
  go_wp2_with fail
  (with_reducible refine (cc.out).mono ?_); rintro e t1' ⟨rfl, ba⟩
  clear c4 cc
  replace hp1 := Lib.hid (hp1.out.on ba)
  clear ba
  cases ub with
  | false =>
    go_upto_region 12 with fail
    refine wp_region_last (n := 7) (S := fun w' => w'.cell? ⟨w.heap.size, 4, none⟩ = some (.slice (some ⟨h1, 0, none⟩) D1.length c1)) (by kernel_rfl) (by rfl) (by rfl) (by rfl) (by rfl) (by kernel_rfl) (hp1.out.cb.cell (i := 4) rfl) (fun hSd => ?_)
    simp only [lastNop, nopOf, List.setIfInBounds_toArray, List.set_cons_succ, List.set_cons_zero]
    replace hp1 := Lib.hid (hp1.out.on (Below.refl _ _).drew)
    generalize t1'.drew = s2 at *
    refine wpAnyH_take (i := 0) (v := .pointer (some ⟨w.heap.size, 4, none⟩)) rfl (by kernel_rfl) (by kernel_rfl) (by kernel_rfl) (fun _ _ _ h => h) (Or.inl ⟨by rfl, ?_⟩) (by assumption) ?_
    · intro w' hSw; (try dsimp only at hSw); go_simp
    try simp only [Act.put, List.setIfInBounds_toArray, List.set_cons_zero, List.set_cons_succ]
    refine wpAnyH_take (i := 1) (v := .slice (some ⟨h1, 0, none⟩) D1.length c1) rfl (by kernel_rfl) (by kernel_rfl) (by kernel_rfl) (fun _ _ _ h => h) (Or.inl ⟨by rfl, ?_⟩) (by assumption) ?_
    · intro w' hSw; (try dsimp only at hSw); go_simp
    try simp only [Act.put, List.setIfInBounds_toArray, List.set_cons_zero, List.set_cons_succ]
    refine wpAnyH_take (i := 2) (v := .string tx) rfl (by kernel_rfl) (by kernel_rfl) (by kernel_rfl) (fun _ _ _ h => h) (Or.inl ⟨by rfl, ?_⟩) (by assumption) ?_
    · intro w' hSw; (try dsimp only at hSw); go_simp
    try simp only [Act.put, List.setIfInBounds_toArray, List.set_cons_zero, List.set_cons_succ]
    refine wpAnyH_ready (rs := [3]) (by kernel_rfl) (by simp) (AllReadyH.cons rfl (fun K hK => ?_) AllReadyH.nil)
    go_simp
    refine (ppEl_any ⟨#[104, 116, 116, 112, 58, 47, 47, 119, 119, 119, 46, 119, 51, 46, 111, 114, 103, 47, 50, 48, 48, 53, 47, 65, 116, 111, 109]⟩ ⟨#[117, 112, 100, 97, 116, 101, 100]⟩ tx s2).mono ?_; rintro e r2 ⟨g2, rfl, hN, ba⟩
    have hle := Lib.hid (show (rb < s2.heap.size ∧ w.heap.size < s2.heap.size) ∧ ∀ g, (Value.slice (some ⟨h1, 0, none⟩) D1.length c1).ownBlock = some g → g < s2.heap.size from ⟨⟨hp1.out.cr.lt, hp1.out.cb.lt⟩, fun g e => (hp1.out.own e).2⟩)
    replace hp1 := Lib.hid (hp1.out.on ba)
    refine hK.out _ _ (hp1.out.cb.cell (i := 4) rfl) (fun hH2a => ?_)
    clear hK K
    clear ba
    try simp only [Act.put, List.setIfInBounds_toArray, List.set_cons_zero, List.set_cons_succ]
    unfold nodeArr at hN
    try unfold nodeArr
    refine wpAnyH_ready (rs := [4]) (by kernel_rfl) (by simp) (AllReadyH.cons rfl (fun K hK => ?_) AllReadyH.nil)
    go_simp
    have ba := (Below.refl r2.heap.size r2).alloc (Nat.le_refl _) (.cells #[.int .i64 0, .string ⟨#[104, 116, 116, 112, 58, 47, 47, 119, 119, 119, 46, 119, 51, 46, 111, 114, 103, 47, 50, 48, 48, 53, 47, 65, 116, 111, 109]⟩, .string ⟨#[117, 112, 100, 97, 116, 101, 100]⟩, .slice none 0 0, .slice (some ⟨g2, 0, none⟩) 1 1, .string ⟨#[]⟩] 27)
    have hG := Lib.hid (Cells.new r2 27 #[.int .i64 0, .string ⟨#[104, 116, 116, 112, 58, 47, 47, 119, 119, 119, 46, 119, 51, 46, 111, 114, 103, 47, 50, 48, 48, 53, 47, 65, 116, 111, 109]⟩, .string ⟨#[117, 112, 100, 97, 116, 101, 100]⟩, .slice none 0 0, .slice (some ⟨g2, 0, none⟩) 1 1, .string ⟨#[]⟩])
    replace hN := hN.on ba
    replace hp1 := Lib.hid (hp1.out.on ba)
    refine hK.out _ _ (hp1.out.cb.cell (i := 4) rfl) (fun hH2b => ?_)
    clear hK K
    clear ba
    try simp only [Act.put, List.setIfInBounds_toArray, List.set_cons_zero, List.set_cons_succ]
    generalize r2.alloc (.cells #[.int .i64 0, .string ⟨#[104, 116, 116, 112, 58, 47, 47, 119, 119, 119, 46, 119, 51, 46, 111, 114, 103, 47, 50, 48, 48, 53, 47, 65, 116, 111, 109]⟩, .string ⟨#[117, 112, 100, 97, 116, 101, 100]⟩, .slice none 0 0, .slice (some ⟨g2, 0, none⟩) 1 1, .string ⟨#[]⟩] 27) = m2 at *
    refine wpAnyH_ready (rs := [5]) (by kernel_rfl) (by simp) (AllReadyH.cons rfl (fun K hK => ?_) AllReadyH.nil)
    refine step_app_more (K2 := [Pr.el ⟨#[104, 116, 116, 112, 58, 47, 47, 119, 119, 119, 46, 119, 51, 46, 111, 114, 103, 47, 50, 48, 48, 53, 47, 65, 116, 111, 109]⟩ ⟨#[117, 112, 100, 97, 116, 101, 100]⟩ tx]) rfl _ _ rfl rfl hp1.out.ow rfl (node_row hG.out hN) rfl (fun j hj => by
      have hj0 : j = 0 := by simp at hj; exact hj
      subst hj0
      exact hN.mono fun b hb _ => ⟨⟨by have := hle.out.1; omega, by have := hle.out.1; omega⟩, fun e => by have := hle.out.2 _ e.symm; omega⟩) (fun e => (by cases e)) (by omega) hp1.out.hB ?_
    intro v' q2 hO hg hat
    obtain ⟨h2, c2, rfl⟩ := hO.full (by simp)
    obtain ⟨D2, hD2⟩ : ∃ D2, D2 = D1 ++ [Pr.el ⟨#[104, 116, 116, 112, 58, 47, 47, 119, 119, 119, 46, 119, 51, 46, 111, 114, 103, 47, 50, 48, 48, 53, 47, 65, 116, 111, 109]⟩ ⟨#[117, 112, 100, 97, 116, 101, 100]⟩ tx] := ⟨_, rfl⟩
    have hlD2 : D2.length ≤ 100014 := by rw [hD2]; simp; omega
    rw [← hD2] at hO hat ⊢
    replace hD2 := Lib.hid hD2
    have hp2 := Lib.hid (hp1.out.app hO hg)
    refine hK.out _ _ (hp2.out.cb.cell (i := 4) rfl) (fun hH2c => ?_)
    clear hK K
    clear hO hg hat hp1 hN hG hle
    try simp only [Act.put, List.setIfInBounds_toArray, List.set_cons_zero, List.set_cons_succ]
    refine wpAnyH_take (i := 6) (v := .pointer (some ⟨w.heap.size, 4, none⟩)) rfl (by kernel_rfl) (by kernel_rfl) (by kernel_rfl) (fun _ _ _ h => h) (Or.inl ⟨by rfl, ?_⟩) (by assumption) ?_
    · intro w' hSw; (try dsimp only at hSw); go_simp
    try simp only [Act.put, List.setIfInBounds_toArray, List.set_cons_zero, List.set_cons_succ]
    refine wpAnyH_take (i := 7) (v := .bool true) rfl (by kernel_rfl) (by kernel_rfl) (by kernel_rfl) (fun _ _ _ h => h) (Or.inl ⟨by rfl, ?_⟩) (by assumption) ?_
    · intro w' hSw; (try dsimp only at hSw); go_simp
    try simp only [Act.put, List.setIfInBounds_toArray, List.set_cons_zero, List.set_cons_succ]
    refine wpAnyH_done (by kernel_rfl) ?_ _
    show Oper.wp _ _ _ _ _ _
    have c4 := hp2.out.cb.cell (i := 4) rfl
    have f4 := hp2.out.cb.free 4
    replace hp2 := Lib.hid (hp2.out.set (.slice (some ⟨h2, 0, none⟩) D2.length c2))
    go_simp
    clear c4 f4
    generalize q2.setCell ⟨w.heap.size, 4, none⟩ (.slice (some ⟨h2, 0, none⟩) D2.length c2) = t2 at *
    go_upto_region 13 with fail
    refine wp_region_last (n := 9) (S := fun w' => w'.cell? ⟨w.heap.size, 4, none⟩ = some (.slice (some ⟨h2, 0, none⟩) D2.length c2)) (by kernel_rfl) (by rfl) (by rfl) (by rfl) (by rfl) (by kernel_rfl) (hp2.out.cb.cell (i := 4) rfl) (fun hSd => ?_)
    simp only [lastNop, nopOf, List.setIfInBounds_toArray, List.set_cons_succ, List.set_cons_zero]
    replace hp2 := Lib.hid (hp2.out.on (Below.refl _ _).drew)
    generalize t2.drew = s3 at *
    refine wpAnyH_take (i := 0) (v := .pointer (some ⟨w.heap.size, 4, none⟩)) rfl (by kernel_rfl) (by kernel_rfl) (by kernel_rfl) (fun _ _ _ h => h) (Or.inl ⟨by rfl, ?_⟩) (by assumption) ?_
    · intro w' hSw; (try dsimp only at hSw); go_simp
    try simp only [Act.put, List.setIfInBounds_toArray, List.set_cons_zero, List.set_cons_succ]
    refine wpAnyH_take (i := 1) (v := .slice (some ⟨h2, 0, none⟩) D2.length c2) rfl (by kernel_rfl) (by kernel_rfl) (by kernel_rfl) (fun _ _ _ h => h) (Or.inl ⟨by rfl, ?_⟩) (by assumption) ?_
    · intro w' hSw; (try dsimp only at hSw); go_simp
    try simp only [Act.put, List.setIfInBounds_toArray, List.set_cons_zero, List.set_cons_succ]
    refine wpAnyH_take (i := 2) (v := .string tx) rfl (by kernel_rfl) (by kernel_rfl) (by kernel_rfl) (fun _ _ _ h => h) (Or.inl ⟨by rfl, ?_⟩) (by assumption) ?_
    · intro w' hSw; (try dsimp only at hSw); go_simp
    try simp only [Act.put, List.setIfInBounds_toArray, List.set_cons_zero, List.set_cons_succ]
    refine wpAnyH_take (i := 4) (v := .string edit) rfl (by kernel_rfl) (by kernel_rfl) (by kernel_rfl) (fun _ _ _ h => h) (Or.inl ⟨by rfl, ?_⟩) (by assumption) ?_
    · intro w' hSw; (try dsimp only at hSw); go_simp
    try simp only [Act.put, List.setIfInBounds_toArray, List.set_cons_zero, List.set_cons_succ]
    have hle := Lib.hid (show (rb < s3.heap.size ∧ w.heap.size < s3.heap.size) ∧ ∀ g, (Value.slice (some ⟨h2, 0, none⟩) D2.length c2).ownBlock = some g → g < s3.heap.size from ⟨⟨hp2.out.cr.lt, hp2.out.cb.lt⟩, fun g e => (hp2.out.own e).2⟩)
    refine wpAnyH_ready (rs := [3]) (by kernel_rfl) (by simp) (AllReadyH.cons rfl (fun K hK => ?_) AllReadyH.nil)
    go_simp
    refine (ppEl_any ⟨#[104, 116, 116, 112, 58, 47, 47, 119, 119, 119, 46, 119, 51, 46, 111, 114, 103, 47, 50, 48, 48, 55, 47, 97, 112, 112]⟩ ⟨#[101, 100, 105, 116, 101, 100]⟩ tx s3).mono ?_; rintro e u3 ⟨gE, rfl, hN1, ba⟩
    unfold nodeArr at hN1
    try unfold nodeArr
    have hsz := ba.size
    replace hp2 := Lib.hid (hp2.out.on ba)
    refine hK.out _ _ (hp2.out.cb.cell (i := 4) rfl) (fun hHa => ?_)
    clear hK K
    clear ba
    try simp only [Act.put, List.setIfInBounds_toArray, List.set_cons_zero, List.set_cons_succ]
    refine wpAnyH_ready (rs := [5]) (by kernel_rfl) (by simp) (AllReadyH.cons rfl (fun K hK => ?_) AllReadyH.nil)
    go_simp
    refine (ppLink_any edit u3).mono ?_; rintro e r3 ⟨gL, rfl, hN2, ba⟩
    unfold nodeArr at hN2
    try unfold nodeArr
    replace hN1 := hN1.on ba
    replace hp2 := Lib.hid (hp2.out.on ba)
    refine hK.out _ _ (hp2.out.cb.cell (i := 4) rfl) (fun hHb => ?_)
    clear hK K
    replace hN2 := hN2.mono (S' := fun b => s3.heap.size ≤ b) (fun b hb _ => Nat.le_trans hsz hb)
    clear ba hsz
    try simp only [Act.put, List.setIfInBounds_toArray, List.set_cons_zero, List.set_cons_succ]
    refine wpAnyH_ready (rs := [6]) (by kernel_rfl) (by simp) (AllReadyH.cons rfl (fun K hK => ?_) AllReadyH.nil)
    go_simp
    have ba := (Below.refl r3.heap.size r3).alloc (Nat.le_refl _) (.cells #[.int .i64 0, .string ⟨#[104, 116, 116, 112, 58, 47, 47, 119, 119, 119, 46, 119, 51, 46, 111, 114, 103, 47, 50, 48, 48, 55, 47, 97, 112, 112]⟩, .string ⟨#[101, 100, 105, 116, 101, 100]⟩, .slice none 0 0, .slice (some ⟨gE, 0, none⟩) 1 1, .string ⟨#[]⟩, .int .i64 0, .string ⟨#[104, 116, 116, 112, 58, 47, 47, 119, 119, 119, 46, 119, 51, 46, 111, 114, 103, 47, 50, 48, 48, 53, 47, 65, 116, 111, 109]⟩, .string ⟨#[108, 105, 110, 107]⟩, .slice (some ⟨gL, 0, none⟩) 2 2, .slice none 0 0, .string ⟨#[]⟩] 27)
    have hG := Lib.hid (Cells.new r3 27 #[.int .i64 0, .string ⟨#[104, 116, 116, 112, 58, 47, 47, 119, 119, 119, 46, 119, 51, 46, 111, 114, 103, 47, 50, 48, 48, 55, 47, 97, 112, 112]⟩, .string ⟨#[101, 100, 105, 116, 101, 100]⟩, .slice none 0 0, .slice (some ⟨gE, 0, none⟩) 1 1, .string ⟨#[]⟩, .int .i64 0, .string ⟨#[104, 116, 116, 112, 58, 47, 47, 119, 119, 119, 46, 119, 51, 46, 111, 114, 103, 47, 50, 48, 48, 53, 47, 65, 116, 111, 109]⟩, .string ⟨#[108, 105, 110, 107]⟩, .slice (some ⟨gL, 0, none⟩) 2 2, .slice none 0 0, .string ⟨#[]⟩])
    replace hN1 := hN1.on ba
    replace hN2 := hN2.on ba
    replace hp2 := Lib.hid (hp2.out.on ba)
    refine hK.out _ _ (hp2.out.cb.cell (i := 4) rfl) (fun hHc => ?_)
    clear hK K
    clear ba
    try simp only [Act.put, List.setIfInBounds_toArray, List.set_cons_zero, List.set_cons_succ]
    generalize r3.alloc (.cells #[.int .i64 0, .string ⟨#[104, 116, 116, 112, 58, 47, 47, 119, 119, 119, 46, 119, 51, 46, 111, 114, 103, 47, 50, 48, 48, 55, 47, 97, 112, 112]⟩, .string ⟨#[101, 100, 105, 116, 101, 100]⟩, .slice none 0 0, .slice (some ⟨gE, 0, none⟩) 1 1, .string ⟨#[]⟩, .int .i64 0, .string ⟨#[104, 116, 116, 112, 58, 47, 47, 119, 119, 119, 46, 119, 51, 46, 111, 114, 103, 47, 50, 48, 48, 53, 47, 65, 116, 111, 109]⟩, .string ⟨#[108, 105, 110, 107]⟩, .slice (some ⟨gL, 0, none⟩) 2 2, .slice none 0 0, .string ⟨#[]⟩] 27) = m3 at *
    refine wpAnyH_ready (rs := [7]) (by kernel_rfl) (by simp) (AllReadyH.cons rfl (fun K hK => ?_) AllReadyH.nil)
    obtain ⟨hR2, hN⟩ := two_rows (c := [.int .i64 0, .string ⟨#[104, 116, 116, 112, 58, 47, 47, 119, 119, 119, 46, 119, 51, 46, 111, 114, 103, 47, 50, 48, 48, 55, 47, 97, 112, 112]⟩, .string ⟨#[101, 100, 105, 116, 101, 100]⟩, .slice none 0 0, .slice (some ⟨gE, 0, none⟩) 1 1, .string ⟨#[]⟩]) (d := [.int .i64 0, .string ⟨#[104, 116, 116, 112, 58, 47, 47, 119, 119, 119, 46, 119, 51, 46, 111, 114, 103, 47, 50, 48, 48, 53, 47, 65, 116, 111, 109]⟩, .string ⟨#[108, 105, 110, 107]⟩, .slice (some ⟨gL, 0, none⟩) 2 2, .slice none 0 0, .string ⟨#[]⟩]) hG.out hN1 hN2
    refine step_app_more (K2 := [Pr.el ⟨#[104, 116, 116, 112, 58, 47, 47, 119, 119, 119, 46, 119, 51, 46, 111, 114, 103, 47, 50, 48, 48, 55, 47, 97, 112, 112]⟩ ⟨#[101, 100, 105, 116, 101, 100]⟩ tx, Pr.linkEl edit]) rfl _ _ rfl rfl hp2.out.ow rfl hR2 rfl (fun j hj => (hN j hj).mono fun b hb _ => ⟨⟨by have := hle.out.1; omega, by have := hle.out.1; omega⟩, fun e => by have := hle.out.2 _ e.symm; omega⟩) (fun e => (by cases e)) (by omega) hp2.out.hB ?_
    clear hR2 hN1 hN2
    intro v' q3 hO hg hat
    obtain ⟨h3, c3, rfl⟩ := hO.full (by simp)
    obtain ⟨D3, hD3⟩ : ∃ D3, D3 = D2 ++ [Pr.el ⟨#[104, 116, 116, 112, 58, 47, 47, 119, 119, 119, 46, 119, 51, 46, 111, 114, 103, 47, 50, 48, 48, 55, 47, 97, 112, 112]⟩ ⟨#[101, 100, 105, 116, 101, 100]⟩ tx, Pr.linkEl edit] := ⟨_, rfl⟩
    have hlD3 : D3.length ≤ 100016 := by rw [hD3]; simp; omega
    rw [← hD3] at hO hat ⊢
    replace hD3 := Lib.hid hD3
    have hp3 := Lib.hid (hp2.out.app hO hg)
    refine hK.out _ _ (hp3.out.cb.cell (i := 4) rfl) (fun hH3c => ?_)
    clear hK K
    clear hO hg hat hp2 hN hG hle
    try simp only [Act.put, List.setIfInBounds_toArray, List.set_cons_zero, List.set_cons_succ]
    refine wpAnyH_take (i := 8) (v := .pointer (some ⟨w.heap.size, 4, none⟩)) rfl (by kernel_rfl) (by kernel_rfl) (by kernel_rfl) (fun _ _ _ h => h) (Or.inl ⟨by rfl, ?_⟩) (by assumption) ?_
    · intro w' hSw; (try dsimp only at hSw); go_simp
    try simp only [Act.put, List.setIfInBounds_toArray, List.set_cons_zero, List.set_cons_succ]
    refine wpAnyH_take (i := 9) (v := .bool true) rfl (by kernel_rfl) (by kernel_rfl) (by kernel_rfl) (fun _ _ _ h => h) (Or.inl ⟨by rfl, ?_⟩) (by assumption) ?_
    · intro w' hSw; (try dsimp only at hSw); go_simp
    try simp only [Act.put, List.setIfInBounds_toArray, List.set_cons_zero, List.set_cons_succ]
    refine wpAnyH_done (by kernel_rfl) ?_ _
    show Oper.wp _ _ _ _ _ _
    have c4 := hp3.out.cb.cell (i := 4) rfl
    have f4 := hp3.out.cb.free 4
    replace hp3 := Lib.hid (hp3.out.set (.slice (some ⟨h3, 0, none⟩) D3.length c3))
    go_simp
    clear c4 f4
    generalize q3.setCell ⟨w.heap.size, 4, none⟩ (.slice (some ⟨h3, 0, none⟩) D3.length c3) = t3 at *
    have hlist : J ++ (Pr.idEl id :: (Pr.upd false tx ++ [Pr.edEl tx, Pr.linkEl edit])) = D3 := by
      rw [hD3.out, hD2.out, hD1.out, Pr.id_lit, Pr.ed_lit, Pr.upd_lit]
      exact Pr.list_no _ _ _ _ _
    have hfin : Hid (PN = .mk k sp nm as' D3 d) := Lib.hid (by rw [hpn.out, hpm.out, hlist])
    clear hlist
    go_upto_region 14 with fail
    obtain ⟨x0, x1, x2, x3, x4, x5⟩ := node_open (show Cells t3 _ _ (nodeArr k sp nm (.slice ao as'.length ca) (.slice (some ⟨h3, 0, none⟩) D3.length c3) d) from hp3.out.cb)
    obtain ⟨z0, z1, z2, z3, z4, z5⟩ := node_open (show Cells t3 _ _ (nodeArr 0 ⟨#[]⟩ ⟨#[]⟩ (.slice none 0 0) (.slice none 0 0) ⟨#[]⟩) from hp3.out.cr)
    have f0 := hp3.out.cr.free 0
    have f1 := hp3.out.cr.free 1
    have f2 := hp3.out.cr.free 2
    have f3 := hp3.out.cr.free 3
    have f4 := hp3.out.cr.free 4
    have f5 := hp3.out.cr.free 5
    have hF := Lib.hid (six_cells hp3.out.cr (.int .i64 k) (.string sp) (.string nm) (.slice ao as'.length ca) (.slice (some ⟨h3, 0, none⟩) D3.length c3) (.string d))
    have hB := Lib.hid (six_below (b := rb) hp3.out.kb hp3.out.h2 (.int .i64 k) (.string sp) (.string nm) (.slice ao as'.length ca) (.slice (some ⟨h3, 0, none⟩) D3.length c3) (.string d))
    have hne0 : some rb ≠ (Value.slice (some ⟨h3, 0, none⟩) D3.length c3).ownBlock := fun e => by have := (hp3.out.own e.symm).1; have := hp3.out.h3; omega
    have hO6 := Lib.hid ((((((hp3.out.ow.set (c := rb) (fun e => e.2 rfl) hne0 0 (.int .i64 k)).set (fun e => e.2 rfl) hne0 1 (.string sp)).set (fun e => e.2 rfl) hne0 2 (.string nm)).set (fun e => e.2 rfl) hne0 3 (.slice ao as'.length ca)).set (fun e => e.2 rfl) hne0 4 (.slice (some ⟨h3, 0, none⟩) D3.length c3)).set (fun e => e.2 rfl) hne0 5 (.string d))
    clear hp3 hne0
    go_wp2_with fail
    refine pp_end (rb := rb) ⟨_, _, _, rfl⟩ ⟨_, _, _, rfl⟩ rfl rfl hF.out ⟨_, by rw [hpe.out], ?_, hB.out⟩
    rw [hfin.out]
    exact ⟨fun _ => True, nd_mk ((hatt.out.stay (stay_below hB.out)).mono (fun _ _ _ => trivial)) hO6.out.lies.1 hla hO6.out.lies.2⟩
  | true =>
    go_upto_region 13 with fail
    refine wp_region_last (n := 9) (S := fun w' => w'.cell? ⟨w.heap.size, 4, none⟩ = some (.slice (some ⟨h1, 0, none⟩) D1.length c1)) (by kernel_rfl) (by rfl) (by rfl) (by rfl) (by rfl) (by kernel_rfl) (hp1.out.cb.cell (i := 4) rfl) (fun hSd => ?_)
    simp only [lastNop, nopOf, List.setIfInBounds_toArray, List.set_cons_succ, List.set_cons_zero]
    replace hp1 := Lib.hid (hp1.out.on (Below.refl _ _).drew)
    generalize t1'.drew = s3 at *
    refine wpAnyH_take (i := 0) (v := .pointer (some ⟨w.heap.size, 4, none⟩)) rfl (by kernel_rfl) (by kernel_rfl) (by kernel_rfl) (fun _ _ _ h => h) (Or.inl ⟨by rfl, ?_⟩) (by assumption) ?_
    · intro w' hSw; (try dsimp only at hSw); go_simp
    try simp only [Act.put, List.setIfInBounds_toArray, List.set_cons_zero, List.set_cons_succ]
    refine wpAnyH_take (i := 1) (v := .slice (some ⟨h1, 0, none⟩) D1.length c1) rfl (by kernel_rfl) (by kernel_rfl) (by kernel_rfl) (fun _ _ _ h => h) (Or.inl ⟨by rfl, ?_⟩) (by assumption) ?_
    · intro w' hSw; (try dsimp only at hSw); go_simp
    try simp only [Act.put, List.setIfInBounds_toArray, List.set_cons_zero, List.set_cons_succ]
    refine wpAnyH_take (i := 2) (v := .string tx) rfl (by kernel_rfl) (by kernel_rfl) (by kernel_rfl) (fun _ _ _ h => h) (Or.inl ⟨by rfl, ?_⟩) (by assumption) ?_
    · intro w' hSw; (try dsimp only at hSw); go_simp
    try simp only [Act.put, List.setIfInBounds_toArray, List.set_cons_zero, List.set_cons_succ]
    refine wpAnyH_take (i := 4) (v := .string edit) rfl (by kernel_rfl) (by kernel_rfl) (by kernel_rfl) (fun _ _ _ h => h) (Or.inl ⟨by rfl, ?_⟩) (by assumption) ?_
    · intro w' hSw; (try dsimp only at hSw); go_simp
    try simp only [Act.put, List.setIfInBounds_toArray, List.set_cons_zero, List.set_cons_succ]
    have hle := Lib.hid (show (rb < s3.heap.size ∧ w.heap.size < s3.heap.size) ∧ ∀ g, (Value.slice (some ⟨h1, 0, none⟩) D1.length c1).ownBlock = some g → g < s3.heap.size from ⟨⟨hp1.out.cr.lt, hp1.out.cb.lt⟩, fun g e => (hp1.out.own e).2⟩)
    refine wpAnyH_ready (rs := [3]) (by kernel_rfl) (by simp) (AllReadyH.cons rfl (fun K hK => ?_) AllReadyH.nil)
    go_simp
    refine (ppEl_any ⟨#[104, 116, 116, 112, 58, 47, 47, 119, 119, 119, 46, 119, 51, 46, 111, 114, 103, 47, 50, 48, 48, 55, 47, 97, 112, 112]⟩ ⟨#[101, 100, 105, 116, 101, 100]⟩ tx s3).mono ?_; rintro e u3 ⟨gE, rfl, hN1, ba⟩
    unfold nodeArr at hN1
    try unfold nodeArr
    have hsz := ba.size
    replace hp1 := Lib.hid (hp1.out.on ba)
    refine hK.out _ _ (hp1.out.cb.cell (i := 4) rfl) (fun hHa => ?_)
    clear hK K
    clear ba
    try simp only [Act.put, List.setIfInBounds_toArray, List.set_cons_zero, List.set_cons_succ]
    refine wpAnyH_ready (rs := [5]) (by kernel_rfl) (by simp) (AllReadyH.cons rfl (fun K hK => ?_) AllReadyH.nil)
    go_simp
    refine (ppLink_any edit u3).mono ?_; rintro e r3 ⟨gL, rfl, hN2, ba⟩
    unfold nodeArr at hN2
    try unfold nodeArr
    replace hN1 := hN1.on ba
    replace hp1 := Lib.hid (hp1.out.on ba)
    refine hK.out _ _ (hp1.out.cb.cell (i := 4) rfl) (fun hHb => ?_)
    clear hK K
    replace hN2 := hN2.mono (S' := fun b => s3.heap.size ≤ b) (fun b hb _ => Nat.le_trans hsz hb)
    clear ba hsz
    try simp only [Act.put, List.setIfInBounds_toArray, List.set_cons_zero, List.set_cons_succ]
    refine wpAnyH_ready (rs := [6]) (by kernel_rfl) (by simp) (AllReadyH.cons rfl (fun K hK => ?_) AllReadyH.nil)
    go_simp
    have ba := (Below.refl r3.heap.size r3).alloc (Nat.le_refl _) (.cells #[.int .i64 0, .string ⟨#[104, 116, 116, 112, 58, 47, 47, 119, 119, 119, 46, 119, 51, 46, 111, 114, 103, 47, 50, 48, 48, 55, 47, 97, 112, 112]⟩, .string ⟨#[101, 100, 105, 116, 101, 100]⟩, .slice none 0 0, .slice (some ⟨gE, 0, none⟩) 1 1, .string ⟨#[]⟩, .int .i64 0, .string ⟨#[104, 116, 116, 112, 58, 47, 47, 119, 119, 119, 46, 119, 51, 46, 111, 114, 103, 47, 50, 48, 48, 53, 47, 65, 116, 111, 109]⟩, .string ⟨#[108, 105, 110, 107]⟩, .slice (some ⟨gL, 0, none⟩) 2 2, .slice none 0 0, .string ⟨#[]⟩] 27)
    have hG := Lib.hid (Cells.new r3 27 #[.int .i64 0, .string ⟨#[104, 116, 116, 112, 58, 47, 47, 119, 119, 119, 46, 119, 51, 46, 111, 114, 103, 47, 50, 48, 48, 55, 47, 97, 112, 112]⟩, .string ⟨#[101, 100, 105, 116, 101, 100]⟩, .slice none 0 0, .slice (some ⟨gE, 0, none⟩) 1 1, .string ⟨#[]⟩, .int .i64 0, .string ⟨#[104, 116, 116, 112, 58, 47, 47, 119, 119, 119, 46, 119, 51, 46, 111, 114, 103, 47, 50, 48, 48, 53, 47, 65, 116, 111, 109]⟩, .string ⟨#[108, 105, 110, 107]⟩, .slice (some ⟨gL, 0, none⟩) 2 2, .slice none 0 0, .string ⟨#[]⟩])
    replace hN1 := hN1.on ba
    replace hN2 := hN2.on ba
    replace hp1 := Lib.hid (hp1.out.on ba)
    refine hK.out _ _ (hp1.out.cb.cell (i := 4) rfl) (fun hHc => ?_)
    clear hK K
    clear ba
    try simp only [Act.put, List.setIfInBounds_toArray, List.set_cons_zero, List.set_cons_succ]
    generalize r3.alloc (.cells #[.int .i64 0, .string ⟨#[104, 116, 116, 112, 58, 47, 47, 119, 119, 119, 46, 119, 51, 46, 111, 114, 103, 47, 50, 48, 48, 55, 47, 97, 112, 112]⟩, .string ⟨#[101, 100, 105, 116, 101, 100]⟩, .slice none 0 0, .slice (some ⟨gE, 0, none⟩) 1 1, .string ⟨#[]⟩, .int .i64 0, .string ⟨#[104, 116, 116, 112, 58, 47, 47, 119, 119, 119, 46, 119, 51, 46, 111, 114, 103, 47, 50, 48, 48, 53, 47, 65, 116, 111, 109]⟩, .string ⟨#[108, 105, 110, 107]⟩, .slice (some ⟨gL, 0, none⟩) 2 2, .slice none 0 0, .string ⟨#[]⟩] 27) = m3 at *
    refine wpAnyH_ready (rs := [7]) (by kernel_rfl) (by simp) (AllReadyH.cons rfl (fun K hK => ?_) AllReadyH.nil)
    obtain ⟨hR2, hN⟩ := two_rows (c := [.int .i64 0, .string ⟨#[104, 116, 116, 112, 58, 47, 47, 119, 119, 119, 46, 119, 51, 46, 111, 114, 103, 47, 50, 48, 48, 55, 47, 97, 112, 112]⟩, .string ⟨#[101, 100, 105, 116, 101, 100]⟩, .slice none 0 0, .slice (some ⟨gE, 0, none⟩) 1 1, .string ⟨#[]⟩]) (d := [.int .i64 0, .string ⟨#[104, 116, 116, 112, 58, 47, 47, 119, 119, 119, 46, 119, 51, 46, 111, 114, 103, 47, 50, 48, 48, 53, 47, 65, 116, 111, 109]⟩, .string ⟨#[108, 105, 110, 107]⟩, .slice (some ⟨gL, 0, none⟩) 2 2, .slice none 0 0, .string ⟨#[]⟩]) hG.out hN1 hN2
    refine step_app_more (K2 := [Pr.el ⟨#[104, 116, 116, 112, 58, 47, 47, 119, 119, 119, 46, 119, 51, 46, 111, 114, 103, 47, 50, 48, 48, 55, 47, 97, 112, 112]⟩ ⟨#[101, 100, 105, 116, 101, 100]⟩ tx, Pr.linkEl edit]) rfl _ _ rfl rfl hp1.out.ow rfl hR2 rfl (fun j hj => (hN j hj).mono fun b hb _ => ⟨⟨by have := hle.out.1; omega, by have := hle.out.1; omega⟩, fun e => by have := hle.out.2 _ e.symm; omega⟩) (fun e => (by cases e)) (by omega) hp1.out.hB ?_
    clear hR2 hN1 hN2
    intro v' q3 hO hg hat
    obtain ⟨h3, c3, rfl⟩ := hO.full (by simp)
    obtain ⟨D3, hD3⟩ : ∃ D3, D3 = D1 ++ [Pr.el ⟨#[104, 116, 116, 112, 58, 47, 47, 119, 119, 119, 46, 119, 51, 46, 111, 114, 103, 47, 50, 48, 48, 55, 47, 97, 112, 112]⟩ ⟨#[101, 100, 105, 116, 101, 100]⟩ tx, Pr.linkEl edit] := ⟨_, rfl⟩
    have hlD3 : D3.length ≤ 100016 := by rw [hD3]; simp; omega
    rw [← hD3] at hO hat ⊢
    replace hD3 := Lib.hid hD3
    have hp3 := Lib.hid (hp1.out.app hO hg)
    refine hK.out _ _ (hp3.out.cb.cell (i := 4) rfl) (fun hH3c => ?_)
    clear hK K
    clear hO hg hat hp1 hN hG hle
    try simp only [Act.put, List.setIfInBounds_toArray, List.set_cons_zero, List.set_cons_succ]
    refine wpAnyH_take (i := 8) (v := .pointer (some ⟨w.heap.size, 4, none⟩)) rfl (by kernel_rfl) (by kernel_rfl) (by kernel_rfl) (fun _ _ _ h => h) (Or.inl ⟨by rfl, ?_⟩) (by assumption) ?_
    · intro w' hSw; (try dsimp only at hSw); go_simp
    try simp only [Act.put, List.setIfInBounds_toArray, List.set_cons_zero, List.set_cons_succ]
    refine wpAnyH_take (i := 9) (v := .bool true) rfl (by kernel_rfl) (by kernel_rfl) (by kernel_rfl) (fun _ _ _ h => h) (Or.inl ⟨by rfl, ?_⟩) (by assumption) ?_
    · intro w' hSw; (try dsimp only at hSw); go_simp
    try simp only [Act.put, List.setIfInBounds_toArray, List.set_cons_zero, List.set_cons_succ]
    refine wpAnyH_done (by kernel_rfl) ?_ _
    show Oper.wp _ _ _ _ _ _
    have c4 := hp3.out.cb.cell (i := 4) rfl
    have f4 := hp3.out.cb.free 4
    replace hp3 := Lib.hid (hp3.out.set (.slice (some ⟨h3, 0, none⟩) D3.length c3))
    go_simp
    clear c4 f4
    generalize q3.setCell ⟨w.heap.size, 4, none⟩ (.slice (some ⟨h3, 0, none⟩) D3.length c3) = t3 at *
    have hlist : J ++ (Pr.idEl id :: (Pr.upd true tx ++ [Pr.edEl tx, Pr.linkEl edit])) = D3 := by
      rw [hD3.out, hD1.out, Pr.id_lit, Pr.ed_lit]
      exact Pr.list_yes _ _ _ _ _
    have hfin : Hid (PN = .mk k sp nm as' D3 d) := Lib.hid (by rw [hpn.out, hpm.out, hlist])
    clear hlist
    go_upto_region 14 with fail
    obtain ⟨x0, x1, x2, x3, x4, x5⟩ := node_open (show Cells t3 _ _ (nodeArr k sp nm (.slice ao as'.length ca) (.slice (some ⟨h3, 0, none⟩) D3.length c3) d) from hp3.out.cb)
    obtain ⟨z0, z1, z2, z3, z4, z5⟩ := node_open (show Cells t3 _ _ (nodeArr 0 ⟨#[]⟩ ⟨#[]⟩ (.slice none 0 0) (.slice none 0 0) ⟨#[]⟩) from hp3.out.cr)
    have f0 := hp3.out.cr.free 0
    have f1 := hp3.out.cr.free 1
    have f2 := hp3.out.cr.free 2
    have f3 := hp3.out.cr.free 3
    have f4 := hp3.out.cr.free 4
    have f5 := hp3.out.cr.free 5
    have hF := Lib.hid (six_cells hp3.out.cr (.int .i64 k) (.string sp) (.string nm) (.slice ao as'.length ca) (.slice (some ⟨h3, 0, none⟩) D3.length c3) (.string d))
    have hB := Lib.hid (six_below (b := rb) hp3.out.kb hp3.out.h2 (.int .i64 k) (.string sp) (.string nm) (.slice ao as'.length ca) (.slice (some ⟨h3, 0, none⟩) D3.length c3) (.string d))
    have hne0 : some rb ≠ (Value.slice (some ⟨h3, 0, none⟩) D3.length c3).ownBlock := fun e => by have := (hp3.out.own e.symm).1; have := hp3.out.h3; omega
    have hO6 := Lib.hid ((((((hp3.out.ow.set (c := rb) (fun e => e.2 rfl) hne0 0 (.int .i64 k)).set (fun e => e.2 rfl) hne0 1 (.string sp)).set (fun e => e.2 rfl) hne0 2 (.string nm)).set (fun e => e.2 rfl) hne0 3 (.slice ao as'.length ca)).set (fun e => e.2 rfl) hne0 4 (.slice (some ⟨h3, 0, none⟩) D3.length c3)).set (fun e => e.2 rfl) hne0 5 (.string d))
    clear hp3 hne0
    go_wp2_with fail
    refine pp_end (rb := rb) ⟨_, _, _, rfl⟩ ⟨_, _, _, rfl⟩ rfl rfl hF.out ⟨_, by rw [hpe.out], ?_, hB.out⟩
    rw [hfin.out]
    exact ⟨fun _ => True, nd_mk ((hatt.out.stay (stay_below hB.out)).mono (fun _ _ _ => trivial)) hO6.out.lies.1 hla hO6.out.lies.2⟩
end Go.Proofs.YtdhondndidoniaaGreatDoor
