/-
  What the law's own 'awake' comes to, over the program's contracts.
  What the law's own 'awake' comes to, over the program's contracts.
  AtomChecks: whether any tree is an entry, and its text, is what the document says.
-/
import Derived.Test.YtbaclacfadkjdaaGreatDoorG40
import Derived.Deep.AppendLies
import Derived.Deep.RegionHeld3
import Derived.Test.YtbaclacfadkjdaaGreatDoorG29
import Derived.Deep.RegionLaw
namespace Go.Proofs.YtbaclacfadkjdaaGreatDoor
open Go.RowKit
theorem pl_ok : ckE (plN ⟨#[120]⟩) false = 0 := by decide +kernel
theorem pl_no : ckE (plN ⟨#[120]⟩) true = 150 := by decide +kernel
theorem pl_two : ckE (.mk 0 ⟨#[104, 116, 116, 112, 58, 47, 47, 119, 119, 119, 46, 119, 51, 46, 111, 114, 103, 47, 50, 48, 48, 53, 47, 65, 116, 111, 109]⟩ ⟨#[101, 110, 116, 114, 121]⟩ [] [auN, elN ⟨#[116, 105, 116, 108, 101]⟩ ⟨#[120]⟩, elN ⟨#[116, 105, 116, 108, 101]⟩ ⟨#[121]⟩] ⟨#[]⟩) false = 150 := by decide +kernel
theorem el_text : txS (elN ⟨#[97]⟩ ⟨#[120, 121]⟩) = ⟨#[120, 121]⟩ := by decide +kernel
theorem wt_pl : Gv.wt (plN ⟨#[120]⟩) ≤ 100000 := by decide +kernel
theorem wt_two : Gv.wt (.mk 0 ⟨#[104, 116, 116, 112, 58, 47, 47, 119, 119, 119, 46, 119, 51, 46, 111, 114, 103, 47, 50, 48, 48, 53, 47, 65, 116, 111, 109]⟩ ⟨#[101, 110, 116, 114, 121]⟩ [] [auN, elN ⟨#[116, 105, 116, 108, 101]⟩ ⟨#[120]⟩, elN ⟨#[116, 105, 116, 108, 101]⟩ ⟨#[121]⟩] ⟨#[]⟩) ≤ 100000 := by decide +kernel
theorem wt_xy : Gv.wt (elN ⟨#[97]⟩ ⟨#[120, 121]⟩) ≤ 100000 := by decide +kernel
end Go.Proofs.YtbaclacfadkjdaaGreatDoor
namespace Go.Proofs.YtbaclacfadkjdaaGreatDoor
open Go.RowKit
set_option maxRecDepth 100000 in
set_option maxHeartbeats 6400000 in
theorem awake_any (w : World) (hE : Env w) : Calls Tryz.prog 9 #[] w fun e w' => e = .returned (.bool true) ∧ Below w.heap.size w w' := by
  obtain ⟨i0, hi, hz0, hz1, hz2⟩ := info_parts infoNode
  replace hE := Lib.hid hE
  go_enter Tryz.func9, Tryz.ntmps9
  go_wp2_with fail
  (with_reducible refine (plain_any ⟨#[120]⟩ _).mono ?_); rintro e w1 ⟨g1, rfl, K1, b1⟩
  have bn := (Below.refl w1.heap.size w1).alloc (Nat.le_refl _) (.cells #[.int .i64 0, .string ⟨#[104, 116, 116, 112, 58, 47, 47, 119, 119, 119, 46, 119, 51, 46, 111, 114, 103, 47, 50, 48, 48, 53, 47, 65, 116, 111, 109]⟩, .string ⟨#[101, 110, 116, 114, 121]⟩, .slice none 0 0, .slice (some ⟨g1, 0, none⟩) 2 2, .string ⟨#[]⟩] 25)
  have N2 := Lib.hid (Cells.new w1 25 #[.int .i64 0, .string ⟨#[104, 116, 116, 112, 58, 47, 47, 119, 119, 119, 46, 119, 51, 46, 111, 114, 103, 47, 50, 48, 48, 53, 47, 65, 116, 111, 109]⟩, .string ⟨#[101, 110, 116, 114, 121]⟩, .slice none 0 0, .slice (some ⟨g1, 0, none⟩) 2 2, .string ⟨#[]⟩])
  have hg1 : w.heap.size ≤ g1 ∧ g1 < w1.heap.size := by
    obtain ⟨css, _, ho, _⟩ := K1
    exact World.ownsRow.lt ho g1 rfl
  have K2 := Lib.hid ((K1.mono (S' := fun b => w.heap.size < b ∧ b < w1.heap.size) (fun b hb hl => ⟨hb, hl⟩)).on bn)
  have hwl := Lib.hid b1.size
  have B2 := Lib.hid (b1.trans (bn.mono b1.size))
  clear K1 b1 bn
  go_upto_region 2 with fail
  generalize w1.alloc (.cells #[.int .i64 0, .string ⟨#[104, 116, 116, 112, 58, 47, 47, 119, 119, 119, 46, 119, 51, 46, 111, 114, 103, 47, 50, 48, 48, 53, 47, 65, 116, 111, 109]⟩, .string ⟨#[101, 110, 116, 114, 121]⟩, .slice none 0 0, .slice (some ⟨g1, 0, none⟩) 2 2, .string ⟨#[]⟩] 25) = w2 at *
  go_wp2_with fail
  (with_reducible refine (plain_any ⟨#[120]⟩ _).mono ?_); rintro e w3 ⟨g2, rfl, M3, b3⟩
  have bm := (Below.refl w3.heap.size w3).alloc (Nat.le_refl _) (.cells #[.int .i64 0, .string ⟨#[104, 116, 116, 112, 58, 47, 47, 119, 119, 119, 46, 119, 51, 46, 111, 114, 103, 47, 50, 48, 48, 53, 47, 65, 116, 111, 109]⟩, .string ⟨#[101, 110, 116, 114, 121]⟩, .slice none 0 0, .slice (some ⟨g2, 0, none⟩) 2 2, .string ⟨#[]⟩] 25)
  have Q4 := Lib.hid (Cells.new w3 25 #[.int .i64 0, .string ⟨#[104, 116, 116, 112, 58, 47, 47, 119, 119, 119, 46, 119, 51, 46, 111, 114, 103, 47, 50, 48, 48, 53, 47, 65, 116, 111, 109]⟩, .string ⟨#[101, 110, 116, 114, 121]⟩, .slice none 0 0, .slice (some ⟨g2, 0, none⟩) 2 2, .string ⟨#[]⟩])
  have M4 := Lib.hid ((M3.mono (S' := fun b => w2.heap.size < b ∧ b < w3.heap.size) (fun b hb hl => ⟨hb, hl⟩)).on bm)
  have N4 := Lib.hid ((N2.out.on b3).on bm)
  have K4 := Lib.hid ((K2.out.on b3).on bm)
  have B4 := Lib.hid ((B2.out.trans (b3.mono B2.out.size)).trans (bm.mono (by have := B2.out.size; have := b3.size; omega)))
  have ln := Lib.hid (show w1.heap.size < w3.heap.size from (N2.out.on b3).lt)
  have hg2 : w2.heap.size ≤ g2 ∧ g2 < w3.heap.size := by
    obtain ⟨css, _, ho, _⟩ := M3
    exact World.ownsRow.lt ho g2 rfl
  have l12 := N2.out.lt
  have s23 := Lib.hid b3.size
  clear N2 K2 M3 B2 b3 bm
  go_upto_region 3 with fail
  generalize w3.alloc (.cells #[.int .i64 0, .string ⟨#[104, 116, 116, 112, 58, 47, 47, 119, 119, 119, 46, 119, 51, 46, 111, 114, 103, 47, 50, 48, 48, 53, 47, 65, 116, 111, 109]⟩, .string ⟨#[101, 110, 116, 114, 121]⟩, .slice none 0 0, .slice (some ⟨g2, 0, none⟩) 2 2, .string ⟨#[]⟩] 25) = w4 at *
  have m4 := Q4.out.cell (i := 4) rfl
  have m4d := Q4.out.drew.cell (i := 4) rfl
  have cE := Lib.hid ((el_any ⟨#[116, 105, 116, 108, 101]⟩ ⟨#[121]⟩ w4.drew).mono (R' := fun e w' => ∃ k2 n2 c2, e = .returned (.agg #[.int .i64 0, .string ⟨#[104, 116, 116, 112, 58, 47, 47, 119, 119, 119, 46, 119, 51, 46, 111, 114, 103, 47, 50, 48, 48, 53, 47, 65, 116, 111, 109]⟩, .string ⟨#[116, 105, 116, 108, 101]⟩, .slice none 0 0, .slice k2 n2 c2, .string ⟨#[]⟩]) ∧ Hid (NodeAt (fun b => w4.heap.size ≤ b) w' [.int .i64 0, .string ⟨#[104, 116, 116, 112, 58, 47, 47, 119, 119, 119, 46, 119, 51, 46, 111, 114, 103, 47, 50, 48, 48, 53, 47, 65, 116, 111, 109]⟩, .string ⟨#[116, 105, 116, 108, 101]⟩, .slice none 0 0, .slice k2 n2 c2, .string ⟨#[]⟩] (elN ⟨#[116, 105, 116, 108, 101]⟩ ⟨#[121]⟩)) ∧ Hid (Below w4.heap.size w4 w')) (fun e w' ⟨k2, n2, c2, he, hN, _, hb⟩ => ⟨k2, n2, c2, he, Lib.hid hN, Lib.hid ((Below.refl _ _).drew.trans hb)⟩))
  go_region_law (first
    | (go_simp; go_at_call 16; refine (cE.out).mono ?_; rintro e w5 ⟨k2, n2, c2, rfl, N5, b5⟩
       have m5 := (Q4.out.on b5.out).cell (i := 4) rfl
       have m5a := ((Q4.out.on b5.out).alloc (.cells #[.int .i64 0, .string ⟨#[104, 116, 116, 112, 58, 47, 47, 119, 119, 119, 46, 119, 51, 46, 111, 114, 103, 47, 50, 48, 48, 53, 47, 65, 116, 111, 109]⟩, .string ⟨#[116, 105, 116, 108, 101]⟩, .slice none 0 0, .slice k2 n2 c2, .string ⟨#[]⟩] 25)).cell (i := 4) rfl)
    | (obtain ⟨css, hcl, hown, hkd⟩ := (M4.out.on b5.out).on ((Below.refl w5.heap.size w5).alloc (Nat.le_refl _) (.cells #[.int .i64 0, .string ⟨#[104, 116, 116, 112, 58, 47, 47, 119, 119, 119, 46, 119, 51, 46, 111, 114, 103, 47, 50, 48, 48, 53, 47, 65, 116, 111, 109]⟩, .string ⟨#[116, 105, 116, 108, 101]⟩, .slice none 0 0, .slice k2 n2 c2, .string ⟨#[]⟩] 25))
       refine step_append_lies _ (by rfl) _ _ _ (by rfl) w2.heap.size 25 i0 _ 6 104 Tryz.underlying23 hi hz0 hz1 hz2 rfl (by decide) (.slice (some ⟨g2, 0, none⟩) 2 2) 2 css.flatten (by rfl) hown ⟨w5.heap.size, 0, none⟩ 1 1 [.int .i64 0, .string ⟨#[104, 116, 116, 112, 58, 47, 47, 119, 119, 119, 46, 119, 51, 46, 111, 114, 103, 47, 50, 48, 48, 53, 47, 65, 116, 111, 109]⟩, .string ⟨#[116, 105, 116, 108, 101]⟩, .slice none 0 0, .slice k2 n2 c2, .string ⟨#[]⟩] rfl rfl (am_cells_row w5 [.int .i64 0, .string ⟨#[104, 116, 116, 112, 58, 47, 47, 119, 119, 119, 46, 119, 51, 46, 111, 114, 103, 47, 50, 48, 48, 53, 47, 65, 116, 111, 109]⟩, .string ⟨#[116, 105, 116, 108, 101]⟩, .slice none 0 0, .slice k2 n2 c2, .string ⟨#[]⟩] _) (by simp [Value.oneCell']) (by decide) (by unfold maxLen; omega) (by omega) (by have := b5.out.size; have := s23.out; have := Q4.out.lt; simp; omega) _ rfl ?_
       intro g5 cap5 w6 hown5 hg5 hat5 hlt5
       have q6 := Lib.hid (show Cells w6 w3.heap.size 25 _ from (hg5.block w3.heap.size (by have := b5.out.size; have := Q4.out.lt; simp; omega) (by show some w3.heap.size ≠ some g2; intro h; injection h with h; omega)).trans ((Q4.out.on b5.out).alloc _))
       have m6 := q6.out.cell (i := 4) rfl
       have f6 := q6.out.free 4))
  all_goals
    have bn5 := (Below.refl w5.heap.size w5).alloc (Nat.le_refl _) (.cells #[.int .i64 0, .string ⟨#[104, 116, 116, 112, 58, 47, 47, 119, 119, 119, 46, 119, 51, 46, 111, 114, 103, 47, 50, 48, 48, 53, 47, 65, 116, 111, 109]⟩, .string ⟨#[116, 105, 116, 108, 101]⟩, .slice none 0 0, .slice k2 n2 c2, .string ⟨#[]⟩] 25)
    have hsz : (w5.alloc (.cells #[.int .i64 0, .string ⟨#[104, 116, 116, 112, 58, 47, 47, 119, 119, 119, 46, 119, 51, 46, 111, 114, 103, 47, 50, 48, 48, 53, 47, 65, 116, 111, 109]⟩, .string ⟨#[116, 105, 116, 108, 101]⟩, .slice none 0 0, .slice k2 n2 c2, .string ⟨#[]⟩] 25)).heap.size = w5.heap.size + 1 := by simp
    have z5 := b5.out.size
    have z4 := Q4.out.lt
    have z3 := ln.out
    have z2 := s23.out
    have n6 : Cells w6 w1.heap.size 25 _ := (hg5.block w1.heap.size (by rw [hsz]; omega) (by show some w1.heap.size ≠ some g2; intro h; injection h with h; omega)).trans ((N4.out.on b5.out).alloc (.cells #[.int .i64 0, .string ⟨#[104, 116, 116, 112, 58, 47, 47, 119, 119, 119, 46, 119, 51, 46, 111, 114, 103, 47, 50, 48, 48, 53, 47, 65, 116, 111, 109]⟩, .string ⟨#[116, 105, 116, 108, 101]⟩, .slice none 0 0, .slice k2 n2 c2, .string ⟨#[]⟩] 25))
    have n7 := Lib.hid (n6.other (c := w3.heap.size) 4 (.slice (some ⟨g5, 0, none⟩) 3 cap5) (by omega))
    have q7 := Lib.hid (q6.out.set 4 (.slice (some ⟨g5, 0, none⟩) 3 cap5))
    have k6 := ((K4.out.on b5.out).on bn5).far hg5 (fun g e => by have e : some g2 = some g := e; injection e with e; intro x; omega) (.inr (by show some g1 ≠ some g2; intro h; injection h with h; omega))
    have k7 := Lib.hid (nd_owned (k := 0) (sp := ⟨#[104, 116, 116, 112, 58, 47, 47, 119, 119, 119, 46, 119, 51, 46, 111, 114, 103, 47, 50, 48, 48, 53, 47, 65, 116, 111, 109]⟩) (nm := ⟨#[101, 110, 116, 114, 121]⟩) (d := ⟨#[]⟩) ((k6.set (c := w3.heap.size) (fun x => by omega) (by show some w3.heap.size ≠ some g1; intro h; injection h with h; omega) 4 (.slice (some ⟨g5, 0, none⟩) 3 cap5)).mono (S' := fun b => w.heap.size < b) (fun b hb _ => hb.1)))
    have nE : NodeAt (fun b => (w2.heap.size < b ∧ b ≠ w3.heap.size) ∧ some b ≠ (Value.slice (some ⟨g2, 0, none⟩) 2 2).ownBlock) (w5.alloc (.cells #[.int .i64 0, .string ⟨#[104, 116, 116, 112, 58, 47, 47, 119, 119, 119, 46, 119, 51, 46, 111, 114, 103, 47, 50, 48, 48, 53, 47, 65, 116, 111, 109]⟩, .string ⟨#[116, 105, 116, 108, 101]⟩, .slice none 0 0, .slice k2 n2 c2, .string ⟨#[]⟩] 25)) [.int .i64 0, .string ⟨#[104, 116, 116, 112, 58, 47, 47, 119, 119, 119, 46, 119, 51, 46, 111, 114, 103, 47, 50, 48, 48, 53, 47, 65, 116, 111, 109]⟩, .string ⟨#[116, 105, 116, 108, 101]⟩, .slice none 0 0, .slice k2 n2 c2, .string ⟨#[]⟩] (elN ⟨#[116, 105, 116, 108, 101]⟩ ⟨#[121]⟩) := (N5.out.on bn5).mono (fun b hb _ => ⟨⟨by omega, by omega⟩, by show some b ≠ some g2; intro h; injection h with h; omega⟩)
    have o6 := kids_more (S := fun b => w2.heap.size < b ∧ b ≠ w3.heap.size) (kids := [auN, elN ⟨#[116, 105, 116, 108, 101]⟩ ⟨#[120]⟩]) (v := .slice (some ⟨g2, 0, none⟩) 2 2) (v' := (.slice (some ⟨g5, 0, none⟩) 3 cap5)) (N := (w5.alloc (.cells #[.int .i64 0, .string ⟨#[104, 116, 116, 112, 58, 47, 47, 119, 119, 119, 46, 119, 51, 46, 111, 114, 103, 47, 50, 48, 48, 53, 47, 65, 116, 111, 109]⟩, .string ⟨#[116, 105, 116, 108, 101]⟩, .slice none 0 0, .slice k2 n2 c2, .string ⟨#[]⟩] 25)).heap.size) hcl (fun j a b => (hkd j a b).mono (fun x hx _ => ⟨⟨hx.1.1, by omega⟩, hx.2⟩)) nE hown5 hg5 (hat5.imp (fun e => e.symm) (fun e => by rw [e]; rfl)) (Nat.le_refl _)
    have hg5b : some w3.heap.size ≠ Value.ownBlock (.slice (some ⟨g5, 0, none⟩) 3 cap5) := by
      show some w3.heap.size ≠ some g5
      intro h; injection h with h
      rcases hat5 with e | e
      · have e : some g2 = some g5 := e
        injection e with e; omega
      · rw [hsz] at e; omega
    have o7 := Lib.hid (nd_owned (k := 0) (sp := ⟨#[104, 116, 116, 112, 58, 47, 47, 119, 119, 119, 46, 119, 51, 46, 111, 114, 103, 47, 50, 48, 48, 53, 47, 65, 116, 111, 109]⟩) (nm := ⟨#[101, 110, 116, 114, 121]⟩) (d := ⟨#[]⟩) ((o6.set (c := w3.heap.size) (fun x => x.2 rfl) hg5b 4 (.slice (some ⟨g5, 0, none⟩) 3 cap5)).mono (S' := fun b => w2.heap.size < b) (fun b hb _ => hb.1)))
    have B7 := Lib.hid ((((B4.out.trans (b5.out.mono (by have := B4.out.size; omega))).trans (bn5.mono (by have := B4.out.size; omega))).grown hg5 (by have := B4.out.size; rw [hsz]; omega) (fun k e => by have e : some g2 = some k := e; injection e with e; have := hwl.out; omega)).setCell (p := ⟨w3.heap.size, 4, none⟩) (by show w.heap.size ≤ w3.heap.size; have := hwl.out; omega) (.slice (some ⟨g5, 0, none⟩) 3 cap5))
    clear bn5 hsz z5 z4 z3 z2 n6 k6 nE o6 hg5b hown5 hg5 hat5 hlt5 q6 m6 f6 m5 m5a m4 m4d cE N5 b5 hcl hown hkd Q4 N4 M4 K4 B4 hi hz0 hz1 hz2
    go_upto_region 4 with fail
    generalize w6.setCell ⟨w3.heap.size, 4, none⟩ (.slice (some ⟨g5, 0, none⟩) 3 cap5) = w7 at *
    obtain ⟨x0, x1, x2, x3, x4, x5⟩ := node_open (show Cells w7 _ _ (nodeArr 0 ⟨#[104, 116, 116, 112, 58, 47, 47, 119, 119, 119, 46, 119, 51, 46, 111, 114, 103, 47, 50, 48, 48, 53, 47, 65, 116, 111, 109]⟩ ⟨#[101, 110, 116, 114, 121]⟩ (.slice none 0 0) (.slice (some ⟨g1, 0, none⟩) 2 2) ⟨#[]⟩) from n7.out)
    obtain ⟨y0, y1, y2, y3, y4, y5⟩ := node_open (show Cells w7 _ _ (nodeArr 0 ⟨#[104, 116, 116, 112, 58, 47, 47, 119, 119, 119, 46, 119, 51, 46, 111, 114, 103, 47, 50, 48, 48, 53, 47, 65, 116, 111, 109]⟩ ⟨#[101, 110, 116, 114, 121]⟩ (.slice none 0 0) (.slice (some ⟨g5, 0, none⟩) 3 cap5) ⟨#[]⟩) from q7.out)
    have d1 : Hid (∀ W, Below w7.heap.size w7 W → Calls Tryz.prog 10 #[.agg #[.int .i64 0, .string ⟨#[104, 116, 116, 112, 58, 47, 47, 119, 119, 119, 46, 119, 51, 46, 111, 114, 103, 47, 50, 48, 48, 53, 47, 65, 116, 111, 109]⟩, .string ⟨#[101, 110, 116, 114, 121]⟩, .slice none 0 0, .slice (some ⟨g1, 0, none⟩) 2 2, .string ⟨#[]⟩], .bool false] W fun e w' => e = .returned (.int .i64 0) ∧ Below W.heap.size W w') := Lib.hid (fun W hb => by
      have h := aCheck_any (plN ⟨#[120]⟩) false W (k7.out.on hb) wt_pl (hE.out.on (B7.out.trans (hb.mono B7.out.size)))
      rw [pl_ok] at h; exact h)
    have d2 : Hid (∀ W, Below w7.heap.size w7 W → Calls Tryz.prog 10 #[.agg #[.int .i64 0, .string ⟨#[104, 116, 116, 112, 58, 47, 47, 119, 119, 119, 46, 119, 51, 46, 111, 114, 103, 47, 50, 48, 48, 53, 47, 65, 116, 111, 109]⟩, .string ⟨#[101, 110, 116, 114, 121]⟩, .slice none 0 0, .slice (some ⟨g1, 0, none⟩) 2 2, .string ⟨#[]⟩], .bool true] W fun e w' => e = .returned (.int .i64 150) ∧ Below W.heap.size W w') := Lib.hid (fun W hb => by
      have h := aCheck_any (plN ⟨#[120]⟩) true W (k7.out.on hb) wt_pl (hE.out.on (B7.out.trans (hb.mono B7.out.size)))
      rw [pl_no] at h; exact h)
    have d3 : Hid (∀ W, Below w7.heap.size w7 W → Calls Tryz.prog 10 #[.agg #[.int .i64 0, .string ⟨#[104, 116, 116, 112, 58, 47, 47, 119, 119, 119, 46, 119, 51, 46, 111, 114, 103, 47, 50, 48, 48, 53, 47, 65, 116, 111, 109]⟩, .string ⟨#[101, 110, 116, 114, 121]⟩, .slice none 0 0, .slice (some ⟨g5, 0, none⟩) 3 cap5, .string ⟨#[]⟩], .bool false] W fun e w' => e = .returned (.int .i64 150) ∧ Below W.heap.size W w') := Lib.hid (fun W hb => by
      have h := aCheck_any (.mk 0 ⟨#[104, 116, 116, 112, 58, 47, 47, 119, 119, 119, 46, 119, 51, 46, 111, 114, 103, 47, 50, 48, 48, 53, 47, 65, 116, 111, 109]⟩ ⟨#[101, 110, 116, 114, 121]⟩ [] [auN, elN ⟨#[116, 105, 116, 108, 101]⟩ ⟨#[120]⟩, elN ⟨#[116, 105, 116, 108, 101]⟩ ⟨#[121]⟩] ⟨#[]⟩) false W (o7.out.on hb) wt_two (hE.out.on (B7.out.trans (hb.mono B7.out.size)))
      rw [pl_two] at h; exact h)
    have dE := Lib.hid (fun W (hb : Below w7.heap.size w7 W) => hE.out.on (B7.out.trans (hb.mono B7.out.size)))
    clear k7 o7 hE
    go_wp2_with fail
    (refine (d1.out _ (Below.refl _ _)).mono ?_); rintro e w8 ⟨rfl, b8⟩
    clear x0 x1 x2 x3 x4 x5 y0 y1 y2 y3 y4 y5 d1
    have n8 := Lib.hid (n7.out.on b8)
    have q8 := Lib.hid (q7.out.on b8)
    clear n7 q7
    obtain ⟨x0, x1, x2, x3, x4, x5⟩ := node_open (show Cells w8 _ _ (nodeArr 0 ⟨#[104, 116, 116, 112, 58, 47, 47, 119, 119, 119, 46, 119, 51, 46, 111, 114, 103, 47, 50, 48, 48, 53, 47, 65, 116, 111, 109]⟩ ⟨#[101, 110, 116, 114, 121]⟩ (.slice none 0 0) (.slice (some ⟨g1, 0, none⟩) 2 2) ⟨#[]⟩) from n8.out)
    go_wp2_with fail
    (refine (d2.out _ b8).mono ?_); rintro e w9 ⟨rfl, b9⟩
    have q9 := q8.out.on b9
    have b19 := b8.trans (b9.mono b8.size)
    clear x0 x1 x2 x3 x4 x5 n8 q8 d2 b8 b9
    obtain ⟨y0, y1, y2, y3, y4, y5⟩ := node_open (show Cells w9 _ _ (nodeArr 0 ⟨#[104, 116, 116, 112, 58, 47, 47, 119, 119, 119, 46, 119, 51, 46, 111, 114, 103, 47, 50, 48, 48, 53, 47, 65, 116, 111, 109]⟩ ⟨#[101, 110, 116, 114, 121]⟩ (.slice none 0 0) (.slice (some ⟨g5, 0, none⟩) 3 cap5) ⟨#[]⟩) from q9)
    clear q9
    go_wp2_with fail
    (refine (d3.out _ b19).mono ?_); rintro e w10 ⟨rfl, b10⟩
    have b20 := b19.trans (b10.mono b19.size)
    clear y0 y1 y2 y3 y4 y5 d3 b19 b10
    go_wp2_with fail
    (refine (el_any ⟨#[97]⟩ ⟨#[120, 121]⟩ _).mono ?_); rintro e w11 ⟨k8, m8, c8, rfl, hN8, -, b11⟩
    have b21 := b20.trans (b11.mono b20.size)
    have cT := aText_any (elN ⟨#[97]⟩ ⟨#[120, 121]⟩) w11 ⟨_, hN8⟩ wt_xy (dE.out _ b21)
    rw [el_text] at cT
    clear b20 b11 hN8 dE
    replace cT := Lib.hid cT
    go_wp2_with fail
    (refine cT.out.mono ?_); rintro e w12 ⟨rfl, b12⟩
    have b22 := B7.out.trans ((b21.trans (b12.mono b21.size)).mono B7.out.size)
    clear b21 b12 B7 cT
    go_wp2_with fail
    go_ret
    exact ⟨rfl, b22⟩
end Go.Proofs.YtbaclacfadkjdaaGreatDoor
namespace Go.Proofs.YtbaclacfadkjdaaGreatDoor
open Go.RowKit
theorem amKeep6 {f : FuncId} {args : Array Value} {v : Value} {W w0 : World} {a0 a1 a2 a3 a4 a5 : Addr} {x0 x1 x2 x3 x4 x5 : Value} (hC : ∀ W, Below w0.heap.size w0 W → Calls Tryz.prog f args W fun e w' => e = .returned v ∧ Below W.heap.size W w')
    (h : W.cell? a0 = some x0 ∧ W.cell? a1 = some x1 ∧ W.cell? a2 = some x2 ∧ W.cell? a3 = some x3 ∧ W.cell? a4 = some x4 ∧ W.cell? a5 = some x5 ∧ Below w0.heap.size w0 W) :
    Calls Tryz.prog f args W fun e w' => e = .returned v ∧ (w'.cell? a0 = some x0 ∧ w'.cell? a1 = some x1 ∧ w'.cell? a2 = some x2 ∧ w'.cell? a3 = some x3 ∧ w'.cell? a4 = some x4 ∧ w'.cell? a5 = some x5 ∧ Below w0.heap.size w0 w') := by
  obtain ⟨h0, h1, h2, h3, h4, h5, e⟩ := h
  refine (hC W e).mono fun _ _ ⟨he, hb⟩ => ⟨he, ?_⟩
  have on := fun {a : Addr} {x : Value} (hx : W.cell? a = some x) => (hb.cell (World.block_lt_of_cell? W _ hx)).trans hx
  exact ⟨on h0, on h1, on h2, on h3, on h4, on h5, e.trans (hb.mono e.size)⟩
set_option maxRecDepth 100000 in
set_option maxHeartbeats 12800000 in
theorem checks_any {c : List Value} {n : Gv.Node} (stored : Bool) (w : World) (hN : NodeAt (fun _ => True) w c n) (hs1 : Sized n) (hE : Env w) :
    Calls Tryz.prog 3 #[.agg c.toArray, .bool stored] w fun e w' => e = .returned (.bool true) ∧ Below w.heap.size w w' := by
  have hnd : Nd w c.toArray n := ⟨_, by simpa using hN⟩
  obtain ⟨k, sp, nm, d, as', kids, ao, bo, ca, cb, cs, en, ec, u1, u2, u3, u4, u5⟩ := hN.open'
  clear en u1 u2 u3 u4 u5
  have hc : c.toArray = nodeArr k sp nm (.slice ao as'.length ca) (.slice bo kids.length cb) d := by rw [ec]; rfl
  have b0 := (Below.refl w.heap.size w).alloc (Nat.le_refl _) (.cells (nodeArr k sp nm (.slice ao as'.length ca) (.slice bo kids.length cb) d) 25)
  have kA := Cells.new w 25 (nodeArr k sp nm (.slice ao as'.length ca) (.slice bo kids.length cb) d)
  have c0 := fun W (hb : Below w.heap.size w W) => awake_any W (hE.on hb)
  have c1 := fun W (hb : Below w.heap.size w W) => refSize_any hN hs1 W hb 3000 (by omega) (by omega)
  have c3 := fun (hz : Gv.wt n ≤ 100000) W (hb : Below w.heap.size w W) => aCheck_any n stored W (hnd.on hb) hz (hE.on hb)
  have c4 := fun (hz : Gv.wt n ≤ 100000) W (hb : Below w.heap.size w W) => nd_check n stored W (hnd.on hb) hz
  have c5 := fun (hz : Gv.wt n ≤ 100000) W (hb : Below w.heap.size w W) => aText_any n W (hnd.on hb) hz (hE.on hb)
  have c6 := fun (hz : Gv.wt n ≤ 100000) W (hb : Below w.heap.size w W) => nd_text n W (hnd.on hb) (Nat.le_trans hz (by omega))
  rw [hc] at c1 c3 c4 c5 c6
  rw [hc]
  have hca := Lib.hid (fun W hb => node_open (kA.on (w' := W) hb))
  obtain ⟨x0, x1, x2, x3, x4, x5⟩ := node_open kA
  replace kA := Lib.hid kA
  replace c0 := Lib.hid c0
  replace c1 := Lib.hid c1
  replace c3 := Lib.hid c3
  replace c4 := Lib.hid c4
  replace c5 := Lib.hid c5
  replace c6 := Lib.hid c6
  clear hN hs1 hE ec hc hnd
  unfold SizeTold nodeArr at *
  go_enter Tryz.func3, Tryz.ntmps3
  go_wp2_with fail
  (with_reducible refine (c1.out _ b0).mono ?_); rintro e w2 ⟨⟨k1, rfl, q1, q2, q3⟩, b2⟩
  have f2 := b2
  have g2 := b0.trans (b2.mono b0.size)
  clear x0 x1 x2 x3 x4 x5 c1 b2
  obtain ⟨x0, x1, x2, x3, x4, x5⟩ := hca.out _ f2
  by_cases hk1 : k1 ≤ 3000
  case neg =>
    have z1 : (3000 : Int) < k1 := by omega
    clear hk1 q3
    go_wp2_with fail
    (with_reducible refine (c0.out _ g2).mono ?_); rintro e w3 ⟨rfl, b3⟩
    go_wp2_with fail
    go_ret
    exact ⟨rfl, g2.trans (b3.mono g2.size)⟩
  have z1 : ¬ (3000 : Int) < k1 := by omega
  have z1' : decide ((3000 : Int) < k1) = false := by simpa using hk1
  have hz1 := Lib.hid (show Gv.wt n ≤ 100000 by have := q3 hk1; omega)
  clear q3 hk1
  generalize ckE n stored = ck at *
  generalize txS n = tx at *
  go_wp2_with fail
  replace g2 := Lib.hid g2
  clear f2 hca
  go_region_held3 (fun w' => w'.cell? ⟨w.heap.size, 0, none⟩ = some (.int .i64 k) ∧ w'.cell? ⟨w.heap.size, 1, none⟩ = some (.string sp) ∧ w'.cell? ⟨w.heap.size, 2, none⟩ = some (.string nm) ∧ w'.cell? ⟨w.heap.size, 3, none⟩ = some (.slice ao as'.length ca) ∧ w'.cell? ⟨w.heap.size, 4, none⟩ = some (.slice bo kids.length cb) ∧ w'.cell? ⟨w.heap.size, 5, none⟩ = some (.string d) ∧ Below w2.heap.size w2 w') (first | exact ⟨x0, x1, x2, x3, x4, x5, (Below.refl _ _).drew⟩ | assumption)
    (first
      | (go_at_call 9; refine (amKeep6 (w0 := w2) (a0 := ⟨w.heap.size, 0, none⟩) (a1 := ⟨w.heap.size, 1, none⟩) (a2 := ⟨w.heap.size, 2, none⟩) (a3 := ⟨w.heap.size, 3, none⟩) (a4 := ⟨w.heap.size, 4, none⟩) (a5 := ⟨w.heap.size, 5, none⟩) (x0 := .int .i64 k) (x1 := .string sp) (x2 := .string nm) (x3 := .slice ao as'.length ca) (x4 := .slice bo kids.length cb) (x5 := .string d) (fun W hb => c0.out W (g2.out.trans (hb.mono g2.out.size))) ?_).mono ?_; assumption; rintro e w' ⟨rfl, hcb⟩)
      | (go_at_call 10; refine (amKeep6 (w0 := w2) (a0 := ⟨w.heap.size, 0, none⟩) (a1 := ⟨w.heap.size, 1, none⟩) (a2 := ⟨w.heap.size, 2, none⟩) (a3 := ⟨w.heap.size, 3, none⟩) (a4 := ⟨w.heap.size, 4, none⟩) (a5 := ⟨w.heap.size, 5, none⟩) (x0 := .int .i64 k) (x1 := .string sp) (x2 := .string nm) (x3 := .slice ao as'.length ca) (x4 := .slice bo kids.length cb) (x5 := .string d) (fun W hb => c3.out hz1.out W (g2.out.trans (hb.mono g2.out.size))) ?_).mono ?_; assumption; rintro e w' ⟨rfl, hcb⟩)
      | (go_at_call 11; refine (amKeep6 (w0 := w2) (a0 := ⟨w.heap.size, 0, none⟩) (a1 := ⟨w.heap.size, 1, none⟩) (a2 := ⟨w.heap.size, 2, none⟩) (a3 := ⟨w.heap.size, 3, none⟩) (a4 := ⟨w.heap.size, 4, none⟩) (a5 := ⟨w.heap.size, 5, none⟩) (x0 := .int .i64 k) (x1 := .string sp) (x2 := .string nm) (x3 := .slice ao as'.length ca) (x4 := .slice bo kids.length cb) (x5 := .string d) (fun W hb => c4.out hz1.out W (g2.out.trans (hb.mono g2.out.size))) ?_).mono ?_; assumption; rintro e w' ⟨rfl, hcb⟩)
      | (go_at_call 12; refine (amKeep6 (w0 := w2) (a0 := ⟨w.heap.size, 0, none⟩) (a1 := ⟨w.heap.size, 1, none⟩) (a2 := ⟨w.heap.size, 2, none⟩) (a3 := ⟨w.heap.size, 3, none⟩) (a4 := ⟨w.heap.size, 4, none⟩) (a5 := ⟨w.heap.size, 5, none⟩) (x0 := .int .i64 k) (x1 := .string sp) (x2 := .string nm) (x3 := .slice ao as'.length ca) (x4 := .slice bo kids.length cb) (x5 := .string d) (fun W hb => c5.out hz1.out W (g2.out.trans (hb.mono g2.out.size))) ?_).mono ?_; assumption; rintro e w' ⟨rfl, hcb⟩)
      | (go_at_call 13; refine (amKeep6 (w0 := w2) (a0 := ⟨w.heap.size, 0, none⟩) (a1 := ⟨w.heap.size, 1, none⟩) (a2 := ⟨w.heap.size, 2, none⟩) (a3 := ⟨w.heap.size, 3, none⟩) (a4 := ⟨w.heap.size, 4, none⟩) (a5 := ⟨w.heap.size, 5, none⟩) (x0 := .int .i64 k) (x1 := .string sp) (x2 := .string nm) (x3 := .slice ao as'.length ca) (x4 := .slice bo kids.length cb) (x5 := .string d) (fun W hb => c6.out hz1.out W (g2.out.trans (hb.mono g2.out.size))) ?_).mono ?_; assumption; rintro e w' ⟨rfl, hcb⟩))
  all_goals
    obtain ⟨-, -, -, -, -, -, b6⟩ := hcb
    go_wp2_with fail
    go_ret
    exact ⟨rfl, g2.out.trans (b6.mono g2.out.size)⟩
end Go.Proofs.YtbaclacfadkjdaaGreatDoor
