/-
  What the law's own makers of nodes come to: El, Plain.
  What the document's own Strip comes to.
  The program's iterator over the kids that are not the server's.
  Texts gathered while they come, in plain Lean: what the program's own way of making them one comes to.
-/
import Derived.Test.YtdhondndidoniaaGreatDoorG09
import Derived.Test.YtdhondndidoniaaGreatDoorG07
import Derived.RangeFuncNested
import Derived.RangeFuncBound
import Derived.RangeFuncCalls
import Derived.RangeFuncLeaves
import Derived.Shelf.Abstract
import Derived.Shelf.RegionOpen
import Derived.WalkKit
import Derived.OwnWalkIn
import Derived.TacticsInMore
import Derived.LoopNIn
import Derived.LoopIn
import Derived.Sort.CutIn
import Derived.Test.YtdhondndidoniaaGreatDoorG01
import Derived.Test.YtdhondndidoniaaGreatDoorG06
namespace Go.Proofs.YtdhondndidoniaaGreatDoor
open Go.RowKit

def txtN (t : ByteArray) : Gv.Node := .mk 1 ⟨#[]⟩ ⟨#[]⟩ [] [] t
/-- An element of Atom with a text. -/
def elN (name text : ByteArray) : Gv.Node := .mk 0 ⟨#[104, 116, 116, 112, 58, 47, 47, 119, 119, 119, 46, 119, 51, 46, 111, 114, 103, 47, 50, 48, 48, 53, 47, 65, 116, 111, 109]⟩ name [] (if text.size = 0 then [] else [txtN text]) ⟨#[]⟩
theorem elN_no {name text : ByteArray} (h : text.size = 0) : elN name text = .mk 0 ⟨#[104, 116, 116, 112, 58, 47, 47, 119, 119, 119, 46, 119, 51, 46, 111, 114, 103, 47, 50, 48, 48, 53, 47, 65, 116, 111, 109]⟩ name [] [] ⟨#[]⟩ := by unfold elN; rw [if_pos h]
theorem elN_yes {name text : ByteArray} (h : ¬ text.size = 0) : elN name text = .mk 0 ⟨#[104, 116, 116, 112, 58, 47, 47, 119, 119, 119, 46, 119, 51, 46, 111, 114, 103, 47, 50, 48, 48, 53, 47, 65, 116, 111, 109]⟩ name [] [txtN text] ⟨#[]⟩ := by unfold elN; rw [if_neg h]
theorem stay_set {S : Nat → Prop} {w : World} {c i : Nat} {v : Value} (h : ¬ S c) : Stay S w (w.setCell ⟨c, i, none⟩ v) := fun b o hb _ =>
  World.cell?_setCell_other w ⟨c, i, none⟩ ⟨b, o, none⟩ v (by intro e; injection e with e1; subst e1; exact h hb)
/-- One node that lies in a block of its own, as a row. -/
theorem rows_one {S : Nat → Prop} {w : World} {g : Nat} {c : List Value} {n : Gv.Node} (hc : Cells w g 27 c.toArray) (hg : S g) (hn : NodeAt S w c n) : KidsAt S w (.slice (some ⟨g, 0, none⟩) 1 1) [n] := by
  refine ⟨fun _ => c, ⟨_, _, rfl, fun j hj => ?_⟩, fun j hj => ?_⟩
  · have h6 := hn.six
    have hj0 : j = 0 := by simp at hj; exact hj
    subst hj0
    refine ⟨h6, g, 0, rfl, hg, fun i u hu => ?_⟩
    have := hc.cell (i := i) (v := u) (by rw [← Array.getElem?_toList]; exact hu)
    simpa using this
  · have hj0 : j = 0 := by simp at hj; exact hj
    subst hj0
    exact hn
/-- .. owned. -/
theorem owns_two {S : Nat → Prop} {B : Nat} {w : World} {g : Nat} {c d : List Value} {n m : Gv.Node} (hc : Cells w g 27 (c ++ d).toArray) (hB : B ≤ g) (hn : NodeAt (fun b => S b ∧ some b ≠ some g) w c n) (hm : NodeAt (fun b => S b ∧ some b ≠ some g) w d m) : OwnsKids S B (.slice (some ⟨g, 0, none⟩) 2 2) [n, m] w := by
  have h6 := hn.six
  have h7 := hm.six
  refine ⟨[c, d], rfl, ⟨by simp [h6, h7], .inr ⟨g, 2, (c ++ d).toArray, rfl, hB, hc, Nat.le_refl _, by unfold maxLen; simp, by simp [h6, h7], by rw [List.take_of_length_le (by simp [h6, h7])]; simp⟩⟩, fun j a b => ?_⟩
  have hj0 : j = 0 ∨ j = 1 := by simp at a; omega
  rcases hj0 with rfl | rfl
  · exact hn
  · exact hm
theorem OwnsKids.set {S : Nat → Prop} {B : Nat} {v : Value} {kids : List Gv.Node} {w : World} (h : OwnsKids S B v kids w) {c : Nat} (hc : ¬ S c) (hne : some c ≠ v.ownBlock) (i : Nat) (u : Value) : OwnsKids S B v kids (w.setCell ⟨c, i, none⟩ u) := by
  obtain ⟨css, h1, h2, h3⟩ := h
  refine ⟨css, h1, ?_, fun j a b => (h3 j a b).stay (stay_set (fun e => hc e.1))⟩
  obtain ⟨hl, h0 | ⟨g, cap, cur, rfl, hb, hh, r⟩⟩ := h2
  · exact ⟨hl, .inl h0⟩
  · refine ⟨hl, .inr ⟨g, cap, cur, rfl, hb, ?_, r⟩⟩
    rw [RowKit.Below.heap_setCell _ _ _ _ (by intro e; apply hne; simp [Value.ownBlock, e])]
    exact hh
/-- A node of its parts. -/
theorem nd_mk {S : Nat → Prop} {w : World} {k : Int} {sp nm d : ByteArray} {va vk : Value} {as' : List Gv.Att} {kids : List Gv.Node} (ha : AttsAt S w va as') (hk : KidsAt S w vk kids) (h1 : as'.length ≤ maxLen) (h2 : kids.length ≤ maxLen) : NodeAt S w [.int .i64 k, .string sp, .string nm, va, vk, .string d] (.mk k sp nm as' kids d) := by
  obtain ⟨cs, hr, hn⟩ := hk
  exact .mk cs ⟨h1, h2⟩ ha hr hn
theorem six_cells {w : World} {b : Nat} {a0 a1 a2 a3 a4 a5 : Value} (h : Cells w b 27 #[a0, a1, a2, a3, a4, a5]) (u0 u1 u2 u3 u4 u5 : Value) :
    Cells ((((((w.setCell ⟨b, 0, none⟩ u0).setCell ⟨b, 1, none⟩ u1).setCell ⟨b, 2, none⟩ u2).setCell ⟨b, 3, none⟩ u3).setCell ⟨b, 4, none⟩ u4).setCell ⟨b, 5, none⟩ u5) b 27 #[u0, u1, u2, u3, u4, u5] :=
  (((((h.set 0 u0).set 1 u1).set 2 u2).set 3 u3).set 4 u4).set 5 u5
theorem six_below {B : Nat} {w0 w : World} {b : Nat} (h : Below B w0 w) (hb : B ≤ b) (u0 u1 u2 u3 u4 u5 : Value) :
    Below B w0 ((((((w.setCell ⟨b, 0, none⟩ u0).setCell ⟨b, 1, none⟩ u1).setCell ⟨b, 2, none⟩ u2).setCell ⟨b, 3, none⟩ u3).setCell ⟨b, 4, none⟩ u4).setCell ⟨b, 5, none⟩ u5) :=
  (((((h.setCell (p := ⟨b, 0, none⟩) hb u0).setCell (p := ⟨b, 1, none⟩) hb u1).setCell (p := ⟨b, 2, none⟩) hb u2).setCell (p := ⟨b, 3, none⟩) hb u3).setCell (p := ⟨b, 4, none⟩) hb u4).setCell (p := ⟨b, 5, none⟩) hb u5

set_option maxRecDepth 100000 in
set_option maxHeartbeats 3200000 in
theorem el_any (name text : ByteArray) (w : World) :
    Calls Tryz.prog 59 #[.string name, .string text] w fun e w' => ∃ ko kn kc, e = .returned (.agg #[.int .i64 0, .string ⟨#[104, 116, 116, 112, 58, 47, 47, 119, 119, 119, 46, 119, 51, 46, 111, 114, 103, 47, 50, 48, 48, 53, 47, 65, 116, 111, 109]⟩, .string name, .slice none 0 0, .slice ko kn kc, .string ⟨#[]⟩]) ∧ NodeAt (fun b => w.heap.size ≤ b) w' [.int .i64 0, .string ⟨#[104, 116, 116, 112, 58, 47, 47, 119, 119, 119, 46, 119, 51, 46, 111, 114, 103, 47, 50, 48, 48, 53, 47, 65, 116, 111, 109]⟩, .string name, .slice none 0 0, .slice ko kn kc, .string ⟨#[]⟩] (elN name text) ∧ (text.size = 0 → ko = none ∧ kn = 0 ∧ kc = 0) ∧ Below w.heap.size w w' := by
  have hy := Lib.hid (@elN_yes name text)
  have hn := Lib.hid (@elN_no name text)
  generalize elN name text = M at *
  have Z := (Cells.new w 27 #[.int .i64 0, .string ⟨#[]⟩, .string ⟨#[]⟩, .slice none 0 0, .slice none 0 0, .string ⟨#[]⟩])
  have bZ := (Below.refl w.heap.size w).alloc (Nat.le_refl _) (.cells #[.int .i64 0, .string ⟨#[]⟩, .string ⟨#[]⟩, .slice none 0 0, .slice none 0 0, .string ⟨#[]⟩] 27)
  go_enter Tryz.func59, Tryz.ntmps59
  replace Z := Lib.hid Z
  replace bZ := Lib.hid bZ
  go_upto_region 1 with fail
  generalize w.alloc (.cells #[.int .i64 0, .string ⟨#[]⟩, .string ⟨#[]⟩, .slice none 0 0, .slice none 0 0, .string ⟨#[]⟩] 27) = w1 at *
  have X := Cells.new w1 27 #[.int .i64 0, .string ⟨#[104, 116, 116, 112, 58, 47, 47, 119, 119, 119, 46, 119, 51, 46, 111, 114, 103, 47, 50, 48, 48, 53, 47, 65, 116, 111, 109]⟩, .string name, .slice none 0 0, .slice none 0 0, .string ⟨#[]⟩]
  have bX := (Below.refl w1.heap.size w1).alloc (Nat.le_refl _) (.cells #[.int .i64 0, .string ⟨#[104, 116, 116, 112, 58, 47, 47, 119, 119, 119, 46, 119, 51, 46, 111, 114, 103, 47, 50, 48, 48, 53, 47, 65, 116, 111, 109]⟩, .string name, .slice none 0 0, .slice none 0 0, .string ⟨#[]⟩] 27)
  have Z2 := Lib.hid (Z.out.on bX)
  have bX2 := Lib.hid (bZ.out.trans (bX.mono bZ.out.size))
  have hne := Lib.hid (show w.heap.size < w1.heap.size from Z.out.lt)
  replace X := Lib.hid X
  clear bX Z bZ
  go_upto_region 2 with fail
  generalize w1.alloc (.cells #[.int .i64 0, .string ⟨#[104, 116, 116, 112, 58, 47, 47, 119, 119, 119, 46, 119, 51, 46, 111, 114, 103, 47, 50, 48, 48, 53, 47, 65, 116, 111, 109]⟩, .string name, .slice none 0 0, .slice none 0 0, .string ⟨#[]⟩] 27) = w2 at *
  by_cases h0 : text.size = 0
  · have hM := Lib.hid (hn.out h0)
    clear hy hn
    obtain rfl : text = ByteArray.empty := ByteArray.size_eq_zero_iff.1 h0
    have he3 : (ByteArray.empty.toList == []) = true := by rw [ByteArray.toList_eq]; rfl
    have he4 : (ByteArray.empty.toList != []) = false := by rw [ByteArray.toList_eq]; rfl
    have he2 : ByteArray.empty.toList = [] := by rw [ByteArray.toList_eq]; rfl
    obtain ⟨x0, x1, x2, x3, x4, x5⟩ := node_open (show Cells w2 _ _ (nodeArr 0 ⟨#[104, 116, 116, 112, 58, 47, 47, 119, 119, 119, 46, 119, 51, 46, 111, 114, 103, 47, 50, 48, 48, 53, 47, 65, 116, 111, 109]⟩ name (.slice none 0 0) (.slice none 0 0) ⟨#[]⟩) from X.out)
    obtain ⟨z0, z1, z2, z3, z4, z5⟩ := node_open (show Cells w2 _ _ (nodeArr 0 ⟨#[]⟩ ⟨#[]⟩ (.slice none 0 0) (.slice none 0 0) ⟨#[]⟩) from Z2.out)
    have f0 := Z2.out.free 0
    have f1 := Z2.out.free 1
    have f2 := Z2.out.free 2
    have f3 := Z2.out.free 3
    have f4 := Z2.out.free 4
    have f5 := Z2.out.free 5
    have hF := Lib.hid (six_cells Z2.out (.int .i64 0) (.string ⟨#[104, 116, 116, 112, 58, 47, 47, 119, 119, 119, 46, 119, 51, 46, 111, 114, 103, 47, 50, 48, 48, 53, 47, 65, 116, 111, 109]⟩) (.string name) (.slice none 0 0) (.slice none 0 0) (.string ⟨#[]⟩))
    have hB := Lib.hid (six_below bX2.out (Nat.le_refl _) (.int .i64 0) (.string ⟨#[104, 116, 116, 112, 58, 47, 47, 119, 119, 119, 46, 119, 51, 46, 111, 114, 103, 47, 50, 48, 48, 53, 47, 65, 116, 111, 109]⟩) (.string name) (.slice none 0 0) (.slice none 0 0) (.string ⟨#[]⟩))
    clear Z2 X bX2
    go_wp2_with fail
    exact node_end (i := 4) (rb := w.heap.size) rfl rfl hF.out ⟨none, 0, 0, rfl, by rw [hM.out]; exact (node_plain _ _ 0 ⟨#[104, 116, 116, 112, 58, 47, 47, 119, 119, 119, 46, 119, 51, 46, 111, 114, 103, 47, 50, 48, 48, 53, 47, 65, 116, 111, 109]⟩ name ⟨#[]⟩), fun _ => ⟨rfl, rfl, rfl⟩, hB.out⟩
  · have hM := Lib.hid (hy.out h0)
    clear hy hn
    have hp : 0 < text.size := by omega
    have hne3 : ¬ text.toList = [] := by
      rw [ByteArray.toList_eq]
      exact lst_ne hp
    have hne2 : (text.toList == []) = false := by
      rw [beq_eq_false_iff_ne]; exact hne3
    have hne4 : (text.toList != []) = true := by rw [bne, hne2]; rfl
    have x4 := (X.out.alloc (.cells #[.int .i64 1, .string ⟨#[]⟩, .string ⟨#[]⟩, .slice none 0 0, .slice none 0 0, .string text] 27)).cell (i := 4) rfl
    have g4 := (X.out.alloc (.cells #[.int .i64 1, .string ⟨#[]⟩, .string ⟨#[]⟩, .slice none 0 0, .slice none 0 0, .string text] 27)).free 4
    have l1 := X.out.lt
    have l2 := Z2.out.lt
    have hne0 := hne.out
    have T4 := Lib.hid ((Cells.new w2 27 #[.int .i64 1, .string ⟨#[]⟩, .string ⟨#[]⟩, .slice none 0 0, .slice none 0 0, .string text]).other (c := w1.heap.size) 4 (.slice (some ⟨w2.heap.size, 0, none⟩) 1 1) (by omega))
    have X4 := Lib.hid ((X.out.alloc (.cells #[.int .i64 1, .string ⟨#[]⟩, .string ⟨#[]⟩, .slice none 0 0, .slice none 0 0, .string text] 27)).set 4 (.slice (some ⟨w2.heap.size, 0, none⟩) 1 1))
    have Z4 := Lib.hid ((Z2.out.alloc (.cells #[.int .i64 1, .string ⟨#[]⟩, .string ⟨#[]⟩, .slice none 0 0, .slice none 0 0, .string text] 27)).other (c := w1.heap.size) 4 (.slice (some ⟨w2.heap.size, 0, none⟩) 1 1) (by omega))
    have b4 := Lib.hid ((bX2.out.alloc (by omega) (.cells #[.int .i64 1, .string ⟨#[]⟩, .string ⟨#[]⟩, .slice none 0 0, .slice none 0 0, .string text] 27)).setCell (p := ⟨w1.heap.size, 4, none⟩) (by show w.heap.size ≤ w1.heap.size; omega) (.slice (some ⟨w2.heap.size, 0, none⟩) 1 1))
    have hT := Lib.hid (show ¬ w2.heap.size = w.heap.size by omega)
    have hT2 := Lib.hid (show w.heap.size ≤ w2.heap.size by omega)
    clear Z2 X bX2 l1 l2 hne0
    go_upto_region 4 with fail
    clear x4 g4
    generalize (w2.alloc (.cells #[.int .i64 1, .string ⟨#[]⟩, .string ⟨#[]⟩, .slice none 0 0, .slice none 0 0, .string text] 27)).setCell ⟨w1.heap.size, 4, none⟩ (.slice (some ⟨w2.heap.size, 0, none⟩) 1 1) = w4 at *
    obtain ⟨x0, x1, x2, x3, x4, x5⟩ := node_open (show Cells w4 _ _ (nodeArr 0 ⟨#[104, 116, 116, 112, 58, 47, 47, 119, 119, 119, 46, 119, 51, 46, 111, 114, 103, 47, 50, 48, 48, 53, 47, 65, 116, 111, 109]⟩ name (.slice none 0 0) (.slice (some ⟨w2.heap.size, 0, none⟩) 1 1) ⟨#[]⟩) from X4.out)
    obtain ⟨z0, z1, z2, z3, z4, z5⟩ := node_open (show Cells w4 _ _ (nodeArr 0 ⟨#[]⟩ ⟨#[]⟩ (.slice none 0 0) (.slice none 0 0) ⟨#[]⟩) from Z4.out)
    have f0 := Z4.out.free 0
    have f1 := Z4.out.free 1
    have f2 := Z4.out.free 2
    have f3 := Z4.out.free 3
    have f4 := Z4.out.free 4
    have f5 := Z4.out.free 5
    have hF := Lib.hid (six_cells Z4.out (.int .i64 0) (.string ⟨#[104, 116, 116, 112, 58, 47, 47, 119, 119, 119, 46, 119, 51, 46, 111, 114, 103, 47, 50, 48, 48, 53, 47, 65, 116, 111, 109]⟩) (.string name) (.slice none 0 0) (.slice (some ⟨w2.heap.size, 0, none⟩) 1 1) (.string ⟨#[]⟩))
    have hB := Lib.hid (six_below b4.out (Nat.le_refl _) (.int .i64 0) (.string ⟨#[104, 116, 116, 112, 58, 47, 47, 119, 119, 119, 46, 119, 51, 46, 111, 114, 103, 47, 50, 48, 48, 53, 47, 65, 116, 111, 109]⟩) (.string name) (.slice none 0 0) (.slice (some ⟨w2.heap.size, 0, none⟩) 1 1) (.string ⟨#[]⟩))
    have hK : Hid (Cells ((((((w4.setCell ⟨w.heap.size, 0, none⟩ (.int .i64 0)).setCell ⟨w.heap.size, 1, none⟩ (.string ⟨#[104, 116, 116, 112, 58, 47, 47, 119, 119, 119, 46, 119, 51, 46, 111, 114, 103, 47, 50, 48, 48, 53, 47, 65, 116, 111, 109]⟩)).setCell ⟨w.heap.size, 2, none⟩ (.string name)).setCell ⟨w.heap.size, 3, none⟩ (.slice none 0 0)).setCell ⟨w.heap.size, 4, none⟩ (.slice (some ⟨w2.heap.size, 0, none⟩) 1 1)).setCell ⟨w.heap.size, 5, none⟩ (.string ⟨#[]⟩)) w2.heap.size 27 #[.int .i64 1, .string ⟨#[]⟩, .string ⟨#[]⟩, .slice none 0 0, .slice none 0 0, .string text]) :=
      Lib.hid ((((((T4.out.other 0 _ hT.out).other 1 _ hT.out).other 2 _ hT.out).other 3 _ hT.out).other 4 _ hT.out).other 5 _ hT.out)
    clear X4 Z4 b4 T4
    go_wp2_with fail
    exact node_end (i := 4) (rb := w.heap.size) rfl rfl hF.out ⟨some ⟨w2.heap.size, 0, none⟩, 1, 1, rfl, by rw [hM.out]; exact nd_mk (atts_nil _ _) (rows_one hK.out hT2.out (node_plain _ _ 1 ⟨#[]⟩ ⟨#[]⟩ text)) (by unfold maxLen; simp) (by unfold maxLen; simp), (fun e => absurd e h0), hB.out⟩

/-- .. without a text. -/
theorem el_none (name : ByteArray) (w : World) :
    Calls Tryz.prog 59 #[.string name, .string ⟨#[]⟩] w fun e w' => e = .returned (.agg #[.int .i64 0, .string ⟨#[104, 116, 116, 112, 58, 47, 47, 119, 119, 119, 46, 119, 51, 46, 111, 114, 103, 47, 50, 48, 48, 53, 47, 65, 116, 111, 109]⟩, .string name, .slice none 0 0, .slice none 0 0, .string ⟨#[]⟩]) ∧ Below w.heap.size w w' := by
  refine (el_any name ⟨#[]⟩ w).mono ?_
  rintro e w' ⟨ko, kn, kc, rfl, hN, h0, hb⟩
  obtain ⟨rfl, rfl, rfl⟩ := h0 rfl
  exact ⟨rfl, hb⟩
theorem six_alloc {w : World} {b : Nat} {v0 v1 v2 v3 v4 v5 : Value} (h : w.cell? ⟨b, 0, none⟩ = some v0 ∧ w.cell? ⟨b, 1, none⟩ = some v1 ∧ w.cell? ⟨b, 2, none⟩ = some v2 ∧ w.cell? ⟨b, 3, none⟩ = some v3 ∧ w.cell? ⟨b, 4, none⟩ = some v4 ∧ w.cell? ⟨b, 5, none⟩ = some v5) (o : Obj) :
    (w.alloc o).cell? ⟨b, 0, none⟩ = some v0 ∧ (w.alloc o).cell? ⟨b, 1, none⟩ = some v1 ∧ (w.alloc o).cell? ⟨b, 2, none⟩ = some v2 ∧ (w.alloc o).cell? ⟨b, 3, none⟩ = some v3 ∧ (w.alloc o).cell? ⟨b, 4, none⟩ = some v4 ∧ (w.alloc o).cell? ⟨b, 5, none⟩ = some v5 := by
  have on := fun {a : Addr} {v : Value} (hx : w.cell? a = some v) => (((Below.refl w.heap.size w).alloc (Nat.le_refl _) o).cell (World.block_lt_of_cell? w _ hx)).trans hx
  exact ⟨on h.1, on h.2.1, on h.2.2.1, on h.2.2.2.1, on h.2.2.2.2.1, on h.2.2.2.2.2⟩
theorem six_store {w : World} {b c i : Nat} {v v0 v1 v2 v3 v4 v5 : Value} (h : w.cell? ⟨b, 0, none⟩ = some v0 ∧ w.cell? ⟨b, 1, none⟩ = some v1 ∧ w.cell? ⟨b, 2, none⟩ = some v2 ∧ w.cell? ⟨b, 3, none⟩ = some v3 ∧ w.cell? ⟨b, 4, none⟩ = some v4 ∧ w.cell? ⟨b, 5, none⟩ = some v5) (hne : ¬ b = c) :
    (w.setCell ⟨c, i, none⟩ v).cell? ⟨b, 0, none⟩ = some v0 ∧ (w.setCell ⟨c, i, none⟩ v).cell? ⟨b, 1, none⟩ = some v1 ∧ (w.setCell ⟨c, i, none⟩ v).cell? ⟨b, 2, none⟩ = some v2 ∧ (w.setCell ⟨c, i, none⟩ v).cell? ⟨b, 3, none⟩ = some v3 ∧ (w.setCell ⟨c, i, none⟩ v).cell? ⟨b, 4, none⟩ = some v4 ∧ (w.setCell ⟨c, i, none⟩ v).cell? ⟨b, 5, none⟩ = some v5 := by
  have on := fun {o : Nat} {x : Value} (hx : w.cell? ⟨b, o, none⟩ = some x) => (World.cell?_setCell_other w ⟨c, i, none⟩ ⟨b, o, none⟩ v (by simp)).trans hx
  exact ⟨on h.1, on h.2.1, on h.2.2.1, on h.2.2.2.1, on h.2.2.2.2.1, on h.2.2.2.2.2⟩
end Go.Proofs.YtdhondndidoniaaGreatDoor
namespace Go.Proofs.YtdhondndidoniaaGreatDoor
open Go.RowKit

theorem Pr.left_take {l : List Gv.Node} {j : Nat} (h : j < l.length) : (l.take (j + 1)).filter (fun x => !Pr.own x) = (l.take j).filter (fun x => !Pr.own x) ++ (if Pr.own l[j] = true then [] else [l[j]]) := by
  rw [List.take_succ_eq_append_getElem h, List.filter_append]
  congr 1
  cases h2 : Pr.own l[j] with
  | true => rw [if_pos rfl]; exact List.filter_eq_nil_iff.2 fun x hx => by rw [List.mem_singleton.1 hx, h2]; decide
  | false => rw [if_neg (by decide)]; exact List.filter_eq_self.2 fun x hx => by rw [List.mem_singleton.1 hx, h2]; rfl

theorem OwnsKids.parts {S : Nat → Prop} {B : Nat} {v : Value} {kids : List Gv.Node} {w : World} (h : OwnsKids S B v kids w) : ∃ (ao : Option Addr) (cap : Nat) (cs : Nat → List Value), v = .slice ao kids.length cap ∧ RowsAt (fun _ => True) w v kids.length cs ∧ (∀ j (h : j < kids.length), NodeAt S w (cs j) kids[j]) := by
  obtain ⟨css, h1, h2, h3⟩ := h
  have h6 : ∀ c ∈ css, c.length = 6 := fun c hc => by
    obtain ⟨j, hj, rfl⟩ := List.mem_iff_getElem.1 hc
    exact (h3 j hj (by omega)).six
  have hc := fun g hg => World.ownsRow.cells h2 (g := g) hg
  obtain ⟨hl, ⟨rfl, h0⟩ | ⟨g, cap, cur, rfl, hb, hh, hk, hm, _⟩⟩ := h2
  · have hk0 : kids = [] := List.eq_nil_of_length_eq_zero h0
    subst hk0
    exact ⟨none, 0, fun _ => [], rfl, ⟨none, 0, rfl, fun j hj => by simp at hj⟩, fun j hj => by simp at hj⟩
  · refine ⟨_, cap, fun j => css[j]?.getD [], rfl, ⟨_, cap, rfl, fun j hj => ?_⟩, fun j hj => ?_⟩
    · have hj2 : j < css.length := by omega
      have e : css[j]?.getD [] = css[j] := by simp [hj2]
      dsimp only
      rw [e]
      refine ⟨h6 _ (List.getElem_mem hj2), g, 0, rfl, trivial, fun i u hu => ?_⟩
      have hi : i < 6 := by
        have := (List.getElem?_eq_some_iff.1 hu).1
        rwa [h6 _ (List.getElem_mem hj2)] at this
      have := hc g rfl (j * 6 + i) u (by rw [flat_at css h6 j i hj2 hi]; exact hu)
      rw [add_at, ← Nat.add_assoc] at this
      exact this
    · have hj2 : j < css.length := by omega
      have e : css[j]?.getD [] = css[j] := by simp [hj2]
      dsimp only
      rw [e]
      exact (h3 j hj2 hj).mono fun b hb _ => hb.1

end Go.Proofs.YtdhondndidoniaaGreatDoor
namespace Go.Proofs.YtdhondndidoniaaGreatDoor
open Go.RowKit Go.Shelf
attribute [local go_sem] Oper.semAt_some
set_option linter.unusedVariables false
set_option linter.unusedSimpArgs false

/-- The six cells of a node, written out. -/
structure NH where
  k : Int
  sp : ByteArray
  nm : ByteArray
  ao : Option Addr
  na : Nat
  ca : Nat
  bo : Option Addr
  nb : Nat
  cb : Nat
  d : ByteArray
def NH.list (x : NH) : List Value := [.int .i64 x.k, .string x.sp, .string x.nm, .slice x.ao x.na x.ca, .slice x.bo x.nb x.cb, .string x.d]
/-- A node that lies in a world. -/
abbrev Kd (S : Nat → Prop) (w : World) := { x : NH × Gv.Node // NodeAt S w x.1.list x.2 ∧ Gv.wt x.2 ≤ 100000 }
def encK {S : Nat → Prop} {w : World} (x : Kd S w) : Array Value := #[.agg #[.int .i64 x.1.1.k, .string x.1.1.sp, .string x.1.1.nm, .slice x.1.1.ao x.1.1.na x.1.1.ca, .slice x.1.1.bo x.1.1.nb x.1.1.cb, .string x.1.1.d]]
def nodeK {S : Nat → Prop} {w : World} (x : Kd S w) : Gv.Node := x.1.2

set_option maxRecDepth 100000 in
set_option maxHeartbeats 6400000 in
theorem iter_stops (n : Nat) (hn : 1 ≤ n) (w W0 : World) (Bs : Nat) {S : Nat → Prop} {bo : Option Addr} {cb : Nat} {kids : List Gv.Node} (hlen : kids.length ≤ 1000000) (hK : KidsAt S w (.slice bo kids.length cb) kids) (hwt : ∀ x ∈ kids, Gv.wt x ≤ 100000) (hb0 : Below w.heap.size w W0) (hBs : W0.cell? ⟨Bs, 0, none⟩ = some (.slice bo kids.length cb)) :
    SeqStopsK Fence.wide n Tryz.prog 102 #[.pointer (some ⟨Bs, 0, none⟩)] (encK (S := S) (w := w)) (Below w.heap.size) (fun ys => Hid (ys.map nodeK = kids.filter fun x => !Pr.own x)) (fun _ => True) kids.length W0 := fun q J Jx W hW hJ hJx hY h0 => by
  have hcB : W.cell? ⟨Bs, 0, none⟩ = some (.slice bo kids.length cb) := (hW.cell (World.block_lt_of_cell? W0 _ hBs)).trans hBs
  have hbW := Lib.hid (hb0.trans (hW.mono hb0.size))
  replace hY := Lib.hid hY
  replace hJ := Lib.hid hJ
  replace h0 := Lib.hid h0
  clear hJx hW hb0 hBs
  replace hK := Lib.hid hK
  refine callsIn_of_wp Tryz.func102 rfl trivial ?_ rfl
  simp only [Tryz.ntmps102, List.size_toArray, List.length_cons, List.length_nil, Nat.reduceAdd, Nat.reduceSub, Array.replicate_succ, Array.replicate_zero, List.push_toArray, List.append_toArray, List.nil_append, List.cons_append]
  gi_wp2
  gi_loopw [7] (fun i wr => ∃ (j : Nat) (pre : List (Kd S w)), j ≤ kids.length ∧ i = .int .i64 (j : Int) ∧ Hid (pre.map nodeK = (kids.take j).filter fun x => !Pr.own x) ∧ pre.length ≤ j ∧ Hid (J pre wr) ∧ Hid (Below w.heap.size w wr) ∧ Hid (W.heap.size ≤ wr.heap.size)) (fun i _ => kids.length - (intOf i).toNat)
  case atStart => exact ⟨0, [], Nat.zero_le _, rfl, Lib.hid rfl, Nat.le_refl _, h0, hbW, Lib.hid (Nat.le_refl _)⟩
  case round =>
    obtain ⟨j, pre, hj, rfl, hpre, hpl, hJs, bw, hsz⟩ := hrel
    by_cases hlt : j < kids.length
    case neg =>
      have hki : ¬ (j : Int) < (kids.length : Int) := by omega
      have hfin := Lib.hid (show pre.map nodeK = kids.filter fun x => !Pr.own x by rw [hpre.out, List.take_of_length_le (by omega)])
      gi_wp2
      go_end0
      exact ⟨⟨_, rfl⟩, .inl ⟨pre, hfin, hJs.out⟩⟩
    have hki : (j : Int) < (kids.length : Int) := by omega
    have hnx := Lib.hid (Pr.left_take hlt)
    obtain ⟨b, off, k2, sp2, nm2, d2, as2, kd2, po, qo, pc, qc, rfl, ek, p0, p1, p2, p3, p4, p5, hA2, hK2, hz1, hz2⟩ := hK.out.kid hlt
    have hnd : NodeAt S w [.int .i64 k2, .string sp2, .string nm2, .slice po as2.length pc, .slice qo kd2.length qc, .string d2] kids[j] := by
      rw [ek]
      exact nd_mk hA2 hK2 hz1 hz2
    obtain ⟨x, hx1, hx2⟩ : ∃ x : Kd S w, x.1.1 = ⟨k2, sp2, nm2, po, as2.length, pc, qo, kd2.length, qc, d2⟩ ∧ nodeK x = kids[j] := ⟨⟨(⟨k2, sp2, nm2, po, as2.length, pc, qo, kd2.length, qc, d2⟩, kids[j]), hnd, hwt _ (List.getElem_mem hlt)⟩, rfl, rfl⟩
    have hen : Hid (encK x = #[.agg #[.int .i64 k2, .string sp2, .string nm2, .slice po as2.length pc, .slice qo kd2.length qc, .string d2]]) := Lib.hid (by unfold encK; rw [hx1])
    have on := fun {a : Addr} {x : Value} (hx : w.cell? a = some x) => (bw.out.cell (World.block_lt_of_cell? w _ hx)).trans hx
    replace p0 := on p0
    replace p1 := on p1
    replace p2 := on p2
    replace p3 := on p3
    replace p4 := on p4
    replace p5 := on p5
    have ba := (Below.refl wr.heap.size wr).alloc (Nat.le_refl _) (.cells #[.int .i64 k2, .string sp2, .string nm2, .slice po as2.length pc, .slice qo kd2.length qc, .string d2] 27)
    have knew := Lib.hid (Cells.new wr 27 (nodeArr k2 sp2 nm2 (.slice po as2.length pc) (.slice qo kd2.length qc) d2))
    have cc := Lib.hid (ppOwn_any kids[j] (wr.alloc (.cells #[.int .i64 k2, .string sp2, .string nm2, .slice po as2.length pc, .slice qo kd2.length qc, .string d2] 27)) (A := #[.int .i64 k2, .string sp2, .string nm2, .slice po as2.length pc, .slice qo kd2.length qc, .string d2]) ⟨_, (hnd.on bw.out).on ba⟩)
    replace ba := Lib.hid ba
    clear on hA2 hK2 hz1 hz2 ek hnd hx1
    gi_upto_region 3 with fail
    obtain ⟨x0, x1, x2, x3, x4, x5⟩ := node_open knew.out
    gi_wp2_with fail
    refine ⟨trivial, (callsIn_wide.2 cc.out).mono ?_⟩; rintro e w2 ⟨rfl, b2⟩
    have K2 := Lib.hid (knew.out.on b2)
    have g2 : Hid (wr.grownBy w2 none) := Lib.hid (grown_of_below (ba.out.trans (b2.mono ba.out.size)) none)
    have hJ2 := Lib.hid (hJ.out pre wr w2 none hJs.out g2.out (fun r e => by cases e))
    have B2 := Lib.hid (bw.out.trans ((ba.out.trans (b2.mono ba.out.size)).mono bw.out.size))
    have hs2 := Lib.hid (show W.heap.size ≤ w2.heap.size by have h1 := ba.out.size; have h2 := b2.size; have h3 := hsz.out; omega)
    clear x0 x1 x2 x3 x4 x5 p0 p1 p2 p3 p4 p5 knew ba b2 g2 cc hJs
    cases ow : Pr.own kids[j] with
    | true =>
      have hnx2 : Hid (pre.map nodeK = (kids.take (j + 1)).filter fun x => !Pr.own x) := Lib.hid (by rw [hnx.out, ow, hpre.out]; simp)
      gi_wp2
      refine ⟨fun _ h => (by cases h), ?_⟩
      gi_wp2
      go_roundw
      case rel => exact ⟨j + 1, pre, by omega, by go_num, hnx2, by omega, hJ2, B2, hs2⟩
      case measure => simp [intOf]; omega
    | false =>
      have hnx2 : Hid ((pre ++ [x]).map nodeK = (kids.take (j + 1)).filter fun x => !Pr.own x) := Lib.hid (by rw [hnx.out, ow, ← hpre.out, List.map_append, List.map_cons, hx2]; rfl)
      obtain ⟨x0, x1, x2, x3, x4, x5⟩ := node_open K2.out
      obtain ⟨fn, tmps, assign, body, hy, hR⟩ := hY.out pre x w2 hJ2.out (by omega)
      rw [hen.out] at hy
      gi_wp2
      refine hR.mono ?_
      rintro e W3 (⟨rfl, hJ3, hk3⟩ | ⟨rfl, hJx3⟩)
      · gi_wp2
        go_roundw
        case rel => exact ⟨j + 1, pre ++ [x], by omega, by go_num, hnx2, by simp; omega, Lib.hid hJ3, Lib.hid (B2.out.trans hk3), Lib.hid (Nat.le_trans hs2.out hk3.size)⟩
        case measure => simp [intOf]; omega
      · gi_wp2
        refine bodyPost_ret (results_none rfl _ _ _) rfl ?_
        exact ⟨⟨_, rfl⟩, .inr ⟨_, trivial, hJx3⟩⟩
end Go.Proofs.YtdhondndidoniaaGreatDoor
namespace Go.Proofs.YtdhondndidoniaaGreatDoor
namespace Pr
open Am

/-- Texts that wait, made one. -/
def one (T : List Gv.Node) : List Gv.Node := if T.length < 2 then T else [txt (txS (.mk 0 ⟨#[]⟩ ⟨#[]⟩ [] T ⟨#[]⟩))]
/-- One kid more: what is laid, and the texts that wait. -/
def stepK (s : List Gv.Node × List Gv.Node) (x : Gv.Node) : List Gv.Node × List Gv.Node := if kindOf x = 1 then (s.1, s.2 ++ [x]) else (s.1 ++ one s.2 ++ [x], [])
def gath (l : List Gv.Node) : List Gv.Node × List Gv.Node := l.foldl stepK ([], [])
theorem gath_snoc (l : List Gv.Node) (x : Gv.Node) : gath (l ++ [x]) = stepK (gath l) x := by unfold gath; rw [List.foldl_append]; rfl
structure GathOk (s : List Gv.Node × List Gv.Node) (J : List Gv.Node) : Prop where
  all : ∀ t ∈ s.2, kindOf t = 1
  last : ∀ m, s.1.getLast? = some m → kindOf m ≠ 1
  eq : J = s.1 ++ one s.2
theorem txS_more (T : List Gv.Node) (x : Gv.Node) (h : kindOf x = 1) : txS (.mk 0 ⟨#[]⟩ ⟨#[]⟩ [] (T ++ [x]) ⟨#[]⟩) = txS (.mk 0 ⟨#[]⟩ ⟨#[]⟩ [] T ⟨#[]⟩) ++ dataOf x := by
  apply bytes_eq
  rw [ByteArray.data_append, Array.toList_append, txS_list, txS_list, text_is, text_is]
  show (T ++ [x]).flatMap bit = T.flatMap bit ++ _
  rw [List.flatMap_append]
  congr 1
  simp [bit, h]
theorem txS_one (t : Gv.Node) (h : kindOf t = 1) : txS (.mk 0 ⟨#[]⟩ ⟨#[]⟩ [] [t] ⟨#[]⟩) = dataOf t := by
  apply bytes_eq
  rw [txS_list, text_is]
  show [t].flatMap bit = _
  simp [bit, h]
theorem one_long {T : List Gv.Node} (h : ¬ T.length < 2) : one T = [txt (txS (.mk 0 ⟨#[]⟩ ⟨#[]⟩ [] T ⟨#[]⟩))] := if_neg h
theorem join1_end {o : List Gv.Node} {m n : Gv.Node} (hm : kindOf m = 1) (hn : kindOf n = 1) : join1 (o ++ [m]) n = o ++ [txt (dataOf m ++ dataOf n)] := by
  unfold join1
  rw [List.getLast?_concat]
  dsimp only
  rw [if_pos ⟨hn, hm⟩, List.dropLast_concat]
theorem gath_step {s : List Gv.Node × List Gv.Node} {J : List Gv.Node} (h : GathOk s J) (x : Gv.Node) : GathOk (stepK s x) (join1 J x) := by
  obtain ⟨L, T⟩ := s
  obtain ⟨h1, h2, rfl⟩ := h
  dsimp only at h1 h2 ⊢
  unfold stepK
  dsimp only
  by_cases hx : kindOf x = 1
  · rw [if_pos hx]
    refine ⟨fun t ht => ?_, h2, ?_⟩
    · rcases List.mem_append.1 ht with ht | ht
      · exact h1 t ht
      · rw [List.mem_singleton.1 ht]; exact hx
    · dsimp only
      match T, h1 with
      | [], _ =>
        rw [show one [] = [] from rfl, List.append_nil, show one ([] ++ [x]) = [x] from rfl]
        unfold join1
        split
        · rename_i m hm
          rw [if_neg fun e => h2 m hm e.2]
        · rfl
      | [t], h1 =>
        have ht := h1 t (by simp)
        rw [show one [t] = [t] from rfl, join1_end ht hx, one_long (by simp), txS_more _ _ hx, txS_one t ht]
      | t :: u :: T, h1 =>
        rw [one_long (T := t :: u :: T) (by simp), join1_end rfl hx, one_long (by simp), txS_more _ _ hx]
        rfl
  · rw [if_neg hx]
    refine ⟨fun t ht => (by cases ht), fun m hm => ?_, ?_⟩
    · rw [List.getLast?_concat] at hm
      injection hm with hm
      subst hm
      exact hx
    · dsimp only
      rw [join1_el hx, show one [] = [] from rfl, List.append_nil]
theorem fold_gath : ∀ (l : List Gv.Node) (s : List Gv.Node × List Gv.Node) (J : List Gv.Node), GathOk s J → GathOk (l.foldl stepK s) (l.foldl join1 J)
  | [], _, _, h => h
  | x :: l, _, _, h => fold_gath l _ _ (gath_step h x)
/-- GATHERED, THEY ARE TEXTS SIDE BY SIDE MADE ONE. -/
theorem gath_joined (l : List Gv.Node) : (gath l).1 ++ one (gath l).2 = joined l := (fold_gath l ([], []) [] ⟨fun _ h => (by cases h), fun _ h => (by cases h), rfl⟩).eq.symm
theorem gath_len (l : List Gv.Node) : (gath l).1.length + (gath l).2.length ≤ l.length := by
  have key : ∀ (l : List Gv.Node) (s : List Gv.Node × List Gv.Node), (l.foldl stepK s).1.length + (l.foldl stepK s).2.length ≤ s.1.length + s.2.length + l.length := by
    intro l
    induction l with
    | nil => intro s; simp
    | cons x l ih =>
      intro s
      rw [List.foldl_cons]
      refine Nat.le_trans (ih _) ?_
      have ho : (one s.2).length ≤ s.2.length := by
        unfold one
        split
        · exact Nat.le_refl _
        · simp; omega
      unfold stepK
      split
      · simp; omega
      · simp; omega
  have := key l ([], [])
  unfold gath
  simpa using this
theorem gath_wt (l : List Gv.Node) : Gv.wts (gath l).2 ≤ Gv.wts l := by
  have key : ∀ (l : List Gv.Node) (s : List Gv.Node × List Gv.Node), Gv.wts (l.foldl stepK s).2 ≤ Gv.wts s.2 + Gv.wts l := by
    intro l
    induction l with
    | nil => intro s; simp [Gv.wts]
    | cons x l ih =>
      intro s
      rw [List.foldl_cons]
      refine Nat.le_trans (ih _) ?_
      unfold stepK
      split
      · simp only [Gv.wts_append, Gv.wts]; omega
      · simp only [Gv.wts]; omega
  have := key l ([], [])
  unfold gath
  simpa [Gv.wts] using this
end Pr
end Go.Proofs.YtdhondndidoniaaGreatDoor
