/-
  The program's own words of a kid that the server sets: isElement, isForEditing, isServers. (Printed by gen_ppkid.py.)
  Weights of what is pressed: texts made one weigh no more.
  What comparing pairs comes to: contract of SamePairs.
  Tokens in memory: an answer's, and rows that a call owns.
  Rows of nodes that a call owns; a leaf.
  What the document's own Grown comes to: nodes and one more.
  What the document's own word of texts side by side comes to.
  What the document's own word of contents comes to.
  What the document's own word of persons comes to.
  What the document's own word of each kid of a name comes to.
  What the document's own Check of entries comes to.
  What the document's own Check of entries comes to: the walk.
-/
import Derived.Test.YtdhondndidoniaaGreatDoorG07
import Derived.Test.YtdhondndidoniaaGreatDoorG08
import Derived.Test.YtdhondndidoniaaGreatDoorG01
import Derived.Test.YtdhondndidoniaaGreatDoorG06
import Derived.Test.YtdhondndidoniaaGreatDoorG03
import Derived.Laws.StructEq
import Derived.Deep.DeepCutAuto
import Derived.Deep.RegionHeld3
import Derived.Deep.QuietTactic
import Derived.BigQuiet
import Derived.Laws.Cover1
import Derived.Test.YtdhondndidoniaaGreatDoorG04
import Derived.Laws.AppendOwnNone
import Derived.Laws.OwnMore
import Derived.Maps.AppendAt
import Derived.Deep.RegionWith
namespace Go.Proofs.YtdhondndidoniaaGreatDoor
open Go.RowKit
set_option linter.unusedVariables false
set_option linter.unusedSimpArgs false

theorem pr_rel : (⟨#[114, 101, 108]⟩ : ByteArray).data.toList = Am.lit "rel" := by decide +kernel
def Pr.forE : Option (List UInt8) → Bool
  | none => false
  | some v => decide (v = [101, 100, 105, 116]) || decide (v = [101, 100, 105, 116, 45, 109, 101, 100, 105, 97])
theorem Pr.own_is (n : Gv.Node) : Pr.own n = (Am.isEl n Am.atomS (Am.lit "id") || Am.isEl n Pr.appS (Am.lit "edited") || (Am.isEl n Am.atomS (Am.lit "link") && Pr.forE (Am.attr n (Am.lit "rel")))) := by
  unfold Pr.own
  congr 2
  unfold Am.rel
  rw [pr_edit, pr_media]
  cases Am.attr n (Am.lit "rel") with
  | none => decide +kernel
  | some v => rfl

set_option maxRecDepth 100000 in
set_option maxHeartbeats 3200000 in
theorem ppIs_at (k : Int) (sp nm d s m : ByteArray) (va vk : Value) (as' : List Gv.Att) (kids : List Gv.Node) (w : World) :
    Calls Tryz.prog 53 #[.agg #[.int .i64 k, .string sp, .string nm, va, vk, .string d], .string s, .string m] w fun e w' => e = .returned (.bool (Am.isEl (.mk k sp nm as' kids d) s.data.toList m.data.toList)) ∧ Below w.heap.size w w' := by
  have hq : Hid (Am.isEl (.mk k sp nm as' kids d) s.data.toList m.data.toList = (decide (k = 0) && decide (sp.data.toList = s.data.toList) && decide (nm.data.toList = m.data.toList))) := Lib.hid rfl
  generalize Am.isEl (.mk k sp nm as' kids d) s.data.toList m.data.toList = Q at *
  have b1 := (Below.refl w.heap.size w).alloc (Nat.le_refl _) (.cells #[.int .i64 k, .string sp, .string nm, va, vk, .string d] 27)
  by_cases h0 : k = 0
  · subst h0
    by_cases h1 : sp.data.toList = s.data.toList
    · have e1 := am_yes h1
      by_cases h2 : nm.data.toList = m.data.toList
      · have e2 := am_yes h2
        have hr : Hid (Q = true) := Lib.hid (by rw [hq.out]; simp [h1, h2])
        clear hq h1 h2
        go_enter Tryz.func53, Tryz.ntmps53
        go_wp2_with fail
        go_ret
        exact ⟨ret_bool hr.out.symm, b1⟩
      · have e2 := am_no h2
        have hr : Hid (Q = false) := Lib.hid (by rw [hq.out]; simp [h1, h2])
        clear hq h1 h2
        go_enter Tryz.func53, Tryz.ntmps53
        go_wp2_with fail
        go_ret
        exact ⟨ret_bool hr.out.symm, b1⟩
    · have e1 := am_no h1
      have hr : Hid (Q = false) := Lib.hid (by rw [hq.out]; simp [h1])
      clear hq h1
      go_enter Tryz.func53, Tryz.ntmps53
      go_wp2_with fail
      go_ret
      exact ⟨ret_bool hr.out.symm, b1⟩
  · have e0 : (k == 0) = false := beq_false_of_ne h0
    have hr : Hid (Q = false) := Lib.hid (by rw [hq.out]; simp [h0])
    clear hq h0
    go_enter Tryz.func53, Tryz.ntmps53
    go_wp2_with fail
    go_ret
    exact ⟨ret_bool hr.out.symm, b1⟩



theorem ppIs_any (n : Gv.Node) {A : Array Value} (s m : ByteArray) (w : World) (h : Nd w A n) :
    Calls Tryz.prog 53 #[.agg A, .string s, .string m] w fun e w' => e = .returned (.bool (Am.isEl n s.data.toList m.data.toList)) ∧ Below w.heap.size w w' := by
  obtain ⟨S, k, sp, nm, d, as', kids, ao, bo, ca, cb, rfl, rfl, ha, hk, h1, h2⟩ := h.form
  exact ppIs_at k sp nm d s m _ _ as' kids w

set_option maxRecDepth 100000 in
set_option maxHeartbeats 3200000 in
theorem ppFor_any (n : Gv.Node) {A : Array Value} (w : World) (h : Nd w A n) :
    Calls Tryz.prog 132 #[.agg A] w fun e w' => e = .returned (.bool (Pr.forE (Am.attr n (Am.lit "rel")))) ∧ Below w.heap.size w w' := by
  obtain ⟨S, k, sp, nm, d, as', kids, ao, bo, ca, cb, rfl, rfl, hA, hK, hl, h2⟩ := h.form
  unfold maxLen at hl
  have hq : Hid (Am.attr (.mk k sp nm as' kids d) (Am.lit "rel") = Am.attrIn as' (Am.lit "rel")) := Lib.hid rfl
  generalize Am.attr (.mk k sp nm as' kids d) (Am.lit "rel") = Q at *
  have hR : Hid (Pr.forE Q = Pr.forE Q) := Lib.hid rfl
  obtain ⟨RQ, hRQ⟩ : ∃ RQ, RQ = Pr.forE Q := ⟨_, rfl⟩
  rw [← hRQ]
  replace hRQ := Lib.hid hRQ
  clear hR
  have b1 := (Below.refl w.heap.size w).alloc (Nat.le_refl _) (.cells #[.int .i64 k, .string sp, .string nm, .slice ao as'.length ca, .slice bo kids.length cb, .string d] 27)
  have hA1 := hA.stay (stay_below b1)
  go_enter Tryz.func132, Tryz.ntmps132
  go_upto_region 1 with fail
  obtain ⟨-, -, -, c3, -, -⟩ := node_open (Cells.new w 27 (nodeArr k sp nm (.slice ao as'.length ca) (.slice bo kids.length cb) d))
  unfold nodeArr at c3
  generalize w.alloc (.cells #[.int .i64 k, .string sp, .string nm, .slice ao as'.length ca, .slice bo kids.length cb, .string d] 27) = wA at *
  replace b1 := Lib.hid b1
  replace hA1 := Lib.hid hA1
  clear hA h hK
  go_wp2_with fail
  go_loopw [8] (fun i wr => ∃ j : Nat, j ≤ as'.length ∧ i = .int .i64 (j : Int) ∧ Hid (Q = Am.attrIn (as'.drop j) (Am.lit "rel")) ∧ Hid (Below wA.heap.size wA wr)) (fun i _ => as'.length - (intOf i).toNat)
  case atStart => exact ⟨0, Nat.zero_le _, rfl, Lib.hid (by rw [List.drop_zero]; exact hq.out), Lib.hid (Below.refl _ _)⟩
  case round =>
    obtain ⟨j, hj, rfl, hD, bw⟩ := hrel
    by_cases hlt : j < as'.length
    · have hst := hD.out
      rw [List.drop_eq_getElem_cons hlt, Am.attrIn_cons] at hst
      obtain ⟨asp, anm, ava, ea⟩ : ∃ asp anm ava, as'[j] = ⟨asp, anm, ava⟩ := ⟨_, _, _, rfl⟩
      obtain ⟨b, off, rfl, d0, d1, d2⟩ := (hA1.out.stay (stay_below bw.out)).cells hlt ea
      rw [ea] at hst
      dsimp only at hst
      have hji : (j : Int) < (as'.length : Int) := by omega
      have R := Cells.new wr 49 #[.string asp, .string anm, .string ava]
      have q0 := R.cell (i := 0) rfl
      have q1 := R.cell (i := 1) rfl
      have q2 := R.cell (i := 2) rfl
      have bP := Lib.hid (bw.out.alloc (by have := bw.out.size; omega) (.cells #[.string asp, .string anm, .string ava] 49))
      clear hD ea hq R bw
      by_cases h1 : asp.data.toList = []
      · have e1 : (asp.toList == []) = true := by rw [ByteArray.toList_eq]; simpa using h1
        by_cases h2 : anm.data.toList = Am.lit "rel"
        · have e2 := str_is (show anm.data.toList = [114, 101, 108] by rw [h2]; exact pr_rel.symm)
          rw [if_pos ⟨h1, h2⟩] at hst
          have hst2 : Hid (RQ = (decide (ava.data.toList = [101, 100, 105, 116]) || decide (ava.data.toList = [101, 100, 105, 116, 45, 109, 101, 100, 105, 97]))) := Lib.hid (by rw [hRQ.out, hst]; rfl)
          have bF := Lib.hid (b1.out.trans (bP.out.mono b1.out.size))
          clear h1 h2 bP hst
          by_cases g1 : ava.data.toList = [101, 100, 105, 116]
          · have s1 := str_is g1
            have hr : Hid (RQ = true) := Lib.hid (by rw [hst2.out, decide_eq_true g1]; rfl)
            clear g1
            go_wp2_with fail
            go_ret
            exact ⟨ret_bool hr.out.symm, bF.out⟩
          · have s1 := str_ne g1
            replace g1 := Lib.hid g1
            by_cases g2 : ava.data.toList = [101, 100, 105, 116, 45, 109, 101, 100, 105, 97]
            · have s2 := str_is g2
              have hr : Hid (RQ = true) := Lib.hid (by rw [hst2.out, decide_eq_false g1.out, decide_eq_true g2]; rfl)
              clear g2
              go_wp2_with fail
              go_ret
              exact ⟨ret_bool hr.out.symm, bF.out⟩
            · have s2 := str_ne g2
              have hr : Hid (RQ = false) := Lib.hid (by rw [hst2.out, decide_eq_false g1.out, decide_eq_false g2]; rfl)
              clear g2
              go_wp2_with fail
              go_ret
              exact ⟨ret_bool hr.out.symm, bF.out⟩
        · have e2 := str_ne (show anm.data.toList ≠ [114, 101, 108] from fun e => h2 (by rw [e]; exact pr_rel))
          rw [if_neg (fun h => h2 h.2)] at hst
          replace hst := Lib.hid hst
          clear h1 h2
          go_wp2_with fail
          go_roundw
          case rel => exact ⟨j + 1, by omega, by go_num, hst, bP⟩
          case measure => simp [intOf]; omega
      · have e1 : (asp.toList == []) = false := by rw [ByteArray.toList_eq]; exact beq_false_of_ne h1
        rw [if_neg (fun h => h1 h.1)] at hst
        replace hst := Lib.hid hst
        clear h1
        go_wp2_with fail
        go_roundw
        case rel => exact ⟨j + 1, by omega, by go_num, hst, bP⟩
        case measure => simp [intOf]; omega
    · have hr : Hid (RQ = false) := Lib.hid (by rw [hRQ.out, hD.out, List.drop_of_length_le (by omega)]; rfl)
      have hki : ¬ (j : Int) < (as'.length : Int) := by omega
      have bF := Lib.hid (b1.out.trans (bw.out.mono b1.out.size))
      clear hD hq bw
      go_wp2_with fail
      go_ret
      exact ⟨ret_bool hr.out.symm, bF.out⟩

set_option maxRecDepth 100000 in
set_option maxHeartbeats 6400000 in
theorem ppOwn_any (n : Gv.Node) {A : Array Value} (w : World) (h : Nd w A n) :
    Calls Tryz.prog 103 #[.agg A] w fun e w' => e = .returned (.bool (Pr.own n)) ∧ Below w.heap.size w w' := by
  have hq : Pr.own n = (Am.isEl n Am.atomS (Am.lit "id") || Am.isEl n Pr.appS (Am.lit "edited") || (Am.isEl n Am.atomS (Am.lit "link") && Pr.forE (Am.attr n (Am.lit "rel")))) := Pr.own_is n
  generalize Pr.own n = Q at *
  replace hq := Lib.hid hq
  have k1 := Lib.hid (fun W A (hW : Nd W A n) => ppIs_any n ⟨#[104, 116, 116, 112, 58, 47, 47, 119, 119, 119, 46, 119, 51, 46, 111, 114, 103, 47, 50, 48, 48, 53, 47, 65, 116, 111, 109]⟩ ⟨#[105, 100]⟩ W hW)
  have k2 := Lib.hid (fun W A (hW : Nd W A n) => ppIs_any n ⟨#[104, 116, 116, 112, 58, 47, 47, 119, 119, 119, 46, 119, 51, 46, 111, 114, 103, 47, 50, 48, 48, 55, 47, 97, 112, 112]⟩ ⟨#[101, 100, 105, 116, 101, 100]⟩ W hW)
  have k3 := Lib.hid (fun W A (hW : Nd W A n) => ppIs_any n ⟨#[104, 116, 116, 112, 58, 47, 47, 119, 119, 119, 46, 119, 51, 46, 111, 114, 103, 47, 50, 48, 48, 53, 47, 65, 116, 111, 109]⟩ ⟨#[108, 105, 110, 107]⟩ W hW)
  have k4 := Lib.hid (fun W A (hW : Nd W A n) => ppFor_any n W hW)
  rw [am_atom, pr_id] at k1
  rw [pr_app, pr_edited] at k2
  rw [am_atom, pr_link] at k3
  generalize Pr.forE (Am.attr n (Am.lit "rel")) = r1 at *
  generalize Am.isEl n Am.atomS (Am.lit "id") = c1 at *
  generalize Am.isEl n Pr.appS (Am.lit "edited") = c2 at *
  generalize Am.isEl n Am.atomS (Am.lit "link") = c3 at *
  obtain ⟨S, k, sp, nm, d, as', kids, ao, bo, ca, cb, hn, rfl, -, -, -, -⟩ := h.form
  have b1 := (Below.refl w.heap.size w).alloc (Nat.le_refl _) (.cells #[.int .i64 k, .string sp, .string nm, .slice ao as'.length ca, .slice bo kids.length cb, .string d] 27)
  have N0 := Lib.hid (h.on b1)
  have C0 := Lib.hid (Cells.new w 27 #[.int .i64 k, .string sp, .string nm, .slice ao as'.length ca, .slice bo kids.length cb, .string d])
  have B0 := Lib.hid b1
  clear b1 h hn
  go_enter Tryz.func103, Tryz.ntmps103
  go_upto_region 1 with fail
  generalize w.alloc (.cells #[.int .i64 k, .string sp, .string nm, .slice ao as'.length ca, .slice bo kids.length cb, .string d] 27) = w0 at *
  obtain ⟨x0, x1, x2, x3, x4, x5⟩ := node_open (show Cells _ _ _ (nodeArr k sp nm (.slice ao as'.length ca) (.slice bo kids.length cb) d) from C0.out)
  have cc := Lib.hid (k1.out w0 _ N0.out)
  go_wp2_with fail
  (with_reducible refine (cc.out).mono ?_); rintro e w1 ⟨rfl, b1⟩
  have C1 := Lib.hid (C0.out.on b1)
  have N1 := Lib.hid (N0.out.on b1)
  have B1 := Lib.hid (B0.out.trans (b1.mono B0.out.size))
  clear C0 N0 B0 x0 x1 x2 x3 x4 x5 cc b1
  cases c1 with
  | true =>
    have hr : Hid (Q = true) := Lib.hid hq.out
    go_wp2_with fail
    go_ret
    exact ⟨ret_bool hr.out.symm, B1.out⟩
  | false =>
    obtain ⟨x0, x1, x2, x3, x4, x5⟩ := node_open (show Cells _ _ _ (nodeArr k sp nm (.slice ao as'.length ca) (.slice bo kids.length cb) d) from C1.out)
    have cc := Lib.hid (k2.out w1 _ N1.out)
    go_wp2_with fail
    (with_reducible refine (cc.out).mono ?_); rintro e w2 ⟨rfl, b2⟩
    have C2 := Lib.hid (C1.out.on b2)
    have N2 := Lib.hid (N1.out.on b2)
    have B2 := Lib.hid (B1.out.trans (b2.mono B1.out.size))
    clear C1 N1 B1 x0 x1 x2 x3 x4 x5 cc b2
    cases c2 with
    | true =>
      have hr : Hid (Q = true) := Lib.hid hq.out
      go_wp2_with fail
      go_ret
      exact ⟨ret_bool hr.out.symm, B2.out⟩
    | false =>
      obtain ⟨x0, x1, x2, x3, x4, x5⟩ := node_open (show Cells _ _ _ (nodeArr k sp nm (.slice ao as'.length ca) (.slice bo kids.length cb) d) from C2.out)
      have cc := Lib.hid (k3.out w2 _ N2.out)
      go_wp2_with fail
      (with_reducible refine (cc.out).mono ?_); rintro e w3 ⟨rfl, b3⟩
      have C3 := Lib.hid (C2.out.on b3)
      have N3 := Lib.hid (N2.out.on b3)
      have B3 := Lib.hid (B2.out.trans (b3.mono B2.out.size))
      clear C2 N2 B2 x0 x1 x2 x3 x4 x5 cc b3
      cases c3 with
      | false =>
        have hr : Hid (Q = false) := Lib.hid hq.out
        go_wp2_with fail
        go_ret
        exact ⟨ret_bool hr.out.symm, B3.out⟩
      | true =>
        obtain ⟨x0, x1, x2, x3, x4, x5⟩ := node_open (show Cells _ _ _ (nodeArr k sp nm (.slice ao as'.length ca) (.slice bo kids.length cb) d) from C3.out)
        have cc := Lib.hid (k4.out w3 _ N3.out)
        go_wp2_with fail
        (with_reducible refine (cc.out).mono ?_); rintro e w4 ⟨rfl, b4⟩
        have C4 := Lib.hid (C3.out.on b4)
        have N4 := Lib.hid (N3.out.on b4)
        have B4 := Lib.hid (B3.out.trans (b4.mono B3.out.size))
        clear C3 N3 B3 x0 x1 x2 x3 x4 x5 cc b4
        have hr : Hid (Q = r1) := Lib.hid hq.out
        go_wp2_with fail
        go_ret
        exact ⟨ret_bool hr.out.symm, B4.out⟩

end Go.Proofs.YtdhondndidoniaaGreatDoor
namespace Go.Proofs.YtdhondndidoniaaGreatDoor
namespace Pr
open Am

theorem wt_text (d : ByteArray) : Gv.wt (txt d) = 1 + d.size := by
  show Gv.wt (.mk 1 ⟨#[]⟩ ⟨#[]⟩ [] [] d) = _
  rw [Gv.wt_mk]
  simp only [Gv.wts, List.length_nil, List.map_nil, List.sum_nil]
  have : ByteArray.size ⟨#[]⟩ = 0 := rfl
  omega
theorem wt_data (n : Gv.Node) : (dataOf n).size + 1 ≤ Gv.wt n := by
  cases n with
  | mk k s nm a kd d =>
    rw [Gv.wt_mk]
    show d.size + 1 ≤ _
    omega
theorem wts_join1 (o : List Gv.Node) (n : Gv.Node) : Gv.wts (join1 o n) ≤ Gv.wts o + Gv.wt n := by
  unfold join1
  have e1 : ∀ x : Gv.Node, Gv.wts [x] = Gv.wt x := fun x => by simp [Gv.wts]
  split
  · rename_i m hm
    obtain ⟨ini, rfl⟩ := List.getLast?_eq_some_iff.1 hm
    split
    · rw [List.dropLast_concat, Gv.wts_append, Gv.wts_append, e1, e1, wt_text, ByteArray.size_append]
      have := wt_data m
      have := wt_data n
      omega
    · rw [Gv.wts_append, e1]
      exact Nat.le_refl _
  · rw [Gv.wts_append, e1]
    exact Nat.le_refl _
theorem wts_fold : ∀ (l o : List Gv.Node), Gv.wts (l.foldl join1 o) ≤ Gv.wts o + Gv.wts l
  | [], o => by simp [Gv.wts]
  | n :: l, o => by
    have h1 := wts_fold l (join1 o n)
    have h2 := wts_join1 o n
    simp only [List.foldl_cons, Gv.wts]
    omega
theorem wts_joined (l : List Gv.Node) : Gv.wts (joined l) ≤ Gv.wts l := by
  have := wts_fold l []
  unfold joined
  have e : Gv.wts [] = 0 := rfl
  omega
theorem wts_left (n : Gv.Node) : Gv.wts (left n) ≤ Gv.wts (kidsOf n) := by
  unfold left
  induction kidsOf n with
  | nil => exact Nat.le_refl _
  | cons x l ih =>
    rw [List.filter_cons]
    split
    · simp only [Gv.wts]; omega
    · simp only [Gv.wts]; omega
end Pr
end Go.Proofs.YtdhondndidoniaaGreatDoor
namespace Go.Proofs.YtdhondndidoniaaGreatDoor
open Go.RowKit

end Go.Proofs.YtdhondndidoniaaGreatDoor
namespace Go.Proofs.YtdhondndidoniaaGreatDoor
open Go.RowKit

end Go.Proofs.YtdhondndidoniaaGreatDoor
namespace Go.Proofs.YtdhondndidoniaaGreatDoor
open Go.RowKit

theorem infoNode : (Tryz.prog.info? 27).map (fun i => (i.zero, i.size, i.bytes)) = some (some (.agg #[.int .i64 0, .string ByteArray.empty, .string ByteArray.empty, .slice none 0 0, .slice none 0 0, .string ByteArray.empty]), 6, 104) := by kernel_rfl

/-- The call owns a row of these nodes; what they hold lies in blocks of S, none of them the row's own. -/
def OwnsKids (S : Nat → Prop) (B : Nat) (v : Value) (kids : List Gv.Node) (w : World) : Prop :=
  ∃ css : List (List Value), css.length = kids.length ∧ w.ownsRow B 27 6 v kids.length css.flatten ∧ ∀ j (h1 : j < css.length) (h2 : j < kids.length), NodeAt (fun b => S b ∧ some b ≠ v.ownBlock) w css[j] kids[j]
theorem kids_nil (S : Nat → Prop) (B : Nat) (w : World) : OwnsKids S B (.slice none 0 0) [] w := ⟨[], rfl, World.ownsRow_nil _ _ _ _, fun j h => by simp at h⟩
theorem own_on {w w' : World} {B : Nat} {e : TypeId} {size n : Nat} {v : Value} {xs : List Value} (h : w.ownsRow B e size v n xs) (hb : Below w.heap.size w w') : w'.ownsRow B e size v n xs := World.ownsRow.kept h (grown_of_below hb none) (by
  obtain ⟨_, ⟨rfl, _⟩ | ⟨g, cap, cur, rfl, _⟩⟩ := h
  · exact .inl rfl
  · right; simp [Value.ownBlock])
theorem OwnsKids.on {S : Nat → Prop} {B : Nat} {v : Value} {kids : List Gv.Node} {w w' : World} (h : OwnsKids S B v kids w) (hb : Below w.heap.size w w') : OwnsKids S B v kids w' := by
  obtain ⟨css, h1, h2, h3⟩ := h
  exact ⟨css, h1, own_on h2 hb, fun j a b => (h3 j a b).on hb⟩
theorem OwnsKids.mono {S S' : Nat → Prop} {B : Nat} {v : Value} {kids : List Gv.Node} {w : World} (h : OwnsKids S B v kids w) (hS : ∀ b, S b → b < w.heap.size → S' b) : OwnsKids S' B v kids w := by
  obtain ⟨css, h1, h2, h3⟩ := h
  exact ⟨css, h1, h2, fun j a b => (h3 j a b).mono fun x hx hl => ⟨hS x hx.1 hl, hx.2⟩⟩
theorem flat_at : ∀ (css : List (List Value)), (∀ c ∈ css, c.length = 6) → ∀ j i (h : j < css.length), i < 6 → css.flatten[j * 6 + i]? = css[j][i]?
  | [], _, j, i, h, _ => by simp at h
  | c :: css, hc, 0, i, h, hi => by
    have := hc c (by simp)
    simp only [List.flatten_cons, Nat.zero_mul, Nat.zero_add, List.getElem_cons_zero]
    rw [List.getElem?_append_left (by omega)]
  | c :: css, hc, j + 1, i, h, hi => by
    have h6 := hc c (by simp)
    have ih := flat_at css (fun x hx => hc x (by simp [hx])) j i (by simpa using h) hi
    simp only [List.flatten_cons, List.getElem_cons_succ]
    rw [List.getElem?_append_right (by omega), ← ih]
    congr 1; omega
/-- .. read as rows in memory. -/
theorem OwnsKids.rows {S : Nat → Prop} {B : Nat} {v : Value} {kids : List Gv.Node} {w : World} (h : OwnsKids S B v kids w) (hB : ∀ b, B ≤ b → b < w.heap.size → S b) : ∃ (ao : Option Addr) (cap : Nat) (cs : Nat → List Value), v = .slice ao kids.length cap ∧ RowsAt S w v kids.length cs ∧ (∀ j (h : j < kids.length), NodeAt S w (cs j) kids[j]) ∧ kids.length ≤ maxLen ∧ (ao = none → cap = 0) := by
  obtain ⟨css, h1, h2, h3⟩ := h
  have h6 : ∀ c ∈ css, c.length = 6 := fun c hc => by
    obtain ⟨j, hj, rfl⟩ := List.mem_iff_getElem.1 hc
    exact (h3 j hj (by omega)).six
  have hc := fun g hg => World.ownsRow.cells h2 (g := g) hg
  obtain ⟨hl, ⟨rfl, h0⟩ | ⟨g, cap, cur, rfl, hb, hh, hk, hm, _⟩⟩ := h2
  · have hk0 : kids = [] := List.eq_nil_of_length_eq_zero h0
    subst hk0
    exact ⟨none, 0, fun _ => [], rfl, ⟨none, 0, rfl, fun j hj => by simp at hj⟩, fun j hj => by simp at hj, by unfold maxLen; simp, fun _ => rfl⟩
  · refine ⟨_, cap, fun j => css[j]?.getD [], rfl, ⟨_, cap, rfl, fun j hj => ?_⟩, fun j hj => ?_, Nat.le_trans hk hm, fun e => by cases e⟩
    · have hj2 : j < css.length := by omega
      have e : css[j]?.getD [] = css[j] := by simp [hj2]
      dsimp only
      rw [e]
      have hg : g < w.heap.size := (Array.getElem?_eq_some_iff.1 hh).1
      refine ⟨h6 _ (List.getElem_mem hj2), g, 0, rfl, hB g hb hg, fun i u hu => ?_⟩
      have hi : i < 6 := by
        have := (List.getElem?_eq_some_iff.1 hu).1
        rwa [h6 _ (List.getElem_mem hj2)] at this
      have := hc g rfl (j * 6 + i) u (by rw [flat_at css h6 j i hj2 hi]; exact hu)
      rw [add_at, ← Nat.add_assoc] at this
      exact this
    · have hj2 : j < css.length := by omega
      have e : css[j]?.getD [] = css[j] := by simp [hj2]
      dsimp only
      rw [e]
      exact (h3 j hj2 hj).mono fun b hb _ => hb.1
/-! ### leaf -/
namespace Gv
end Gv
theorem atts_nil (S : Nat → Prop) (w : World) : AttsAt S w (.slice none 0 0) [] := ⟨none, 0, rfl, Nat.le_refl _, fun j hj => by simp at hj⟩
theorem rows_nil (S : Nat → Prop) (w : World) (cs : Nat → List Value) : RowsAt S w (.slice none 0 0) 0 cs := ⟨none, 0, rfl, fun j hj => by omega⟩
theorem node_plain (S : Nat → Prop) (w : World) (k : Int) (sp nm d : ByteArray) : NodeAt S w [.int .i64 (k : Int), .string sp, .string nm, .slice none 0 0, .slice none 0 0, .string d] (.mk k sp nm [] [] d) :=
  .mk (fun _ => []) ⟨by unfold maxLen; simp, by unfold maxLen; simp⟩ (atts_nil S w) (rows_nil S w _) (fun j hj => by simp at hj)

theorem node_end {F : Func} {R : Ending → World → Prop} {tmps : Array Value} {w : World} {rb i : Nat} {k : Int} {sp nm d : ByteArray} {ao bo : Option Addr} {m1 c1 m2 c2 : Nat} (hres : F.results = #[ResultVar.cell i 27])
    (h2 : tmps[i]? = some (.pointer (some ⟨rb, 0, none⟩))) (hc : Cells w rb 27 (nodeArr k sp nm (.slice ao m1 c1) (.slice bo m2 c2) d))
    (hR : R (.returned (.agg (nodeArr k sp nm (.slice ao m1 c1) (.slice bo m2 c2) d))) w) : bodyPost Tryz.prog F R .ret { tmps := tmps, defers := [] } w := by
  refine ⟨rfl, _, ?_, hR⟩
  have l2 : i < tmps.size := (Array.getElem?_eq_some_iff.1 h2).1
  have g2 : tmps[i] = .pointer (some ⟨rb, 0, none⟩) := (Array.getElem?_eq_some_iff.1 h2).2
  obtain ⟨x0, x1, x2, x3, x4, x5⟩ := node_open hc
  simp [results, hres, go_sem, l2, g2, x0, x1, x2, x3, x4, x5]
  rfl

end Go.Proofs.YtdhondndidoniaaGreatDoor
namespace Go.Proofs.YtdhondndidoniaaGreatDoor
open Go.RowKit

def kidList (m : Nat) (cs : Nat → List Value) : List (List Value) := (List.range m).map cs
theorem kidList_len (m : Nat) (cs : Nat → List Value) : (kidList m cs).length = m := by simp [kidList]
theorem kidList_at (m : Nat) (cs : Nat → List Value) {j : Nat} (h : j < (kidList m cs).length) : (kidList m cs)[j] = cs j := by simp [kidList]
theorem kidList_six {S : Nat → Prop} {w : World} {v : Value} {m : Nat} {cs : Nat → List Value} (h : RowsAt S w v m cs) : ∀ c ∈ kidList m cs, c.length = 6 := by
  obtain ⟨ao, cap, _, c⟩ := h
  intro x hx
  unfold kidList at hx
  obtain ⟨j, hj, rfl⟩ := List.mem_map.1 hx
  exact (c j (List.mem_range.1 hj)).1
theorem flat_len : ∀ (css : List (List Value)), (∀ c ∈ css, c.length = 6) → css.flatten.length = css.length * 6
  | [], _ => rfl
  | c :: css, h => by
    have := flat_len css (fun x hx => h x (by simp [hx]))
    have h6 := h c (by simp)
    simp only [List.flatten_cons, List.length_append, List.length_cons]
    omega
theorem rows_news {S : Nat → Prop} {w : World} {ad : Addr} {m cap : Nat} {cs : Nat → List Value} (h : RowsAt S w (.slice (some ad) m cap) m cs) :
    (kidList m cs).flatten.length = m * 6 ∧ ∀ j u, (kidList m cs).flatten[j]? = some u → w.cell? (ad.add j) = some u := by
  have h6 := kidList_six h
  have hl : (kidList m cs).flatten.length = m * 6 := by rw [flat_len _ h6, kidList_len]
  refine ⟨hl, fun j u hu => ?_⟩
  have hj : j < (kidList m cs).flatten.length := (List.getElem?_eq_some_iff.1 hu).1
  rw [hl] at hj
  obtain ⟨ao, cap', e0, c⟩ := h
  cases e0
  obtain ⟨_, b, off, e1, _, e3⟩ := c (j / 6) (by omega)
  cases e1
  have a : (⟨b, off, none⟩ : Addr).add j = ⟨b, off + j, none⟩ := by unfold Addr.add; split <;> simp_all
  rw [a]
  have e2 : j = j / 6 * 6 + j % 6 := by omega
  have hjl : j / 6 < (kidList m cs).length := by rw [kidList_len]; omega
  rw [e2, flat_at _ h6 (j / 6) (j % 6) hjl (by omega), kidList_at] at hu
  have := e3 (j % 6) u hu
  rw [← this]
  congr 2
  omega
theorem node_cells_one {S : Nat → Prop} {w : World} {c : List Value} {n : Gv.Node} (h : NodeAt S w c n) : ∀ u ∈ c, u.oneCell' = true := by
  obtain ⟨k, sp, nm, d, as', kids, ao, bo, ca, cb, cs, _, rfl, _⟩ := h.open'
  intro u hu
  simp at hu
  rcases hu with rfl | rfl | rfl | rfl | rfl | rfl <;> rfl
theorem kidList_one {S : Nat → Prop} {w : World} {kids : List Gv.Node} {cs : Nat → List Value} (hk : ∀ j (h : j < kids.length), NodeAt S w (cs j) kids[j]) : ∀ u ∈ (kidList kids.length cs).flatten, u.oneCell' = true := by
  intro u hu
  obtain ⟨c, hc, hu⟩ := List.mem_flatten.1 hu
  unfold kidList at hc
  obtain ⟨j, hj, rfl⟩ := List.mem_map.1 hc
  exact node_cells_one (hk j (List.mem_range.1 hj)) u hu
namespace Gv
end Gv

theorem set_six (A : List Value) (a0 a1 a2 a3 a4 a5 u0 u1 u2 u3 u4 u5 : Value) :
    ((((((A ++ [a0, a1, a2, a3, a4, a5]).set A.length u0).set (A.length + 1) u1).set (A.length + 2) u2).set (A.length + 3) u3).set (A.length + 4) u4).set (A.length + 5) u5 = A ++ [u0, u1, u2, u3, u4, u5] := by
  simp [List.set_append_right]
def sixSet (w : World) (g o : Nat) (u0 u1 u2 u3 u4 u5 : Value) : World := (((((w.setCell ⟨g, o, none⟩ u0).setCell ⟨g, o + 1, none⟩ u1).setCell ⟨g, o + 2, none⟩ u2).setCell ⟨g, o + 3, none⟩ u3).setCell ⟨g, o + 4, none⟩ u4).setCell ⟨g, o + 5, none⟩ u5
theorem list_six {c : List Value} (h : c.length = 6) : ∃ a0 a1 a2 a3 a4 a5, c = [a0, a1, a2, a3, a4, a5] := by
  match c, h with
  | [a0, a1, a2, a3, a4, a5], _ => exact ⟨_, _, _, _, _, _, rfl⟩
theorem row_six {w : World} {B g n cap q : Nat} {e : TypeId} {css : List (List Value)} (h6 : ∀ c ∈ css, c.length = 6) (hl : css.length = q + 1) (hown : w.ownsRow B e 6 (.slice (some ⟨g, 0, none⟩) n cap) n css.flatten) (u0 u1 u2 u3 u4 u5 : Value) :
    (sixSet w g (q * 6) u0 u1 u2 u3 u4 u5).ownsRow B e 6 (.slice (some ⟨g, 0, none⟩) n cap) n (css.dropLast ++ [[u0, u1, u2, u3, u4, u5]]).flatten ∧ w.grownBy (sixSet w g (q * 6) u0 u1 u2 u3 u4 u5) (some g) := by
  have hne : css ≠ [] := fun e => by rw [e] at hl; simp at hl
  obtain ⟨a0, a1, a2, a3, a4, a5, hc⟩ := list_six (h6 _ (List.getLast_mem hne))
  have hA : css.dropLast.flatten.length = q * 6 := by
    rw [flat_len _ (fun c hc => h6 c (List.dropLast_subset _ hc)), List.length_dropLast, hl]; rfl
  have hx : css.flatten = css.dropLast.flatten ++ [a0, a1, a2, a3, a4, a5] := calc
    css.flatten = (css.dropLast ++ [css.getLast hne]).flatten := by rw [List.dropLast_concat_getLast hne]
    _ = _ := by rw [hc]; simp
  obtain ⟨o0, g0⟩ := hown.stored (q * 6) u0
  obtain ⟨o1, g1⟩ := o0.stored (q * 6 + 1) u1
  obtain ⟨o2, g2⟩ := o1.stored (q * 6 + 2) u2
  obtain ⟨o3, g3⟩ := o2.stored (q * 6 + 3) u3
  obtain ⟨o4, g4⟩ := o3.stored (q * 6 + 4) u4
  obtain ⟨o5, g5⟩ := o4.stored (q * 6 + 5) u5
  refine ⟨?_, ((((g0.trans g1).trans g2).trans g3).trans g4).trans g5⟩
  have : (css.dropLast ++ [[u0, u1, u2, u3, u4, u5]]).flatten = css.dropLast.flatten ++ [u0, u1, u2, u3, u4, u5] := by simp
  rw [this, ← set_six _ a0 a1 a2 a3 a4 a5, hA, ← hx]
  exact o5
end Go.Proofs.YtdhondndidoniaaGreatDoor
namespace Go.Proofs.YtdhondndidoniaaGreatDoor
open Go.RowKit

namespace Pr
end Pr

end Go.Proofs.YtdhondndidoniaaGreatDoor
namespace Go.Proofs.YtdhondndidoniaaGreatDoor
open Go.RowKit

end Go.Proofs.YtdhondndidoniaaGreatDoor
namespace Go.Proofs.YtdhondndidoniaaGreatDoor
open Go.RowKit

end Go.Proofs.YtdhondndidoniaaGreatDoor
namespace Go.Proofs.YtdhondndidoniaaGreatDoor
open Go.RowKit

theorem am_lit_link : Am.lit "link" = [108, 105, 110, 107] := by decide +kernel
end Go.Proofs.YtdhondndidoniaaGreatDoor
namespace Go.Proofs.YtdhondndidoniaaGreatDoor
open Go.RowKit

theorem am_lit_entry : Am.lit "entry" = [101, 110, 116, 114, 121] := by decide +kernel
def Am.names : List ByteArray := [⟨#[97, 117, 116, 104, 111, 114]⟩, ⟨#[99, 111, 110, 116, 114, 105, 98, 117, 116, 111, 114]⟩, ⟨#[117, 112, 100, 97, 116, 101, 100]⟩, ⟨#[112, 117, 98, 108, 105, 115, 104, 101, 100]⟩, ⟨#[116, 105, 116, 108, 101]⟩, ⟨#[115, 117, 109, 109, 97, 114, 121]⟩, ⟨#[114, 105, 103, 104, 116, 115]⟩, ⟨#[105, 100]⟩, ⟨#[108, 105, 110, 107]⟩, ⟨#[99, 97, 116, 101, 103, 111, 114, 121]⟩, ⟨#[99, 111, 110, 116, 101, 110, 116]⟩]
def ckE (n : Gv.Node) (stored : Bool) : Int := if Am.check Am.onD n stored = true then 0 else 150
end Go.Proofs.YtdhondndidoniaaGreatDoor
namespace Go.Proofs.YtdhondndidoniaaGreatDoor
open Go.RowKit

structure CkIs (n : Gv.Node) (stored : Bool) (E : Int) (en : Bool) (f : Nat → Bool) (la lt li lu : Nat) (L : List Gv.Node) : Prop where
  no0 : en = false → E = 150
  no1 : ∀ i, i < 11 → f i = false → E = 150
  no2 : la = 0 → E = 150
  no3 : lt = 0 → E = 150
  no4 : stored = true → li = 0 → E = 150
  no5 : stored = true → lu = 0 → E = 150
  no6 : (¬ L.Pairwise fun a b => Am.alike Am.onD a b = false) → E = 150
  yes : en = true → (List.range 11).all f = true → la ≠ 0 → lt ≠ 0 → (stored = true → li ≠ 0 ∧ lu ≠ 0) → (L.Pairwise fun a b => Am.alike Am.onD a b = false) → E = 0
theorem em_ret {a b : Int} (h : a = b) : Ending.returned (.int .i64 a) = .returned (.int .i64 b) := by rw [h]

end Go.Proofs.YtdhondndidoniaaGreatDoor
