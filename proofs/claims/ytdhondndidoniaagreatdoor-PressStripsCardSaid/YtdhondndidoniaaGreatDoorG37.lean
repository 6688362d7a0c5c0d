/-
  A point of time as the server tells it: it is one again, it passes Check, and has no space about it. Plain Lean.
  The document's own Size of a tree: where it says that the tree is small, each text in it is.
  What Press answers, in plain Lean: its errors; the entry.
-/
import Derived.Test.YtdhondndidoniaaGreatDoorG20
import Derived.Test.YtdhondndidoniaaGreatDoorG01
import Derived.Test.YtdhondndidoniaaGreatDoorG07
import Derived.Test.YtdhondndidoniaaGreatDoorG06
import Derived.BigQuiet
import Derived.Deep.LoopGhost
import Derived.Test.YtdhondndidoniaaGreatDoorG09
import Derived.Test.YtdhondndidoniaaGreatDoorG12
namespace Go.Proofs.YtdhondndidoniaaGreatDoor
namespace Pr
open Am

end Pr
end Go.Proofs.YtdhondndidoniaaGreatDoor
namespace Go.Proofs.YtdhondndidoniaaGreatDoor
open Go.RowKit

/-- A tree whose texts are no longer than what memory holds. -/
inductive Sized : Gv.Node → Prop where
  | mk {k : Int} {sp nm d : ByteArray} {as' : List Gv.Att} {kids : List Gv.Node} (h0 : as'.length ≤ 140737488355328) (h1 : sp.size ≤ 140737488355328) (h2 : nm.size ≤ 140737488355328) (h3 : d.size ≤ 140737488355328) (ha : ∀ a ∈ as', a.space.size ≤ 140737488355328 ∧ a.name.size ≤ 140737488355328 ∧ a.value.size ≤ 140737488355328) (hk : ∀ n ∈ kids, Sized n) : Sized (.mk k sp nm as' kids d)
theorem sized_parts {k : Int} {sp nm d : ByteArray} {as' : List Gv.Att} {kids : List Gv.Node} (h : Sized (.mk k sp nm as' kids d)) : as'.length ≤ 140737488355328 ∧ sp.size ≤ 140737488355328 ∧ nm.size ≤ 140737488355328 ∧ d.size ≤ 140737488355328 ∧ (∀ a ∈ as', a.space.size ≤ 140737488355328 ∧ a.name.size ≤ 140737488355328 ∧ a.value.size ≤ 140737488355328) ∧ ∀ n ∈ kids, Sized n := by
  cases h with
  | mk h0 h1 h2 h3 ha hk => exact ⟨h0, h1, h2, h3, ha, hk⟩
/-- What is known behind so many attributes. -/
def Small1 (m k : Int) (sp nm d : ByteArray) (as' : List Gv.Att) (j : Nat) : Prop := k ≤ m → ((1 + as'.length + d.size + sp.size + nm.size + ((as'.take j).map Gv.attW).sum : Nat) : Int) ≤ k
def Small2 (m k : Int) (sp nm d : ByteArray) (as' : List Gv.Att) (kids : List Gv.Node) (j : Nat) : Prop := k ≤ m → ((1 + as'.length + d.size + sp.size + nm.size + (as'.map Gv.attW).sum + Gv.wts (kids.take j) : Nat) : Int) ≤ k
theorem small1_next {m k : Int} {sp nm d : ByteArray} {as' : List Gv.Att} {j : Nat} (h : Small1 m k sp nm d as' j) (hk : k ≤ m) (hj : j < as'.length) : Small1 m (k + (as'[j].space.size : Int) + (as'[j].name.size : Int) + (as'[j].value.size : Int)) sp nm d as' (j + 1) := fun _ => by
  have h1 := h hk
  have e : ((as'.take (j + 1)).map Gv.attW).sum = ((as'.take j).map Gv.attW).sum + (as'[j].space.size + as'[j].name.size + as'[j].value.size) := by
    rw [List.take_succ_eq_append_getElem hj, List.map_append, List.sum_append]
    simp [Gv.attW]
  rw [e]
  omega
theorem small2_start {m k : Int} {sp nm d : ByteArray} {as' : List Gv.Att} {kids : List Gv.Node} {j : Nat} (h : Small1 m k sp nm d as' j) (hj : k ≤ m → j = as'.length) : Small2 m k sp nm d as' kids 0 := fun hk => by
  have h1 := h hk
  rw [hj hk, List.take_length] at h1
  rw [List.take_zero, Gv.wts]
  omega
theorem small2_next {m k r : Int} {sp nm d : ByteArray} {as' : List Gv.Att} {kids : List Gv.Node} {j : Nat} (h : Small2 m k sp nm d as' kids j) (hk : k ≤ m) (hj : j < kids.length) (hr : r ≤ m - k → (Gv.wt kids[j] : Int) ≤ r) : Small2 m (k + r) sp nm d as' kids (j + 1) := fun h2 => by
  have h1 := h hk
  have h3 := hr (by omega)
  rw [Gv.wts_take hj]
  omega
theorem small2_wt {m k x : Int} {sp nm d : ByteArray} {as' : List Gv.Att} {kids : List Gv.Node} {j : Nat} (h : Small2 m k sp nm d as' kids j) (hj : j = kids.length) (hk : k ≤ m) : (Gv.wt (.mk x sp nm as' kids d) : Int) ≤ k := by
  have h1 := h hk
  rw [hj, List.take_length] at h1
  unfold Gv.wt
  exact h1

/-- WHAT Size TELLS. -/
def SizeTold (m : Int) (n : Gv.Node) (w : World) (e : Ending) (w' : World) : Prop := (∃ k : Int, e = .returned (.int .i64 k) ∧ 1 ≤ k ∧ k ≤ m + 1000000000000000 ∧ (k ≤ m → (Gv.wt n : Int) ≤ k)) ∧ Below w.heap.size w w'

set_option maxRecDepth 100000 in
set_option maxHeartbeats 12800000 in
theorem refSize_any {S : Nat → Prop} {w0 : World} {c : List Value} {n : Gv.Node} (hn : NodeAt S w0 c n) : Sized n → ∀ (w : World), Below w0.heap.size w0 w → ∀ (m : Int), 0 ≤ m → m ≤ 3000 →
    Calls Tryz.prog 14 #[.agg c.toArray, .int .i64 m] w (SizeTold m n w) := by
  induction hn with
  | @mk x sp nm d as1 kids va vk cs hz ha hk hr ih =>
    intro hsz w hw m hm0 hm1
    obtain ⟨z0, z1, z2, z3, z4, z5⟩ := sized_parts hsz
    clear hsz
    obtain ⟨hz1, hz3⟩ := hz
    unfold maxLen at hz1 hz3
    obtain ⟨ao, ca, rfl, hcap, c1⟩ := ha
    obtain ⟨bo, cb, rfl, c2⟩ := hk
    have ha : AttsAt S w (.slice ao as1.length ca) as1 := AttsAt.stay ⟨ao, ca, rfl, hcap, c1⟩ (stay_below hw)
    have hk : RowsAt S w (.slice bo kids.length cb) kids.length cs := RowsAt.stay ⟨bo, cb, rfl, c2⟩ (stay_below hw)
    clear c1 c2 hcap
    have hshape : ∀ j (h : j < kids.length), ∃ (kk : Int) (ksp knm kd : ByteArray) (kao kbo : Option Addr) (ka kb kc1 kc2 : Nat), cs j = [.int .i64 kk, .string ksp, .string knm, .slice kao ka kc1, .slice kbo kb kc2, .string kd] := fun j h => by
      obtain ⟨_, _, _, _, _, _, _, _, _, _, _, _, e, _, _, _⟩ := (hr j h).open'
      exact ⟨_, _, _, _, _, _, _, _, _, _, e⟩
    clear hr
    have b0 := (Below.refl w.heap.size w).alloc (Nat.le_refl _) (.cells (nodeArr x sp nm (.slice ao as1.length ca) (.slice bo kids.length cb) d) 27)
    have kA := Cells.new w 27 (nodeArr x sp nm (.slice ao as1.length ca) (.slice bo kids.length cb) d)
    have hc := Lib.hid (fun W hb => node_open (kA.on (w' := W) hb))
    obtain ⟨x0, x1, x2, x3, x4, x5⟩ := node_open kA
    replace kA := Lib.hid kA
    replace ih := Lib.hid ih
    replace ha := Lib.hid ha
    replace hk := Lib.hid hk
    replace hshape := Lib.hid hshape
    replace z4 := Lib.hid z4
    replace z5 := Lib.hid z5
    have hI := Lib.hid (show Small1 m (1 + (as1.length : Int) + (d.size : Int) + (sp.size : Int) + (nm.size : Int)) sp nm d as1 0 from fun h => by rw [List.take_zero]; simp only [List.map_nil, List.sum_nil]; omega)
    have hkq1 : 1 ≤ (1 + (as1.length : Int) + (d.size : Int) + (sp.size : Int) + (nm.size : Int)) ∧ (1 + (as1.length : Int) + (d.size : Int) + (sp.size : Int) + (nm.size : Int)) ≤ m + 1000000000000000 := by omega
    unfold nodeArr at *
    go_enter Tryz.func14, Tryz.ntmps14
    go_wp2_with fail
    generalize hw1 : w.alloc (.cells #[.int .i64 x, .string sp, .string nm, .slice ao as1.length ca, .slice bo kids.length cb, .string d] 27) = w1 at *
    clear x0 x1 x2 x3 x4 x5
    go_loopg [5, 6] as1.length (fun gg s5 s6 wr => ∃ (j : Nat) (k : Int), j ≤ as1.length ∧ as1.length - j ≤ gg ∧ s5 = .int .i64 k ∧ s6 = .int .i64 j ∧ 1 ≤ k ∧ k ≤ m + 1000000000000000 ∧ Hid (Below w1.heap.size w1 wr) ∧ Hid (Small1 m k sp nm d as1 j))
    case atStart => exact ⟨0, _, Nat.zero_le _, by omega, rfl, rfl, hkq1.1, hkq1.2, Lib.hid (Below.refl _ _), hI⟩
    case round =>
      obtain ⟨j, k, hj, hgg, rfl, rfl, hk1, hk2, BW, hS⟩ := hrel
      clear hI hkq1
      obtain ⟨x0, x1, x2, x3, x4, x5⟩ := hc.out wr BW.out
      by_cases hlt : j < as1.length ∧ k ≤ m
      · obtain ⟨hlt, hkm⟩ := hlt
        have hltz : (j : Int) < (as1.length : Int) := by omega
        obtain ⟨q1, q2, q3⟩ := z4.out as1[j] (List.getElem_mem hlt)
        have hnew := Lib.hid (small1_next hS.out hkm hlt)
        obtain ⟨bb, off, rfl, p0, p1, p2⟩ := (ha.out.stay (stay_below ((b0.trans (BW.out.mono b0.size))))).cells hlt (sp := as1[j].space) (nm := as1[j].name) (va := as1[j].value) rfl
        have hsum : k + (as1[j].space.size : Int) + (as1[j].name.size : Int) + (as1[j].value.size : Int) ≤ m + 1000000000000000 ∧ 1 ≤ k + (as1[j].space.size : Int) + (as1[j].name.size : Int) + (as1[j].value.size : Int) := by omega
        generalize as1[j].space = us at *
        generalize as1[j].name = un at *
        generalize as1[j].value = uv at *
        clear hS
        go_wp2_with fail
        go_quiet (fail)
        go_wp2_with fail
        have BW2 := Lib.hid (Cells.below_drewN BW.out nq)
        clear BW
        go_roundg (as1.length - (j + 1))
        case measure => omega
        case rel => exact ⟨j + 1, _, by omega, by omega, rfl, by go_num, hsum.2, hsum.1, BW2, hnew⟩
      · have hX2 := Lib.hid (small2_start (kids := kids) hS.out (fun h => by
          rcases Nat.lt_or_ge j as1.length with h' | h'
          · exact absurd ⟨h', h⟩ hlt
          · omega))
        by_cases hjl : j < as1.length
        · have hltz : (j : Int) < (as1.length : Int) := by omega
          have hkm : ¬ k ≤ m := fun h => hlt ⟨hjl, h⟩
          have hkm2 := hlt
          clear hlt
          clear hj hgg hS hkm2
          go_wp2_with fail
          clear x0 x1 x2 x3 x4 x5
          go_loopg [5, 7] kids.length (fun gg s5 s7 wr => ∃ (j : Nat) (k : Int), j ≤ kids.length ∧ kids.length - j ≤ gg ∧ s5 = .int .i64 k ∧ s7 = .int .i64 j ∧ 1 ≤ k ∧ k ≤ m + 1000000000000000 ∧ Hid (Below w1.heap.size w1 wr) ∧ Hid (Small2 m k sp nm d as1 kids j))
          case atStart => exact ⟨0, k, Nat.zero_le _, by omega, rfl, rfl, hk1, hk2, BW, hX2⟩
          case round =>
            clear hX2 BW hk1 hk2
            obtain ⟨j2, k2, hj2, hgg2, rfl, rfl, hk1, hk2, BW, hS⟩ := hrel
            obtain ⟨x0, x1, x2, x3, x4, x5⟩ := hc.out wr BW.out
            by_cases hlt : j2 < kids.length
            · by_cases hkm : k2 ≤ m
              · have hltz : (j2 : Int) < (kids.length : Int) := by omega
                obtain ⟨kk, ksp, knm, kd, kao, kbo, ka, kb, kc1, kc2, e2⟩ := hshape.out j2 hlt
                have bw := b0.trans (BW.out.mono b0.size)
                obtain ⟨bb, off, rfl, p0, p1, p2, p3, p4, p5⟩ := (hk.out.stay (stay_below bw)).cells hlt e2
                have hcall := ih.out j2 hlt (z5.out _ (List.getElem_mem hlt)) wr (hw.trans (bw.mono hw.size)) (m - k2) (by omega) (by omega)
                rw [e2] at hcall
                have hnew := fun (r : Int) (h2 : r ≤ m - k2 → (Gv.wt kids[j2] : Int) ≤ r) => Lib.hid (small2_next hS.out hkm hlt h2)
                generalize kids[j2] = kn at *
                clear e2 hS
                go_wp2_with fail
                (with_reducible refine hcall.mono ?_); rintro e w3 ⟨⟨r, rfl, r1, r2, r3⟩, b3⟩
                have hnw := hnew r r3
                have BW2 := Lib.hid (BW.out.trans (b3.mono BW.out.size))
                have q1 : 1 ≤ k2 + r := by omega
                have q2 : k2 + r ≤ m + 1000000000000000 := by omega
                clear hnew r3 b3 hcall p0 p1 p2 p3 p4 p5 x0 x1 x2 x3 x4 x5 BW
                go_wp2_with fail
                go_roundg (kids.length - (j2 + 1))
                case measure => omega
                case rel => exact ⟨j2 + 1, _, by omega, by omega, rfl, by go_num, q1, q2, BW2, hnw⟩
              · have hltz : (j2 : Int) < (kids.length : Int) := by omega
                have hfin := Lib.hid (show SizeTold m (.mk x sp nm as1 kids d) w (.returned (.int .i64 k2)) wr from ⟨⟨k2, rfl, hk1, hk2, fun h => absurd h hkm⟩, b0.trans (BW.out.mono b0.size)⟩)
                clear hS BW
                go_wp2_with fail
                go_ret
                exact hfin.out
            · have hltz : ¬ (j2 : Int) < (kids.length : Int) := by omega
              have hd : decide ((j2 : Int) < (kids.length : Int)) = false := by simpa using hltz
              have hfin := Lib.hid (show SizeTold m (.mk x sp nm as1 kids d) w (.returned (.int .i64 k2)) wr from ⟨⟨k2, rfl, hk1, hk2, small2_wt hS.out (by omega)⟩, b0.trans (BW.out.mono b0.size)⟩)
              clear hS BW hlt
              go_wp2_with fail
              go_ret
              exact hfin.out
        · have hltz : ¬ (j : Int) < (as1.length : Int) := by omega
          have hd : decide ((j : Int) < (as1.length : Int)) = false := by simpa using hltz
          have hkm2 := hlt
          clear hlt hjl
          clear hj hgg hS hkm2
          go_wp2_with fail
          clear x0 x1 x2 x3 x4 x5
          go_loopg [5, 7] kids.length (fun gg s5 s7 wr => ∃ (j : Nat) (k : Int), j ≤ kids.length ∧ kids.length - j ≤ gg ∧ s5 = .int .i64 k ∧ s7 = .int .i64 j ∧ 1 ≤ k ∧ k ≤ m + 1000000000000000 ∧ Hid (Below w1.heap.size w1 wr) ∧ Hid (Small2 m k sp nm d as1 kids j))
          case atStart => exact ⟨0, k, Nat.zero_le _, by omega, rfl, rfl, hk1, hk2, BW, hX2⟩
          case round =>
            clear hX2 BW hk1 hk2
            obtain ⟨j2, k2, hj2, hgg2, rfl, rfl, hk1, hk2, BW, hS⟩ := hrel
            obtain ⟨x0, x1, x2, x3, x4, x5⟩ := hc.out wr BW.out
            by_cases hlt : j2 < kids.length
            · by_cases hkm : k2 ≤ m
              · have hltz : (j2 : Int) < (kids.length : Int) := by omega
                obtain ⟨kk, ksp, knm, kd, kao, kbo, ka, kb, kc1, kc2, e2⟩ := hshape.out j2 hlt
                have bw := b0.trans (BW.out.mono b0.size)
                obtain ⟨bb, off, rfl, p0, p1, p2, p3, p4, p5⟩ := (hk.out.stay (stay_below bw)).cells hlt e2
                have hcall := ih.out j2 hlt (z5.out _ (List.getElem_mem hlt)) wr (hw.trans (bw.mono hw.size)) (m - k2) (by omega) (by omega)
                rw [e2] at hcall
                have hnew := fun (r : Int) (h2 : r ≤ m - k2 → (Gv.wt kids[j2] : Int) ≤ r) => Lib.hid (small2_next hS.out hkm hlt h2)
                generalize kids[j2] = kn at *
                clear e2 hS
                go_wp2_with fail
                (with_reducible refine hcall.mono ?_); rintro e w3 ⟨⟨r, rfl, r1, r2, r3⟩, b3⟩
                have hnw := hnew r r3
                have BW2 := Lib.hid (BW.out.trans (b3.mono BW.out.size))
                have q1 : 1 ≤ k2 + r := by omega
                have q2 : k2 + r ≤ m + 1000000000000000 := by omega
                clear hnew r3 b3 hcall p0 p1 p2 p3 p4 p5 x0 x1 x2 x3 x4 x5 BW
                go_wp2_with fail
                go_roundg (kids.length - (j2 + 1))
                case measure => omega
                case rel => exact ⟨j2 + 1, _, by omega, by omega, rfl, by go_num, q1, q2, BW2, hnw⟩
              · have hltz : (j2 : Int) < (kids.length : Int) := by omega
                have hfin := Lib.hid (show SizeTold m (.mk x sp nm as1 kids d) w (.returned (.int .i64 k2)) wr from ⟨⟨k2, rfl, hk1, hk2, fun h => absurd h hkm⟩, b0.trans (BW.out.mono b0.size)⟩)
                clear hS BW
                go_wp2_with fail
                go_ret
                exact hfin.out
            · have hltz : ¬ (j2 : Int) < (kids.length : Int) := by omega
              have hd : decide ((j2 : Int) < (kids.length : Int)) = false := by simpa using hltz
              have hfin := Lib.hid (show SizeTold m (.mk x sp nm as1 kids d) w (.returned (.int .i64 k2)) wr from ⟨⟨k2, rfl, hk1, hk2, small2_wt hS.out (by omega)⟩, b0.trans (BW.out.mono b0.size)⟩)
              clear hS BW hlt
              go_wp2_with fail
              go_ret
              exact hfin.out
end Go.Proofs.YtdhondndidoniaaGreatDoor
namespace Go.Proofs.YtdhondndidoniaaGreatDoor
namespace Pr
/-- Press's errors. -/
def pressE (n : Gv.Node) (id edit : ByteArray) (t : Int) : Int :=
  if ckE n false ≠ 0 then ckE n false else if D.textE t 0 ≠ 0 then D.textE t 0 else if G.checkN id.data.toList ≠ 0 ∨ G.checkN edit.data.toList ≠ 0 ∨ id.data.toList = [] then 1 else 0
def zeroN : Gv.Node := .mk 0 ⟨#[]⟩ ⟨#[]⟩ [] [] ⟨#[]⟩
/-- .. and its answer. -/
def pressN (n : Gv.Node) (id edit : ByteArray) (t : Int) : Gv.Node := if pressE n id edit t = 0 then press n id ⟨(D.text t 0).toArray⟩ edit else zeroN
theorem pressN_err {n : Gv.Node} {id edit : ByteArray} {t : Int} (h : pressE n id edit t ≠ 0) : pressN n id edit t = zeroN := if_neg h
theorem press_mk (k : Int) (sp nm : ByteArray) (as' : List Gv.Att) (kids : List Gv.Node) (d id t edit : ByteArray) : press (.mk k sp nm as' kids d) id t edit = .mk k sp nm as' (joined (left (.mk k sp nm as' kids d)) ++ (idEl id :: (upd (hasUpd (.mk k sp nm as' kids d)) t ++ [edEl t, linkEl edit]))) d := by
  have h := press_kids (.mk k sp nm as' kids d) id t edit
  unfold press at h ⊢
  rw [kids_with] at h
  rw [h]
  rfl
theorem any_upd (n : Gv.Node) : ((joined (left n)).any fun x => Am.isEl x Am.atomS (Am.lit "updated")) = hasUpd n := by
  unfold hasUpd
  rw [any_allIn, allIn_joined, ← any_allIn]
theorem id_no (t : ByteArray) : Am.isEl (idEl t) Am.atomS (Am.lit "updated") = false := by
  unfold idEl el
  rw [isEl_el, show decide (("id".toUTF8 : ByteArray).data.toList = Am.lit "updated") = false by decide +kernel, Bool.and_false]
theorem wt_strip (n : Gv.Node) : Gv.wt (strip n) ≤ Gv.wt n := by
  cases n with
  | mk k sp nm a kids d =>
    show Gv.wt (.mk k sp nm a (joined (left (.mk k sp nm a kids d))) d) ≤ _
    rw [Gv.wt_mk, Gv.wt_mk]
    have h1 := wts_joined (left (.mk k sp nm a kids d))
    have h2 : Gv.wts (left (.mk k sp nm a kids d)) ≤ Gv.wts kids := wts_left (.mk k sp nm a kids d)
    omega
theorem list_no (J : List Gv.Node) (a u e l : Gv.Node) : J ++ (a :: ((if false = true then [] else [u]) ++ [e, l])) = ((J ++ [a]) ++ [u]) ++ [e, l] := by simp
theorem list_yes (J : List Gv.Node) (a u e l : Gv.Node) : J ++ (a :: ((if true = true then [] else [u]) ++ [e, l])) = (J ++ [a]) ++ [e, l] := by simp
end Pr
end Go.Proofs.YtdhondndidoniaaGreatDoor
