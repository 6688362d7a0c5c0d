/-
  The document's own Size of a tree: where it says that the tree is small, each text in it is.
-/
import Derived.Test.YtegaidfmkfnbnaaDoorK09
import Derived.Test.YtegaidfmkfnbnaaDoorK16
import Derived.Deep.LoopGhost
namespace Go.Proofs.YtegaidfmkfnbnaaDoor
open Go.RowKit

/-- A tree whose texts are no longer than what memory holds. -/
inductive Sized : Gv.Node → Prop where
  | mk {k : Int} {sp nm d : ByteArray} {as' : List Gv.Att} {kids : List Gv.Node} (h0 : as'.length ≤ 140737488355328) (h1 : sp.size ≤ 140737488355328) (h2 : nm.size ≤ 140737488355328) (h3 : d.size ≤ 140737488355328) (ha : ∀ a ∈ as', a.space.size ≤ 140737488355328 ∧ a.name.size ≤ 140737488355328 ∧ a.value.size ≤ 140737488355328) (hk : ∀ n ∈ kids, Sized n) : Sized (.mk k sp nm as' kids d)
theorem sized_parts {k : Int} {sp nm d : ByteArray} {as' : List Gv.Att} {kids : List Gv.Node} (h : Sized (.mk k sp nm as' kids d)) : as'.length ≤ 140737488355328 ∧ sp.size ≤ 140737488355328 ∧ nm.size ≤ 140737488355328 ∧ d.size ≤ 140737488355328 ∧ (∀ a ∈ as', a.space.size ≤ 140737488355328 ∧ a.name.size ≤ 140737488355328 ∧ a.value.size ≤ 140737488355328) ∧ ∀ n ∈ kids, Sized n := by
  cases h with
  | mk h0 h1 h2 h3 ha hk => exact ⟨h0, h1, h2, h3, ha, hk⟩
/-- What is known behind so many attributes. -/
def Small1 (m k : Int) (sp nm d : ByteArray) (as' : List Gv.Att) (j : Nat) : Prop := k ≤ m → sp.size ≤ 1000000 ∧ nm.size ≤ 1000000 ∧ d.size ≤ 1000000 ∧ ∀ i (h : i < as'.length), i < j → as'[i].space.size ≤ 1000000 ∧ as'[i].name.size ≤ 1000000 ∧ as'[i].value.size ≤ 1000000
def Small2 (m k : Int) (sp nm d : ByteArray) (as' : List Gv.Att) (kids : List Gv.Node) (j : Nat) : Prop := k ≤ m → Small1 m 0 sp nm d as' as'.length ∧ 0 ≤ m ∧ ∀ i (h : i < kids.length), i < j → Fits kids[i]
theorem small2_fits {m k x : Int} {sp nm d : ByteArray} {as' : List Gv.Att} {kids : List Gv.Node} (h : Small2 m k sp nm d as' kids kids.length) (hk : k ≤ m) : Fits (.mk x sp nm as' kids d) := by
  obtain ⟨h1, h0, h2⟩ := h hk
  obtain ⟨q1, q2, q3, q4⟩ := h1 h0
  refine .mk q1 q2 q3 (fun a ha => ?_) (fun n hn => ?_)
  · obtain ⟨i, hi, rfl⟩ := List.mem_iff_getElem.1 ha
    exact q4 i hi hi
  · obtain ⟨i, hi, rfl⟩ := List.mem_iff_getElem.1 hn
    exact h2 i hi hi

/-- WHAT Size TELLS. -/
def SizeTold (m : Int) (n : Gv.Node) (w : World) (e : Ending) (w' : World) : Prop := (∃ k : Int, e = .returned (.int .i64 k) ∧ 1 ≤ k ∧ k ≤ m + 1000000000000000 ∧ (k ≤ m → Fits n)) ∧ Below w.heap.size w w'

set_option maxRecDepth 100000 in
set_option maxHeartbeats 12800000 in
theorem refSize_any {S : Nat → Prop} {w0 : World} {c : List Value} {n : Gv.Node} (hn : NodeAt S w0 c n) : Sized n → ∀ (w : World), Below w0.heap.size w0 w → ∀ (m : Int), 0 ≤ m → m ≤ 3000 →
    Calls Tryd.prog 5 #[.agg c.toArray, .int .i64 m] w (SizeTold m n w) := by
  induction hn with
  | @mk x sp nm d as1 kids va vk cs hz ha hk hr ih =>
    intro hsz w hw m hm0 hm1
    obtain ⟨z0, z1, z2, z3, z4, z5⟩ := sized_parts hsz
    clear hsz
    obtain ⟨hz1, hz3⟩ := hz
    unfold maxLen at hz1 hz3
    obtain ⟨ao, ca, rfl, hcap, c1⟩ := ha
    obtain ⟨bo, cb, rfl, c2⟩ := hk
    have ha : AttsAt S w (.slice ao as1.length ca) as1 := AttsAt.stay ⟨ao, ca, rfl, hcap, c1⟩ (stay_below hw)
    have hk : RowsAt S w (.slice bo kids.length cb) kids.length cs := RowsAt.stay ⟨bo, cb, rfl, c2⟩ (stay_below hw)
    clear c1 c2 hcap
    have hshape : ∀ j (h : j < kids.length), ∃ (kk : Int) (ksp knm kd : ByteArray) (kao kbo : Option Addr) (ka kb kc1 kc2 : Nat), cs j = [.int .i64 kk, .string ksp, .string knm, .slice kao ka kc1, .slice kbo kb kc2, .string kd] := fun j h => by
      obtain ⟨_, _, _, _, _, _, _, _, _, _, _, _, e, _, _, _⟩ := (hr j h).open'
      exact ⟨_, _, _, _, _, _, _, _, _, _, e⟩
    clear hr
    have b0 := (Below.refl w.heap.size w).alloc (Nat.le_refl _) (.cells (nodeArr x sp nm (.slice ao as1.length ca) (.slice bo kids.length cb) d) 25)
    have kA := Cells.new w 25 (nodeArr x sp nm (.slice ao as1.length ca) (.slice bo kids.length cb) d)
    have hc := Lib.hid (fun W hb => node_open (kA.on (w' := W) hb))
    obtain ⟨x0, x1, x2, x3, x4, x5⟩ := node_open kA
    replace kA := Lib.hid kA
    replace ih := Lib.hid ih
    replace ha := Lib.hid ha
    replace hk := Lib.hid hk
    replace hshape := Lib.hid hshape
    replace z4 := Lib.hid z4
    replace z5 := Lib.hid z5
    have hI := Lib.hid (show Small1 m (1 + (as1.length : Int) + (d.size : Int) + (sp.size : Int) + (nm.size : Int)) sp nm d as1 0 from fun h => ⟨by omega, by omega, by omega, fun i h hi => by omega⟩)
    have hkq1 : 1 ≤ (1 + (as1.length : Int) + (d.size : Int) + (sp.size : Int) + (nm.size : Int)) ∧ (1 + (as1.length : Int) + (d.size : Int) + (sp.size : Int) + (nm.size : Int)) ≤ m + 1000000000000000 := by omega
    unfold nodeArr at *
    go_enter Tryd.func5, Tryd.ntmps5
    go_wp2_with fail
    generalize hw1 : w.alloc (.cells #[.int .i64 x, .string sp, .string nm, .slice ao as1.length ca, .slice bo kids.length cb, .string d] 25) = w1 at *
    clear x0 x1 x2 x3 x4 x5
    go_loopg [5, 6] as1.length (fun gg s5 s6 wr => ∃ (j : Nat) (k : Int), j ≤ as1.length ∧ as1.length - j ≤ gg ∧ s5 = .int .i64 k ∧ s6 = .int .i64 j ∧ 1 ≤ k ∧ k ≤ m + 1000000000000000 ∧ Hid (Below w1.heap.size w1 wr) ∧ Hid (Small1 m k sp nm d as1 j))
    case atStart => exact ⟨0, _, Nat.zero_le _, by omega, rfl, rfl, hkq1.1, hkq1.2, Lib.hid (Below.refl _ _), hI⟩
    case round =>
      obtain ⟨j, k, hj, hgg, rfl, rfl, hk1, hk2, BW, hS⟩ := hrel
      clear hI hkq1
      obtain ⟨x0, x1, x2, x3, x4, x5⟩ := hc.out wr BW.out
      by_cases hlt : j < as1.length ∧ k ≤ m
      · obtain ⟨hlt, hkm⟩ := hlt
        have hltz : (j : Int) < (as1.length : Int) := by omega
        obtain ⟨q1, q2, q3⟩ := z4.out as1[j] (List.getElem_mem hlt)
        have hnew := Lib.hid (show Small1 m (k + (as1[j].space.size : Int) + (as1[j].name.size : Int) + (as1[j].value.size : Int)) sp nm d as1 (j + 1) from fun h => by
          obtain ⟨r1, r2, r3, r4⟩ := hS.out hkm
          refine ⟨r1, r2, r3, fun i h2 hi => ?_⟩
          by_cases hij : i = j
          · subst hij; omega
          · exact r4 i h2 (by omega))
        obtain ⟨bb, off, rfl, p0, p1, p2⟩ := (ha.out.stay (stay_below ((b0.trans (BW.out.mono b0.size))))).cells hlt (sp := as1[j].space) (nm := as1[j].name) (va := as1[j].value) rfl
        have hsum : k + (as1[j].space.size : Int) + (as1[j].name.size : Int) + (as1[j].value.size : Int) ≤ m + 1000000000000000 ∧ 1 ≤ k + (as1[j].space.size : Int) + (as1[j].name.size : Int) + (as1[j].value.size : Int) := by omega
        generalize as1[j].space = us at *
        generalize as1[j].name = un at *
        generalize as1[j].value = uv at *
        clear hS
        go_wp2_with fail
        go_quiet (fail)
        go_wp2_with fail
        have BW2 := Lib.hid (Cells.below_drewN BW.out nq)
        clear BW
        go_roundg (as1.length - (j + 1))
        case measure => omega
        case rel => exact ⟨j + 1, _, by omega, by omega, rfl, by go_num, hsum.2, hsum.1, BW2, hnew⟩
      · have hX2 := Lib.hid (show Small2 m k sp nm d as1 kids 0 from fun h => ⟨fun _ => by
          have hjl : j = as1.length := by
            rcases Nat.lt_or_ge j as1.length with h' | h'
            · exact absurd ⟨h', h⟩ hlt
            · omega
          have := hS.out h
          rwa [hjl] at this, hm0, fun i _ hi => by omega⟩)
        by_cases hjl : j < as1.length
        · have hltz : (j : Int) < (as1.length : Int) := by omega
          have hkm : ¬ k ≤ m := fun h => hlt ⟨hjl, h⟩
          have hkm2 := hlt
          clear hlt
          clear hj hgg hS hkm2
          go_wp2_with fail
          clear x0 x1 x2 x3 x4 x5
          go_loopg [5, 7] kids.length (fun gg s5 s7 wr => ∃ (j : Nat) (k : Int), j ≤ kids.length ∧ kids.length - j ≤ gg ∧ s5 = .int .i64 k ∧ s7 = .int .i64 j ∧ 1 ≤ k ∧ k ≤ m + 1000000000000000 ∧ Hid (Below w1.heap.size w1 wr) ∧ Hid (Small2 m k sp nm d as1 kids j))
          case atStart => exact ⟨0, k, Nat.zero_le _, by omega, rfl, rfl, hk1, hk2, BW, hX2⟩
          case round =>
            clear hX2 BW hk1 hk2
            obtain ⟨j2, k2, hj2, hgg2, rfl, rfl, hk1, hk2, BW, hS⟩ := hrel
            obtain ⟨x0, x1, x2, x3, x4, x5⟩ := hc.out wr BW.out
            by_cases hlt : j2 < kids.length
            · by_cases hkm : k2 ≤ m
              · have hltz : (j2 : Int) < (kids.length : Int) := by omega
                obtain ⟨kk, ksp, knm, kd, kao, kbo, ka, kb, kc1, kc2, e2⟩ := hshape.out j2 hlt
                have bw := b0.trans (BW.out.mono b0.size)
                obtain ⟨bb, off, rfl, p0, p1, p2, p3, p4, p5⟩ := (hk.out.stay (stay_below bw)).cells hlt e2
                have hcall := ih.out j2 hlt (z5.out _ (List.getElem_mem hlt)) wr (hw.trans (bw.mono hw.size)) (m - k2) (by omega) (by omega)
                rw [e2] at hcall
                have hnew := fun (r : Int) (h1 : 1 ≤ r) (h2 : r ≤ m - k2 → Fits kids[j2]) => Lib.hid (show Small2 m (k2 + r) sp nm d as1 kids (j2 + 1) from fun h => by
                  obtain ⟨r1, r2, r3⟩ := hS.out hkm
                  refine ⟨r1, r2, fun i h3 hi => ?_⟩
                  by_cases hij : i = j2
                  · subst hij; exact h2 (by omega)
                  · exact r3 i h3 (by omega))
                generalize kids[j2] = kn at *
                clear e2 hS
                go_wp2_with fail
                (with_reducible refine hcall.mono ?_); rintro e w3 ⟨⟨r, rfl, r1, r2, r3⟩, b3⟩
                have hnw := hnew r r1 r3
                have BW2 := Lib.hid (BW.out.trans (b3.mono BW.out.size))
                have q1 : 1 ≤ k2 + r := by omega
                have q2 : k2 + r ≤ m + 1000000000000000 := by omega
                clear hnew r3 b3 hcall p0 p1 p2 p3 p4 p5 x0 x1 x2 x3 x4 x5 BW
                go_wp2_with fail
                go_roundg (kids.length - (j2 + 1))
                case measure => omega
                case rel => exact ⟨j2 + 1, _, by omega, by omega, rfl, by go_num, q1, q2, BW2, hnw⟩
              · have hltz : (j2 : Int) < (kids.length : Int) := by omega
                have hfin := Lib.hid (show SizeTold m (.mk x sp nm as1 kids d) w (.returned (.int .i64 k2)) wr from ⟨⟨k2, rfl, hk1, hk2, fun h => absurd h hkm⟩, b0.trans (BW.out.mono b0.size)⟩)
                clear hS BW
                go_wp2_with fail
                go_ret
                exact hfin.out
            · have hltz : ¬ (j2 : Int) < (kids.length : Int) := by omega
              have hd : decide ((j2 : Int) < (kids.length : Int)) = false := by simpa using hltz
              have hfin := Lib.hid (show SizeTold m (.mk x sp nm as1 kids d) w (.returned (.int .i64 k2)) wr from ⟨⟨k2, rfl, hk1, hk2, fun h => small2_fits (by
                have := hS.out
                rwa [show j2 = kids.length by omega] at this) h⟩, b0.trans (BW.out.mono b0.size)⟩)
              clear hS BW hlt
              go_wp2_with fail
              go_ret
              exact hfin.out
        · have hltz : ¬ (j : Int) < (as1.length : Int) := by omega
          have hd : decide ((j : Int) < (as1.length : Int)) = false := by simpa using hltz
          have hkm2 := hlt
          clear hlt hjl
          clear hj hgg hS hkm2
          go_wp2_with fail
          clear x0 x1 x2 x3 x4 x5
          go_loopg [5, 7] kids.length (fun gg s5 s7 wr => ∃ (j : Nat) (k : Int), j ≤ kids.length ∧ kids.length - j ≤ gg ∧ s5 = .int .i64 k ∧ s7 = .int .i64 j ∧ 1 ≤ k ∧ k ≤ m + 1000000000000000 ∧ Hid (Below w1.heap.size w1 wr) ∧ Hid (Small2 m k sp nm d as1 kids j))
          case atStart => exact ⟨0, k, Nat.zero_le _, by omega, rfl, rfl, hk1, hk2, BW, hX2⟩
          case round =>
            clear hX2 BW hk1 hk2
            obtain ⟨j2, k2, hj2, hgg2, rfl, rfl, hk1, hk2, BW, hS⟩ := hrel
            obtain ⟨x0, x1, x2, x3, x4, x5⟩ := hc.out wr BW.out
            by_cases hlt : j2 < kids.length
            · by_cases hkm : k2 ≤ m
              · have hltz : (j2 : Int) < (kids.length : Int) := by omega
                obtain ⟨kk, ksp, knm, kd, kao, kbo, ka, kb, kc1, kc2, e2⟩ := hshape.out j2 hlt
                have bw := b0.trans (BW.out.mono b0.size)
                obtain ⟨bb, off, rfl, p0, p1, p2, p3, p4, p5⟩ := (hk.out.stay (stay_below bw)).cells hlt e2
                have hcall := ih.out j2 hlt (z5.out _ (List.getElem_mem hlt)) wr (hw.trans (bw.mono hw.size)) (m - k2) (by omega) (by omega)
                rw [e2] at hcall
                have hnew := fun (r : Int) (h1 : 1 ≤ r) (h2 : r ≤ m - k2 → Fits kids[j2]) => Lib.hid (show Small2 m (k2 + r) sp nm d as1 kids (j2 + 1) from fun h => by
                  obtain ⟨r1, r2, r3⟩ := hS.out hkm
                  refine ⟨r1, r2, fun i h3 hi => ?_⟩
                  by_cases hij : i = j2
                  · subst hij; exact h2 (by omega)
                  · exact r3 i h3 (by omega))
                generalize kids[j2] = kn at *
                clear e2 hS
                go_wp2_with fail
                (with_reducible refine hcall.mono ?_); rintro e w3 ⟨⟨r, rfl, r1, r2, r3⟩, b3⟩
                have hnw := hnew r r1 r3
                have BW2 := Lib.hid (BW.out.trans (b3.mono BW.out.size))
                have q1 : 1 ≤ k2 + r := by omega
                have q2 : k2 + r ≤ m + 1000000000000000 := by omega
                clear hnew r3 b3 hcall p0 p1 p2 p3 p4 p5 x0 x1 x2 x3 x4 x5 BW
                go_wp2_with fail
                go_roundg (kids.length - (j2 + 1))
                case measure => omega
                case rel => exact ⟨j2 + 1, _, by omega, by omega, rfl, by go_num, q1, q2, BW2, hnw⟩
              · have hltz : (j2 : Int) < (kids.length : Int) := by omega
                have hfin := Lib.hid (show SizeTold m (.mk x sp nm as1 kids d) w (.returned (.int .i64 k2)) wr from ⟨⟨k2, rfl, hk1, hk2, fun h => absurd h hkm⟩, b0.trans (BW.out.mono b0.size)⟩)
                clear hS BW
                go_wp2_with fail
                go_ret
                exact hfin.out
            · have hltz : ¬ (j2 : Int) < (kids.length : Int) := by omega
              have hd : decide ((j2 : Int) < (kids.length : Int)) = false := by simpa using hltz
              have hfin := Lib.hid (show SizeTold m (.mk x sp nm as1 kids d) w (.returned (.int .i64 k2)) wr from ⟨⟨k2, rfl, hk1, hk2, fun h => small2_fits (by
                have := hS.out
                rwa [show j2 = kids.length by omega] at this) h⟩, b0.trans (BW.out.mono b0.size)⟩)
              clear hS BW hlt
              go_wp2_with fail
              go_ret
              exact hfin.out
end Go.Proofs.YtegaidfmkfnbnaaDoor
