/-
  What the document's own Same of trees comes to.
  PressStrips: stripped again it is the same. (Printed by gen_prestrips.py.)
  From a reading of a tree handed over to what the walks ask: a node in memory, its texts no longer than memory reaches.
  What the law's own choice of a text comes to: pick.
  Rows of attributes that a call owns; pairs behind pairs.
  The law's own element owns its kids.
  A kid that grows in memory: its attributes and its kids are rows of its own, some of them laid ahead of its block.
  A kid under way: some attributes, some kids, of a bulk; what a step more makes of it.
  What the law's own maker of a kid comes to: kid.
  What the law's own maker of an entry comes to: Made: some entry, of a bulk.
-/
import Derived.Test.YtdhondndidoniaaGreatDoorG04
import Derived.BigQuiet
import Derived.Deep.RegionWith
import Derived.Test.YtdhondndidoniaaGreatDoorG39
import Derived.Test.YtdhondndidoniaaGreatDoorG37
import Derived.Test.YtdhondndidoniaaGreatDoorG31
import Derived.Test.YtdhondndidoniaaGreatDoorG12
import Derived.Laws.AppendOwnNone
import Derived.Laws.OwnMore
import Derived.Maps.AppendAt
import Derived.Deep.Onto
import Derived.Deep.AppendLies
import Derived.Deep.DeepCutAuto
namespace Go.Proofs.YtdhondndidoniaaGreatDoor
open Go.RowKit

theorem sn_is {a b : ByteArray} (h : a = b) : (a.toList == b.toList) = true := by subst h; exact beq_self_eq_true _
theorem sn_isnt {a b : ByteArray} (h : ¬ a = b) : (a.toList == b.toList) = false := by
  rw [ByteArray.toList_eq, ByteArray.toList_eq]
  exact beq_false_of_ne (fun e => h (bytes_eq e))

theorem sn_prop {a b : ByteArray} (h : ¬ a = b) : ¬ a.toList = b.toList := fun e => by
  rw [ByteArray.toList_eq, ByteArray.toList_eq] at e
  exact h (bytes_eq e)

/-- What Same tells. -/
def SameTold (n m : Gv.Node) (w : World) (e : Ending) (w' : World) : Prop := (∃ r, e = .returned (.bool r) ∧ (r = true ↔ n = m)) ∧ Below w.heap.size w w'
theorem told_not {n m : Gv.Node} {w w' : World} (h : n ≠ m) (hb : Below w.heap.size w w') : SameTold n m w (.returned (.bool false)) w' := ⟨⟨false, rfl, by simp [h]⟩, hb⟩

/-- What both loops have in memory: two boxed nodes, and what they hold. -/
structure Two (S S' : Nat → Prop) (w : World) (A B : Array Value) (va va2 vk vk2 : Value) (as1 as2 : List Gv.Att) (m1 m2 : Nat) (cs cs2 : Nat → List Value) (wr : World) : Prop where
  a : Cells wr w.heap.size 27 A
  b : Cells wr (w.heap.size + 1) 27 B
  at1 : AttsAt S wr va as1
  at2 : AttsAt S' wr va2 as2
  k1 : RowsAt S wr vk m1 cs
  k2 : RowsAt S' wr vk2 m2 cs2
  low : Below w.heap.size w wr
theorem Two.on {S S' : Nat → Prop} {w : World} {A B : Array Value} {va va2 vk vk2 : Value} {as1 as2 : List Gv.Att} {m1 m2 : Nat} {cs cs2 : Nat → List Value} {wr wr2 : World} (h : Two S S' w A B va va2 vk vk2 as1 as2 m1 m2 cs cs2 wr) (hb : Below wr.heap.size wr wr2) : Two S S' w A B va va2 vk vk2 as1 as2 m1 m2 cs cs2 wr2 :=
  ⟨h.a.on hb, h.b.on hb, h.at1.stay (stay_below hb), h.at2.stay (stay_below hb), h.k1.stay (stay_below hb), h.k2.stay (stay_below hb), h.low.trans (hb.mono h.low.size)⟩
theorem take_more {α : Type} {a b : List α} {j : Nat} (ha : j < a.length) (hb : j < b.length) (h : a.take j = b.take j) (e : a[j] = b[j]) : a.take (j + 1) = b.take (j + 1) := by
  rw [List.take_succ_eq_append_getElem ha, List.take_succ_eq_append_getElem hb, h, e]
theorem att_ne {a b : Gv.Att} (h : a ≠ b) : ¬ a.space = b.space ∨ (a.space = b.space ∧ ¬ a.name = b.name) ∨ (a.space = b.space ∧ a.name = b.name ∧ ¬ a.value = b.value) := by
  obtain ⟨a1, a2, a3⟩ := a
  obtain ⟨b1, b2, b3⟩ := b
  by_cases h1 : a1 = b1 <;> by_cases h2 : a2 = b2 <;> by_cases h3 : a3 = b3 <;> simp_all

set_option maxRecDepth 100000 in
set_option maxHeartbeats 12800000 in
theorem refSameNode_any {S : Nat → Prop} {w0 : World} {c : List Value} {n : Gv.Node} (hn : NodeAt S w0 c n) : ∀ (w : World), Below w0.heap.size w0 w → ∀ (S' : Nat → Prop) (c' : List Value) (m : Gv.Node), NodeAt S' w c' m →
    Calls Tryz.prog 11 #[.agg c.toArray, .agg c'.toArray] w (SameTold n m w) := by
  induction hn with
  | @mk k sp nm d as1 kids1 va vk cs hz ha hk hr ih =>
    intro w hw S' c' m hm
    obtain ⟨k2, sp2, nm2, d2, as2, kids2, ao2, bo2, ca2, cb2, cs2, rfl, rfl, ha2, hk2, hr2, hz2⟩ := hm.open'
    obtain ⟨hz1, hz3⟩ := hz
    unfold maxLen at hz1 hz3
    obtain ⟨ao, ca, rfl, hcap, c1⟩ := ha
    obtain ⟨bo, cb, rfl, c2⟩ := hk
    have ha : AttsAt S w (.slice ao as1.length ca) as1 := AttsAt.stay ⟨ao, ca, rfl, hcap, c1⟩ (stay_below hw)
    have hk : RowsAt S w (.slice bo kids1.length cb) kids1.length cs := RowsAt.stay ⟨bo, cb, rfl, c2⟩ (stay_below hw)
    clear c1 c2 hcap
    go_enter Tryz.func11, Tryz.ntmps11
    have b1 := ((Below.refl w.heap.size w).alloc (Nat.le_refl _) (.cells (nodeArr k sp nm (.slice ao as1.length ca) (.slice bo kids1.length cb) d) 27)).alloc (by simp) (.cells (nodeArr k2 sp2 nm2 (.slice ao2 as2.length ca2) (.slice bo2 kids2.length cb2) d2) 27)
    have kA := (Cells.new w 27 (nodeArr k sp nm (.slice ao as1.length ca) (.slice bo kids1.length cb) d)).alloc (.cells (nodeArr k2 sp2 nm2 (.slice ao2 as2.length ca2) (.slice bo2 kids2.length cb2) d2) 27)
    have kB := Cells.new (w.alloc (.cells (nodeArr k sp nm (.slice ao as1.length ca) (.slice bo kids1.length cb) d) 27)) 27 (nodeArr k2 sp2 nm2 (.slice ao2 as2.length ca2) (.slice bo2 kids2.length cb2) d2)
    rw [World.size_alloc] at kB
    have ha := ha.stay (stay_below (b1.mono (Nat.le_refl _)))
    have hk := hk.stay (stay_below b1)
    have ha2 := ha2.stay (stay_below b1)
    have hk2 := hk2.stay (stay_below b1)
    have hr2 : ∀ (wr : World), Below w.heap.size w wr → ∀ j (h : j < kids2.length), NodeAt S' wr (cs2 j) kids2[j] := fun wr hb j h => (hr2 j h).on hb
    obtain ⟨x0, x1, x2, x3, x4, x5⟩ := node_open kA
    obtain ⟨y0, y1, y2, y3, y4, y5⟩ := node_open kB
    replace kA := Lib.hid kA
    replace kB := Lib.hid kB
    replace ih := Lib.hid ih
    replace hr2 := Lib.hid hr2
    replace ha := Lib.hid ha
    replace hk := Lib.hid hk
    replace ha2 := Lib.hid ha2
    replace hk2 := Lib.hid hk2
    have hI := Lib.hid (Two.mk kA.out kB.out ha.out ha2.out hk.out hk2.out b1)
    have hshape : ∀ j (h : j < kids1.length), ∃ y0 y1 y2 y3 y4 y5, cs j = [y0, y1, y2, y3, y4, y5] := fun j h => by
      obtain ⟨_, _, _, _, _, _, _, _, _, _, _, _, e, _, _, _⟩ := (hr j h).open'
      exact ⟨_, _, _, _, _, _, e⟩
    replace hshape := Lib.hid hshape
    clear hm hr
    by_cases h1 : k = k2
    case neg =>
      have z1 : ((k : Int) != (k2 : Int)) = true := by rw [bne_iff_ne]; omega
      have hx : (Gv.Node.mk k sp nm as1 kids1 d : Gv.Node) ≠ .mk k2 sp2 nm2 as2 kids2 d2 := fun e => h1 (by injection e)
      replace hx := Lib.hid hx
      clear h1
      go_wp2
      go_ret
      exact told_not hx.out b1
    have z1 : ((k : Int) != (k2 : Int)) = false := by rw [h1]; simp
    replace h1 := Lib.hid h1
    by_cases h2 : sp = sp2
    case neg =>
      have z2 := sn_isnt h2
      have y2' := sn_prop h2
      have hx : (Gv.Node.mk k sp nm as1 kids1 d : Gv.Node) ≠ .mk k2 sp2 nm2 as2 kids2 d2 := fun e => h2 (by injection e)
      replace hx := Lib.hid hx
      clear h2
      go_wp2
      go_ret
      exact told_not hx.out b1
    have z2 := sn_is h2
    have y2' := congrArg ByteArray.toList h2
    replace h2 := Lib.hid h2
    by_cases h3 : nm = nm2
    case neg =>
      have z3 := sn_isnt h3
      have y3' := sn_prop h3
      have hx : (Gv.Node.mk k sp nm as1 kids1 d : Gv.Node) ≠ .mk k2 sp2 nm2 as2 kids2 d2 := fun e => h3 (by injection e)
      replace hx := Lib.hid hx
      clear h3
      go_wp2
      go_ret
      exact told_not hx.out b1
    have z3 := sn_is h3
    have y3' := congrArg ByteArray.toList h3
    replace h3 := Lib.hid h3
    by_cases h4 : d = d2
    case neg =>
      have z4 := sn_isnt h4
      have y4' := sn_prop h4
      have hx : (Gv.Node.mk k sp nm as1 kids1 d : Gv.Node) ≠ .mk k2 sp2 nm2 as2 kids2 d2 := fun e => h4 (by injection e)
      replace hx := Lib.hid hx
      clear h4
      go_wp2
      go_ret
      exact told_not hx.out b1
    have z4 := sn_is h4
    have y4' := congrArg ByteArray.toList h4
    replace h4 := Lib.hid h4
    by_cases h5 : as1.length = as2.length
    case neg =>
      have z5 : ((as1.length : Int) != (as2.length : Int)) = true := by rw [bne_iff_ne]; omega
      have hx : (Gv.Node.mk k sp nm as1 kids1 d : Gv.Node) ≠ .mk k2 sp2 nm2 as2 kids2 d2 := fun e => h5 (by injection e with _ _ _ e4; rw [e4])
      replace hx := Lib.hid hx
      clear h5
      go_wp2
      go_ret
      exact told_not hx.out b1
    have z5 : ((as1.length : Int) != (as2.length : Int)) = false := by rw [h5]; simp
    replace h5 := Lib.hid h5
    by_cases h6 : kids1.length = kids2.length
    case neg =>
      have z6 : ((kids1.length : Int) != (kids2.length : Int)) = true := by rw [bne_iff_ne]; omega
      have hx : (Gv.Node.mk k sp nm as1 kids1 d : Gv.Node) ≠ .mk k2 sp2 nm2 as2 kids2 d2 := fun e => h6 (by injection e with _ _ _ _ e5; rw [e5])
      replace hx := Lib.hid hx
      clear h6
      go_wp2
      go_ret
      exact told_not hx.out b1
    have z6 : ((kids1.length : Int) != (kids2.length : Int)) = false := by rw [h6]; simp
    replace h6 := Lib.hid h6
    have hmain : as1 = as2 → kids1 = kids2 → Gv.Node.mk k sp nm as1 kids1 d = .mk k2 sp2 nm2 as2 kids2 d2 := fun a b => by rw [h1.out, h2.out, h3.out, h4.out, a, b]
    replace hmain := Lib.hid hmain
    clear h1 h2 h3 h4
    clear b1 x0 x1 x2 x3 x4 x5 y0 y1 y2 y3 y4 y5 kA kB ha ha2 hk hk2
    go_wp2_with fail
    clear z1 z2 z3 z4 z5 z6 y2' y3' y4'
    go_loopw [5] (fun i wr => ∃ j : Nat, j ≤ as1.length ∧ i = .int .i64 (j : Int) ∧ Hid (as1.take j = as2.take j) ∧ Hid (Two S S' w (nodeArr k sp nm (.slice ao as1.length ca) (.slice bo kids1.length cb) d) (nodeArr k2 sp2 nm2 (.slice ao2 as2.length ca2) (.slice bo2 kids2.length cb2) d2) (.slice ao as1.length ca) (.slice ao2 as2.length ca2) (.slice bo kids1.length cb) (.slice bo2 kids2.length cb2) as1 as2 kids1.length kids2.length cs cs2 wr)) (fun i _ => as1.length - (intOf i).toNat)
    case atStart => exact ⟨0, Nat.zero_le _, rfl, Lib.hid rfl, hI⟩
    case round =>
      obtain ⟨j, hj, rfl, heq, hT⟩ := hrel
      clear hI
      obtain ⟨x0, x1, x2, x3, x4, x5⟩ := node_open hT.out.a
      obtain ⟨y0, y1, y2, y3, y4, y5⟩ := node_open hT.out.b
      by_cases hlt : j < as1.length
      · have hlt2 : j < as2.length := by have := h5.out; omega
        have hmore := fun e => Lib.hid (take_more hlt hlt2 heq.out e)
        have hbad : as1[j] ≠ as2[j] → Hid (Gv.Node.mk k sp nm as1 kids1 d ≠ .mk k2 sp2 nm2 as2 kids2 d2) := fun h => Lib.hid (fun e => by
          injection e with _ _ _ e4
          subst e4
          exact h rfl)
        have d1 := fun sp nm va e => hT.out.at1.cells hlt (sp := sp) (nm := nm) (va := va) e
        have d2' := fun sp nm va e => hT.out.at2.cells hlt2 (sp := sp) (nm := nm) (va := va) e
        generalize as1[j] = u at *
        generalize as2[j] = v at *
        obtain ⟨b, off, rfl, p0, p1, p2⟩ := d1 u.space u.name u.value rfl
        obtain ⟨b', off', rfl, q0, q1, q2⟩ := d2' v.space v.name v.value rfl
        clear d1 d2'
        have hji : (j : Int) < (as1.length : Int) := by omega
        have hji2 : (j : Int) < (as2.length : Int) := by omega
        by_cases huv : u = v
        · have hr := hmore huv
          have g1 := sn_is (congrArg Gv.Att.space huv)
          have g2 := sn_is (congrArg Gv.Att.name huv)
          have g3 := sn_is (congrArg Gv.Att.value huv)
          have g4 := congrArg ByteArray.toList (congrArg Gv.Att.space huv)
          have g5 := congrArg ByteArray.toList (congrArg Gv.Att.name huv)
          have g6 := congrArg ByteArray.toList (congrArg Gv.Att.value huv)
          clear huv hmore hbad
          go_wp2_with fail
          go_quiet (fail)
          go_wp2_with fail
          go_roundw
          case rel => exact ⟨j + 1, by omega, by go_num, hr, Lib.hid (hT.out.on (Cells.below_drewN (Below.refl _ _) _))⟩
          case measure => simp [intOf] <;> omega
        · have hx := hbad huv
          rcases att_ne huv with h1 | ⟨h1, h2⟩ | ⟨h1, h2, h3⟩
          · have g1 := sn_isnt h1
            have g4 := sn_prop h1
            clear h1 huv hmore hbad
            go_wp2_with fail
            go_quiet (fail)
            go_wp2_with fail
            go_ret
            exact told_not hx.out (Cells.below_drewN hT.out.low _)
          · have g1 := sn_is h1
            have g4 := congrArg ByteArray.toList h1
            have g2 := sn_isnt h2
            have g5 := sn_prop h2
            clear h1 h2 huv hmore hbad
            go_wp2_with fail
            go_quiet (fail)
            go_wp2_with fail
            go_ret
            exact told_not hx.out (Cells.below_drewN hT.out.low _)
          · have g1 := sn_is h1
            have g4 := congrArg ByteArray.toList h1
            have g2 := sn_is h2
            have g5 := congrArg ByteArray.toList h2
            have g3 := sn_isnt h3
            have g6 := sn_prop h3
            clear h1 h2 h3 huv hmore hbad
            go_wp2_with fail
            go_quiet (fail)
            go_wp2_with fail
            go_ret
            exact told_not hx.out (Cells.below_drewN hT.out.low _)
      · have has : as1 = as2 := by
          have := heq.out
          rwa [List.take_of_length_le (by omega), List.take_of_length_le (by have := h5.out; omega)] at this
        have hfin := fun e => Lib.hid (hmain.out has e)
        clear has heq hmain
        go_wp2_with fail
        clear x0 x1 x2 x3 x4 x5 y0 y1 y2 y3 y4 y5
        go_loopw [6] (fun i wr => ∃ j : Nat, j ≤ kids1.length ∧ i = .int .i64 (j : Int) ∧ Hid (kids1.take j = kids2.take j) ∧ Hid (Two S S' w (nodeArr k sp nm (.slice ao as1.length ca) (.slice bo kids1.length cb) d) (nodeArr k2 sp2 nm2 (.slice ao2 as2.length ca2) (.slice bo2 kids2.length cb2) d2) (.slice ao as1.length ca) (.slice ao2 as2.length ca2) (.slice bo kids1.length cb) (.slice bo2 kids2.length cb2) as1 as2 kids1.length kids2.length cs cs2 wr)) (fun i _ => kids1.length - (intOf i).toNat)
        case atStart => exact ⟨0, Nat.zero_le _, rfl, Lib.hid rfl, hT⟩
        case round =>
          obtain ⟨j2, hj2, rfl, heq, hU⟩ := hrel
          clear hT
          obtain ⟨x0, x1, x2, x3, x4, x5⟩ := node_open hU.out.a
          obtain ⟨y0, y1, y2, y3, y4, y5⟩ := node_open hU.out.b
          by_cases hlt2 : j2 < kids1.length
          · have hlt3 : j2 < kids2.length := by have := h6.out; omega
            have hmore := fun e => Lib.hid (take_more hlt2 hlt3 heq.out e)
            have hbad : kids1[j2] ≠ kids2[j2] → Hid (Gv.Node.mk k sp nm as1 kids1 d ≠ .mk k2 sp2 nm2 as2 kids2 d2) := fun h => Lib.hid (fun e => by
              injection e with _ _ _ _ e5
              subst e5
              exact h rfl)
            obtain ⟨u0, u1, u2, u3, u4', u5, hu⟩ := hshape.out j2 hlt2
            have hN2 := hr2.out wr hU.out.low j2 hlt3
            obtain ⟨_, _, _, _, _, _, ao3, bo3, ca3, cb3, _, _, hv, _, _, _⟩ := hN2.open'
            obtain ⟨b, off, rfl, p0, p1, p2, p3, p4, p5⟩ := hU.out.k1.cells hlt2 hu
            obtain ⟨b', off', rfl, q0, q1, q2, q3, q4, q5⟩ := hU.out.k2.cells hlt3 hv
            have hcall := fun w' (hb : Below wr.heap.size wr w') => ih.out j2 hlt2 w' (hw.trans ((hU.out.low.trans (hb.mono hU.out.low.size)).mono hw.size)) S' (cs2 j2) kids2[j2] (hN2.on hb)
            rw [hu, hv] at hcall
            generalize kids1[j2] = n1 at *
            generalize kids2[j2] = n2 at *
            have hji : (j2 : Int) < (kids1.length : Int) := by omega
            have hji2 : (j2 : Int) < (kids2.length : Int) := by omega
            clear hu hv
            replace hN2 := Lib.hid hN2
            go_wp2_with fail
            go_region_with (first | (go_at_call 11; refine (hcall _ (Below.refl _ _).drew).mono ?_; rintro e w' ⟨⟨r, rfl, hr⟩, bb⟩))
            all_goals
              have hV := Lib.hid (hU.out.on (((Below.refl wr.heap.size wr).drew).trans bb))
              clear x0 x1 x2 x3 x4 x5 y0 y1 y2 y3 y4 y5 p0 p1 p2 p3 p4 p5 q0 q1 q2 q3 q4 q5 hcall hN2 hU bb
              cases r
              · have hx := hbad (fun e => by have := hr.2 e; cases this)
                clear hbad hmore hr
                go_wp2
                go_ret
                exact told_not hx.out hV.out.low
              · have hq := hmore (hr.1 rfl)
                clear hbad hmore hr
                go_wp2_with fail
                go_roundw
                case rel => exact ⟨j2 + 1, by omega, by go_num, hq, hV⟩
                case measure => simp [intOf] <;> omega
          · have hks : kids1 = kids2 := by
              have := heq.out
              rwa [List.take_of_length_le (by omega), List.take_of_length_le (by have := h6.out; omega)] at this
            have hfin2 := hfin hks
            clear hks heq hfin
            go_wp2_with fail
            go_ret
            exact ⟨⟨true, rfl, by simp [hfin2.out]⟩, hU.out.low⟩
end Go.Proofs.YtdhondndidoniaaGreatDoor
namespace Go.Proofs.YtdhondndidoniaaGreatDoor
open Go.RowKit
set_option linter.unusedVariables false
set_option linter.unusedSimpArgs false

set_option maxRecDepth 100000 in
set_option maxHeartbeats 12800000 in
theorem preStrips_any {c : List Value} {n : Gv.Node} (w : World) (hN : NodeAt (fun _ => True) w c n) (hs1 : Sized n) (hE : Env w) :
    Calls Tryz.prog 6 #[.agg c.toArray] w fun e w' => e = .returned (.bool true) ∧ Below w.heap.size w w' := by
  have hnd : Nd w c.toArray n := ⟨_, by simpa using hN⟩
  obtain ⟨k, sp, nm, d, as', kids, ao, bo, ca, cb, cs, en, ec, u1, u2, u3, u4, u5⟩ := hN.open'
  have hc : c.toArray = (nodeArr k sp nm (.slice ao as'.length ca) (.slice bo kids.length cb) d) := by rw [ec]; rfl
  have hkl : kids.length = (Am.kidsOf n).length := by rw [en]; rfl
  clear u1 u2 u3 u4 u5 en
  have b0 := (Below.refl w.heap.size w).alloc (Nat.le_refl _) (.cells (nodeArr k sp nm (.slice ao as'.length ca) (.slice bo kids.length cb) d) 27)
  have kA := Lib.hid (Cells.new w 27 (nodeArr k sp nm (.slice ao as'.length ca) (.slice bo kids.length cb) d))
  have c1 := fun W (hb : Below w.heap.size w W) => refSize_any hN hs1 W hb 3000 (by omega) (by omega)
  rw [hc] at c1 hnd ⊢
  replace c1 := Lib.hid c1
  replace hE := Lib.hid hE
  replace hnd := Lib.hid hnd
  replace hkl := Lib.hid hkl
  clear hN hs1 ec hc
  unfold SizeTold nodeArr at *
  go_enter Tryz.func6, Tryz.ntmps6
  go_upto_region 1 with fail
  replace b0 := Lib.hid b0
  generalize w.alloc (.cells #[.int .i64 k, .string sp, .string nm, .slice ao as'.length ca, .slice bo kids.length cb, .string d] 27) = w1 at *
  have c0 := Lib.hid (preAwake_any w1 (hE.out.on b0.out))
  go_wp2_with fail
  (refine c0.out.mono ?_); rintro e w2 ⟨rfl, b2⟩
  have g2 := Lib.hid (b0.out.trans (b2.mono b0.out.size))
  have k2' := Lib.hid (kA.out.on b2)
  clear c0 b2 kA
  obtain ⟨x0, x1, x2, x3, x4, x5⟩ := node_open (show Cells w2 _ _ (nodeArr k sp nm (.slice ao as'.length ca) (.slice bo kids.length cb) d) from k2'.out)
  have cc := Lib.hid (c1.out w2 g2.out)
  go_wp2_with fail
  (with_reducible refine (cc.out).mono ?_); rintro e w3 ⟨⟨q, rfl, q1, q2, q3⟩, b3⟩
  have g3 := Lib.hid (g2.out.trans (b3.mono g2.out.size))
  have k3' := Lib.hid (k2'.out.on b3)
  clear cc b3 k2' c1 x0 x1 x2 x3 x4 x5
  by_cases hq : q ≤ 3000
  case neg =>
    have z1 : (3000 : Int) < q := by omega
    clear hq q3
    go_wp2_with fail
    go_ret
    exact ⟨rfl, g3.out⟩
  have z1 : ¬ (3000 : Int) < q := by omega
  have hz : Hid (Gv.wt n ≤ 100000) := Lib.hid (by have := q3 hq; omega)
  clear q3 hq
  obtain ⟨x0, x1, x2, x3, x4, x5⟩ := node_open (show Cells w3 _ _ (nodeArr k sp nm (.slice ao as'.length ca) (.slice bo kids.length cb) d) from k3'.out)
  have cc := Lib.hid (ppStrip_any n w3 (hnd.out.on g3.out) hz.out)
  go_wp2_with fail
  (refine cc.out.mono ?_); rintro e w4 ⟨A2, rfl, hN2, b4⟩
  have hsl := Pr.strip_len n
  have hss := Lib.hid (Pr.strip_strip n)
  have hsw := Lib.hid (Nat.le_trans (Pr.wt_strip n) hz.out)
  obtain ⟨M, hM⟩ : ∃ M, M = Pr.strip n := ⟨_, rfl⟩
  rw [← hM] at hN2 hsl hss hsw
  obtain ⟨S2, k2, sp2, nm2, d2, as2, kids2, ao2, bo2, ca2, cb2, hM2, rfl, -, -, -, -⟩ := hN2.form
  rw [← hkl.out, hM2] at hsl
  have hle : (kids2.length : Int) ≤ (kids.length : Int) := by have : kids2.length ≤ kids.length := hsl; omega
  have b5 := (Below.refl w4.heap.size w4).alloc (Nat.le_refl _) (.cells #[.int .i64 k2, .string sp2, .string nm2, .slice ao2 as2.length ca2, .slice bo2 kids2.length cb2, .string d2] 27)
  have s5 := Lib.hid (Cells.new w4 27 #[.int .i64 k2, .string sp2, .string nm2, .slice ao2 as2.length ca2, .slice bo2 kids2.length cb2, .string d2])
  have k5 := Lib.hid ((k3'.out.on b4).on b5)
  have n5 := Lib.hid (hN2.on b5)
  have g5 := Lib.hid ((g3.out.trans (b4.mono g3.out.size)).trans (b5.mono (by have := g3.out.size; have := b4.size; omega)))
  replace hM := Lib.hid hM
  replace hM2 := Lib.hid hM2
  clear x0 x1 x2 x3 x4 x5 cc k3' b4 b5 hN2 hsl
  go_upto_region 7 with fail
  generalize w4.alloc (.cells #[.int .i64 k2, .string sp2, .string nm2, .slice ao2 as2.length ca2, .slice bo2 kids2.length cb2, .string d2] 27) = w5 at *
  refine wp_region_held_drew (S := fun w' => Cells w' w.heap.size 27 #[.int .i64 k, .string sp, .string nm, .slice ao as'.length ca, .slice bo kids.length cb, .string d] ∧ Cells w' w4.heap.size 27 #[.int .i64 k2, .string sp2, .string nm2, .slice ao2 as2.length ca2, .slice bo2 kids2.length cb2, .string d2]) (by kernel_rfl) ⟨k5.out.drew, s5.out.drew⟩ (fun hSd => ?_)
  replace k5 := Lib.hid k5.out.drew
  replace s5 := Lib.hid s5.out.drew
  replace n5 := Lib.hid (n5.out.on (Below.refl _ _).drew)
  replace g5 := Lib.hid (g5.out.trans ((Below.refl _ _).drew.mono g5.out.size))
  generalize w5.drew = v0 at *
  refine wpAnyH_take (i := 0) (v := .bool true) rfl (by kernel_rfl) (by kernel_rfl) (by kernel_rfl) (fun _ _ _ h => h) (Or.inl ⟨by rfl, ?_⟩) (by assumption) ?_
  · intro w' hSw; clear hSw; go_simp
  try simp only [Act.put, List.getElem_toArray, List.getElem_cons_succ, List.getElem_cons_zero, List.setIfInBounds_toArray, List.set_cons_zero, List.set_cons_succ]
  refine wpAnyH_take (i := 1) (v := .bool true) rfl (by kernel_rfl) (by kernel_rfl) (by kernel_rfl) (fun _ _ _ h => h) (Or.inl ⟨by rfl, ?_⟩) (by assumption) ?_
  · intro w' hSw; clear hSw; go_simp
  try simp only [Act.put, List.getElem_toArray, List.getElem_cons_succ, List.getElem_cons_zero, List.setIfInBounds_toArray, List.set_cons_zero, List.set_cons_succ]
  refine wpAnyH_take (i := 2) (v := .agg #[.int .i64 k2, .string sp2, .string nm2, .slice ao2 as2.length ca2, .slice bo2 kids2.length cb2, .string d2]) rfl (by kernel_rfl) (by kernel_rfl) (by kernel_rfl) (fun _ _ _ h => h) (Or.inl ⟨by rfl, ?_⟩) (by assumption) ?_
  · intro w' hSw; obtain ⟨-, hc2⟩ := hSw; obtain ⟨r0, r1, r2, r3, r4, r5⟩ := node_open (show Cells w' _ _ (nodeArr k2 sp2 nm2 (.slice ao2 as2.length ca2) (.slice bo2 kids2.length cb2) d2) from hc2); clear hc2; go_simp
  try simp only [Act.put, List.getElem_toArray, List.getElem_cons_succ, List.getElem_cons_zero, List.setIfInBounds_toArray, List.set_cons_zero, List.set_cons_succ]
  refine wpAnyH_take (i := 4) (v := .agg #[.int .i64 k2, .string sp2, .string nm2, .slice ao2 as2.length ca2, .slice bo2 kids2.length cb2, .string d2]) rfl (by kernel_rfl) (by kernel_rfl) (by kernel_rfl) (fun _ _ _ h => h) (Or.inl ⟨by rfl, ?_⟩) (by assumption) ?_
  · intro w' hSw; obtain ⟨-, hc2⟩ := hSw; obtain ⟨r0, r1, r2, r3, r4, r5⟩ := node_open (show Cells w' _ _ (nodeArr k2 sp2 nm2 (.slice ao2 as2.length ca2) (.slice bo2 kids2.length cb2) d2) from hc2); clear hc2; go_simp
  try simp only [Act.put, List.getElem_toArray, List.getElem_cons_succ, List.getElem_cons_zero, List.setIfInBounds_toArray, List.set_cons_zero, List.set_cons_succ]
  refine wpAnyH_ready (rs := [3]) (by kernel_rfl) (by simp) (AllReadyH.cons rfl (fun K hK => ?_) AllReadyH.nil)
  go_simp
  refine (ppStrip_any M v0 n5.out hsw.out).mono ?_; rintro e v1 ⟨A3, rfl, hN3, b6⟩
  rw [hss.out] at hN3
  have k6 := Lib.hid (k5.out.on b6)
  have s6 := Lib.hid (s5.out.on b6)
  have n6 := Lib.hid (n5.out.on b6)
  have g6 := Lib.hid (g5.out.trans (b6.mono g5.out.size))
  refine hK.out _ _ ⟨k6.out, s6.out⟩ (fun hH0 => ?_)
  clear hK K k5 s5 n5 g5 b6
  try simp only [Act.put, List.getElem_toArray, List.getElem_cons_succ, List.getElem_cons_zero, List.setIfInBounds_toArray, List.set_cons_zero, List.set_cons_succ]
  obtain ⟨S3, hN3⟩ := hN3
  obtain ⟨S4, hN4⟩ := n6.out
  obtain ⟨c3⟩ := A3
  refine wpAnyH_ready (rs := [5]) (by kernel_rfl) (by simp) (AllReadyH.cons rfl (fun K hK => ?_) AllReadyH.nil)
  go_simp
  refine (refSameNode_any hN3 v1 (Below.refl _ _) S4 _ _ hN4).mono ?_; rintro e v2 ⟨⟨r, rfl, hr⟩, b7⟩
  obtain rfl : r = true := hr.2 rfl
  have k7 := Lib.hid (k6.out.on b7)
  have s7 := Lib.hid (s6.out.on b7)
  have g7 := Lib.hid (g6.out.trans (b7.mono g6.out.size))
  refine hK.out _ _ ⟨k7.out, s7.out⟩ (fun hH1 => ?_)
  clear hK K k6 s6 n6 g6 b7 hN3 hN4 hr
  try simp only [Act.put, List.getElem_toArray, List.getElem_cons_succ, List.getElem_cons_zero, List.setIfInBounds_toArray, List.set_cons_zero, List.set_cons_succ]
  refine wpAnyH_take (i := 6) (v := .bool true) rfl (by kernel_rfl) (by kernel_rfl) (by kernel_rfl) (fun _ _ _ h => h) (Or.inl ⟨by rfl, ?_⟩) (by assumption) ?_
  · intro w' hSw; clear hSw; go_simp
  try simp only [Act.put, List.getElem_toArray, List.getElem_cons_succ, List.getElem_cons_zero, List.setIfInBounds_toArray, List.set_cons_zero, List.set_cons_succ]
  refine wpAnyH_take (i := 7) (v := .bool true) rfl (by kernel_rfl) (by kernel_rfl) (by kernel_rfl) (fun _ _ _ h => h) (Or.inl ⟨by rfl, ?_⟩) (by assumption) ?_
  · intro w' hSw; clear hSw; go_simp
  try simp only [Act.put, List.getElem_toArray, List.getElem_cons_succ, List.getElem_cons_zero, List.setIfInBounds_toArray, List.set_cons_zero, List.set_cons_succ]
  refine wpAnyH_take (i := 8) (v := .pointer (some ⟨w4.heap.size, 4, none⟩)) rfl (by kernel_rfl) (by kernel_rfl) (by kernel_rfl) (fun _ _ _ h => h) (Or.inl ⟨by rfl, ?_⟩) (by assumption) ?_
  · intro w' hSw; clear hSw; go_simp
  try simp only [Act.put, List.getElem_toArray, List.getElem_cons_succ, List.getElem_cons_zero, List.setIfInBounds_toArray, List.set_cons_zero, List.set_cons_succ]
  refine wpAnyH_take (i := 9) (v := .slice bo2 kids2.length cb2) rfl (by kernel_rfl) (by kernel_rfl) (by kernel_rfl) (fun _ _ _ h => h) (Or.inl ⟨by rfl, ?_⟩) (by assumption) ?_
  · intro w' hSw; obtain ⟨-, hc2⟩ := hSw; have r4 := hc2.cell (i := 4) rfl; clear hc2; go_simp
  try simp only [Act.put, List.getElem_toArray, List.getElem_cons_succ, List.getElem_cons_zero, List.setIfInBounds_toArray, List.set_cons_zero, List.set_cons_succ]
  refine wpAnyH_take (i := 10) (v := .int .i64 (kids2.length : Int)) rfl (by kernel_rfl) (by kernel_rfl) (by kernel_rfl) (fun _ _ _ h => h) (Or.inl ⟨by rfl, ?_⟩) (by assumption) ?_
  · intro w' hSw; clear hSw; go_simp
  try simp only [Act.put, List.getElem_toArray, List.getElem_cons_succ, List.getElem_cons_zero, List.setIfInBounds_toArray, List.set_cons_zero, List.set_cons_succ]
  refine wpAnyH_take (i := 11) (v := .pointer (some ⟨w.heap.size, 4, none⟩)) rfl (by kernel_rfl) (by kernel_rfl) (by kernel_rfl) (fun _ _ _ h => h) (Or.inl ⟨by rfl, ?_⟩) (by assumption) ?_
  · intro w' hSw; clear hSw; go_simp
  try simp only [Act.put, List.getElem_toArray, List.getElem_cons_succ, List.getElem_cons_zero, List.setIfInBounds_toArray, List.set_cons_zero, List.set_cons_succ]
  refine wpAnyH_take (i := 12) (v := .slice bo kids.length cb) rfl (by kernel_rfl) (by kernel_rfl) (by kernel_rfl) (fun _ _ _ h => h) (Or.inl ⟨by rfl, ?_⟩) (by assumption) ?_
  · intro w' hSw; obtain ⟨hc1, -⟩ := hSw; have p4 := hc1.cell (i := 4) rfl; clear hc1; go_simp
  try simp only [Act.put, List.getElem_toArray, List.getElem_cons_succ, List.getElem_cons_zero, List.setIfInBounds_toArray, List.set_cons_zero, List.set_cons_succ]
  refine wpAnyH_take (i := 13) (v := .int .i64 (kids.length : Int)) rfl (by kernel_rfl) (by kernel_rfl) (by kernel_rfl) (fun _ _ _ h => h) (Or.inl ⟨by rfl, ?_⟩) (by assumption) ?_
  · intro w' hSw; clear hSw; go_simp
  try simp only [Act.put, List.getElem_toArray, List.getElem_cons_succ, List.getElem_cons_zero, List.setIfInBounds_toArray, List.set_cons_zero, List.set_cons_succ]
  refine wpAnyH_take (i := 14) (v := .bool true) rfl (by kernel_rfl) (by kernel_rfl) (by kernel_rfl) (fun _ _ _ h => h) (Or.inl ⟨by rfl, ?_⟩) (by assumption) ?_
  · intro w' hSw; clear hSw; go_simp
  try simp only [Act.put, List.getElem_toArray, List.getElem_cons_succ, List.getElem_cons_zero, List.setIfInBounds_toArray, List.set_cons_zero, List.set_cons_succ]
  refine wpAnyH_take (i := 15) (v := .bool true) rfl (by kernel_rfl) (by kernel_rfl) (by kernel_rfl) (fun _ _ _ h => h) (Or.inl ⟨by rfl, ?_⟩) (by assumption) ?_
  · intro w' hSw; clear hSw; go_simp
  try simp only [Act.put, List.getElem_toArray, List.getElem_cons_succ, List.getElem_cons_zero, List.setIfInBounds_toArray, List.set_cons_zero, List.set_cons_succ]
  refine wpAnyH_ready (rs := [16]) (by kernel_rfl) (by simp) (AllReadyH.cons rfl (fun K hK => ?_) AllReadyH.nil)
  go_simp
  refine hK.out _ _ ⟨k7.out, s7.out⟩ (fun hH2 => ?_)
  clear hK K
  try simp only [Act.put, List.getElem_toArray, List.getElem_cons_succ, List.getElem_cons_zero, List.setIfInBounds_toArray, List.set_cons_zero, List.set_cons_succ]
  refine wpAnyH_done (by kernel_rfl) ?_ _
  go_wp2_with fail
  go_ret
  exact ⟨rfl, g7.out⟩
end Go.Proofs.YtdhondndidoniaaGreatDoor
namespace Go.Proofs.YtdhondndidoniaaGreatDoor
open Go.ChangeShapes Go.WideShapes Go.ChangeAt Go.RowKit Go.Deep

theorem weights_in {H : Type} {P : Program} {e : TypeId} {d : DataW H} {k : Nat} (hk : k ∈ d.weights P e) : ∀ {l : List (DataW H)}, d ∈ l → k ∈ DataW.weightsAll P e l
  | [], h => by cases h
  | c :: l, h => by
    unfold DataW.weightsAll
    rw [List.mem_append]
    rcases List.mem_cons.1 h with rfl | h
    · exact .inl hk
    · exact .inr (weights_in hk h)
/-- a row's cells. -/
theorem row_at {W : World} {a : Addr} {k : Nat} {cs : List Value} (h : W.cells? 0 a k = some cs) : cs.length = k ∧ (∀ i u, cs[i]? = some u → W.cell? (a.add i) = some u) := by
  obtain ⟨_, hlen, hat⟩ := World.cells?_some h
  refine ⟨hlen, fun i u hu => ?_⟩
  have hi : i < k := by rw [← hlen]; exact (List.getElem?_eq_some_iff.1 hu).1
  rw [hat i hi, hu]
theorem plain_of {W : World} {a : Addr} {u : Value} (h : W.cell? a = some u) : ∃ b off, a = ⟨b, off, none⟩ := by
  obtain ⟨b, off, sp⟩ := a
  cases sp with
  | none => exact ⟨b, off, rfl⟩
  | some q =>
    unfold World.cell? at h
    split at h <;> simp at h
theorem add_zero' (a : Addr) : a.add 0 = a := by
  obtain ⟨b, off, sp⟩ := a
  simp [Addr.add]
theorem trod_struct6 {H : Type} {enc : TypeId × Value → H} {P : Program} {w : World} {base : Nat} {spare : Nat → Bool} {held : Bool} {t : TypeId} {f0 f1 f2 f3 f4 f5 : Field} {fuel : Nat} {cs : List Value} {x : DataW H × List MemPlace} (ht : P.underlying t = some (.struct #[f0, f1, f2, f3, f4, f5])) (h : DataW.trod enc P w base spare held fuel t cs = some x) :
    ∃ y0 y1 y2 y3 y4 y5 n, fuel = n + 1 ∧ x.1 = .agg [y0.1, y1.1, y2.1, y3.1, y4.1, y5.1] ∧ cs.length = P.cellsOf t ∧ DataW.trod enc P w base spare held n f0.type ((cs.drop f0.offset).take (P.cellsOf f0.type)) = some y0 ∧
      DataW.trod enc P w base spare held n f1.type ((cs.drop f1.offset).take (P.cellsOf f1.type)) = some y1 ∧ DataW.trod enc P w base spare held n f2.type ((cs.drop f2.offset).take (P.cellsOf f2.type)) = some y2 ∧
      DataW.trod enc P w base spare held n f3.type ((cs.drop f3.offset).take (P.cellsOf f3.type)) = some y3 ∧ DataW.trod enc P w base spare held n f4.type ((cs.drop f4.offset).take (P.cellsOf f4.type)) = some y4 ∧
      DataW.trod enc P w base spare held n f5.type ((cs.drop f5.offset).take (P.cellsOf f5.type)) = some y5 := by
  obtain ⟨xs, n, hn, rfl, hl, hlen, hf⟩ := DataW.trod_struct ht h
  match xs, hlen with
  | [y0, y1, y2, y3, y4, y5], _ => exact ⟨y0, y1, y2, y3, y4, y5, n, hn, by simp, hl, by simpa using hf 0 f0 rfl, by simpa using hf 1 f1 rfl, by simpa using hf 2 f2 rfl, by simpa using hf 3 f3 rfl, by simpa using hf 4 f4 rfl, by simpa using hf 5 f5 rfl⟩

set_option maxRecDepth 100000 in
theorem att_open {H : Type} {enc : TypeId × Value → H} {W : World} {spare : Nat → Bool} {held : Bool} {n : Nat} {cs : List Value} {x : DataW H × List MemPlace}
    (h : DataW.trod enc Tryz.prog W 0 spare held n 49 cs = some x) (hw : ∀ k ∈ x.1.weights Tryz.prog 49, k ≤ reachBytes) :
    ∃ r : Gv.Att, cs = attCells r ∧ r.space.size ≤ 140737488355328 ∧ r.name.size ≤ 140737488355328 ∧ r.value.size ≤ 140737488355328 := by
  obtain ⟨y0, y1, y2, m, hx, hlen, h0, h1, h2⟩ := Deep.trod_struct3 Tryz.underlying49 h
  have c3 : Tryz.prog.cellsOf 49 = 3 := by kernel_rfl
  have c9 : Tryz.prog.cellsOf 9 = 1 := by kernel_rfl
  rw [c3] at hlen
  match cs, hlen with
  | [x0, x1, x2], _ =>
    simp only [c9] at h0 h1 h2
    obtain ⟨s0, e0, f0, _⟩ := DataW.trod_string Tryz.underlying9 h0
    obtain ⟨s1, e1, f1, _⟩ := DataW.trod_string Tryz.underlying9 h1
    obtain ⟨s2, e2, f2, _⟩ := DataW.trod_string Tryz.underlying9 h2
    simp at e0 e1 e2
    subst e0; subst e1; subst e2
    rw [hx] at hw
    simp only [DataW.weights, Tryz.underlying49] at hw
    have hlt := reachBytes_lt
    have a0 := hw s0.data.toList.length (by rw [f0]; simp [DataW.weightsEach, DataW.weights])
    have a1 := hw s1.data.toList.length (by rw [f1]; simp [DataW.weightsEach, DataW.weights])
    have a2 := hw s2.data.toList.length (by rw [f2]; simp [DataW.weightsEach, DataW.weights])
    rw [list_len] at a0 a1 a2
    exact ⟨⟨s0, s1, s2⟩, rfl, show s0.size ≤ _ by omega, show s1.size ≤ _ by omega, show s2.size ≤ _ by omega⟩

set_option maxRecDepth 100000 in
theorem atts_open {H : Type} {enc : TypeId × Value → H} {W : World} {spare : Nat → Bool} {held : Bool} {v : Value} {n : Nat} {x : DataW H × List MemPlace} (h : DataW.trod enc Tryz.prog W 0 spare held n 24 [v] = some x)
    (hw : ∀ k ∈ x.1.weights Tryz.prog 24, k ≤ reachBytes) :
    ∃ l : List Gv.Att, AttsAt (fun _ => True) W v l ∧ l.length ≤ maxLen ∧ l.length ≤ 140737488355328 ∧ ∀ a ∈ l, a.space.size ≤ 140737488355328 ∧ a.name.size ≤ 140737488355328 ∧ a.value.size ≤ 140737488355328 := by
  rcases DataW.trod_slice Tryz.underlying24 h with ⟨hcs, _⟩ | ⟨a', len, cap, elems, rest, m, _, hcs, hx, _, hl, hm, hel, hall, _, _⟩
  · simp at hcs
    subst hcs
    exact ⟨[], ⟨none, 0, rfl, Nat.le_refl _, fun j hj => by simp at hj⟩, by unfold maxLen; simp, by simp, fun r hr => by cases hr⟩
  · simp at hcs
    subst hcs
    have c3 : Tryz.prog.cellsOf 49 = 3 := by kernel_rfl
    have c48 : Tryz.prog.bytesOf 49 = 48 := by kernel_rfl
    rw [hx] at hw
    simp only [DataW.weights, Tryz.underlying24] at hw
    have hlen := hw _ (List.mem_cons_self)
    rw [c48, List.length_map, List.length_map] at hlen
    have hlt := reachBytes_lt
    have hrow : ∀ i, i < len → ∃ r : Gv.Att, (∀ j u, (attCells r)[j]? = some u → W.cell? ((a'.add (i * 3)).add j) = some u) ∧ r.space.size ≤ 140737488355328 ∧ r.name.size ≤ 140737488355328 ∧ r.value.size ≤ 140737488355328 := fun i hi => by
      have hi' := hall i hi
      rw [List.getElem?_eq_getElem (by omega), Option.bind_eq_some_iff] at hi'
      obtain ⟨cs, hc, ht⟩ := hi'
      rw [c3] at hc
      obtain ⟨_, hat⟩ := row_at hc
      obtain ⟨r, e, z⟩ := att_open ht (fun k hk => hw k (by
        rw [List.mem_cons, List.mem_append]
        exact .inr (.inl (weights_in hk (List.mem_map.2 ⟨_, List.getElem_mem _, rfl⟩)))))
      exact ⟨r, fun j u hu => hat j u (by rw [e]; exact hu), z⟩
    have : Inhabited Gv.Att := ⟨⟨ByteArray.empty, ByteArray.empty, ByteArray.empty⟩⟩
    obtain ⟨R, hR⟩ := choose_lt hrow
    refine ⟨(List.range len).map R, ⟨some a', cap, by simp, by simpa using hl, fun j hj => ?_⟩, by simp; omega, by simp; omega, fun r hr => ?_⟩
    · have hj' : j < len := by simpa using hj
      have h0 := (hR 0 (by omega)).1 0 _ rfl
      rw [Nat.zero_mul, add_zero', add_zero'] at h0
      obtain ⟨b, off, rfl⟩ := plain_of h0
      refine ⟨b, off, rfl, trivial, fun i u hu => ?_⟩
      simp only [List.getElem_map, List.getElem_range] at hu
      have := (hR j hj').1 i u hu
      simpa only [WideShapes.add_plain] using this
    · obtain ⟨i, hi, rfl⟩ := List.mem_map.1 hr
      exact (hR i (List.mem_range.1 hi)).2

set_option maxRecDepth 100000 in
set_option maxHeartbeats 1600000 in
theorem node_trod {H : Type} {enc : TypeId × Value → H} {W : World} {spare : Nat → Bool} {held : Bool} : ∀ (n : Nat) (cs : List Value) (x : DataW H × List MemPlace), DataW.trod enc Tryz.prog W 0 spare held n 27 cs = some x → (∀ k ∈ x.1.weights Tryz.prog 27, k ≤ reachBytes) →
    ∃ nd : Gv.Node, NodeAt (fun _ => True) W cs nd ∧ Sized nd := by
  intro n
  induction n using Nat.strongRecOn with
  | _ n ih =>
    intro cs x h hw
    obtain ⟨y0, y1, y2, y3, y4, y5, m, rfl, hx, hlen, h0, h1, h2, h3, h4, h5⟩ := trod_struct6 Tryz.underlying27 h
    have c6 : Tryz.prog.cellsOf 27 = 6 := by kernel_rfl
    have c9 : Tryz.prog.cellsOf 9 = 1 := by kernel_rfl
    have ci : Tryz.prog.cellsOf 3 = 1 := by kernel_rfl
    have ca : Tryz.prog.cellsOf 24 = 1 := by kernel_rfl
    have cn : Tryz.prog.cellsOf 25 = 1 := by kernel_rfl
    rw [c6] at hlen
    match cs, hlen with
    | [x0, x1, x2, x3, x4, x5], _ =>
      simp only [c9, ci, ca, cn] at h0 h1 h2 h3 h4 h5
      obtain ⟨k0, e0, f0, _⟩ := DataW.trod_int Tryz.underlying3 h0
      obtain ⟨s1, e1, f1, _⟩ := DataW.trod_string Tryz.underlying9 h1
      obtain ⟨s2, e2, f2, _⟩ := DataW.trod_string Tryz.underlying9 h2
      obtain ⟨s5, e5, f5, _⟩ := DataW.trod_string Tryz.underlying9 h5
      simp at e0 e1 e2 e5
      subst e0; subst e1; subst e2; subst e5
      rw [hx] at hw
      simp only [DataW.weights, Tryz.underlying27] at hw
      have hlt := reachBytes_lt
      have a1 := hw s1.data.toList.length (by rw [f1]; simp [DataW.weightsEach, DataW.weights])
      have a2 := hw s2.data.toList.length (by rw [f2]; simp [DataW.weightsEach, DataW.weights])
      have a5 := hw s5.data.toList.length (by rw [f5]; simp [DataW.weightsEach, DataW.weights])
      rw [list_len] at a1 a2 a5
      have w3 : ∀ k ∈ y3.1.weights Tryz.prog 24, k ≤ reachBytes := fun k hk => hw k (by
        simp only [DataW.weightsEach, List.mem_append, List.map_cons, List.map_nil]
        exact .inr (.inr (.inr (.inl hk))))
      have w4 : ∀ k ∈ y4.1.weights Tryz.prog 25, k ≤ reachBytes := fun k hk => hw k (by
        simp only [DataW.weightsEach, List.mem_append, List.map_cons, List.map_nil]
        exact .inr (.inr (.inr (.inr (.inl hk)))))
      obtain ⟨as', hat, l1, l2, l3⟩ := atts_open (v := x3) (by simpa using h3) w3
      have hkids : ∃ (kids : List Gv.Node) (rows : Nat → List Value), RowsAt (fun _ => True) W x4 kids.length rows ∧ kids.length ≤ maxLen ∧ (∀ j (h : j < kids.length), NodeAt (fun _ => True) W (rows j) kids[j]) ∧ ∀ c ∈ kids, Sized c := by
        rcases DataW.trod_slice (cs := [x4]) Tryz.underlying25 (by simpa using h4) with ⟨hcs, _⟩ | ⟨a', len, cap, elems, rest, m2, hm2, hcs, hx4, _, hl, hm, hel, hall, _, _⟩
        · simp at hcs
          subst hcs
          exact ⟨[], fun _ => [], ⟨none, 0, rfl, fun j hj => by simp at hj⟩, by unfold maxLen; simp, fun j hj => by simp at hj, fun r hr => by cases hr⟩
        · simp at hcs
          subst hcs
          rw [hx4] at w4
          simp only [DataW.weights, Tryz.underlying25] at w4
          have hrow : ∀ i, i < len → ∃ r : Gv.Node × List Value, r.2.length = 6 ∧ (∀ j u, r.2[j]? = some u → W.cell? ((a'.add (i * 6)).add j) = some u) ∧ NodeAt (fun _ => True) W r.2 r.1 ∧ Sized r.1 := fun i hi => by
            have hi' := hall i hi
            rw [List.getElem?_eq_getElem (by omega), Option.bind_eq_some_iff] at hi'
            obtain ⟨cs, hc, ht⟩ := hi'
            rw [c6] at hc
            obtain ⟨hl6, hat'⟩ := row_at hc
            obtain ⟨nd, q1, q2⟩ := ih m2 (by omega) cs _ ht (fun k hk => w4 k (by
              rw [List.mem_cons, List.mem_append]
              exact .inr (.inl (weights_in hk (List.mem_map.2 ⟨_, List.getElem_mem _, rfl⟩)))))
            exact ⟨(nd, cs), hl6, hat', q1, q2⟩
          have : Inhabited (Gv.Node × List Value) := ⟨(.mk 0 ByteArray.empty ByteArray.empty [] [] ByteArray.empty, [])⟩
          obtain ⟨R, hR⟩ := choose_lt hrow
          refine ⟨(List.range len).map fun i => (R i).1, fun i => (R i).2, ⟨some a', cap, by simp, fun j hj => ?_⟩, by simp; omega, fun j hj => ?_, fun r hr => ?_⟩
          · have hj' : j < len := by simpa using hj
            obtain ⟨q6, _⟩ := hR j hj'
            refine ⟨q6, ?_⟩
            obtain ⟨r6, r1, _⟩ := hR 0 (by omega)
            obtain ⟨u0, hu0⟩ : ∃ u, (R 0).2[0]? = some u := ⟨_, List.getElem?_eq_getElem (by omega)⟩
            have h0 := r1 0 _ hu0
            rw [Nat.zero_mul, add_zero', add_zero'] at h0
            obtain ⟨b, off, rfl⟩ := plain_of h0
            refine ⟨b, off, rfl, trivial, fun i u hu => ?_⟩
            have := (hR j hj').2.1 i u hu
            simpa only [WideShapes.add_plain] using this
          · have hj' : j < len := by simpa using hj
            simpa using (hR j hj').2.2.1
          · obtain ⟨i, hi, rfl⟩ := List.mem_map.1 hr
            exact (hR i (List.mem_range.1 hi)).2.2.2
      obtain ⟨kids, rows, hrw, hk1, hk2, hk3⟩ := hkids
      exact ⟨.mk k0 s1 s2 as' kids s5, .mk rows ⟨l1, hk1⟩ hat hrw hk2, .mk l2 (by omega) (by omega) (by omega) l3 hk3⟩

set_option maxRecDepth 100000 in
theorem node_read {H : Type} {enc : TypeId × Value → H} {W : World} {spare : Nat → Bool} {held : Bool} {base : Nat} {v : Value} {d : DataW H} {p : List MemPlace} (hv : Value.okWide Tryz.prog W .any base 27 v) (h : DataW.Trod enc Tryz.prog W 0 spare held 27 v d p)
    (hw : ∀ k ∈ d.weights Tryz.prog 27, k ≤ reachBytes) : ∃ (c : List Value) (n : Gv.Node), v = .agg c.toArray ∧ NodeAt (fun _ => True) W c n ∧ Sized n := by
  obtain ⟨cs, rfl, hsz⟩ := okWide_struct Tryz.underlying27 hv
  obtain ⟨fuel, hf⟩ := h
  obtain ⟨n, h1, h2⟩ := node_trod fuel cs.toList (d, p) (by simpa [Value.cells] using hf) hw
  exact ⟨cs.toList, n, by simp, h1, h2⟩
end Go.Proofs.YtdhondndidoniaaGreatDoor
namespace Go.Proofs.YtdhondndidoniaaGreatDoor
open Go.RowKit

end Go.Proofs.YtdhondndidoniaaGreatDoor
namespace Go.Proofs.YtdhondndidoniaaGreatDoor
open Go.RowKit

def OwnsAtts (B : Nat) (v : Value) (l : List Gv.Att) (w : World) : Prop := w.ownsRow B 49 3 v l.length (l.flatMap attCells)
end Go.Proofs.YtdhondndidoniaaGreatDoor
namespace Go.Proofs.YtdhondndidoniaaGreatDoor
open Go.RowKit

end Go.Proofs.YtdhondndidoniaaGreatDoor
namespace Go.Proofs.YtdhondndidoniaaGreatDoor
open Go.RowKit

/-- WHAT HAS GROWN: its node lies in the block rb; the rest lies in blocks from B on. -/
structure KIn (B rb : Nat) (w0 : World) (sp nm : ByteArray) (va vk : Value) (as' : List Gv.Att) (kids : List Gv.Node) (w : World) : Prop where
  n : Cells w rb 27 (nodeArr 0 sp nm va vk ⟨#[]⟩)
  att : OwnsAtts B va as' w
  kid : OwnsKids (fun b => (B ≤ b ∧ b ≠ rb) ∧ some b ≠ va.ownBlock) B vk kids w
  kb : some rb ≠ vk.ownBlock
  low : Below B w0 w
  lb : B ≤ rb
end Go.Proofs.YtdhondndidoniaaGreatDoor
namespace Go.Proofs.YtdhondndidoniaaGreatDoor
open Go.RowKit

end Go.Proofs.YtdhondndidoniaaGreatDoor
namespace Go.Proofs.YtdhondndidoniaaGreatDoor
open Go.RowKit
end Go.Proofs.YtdhondndidoniaaGreatDoor
namespace Go.Proofs.YtdhondndidoniaaGreatDoor
open Go.RowKit
end Go.Proofs.YtdhondndidoniaaGreatDoor
