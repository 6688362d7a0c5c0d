/-
  What the document's own Same of trees comes to.
-/
import Derived.Test.YtcjlhdmekhifaaaGreatDoorD05
import Derived.BigQuiet
import Derived.Deep.RegionWith
namespace Go.Proofs.YtcjlhdmekhifaaaGreatDoor
open Go.RowKit

theorem sn_ne {a b : ByteArray} (h : ¬ a = b) : (a.toList != b.toList) = true := by
  rw [bne_iff_ne, ByteArray.toList_eq, ByteArray.toList_eq]
  exact fun e => h (bytes_eq e)
theorem sn_is {a b : ByteArray} (h : a = b) : (a.toList == b.toList) = true := by subst h; exact beq_self_eq_true _
theorem sn_isnt {a b : ByteArray} (h : ¬ a = b) : (a.toList == b.toList) = false := by
  rw [ByteArray.toList_eq, ByteArray.toList_eq]
  exact beq_false_of_ne (fun e => h (bytes_eq e))

theorem sn_prop {a b : ByteArray} (h : ¬ a = b) : ¬ a.toList = b.toList := fun e => by
  rw [ByteArray.toList_eq, ByteArray.toList_eq] at e
  exact h (bytes_eq e)

/-- What Same tells. -/
def SameTold (n m : Gv.Node) (w : World) (e : Ending) (w' : World) : Prop := (∃ r, e = .returned (.bool r) ∧ (r = true ↔ n = m)) ∧ Below w.heap.size w w'
theorem told_not {n m : Gv.Node} {w w' : World} (h : n ≠ m) (hb : Below w.heap.size w w') : SameTold n m w (.returned (.bool false)) w' := ⟨⟨false, rfl, by simp [h]⟩, hb⟩

/-- What both loops have in memory: two boxed nodes, and what they hold. -/
structure Two (S S' : Nat → Prop) (w : World) (A B : Array Value) (va va2 vk vk2 : Value) (as1 as2 : List Gv.Att) (m1 m2 : Nat) (cs cs2 : Nat → List Value) (wr : World) : Prop where
  a : Cells wr w.heap.size 26 A
  b : Cells wr (w.heap.size + 1) 26 B
  at1 : AttsAt S wr va as1
  at2 : AttsAt S' wr va2 as2
  k1 : RowsAt S wr vk m1 cs
  k2 : RowsAt S' wr vk2 m2 cs2
  low : Below w.heap.size w wr
theorem Two.on {S S' : Nat → Prop} {w : World} {A B : Array Value} {va va2 vk vk2 : Value} {as1 as2 : List Gv.Att} {m1 m2 : Nat} {cs cs2 : Nat → List Value} {wr wr2 : World} (h : Two S S' w A B va va2 vk vk2 as1 as2 m1 m2 cs cs2 wr) (hb : Below wr.heap.size wr wr2) : Two S S' w A B va va2 vk vk2 as1 as2 m1 m2 cs cs2 wr2 :=
  ⟨h.a.on hb, h.b.on hb, h.at1.stay (stay_below hb), h.at2.stay (stay_below hb), h.k1.stay (stay_below hb), h.k2.stay (stay_below hb), h.low.trans (hb.mono h.low.size)⟩
theorem take_more {α : Type} {a b : List α} {j : Nat} (ha : j < a.length) (hb : j < b.length) (h : a.take j = b.take j) (e : a[j] = b[j]) : a.take (j + 1) = b.take (j + 1) := by
  rw [List.take_succ_eq_append_getElem ha, List.take_succ_eq_append_getElem hb, h, e]
theorem att_ne {a b : Gv.Att} (h : a ≠ b) : ¬ a.space = b.space ∨ (a.space = b.space ∧ ¬ a.name = b.name) ∨ (a.space = b.space ∧ a.name = b.name ∧ ¬ a.value = b.value) := by
  obtain ⟨a1, a2, a3⟩ := a
  obtain ⟨b1, b2, b3⟩ := b
  by_cases h1 : a1 = b1 <;> by_cases h2 : a2 = b2 <;> by_cases h3 : a3 = b3 <;> simp_all

set_option maxRecDepth 100000 in
set_option maxHeartbeats 12800000 in
theorem refSameNode_any {S : Nat → Prop} {w0 : World} {c : List Value} {n : Gv.Node} (hn : NodeAt S w0 c n) : ∀ (w : World), Below w0.heap.size w0 w → ∀ (S' : Nat → Prop) (c' : List Value) (m : Gv.Node), NodeAt S' w c' m →
    Calls Tryz.prog 8 #[.agg c.toArray, .agg c'.toArray] w (SameTold n m w) := by
  induction hn with
  | @mk k sp nm d as1 kids1 va vk cs hz ha hk hr ih =>
    intro w hw S' c' m hm
    obtain ⟨k2, sp2, nm2, d2, as2, kids2, ao2, bo2, ca2, cb2, cs2, rfl, rfl, ha2, hk2, hr2, hz2⟩ := hm.open'
    obtain ⟨hz1, hz3⟩ := hz
    unfold maxLen at hz1 hz3
    obtain ⟨ao, ca, rfl, hcap, c1⟩ := ha
    obtain ⟨bo, cb, rfl, c2⟩ := hk
    have ha : AttsAt S w (.slice ao as1.length ca) as1 := AttsAt.stay ⟨ao, ca, rfl, hcap, c1⟩ (stay_below hw)
    have hk : RowsAt S w (.slice bo kids1.length cb) kids1.length cs := RowsAt.stay ⟨bo, cb, rfl, c2⟩ (stay_below hw)
    clear c1 c2 hcap
    go_enter Tryz.func8, Tryz.ntmps8
    have b1 := ((Below.refl w.heap.size w).alloc (Nat.le_refl _) (.cells (nodeArr k sp nm (.slice ao as1.length ca) (.slice bo kids1.length cb) d) 26)).alloc (by simp) (.cells (nodeArr k2 sp2 nm2 (.slice ao2 as2.length ca2) (.slice bo2 kids2.length cb2) d2) 26)
    have kA := (Cells.new w 26 (nodeArr k sp nm (.slice ao as1.length ca) (.slice bo kids1.length cb) d)).alloc (.cells (nodeArr k2 sp2 nm2 (.slice ao2 as2.length ca2) (.slice bo2 kids2.length cb2) d2) 26)
    have kB := Cells.new (w.alloc (.cells (nodeArr k sp nm (.slice ao as1.length ca) (.slice bo kids1.length cb) d) 26)) 26 (nodeArr k2 sp2 nm2 (.slice ao2 as2.length ca2) (.slice bo2 kids2.length cb2) d2)
    rw [World.size_alloc] at kB
    have ha := ha.stay (stay_below (b1.mono (Nat.le_refl _)))
    have hk := hk.stay (stay_below b1)
    have ha2 := ha2.stay (stay_below b1)
    have hk2 := hk2.stay (stay_below b1)
    have hr2 : ∀ (wr : World), Below w.heap.size w wr → ∀ j (h : j < kids2.length), NodeAt S' wr (cs2 j) kids2[j] := fun wr hb j h => (hr2 j h).on hb
    obtain ⟨x0, x1, x2, x3, x4, x5⟩ := node_open kA
    obtain ⟨y0, y1, y2, y3, y4, y5⟩ := node_open kB
    replace kA := Lib.hid kA
    replace kB := Lib.hid kB
    replace ih := Lib.hid ih
    replace hr2 := Lib.hid hr2
    replace ha := Lib.hid ha
    replace hk := Lib.hid hk
    replace ha2 := Lib.hid ha2
    replace hk2 := Lib.hid hk2
    have hI := Lib.hid (Two.mk kA.out kB.out ha.out ha2.out hk.out hk2.out b1)
    have hshape : ∀ j (h : j < kids1.length), ∃ y0 y1 y2 y3 y4 y5, cs j = [y0, y1, y2, y3, y4, y5] := fun j h => by
      obtain ⟨_, _, _, _, _, _, _, _, _, _, _, _, e, _, _, _⟩ := (hr j h).open'
      exact ⟨_, _, _, _, _, _, e⟩
    replace hshape := Lib.hid hshape
    clear hm hr
    by_cases h1 : k = k2
    case neg =>
      have z1 : ((k : Int) != (k2 : Int)) = true := by rw [bne_iff_ne]; omega
      have hx : (Gv.Node.mk k sp nm as1 kids1 d : Gv.Node) ≠ .mk k2 sp2 nm2 as2 kids2 d2 := fun e => h1 (by injection e)
      replace hx := Lib.hid hx
      clear h1
      go_wp2
      go_ret
      exact told_not hx.out b1
    have z1 : ((k : Int) != (k2 : Int)) = false := by rw [h1]; simp
    replace h1 := Lib.hid h1
    by_cases h2 : sp = sp2
    case neg =>
      have z2 := sn_isnt h2
      have y2' := sn_prop h2
      have hx : (Gv.Node.mk k sp nm as1 kids1 d : Gv.Node) ≠ .mk k2 sp2 nm2 as2 kids2 d2 := fun e => h2 (by injection e)
      replace hx := Lib.hid hx
      clear h2
      go_wp2
      go_ret
      exact told_not hx.out b1
    have z2 := sn_is h2
    have y2' := congrArg ByteArray.toList h2
    replace h2 := Lib.hid h2
    by_cases h3 : nm = nm2
    case neg =>
      have z3 := sn_isnt h3
      have y3' := sn_prop h3
      have hx : (Gv.Node.mk k sp nm as1 kids1 d : Gv.Node) ≠ .mk k2 sp2 nm2 as2 kids2 d2 := fun e => h3 (by injection e)
      replace hx := Lib.hid hx
      clear h3
      go_wp2
      go_ret
      exact told_not hx.out b1
    have z3 := sn_is h3
    have y3' := congrArg ByteArray.toList h3
    replace h3 := Lib.hid h3
    by_cases h4 : d = d2
    case neg =>
      have z4 := sn_isnt h4
      have y4' := sn_prop h4
      have hx : (Gv.Node.mk k sp nm as1 kids1 d : Gv.Node) ≠ .mk k2 sp2 nm2 as2 kids2 d2 := fun e => h4 (by injection e)
      replace hx := Lib.hid hx
      clear h4
      go_wp2
      go_ret
      exact told_not hx.out b1
    have z4 := sn_is h4
    have y4' := congrArg ByteArray.toList h4
    replace h4 := Lib.hid h4
    by_cases h5 : as1.length = as2.length
    case neg =>
      have z5 : ((as1.length : Int) != (as2.length : Int)) = true := by rw [bne_iff_ne]; omega
      have hx : (Gv.Node.mk k sp nm as1 kids1 d : Gv.Node) ≠ .mk k2 sp2 nm2 as2 kids2 d2 := fun e => h5 (by injection e with _ _ _ e4; rw [e4])
      replace hx := Lib.hid hx
      clear h5
      go_wp2
      go_ret
      exact told_not hx.out b1
    have z5 : ((as1.length : Int) != (as2.length : Int)) = false := by rw [h5]; simp
    replace h5 := Lib.hid h5
    by_cases h6 : kids1.length = kids2.length
    case neg =>
      have z6 : ((kids1.length : Int) != (kids2.length : Int)) = true := by rw [bne_iff_ne]; omega
      have hx : (Gv.Node.mk k sp nm as1 kids1 d : Gv.Node) ≠ .mk k2 sp2 nm2 as2 kids2 d2 := fun e => h6 (by injection e with _ _ _ _ e5; rw [e5])
      replace hx := Lib.hid hx
      clear h6
      go_wp2
      go_ret
      exact told_not hx.out b1
    have z6 : ((kids1.length : Int) != (kids2.length : Int)) = false := by rw [h6]; simp
    replace h6 := Lib.hid h6
    have hmain : as1 = as2 → kids1 = kids2 → Gv.Node.mk k sp nm as1 kids1 d = .mk k2 sp2 nm2 as2 kids2 d2 := fun a b => by rw [h1.out, h2.out, h3.out, h4.out, a, b]
    replace hmain := Lib.hid hmain
    clear h1 h2 h3 h4
    clear b1 x0 x1 x2 x3 x4 x5 y0 y1 y2 y3 y4 y5 kA kB ha ha2 hk hk2
    go_wp2_with fail
    clear z1 z2 z3 z4 z5 z6 y2' y3' y4'
    go_loopw [5] (fun i wr => ∃ j : Nat, j ≤ as1.length ∧ i = .int .i64 (j : Int) ∧ Hid (as1.take j = as2.take j) ∧ Hid (Two S S' w (nodeArr k sp nm (.slice ao as1.length ca) (.slice bo kids1.length cb) d) (nodeArr k2 sp2 nm2 (.slice ao2 as2.length ca2) (.slice bo2 kids2.length cb2) d2) (.slice ao as1.length ca) (.slice ao2 as2.length ca2) (.slice bo kids1.length cb) (.slice bo2 kids2.length cb2) as1 as2 kids1.length kids2.length cs cs2 wr)) (fun i _ => as1.length - (intOf i).toNat)
    case atStart => exact ⟨0, Nat.zero_le _, rfl, Lib.hid rfl, hI⟩
    case round =>
      obtain ⟨j, hj, rfl, heq, hT⟩ := hrel
      clear hI
      obtain ⟨x0, x1, x2, x3, x4, x5⟩ := node_open hT.out.a
      obtain ⟨y0, y1, y2, y3, y4, y5⟩ := node_open hT.out.b
      by_cases hlt : j < as1.length
      · have hlt2 : j < as2.length := by have := h5.out; omega
        have hmore := fun e => Lib.hid (take_more hlt hlt2 heq.out e)
        have hbad : as1[j] ≠ as2[j] → Hid (Gv.Node.mk k sp nm as1 kids1 d ≠ .mk k2 sp2 nm2 as2 kids2 d2) := fun h => Lib.hid (fun e => by
          injection e with _ _ _ e4
          subst e4
          exact h rfl)
        have d1 := fun sp nm va e => hT.out.at1.cells hlt (sp := sp) (nm := nm) (va := va) e
        have d2' := fun sp nm va e => hT.out.at2.cells hlt2 (sp := sp) (nm := nm) (va := va) e
        generalize as1[j] = u at *
        generalize as2[j] = v at *
        obtain ⟨b, off, rfl, p0, p1, p2⟩ := d1 u.space u.name u.value rfl
        obtain ⟨b', off', rfl, q0, q1, q2⟩ := d2' v.space v.name v.value rfl
        clear d1 d2'
        have hji : (j : Int) < (as1.length : Int) := by omega
        have hji2 : (j : Int) < (as2.length : Int) := by omega
        by_cases huv : u = v
        · have hr := hmore huv
          have g1 := sn_is (congrArg Gv.Att.space huv)
          have g2 := sn_is (congrArg Gv.Att.name huv)
          have g3 := sn_is (congrArg Gv.Att.value huv)
          have g4 := congrArg ByteArray.toList (congrArg Gv.Att.space huv)
          have g5 := congrArg ByteArray.toList (congrArg Gv.Att.name huv)
          have g6 := congrArg ByteArray.toList (congrArg Gv.Att.value huv)
          clear huv hmore hbad
          go_wp2_with fail
          go_quiet (fail)
          go_wp2_with fail
          go_roundw
          case rel => exact ⟨j + 1, by omega, by go_num, hr, Lib.hid (hT.out.on (Cells.below_drewN (Below.refl _ _) _))⟩
          case measure => simp [intOf] <;> omega
        · have hx := hbad huv
          rcases att_ne huv with h1 | ⟨h1, h2⟩ | ⟨h1, h2, h3⟩
          · have g1 := sn_isnt h1
            have g4 := sn_prop h1
            clear h1 huv hmore hbad
            go_wp2_with fail
            go_quiet (fail)
            go_wp2_with fail
            go_ret
            exact told_not hx.out (Cells.below_drewN hT.out.low _)
          · have g1 := sn_is h1
            have g4 := congrArg ByteArray.toList h1
            have g2 := sn_isnt h2
            have g5 := sn_prop h2
            clear h1 h2 huv hmore hbad
            go_wp2_with fail
            go_quiet (fail)
            go_wp2_with fail
            go_ret
            exact told_not hx.out (Cells.below_drewN hT.out.low _)
          · have g1 := sn_is h1
            have g4 := congrArg ByteArray.toList h1
            have g2 := sn_is h2
            have g5 := congrArg ByteArray.toList h2
            have g3 := sn_isnt h3
            have g6 := sn_prop h3
            clear h1 h2 h3 huv hmore hbad
            go_wp2_with fail
            go_quiet (fail)
            go_wp2_with fail
            go_ret
            exact told_not hx.out (Cells.below_drewN hT.out.low _)
      · have has : as1 = as2 := by
          have := heq.out
          rwa [List.take_of_length_le (by omega), List.take_of_length_le (by have := h5.out; omega)] at this
        have hfin := fun e => Lib.hid (hmain.out has e)
        clear has heq hmain
        go_wp2_with fail
        clear x0 x1 x2 x3 x4 x5 y0 y1 y2 y3 y4 y5
        go_loopw [6] (fun i wr => ∃ j : Nat, j ≤ kids1.length ∧ i = .int .i64 (j : Int) ∧ Hid (kids1.take j = kids2.take j) ∧ Hid (Two S S' w (nodeArr k sp nm (.slice ao as1.length ca) (.slice bo kids1.length cb) d) (nodeArr k2 sp2 nm2 (.slice ao2 as2.length ca2) (.slice bo2 kids2.length cb2) d2) (.slice ao as1.length ca) (.slice ao2 as2.length ca2) (.slice bo kids1.length cb) (.slice bo2 kids2.length cb2) as1 as2 kids1.length kids2.length cs cs2 wr)) (fun i _ => kids1.length - (intOf i).toNat)
        case atStart => exact ⟨0, Nat.zero_le _, rfl, Lib.hid rfl, hT⟩
        case round =>
          obtain ⟨j2, hj2, rfl, heq, hU⟩ := hrel
          clear hT
          obtain ⟨x0, x1, x2, x3, x4, x5⟩ := node_open hU.out.a
          obtain ⟨y0, y1, y2, y3, y4, y5⟩ := node_open hU.out.b
          by_cases hlt2 : j2 < kids1.length
          · have hlt3 : j2 < kids2.length := by have := h6.out; omega
            have hmore := fun e => Lib.hid (take_more hlt2 hlt3 heq.out e)
            have hbad : kids1[j2] ≠ kids2[j2] → Hid (Gv.Node.mk k sp nm as1 kids1 d ≠ .mk k2 sp2 nm2 as2 kids2 d2) := fun h => Lib.hid (fun e => by
              injection e with _ _ _ _ e5
              subst e5
              exact h rfl)
            obtain ⟨u0, u1, u2, u3, u4', u5, hu⟩ := hshape.out j2 hlt2
            have hN2 := hr2.out wr hU.out.low j2 hlt3
            obtain ⟨_, _, _, _, _, _, ao3, bo3, ca3, cb3, _, _, hv, _, _, _⟩ := hN2.open'
            obtain ⟨b, off, rfl, p0, p1, p2, p3, p4, p5⟩ := hU.out.k1.cells hlt2 hu
            obtain ⟨b', off', rfl, q0, q1, q2, q3, q4, q5⟩ := hU.out.k2.cells hlt3 hv
            have hcall := fun w' (hb : Below wr.heap.size wr w') => ih.out j2 hlt2 w' (hw.trans ((hU.out.low.trans (hb.mono hU.out.low.size)).mono hw.size)) S' (cs2 j2) kids2[j2] (hN2.on hb)
            rw [hu, hv] at hcall
            generalize kids1[j2] = n1 at *
            generalize kids2[j2] = n2 at *
            have hji : (j2 : Int) < (kids1.length : Int) := by omega
            have hji2 : (j2 : Int) < (kids2.length : Int) := by omega
            clear hu hv
            replace hN2 := Lib.hid hN2
            go_wp2_with fail
            go_region_with (first | (go_at_call 8; refine (hcall _ (Below.refl _ _).drew).mono ?_; rintro e w' ⟨⟨r, rfl, hr⟩, bb⟩))
            all_goals
              have hV := Lib.hid (hU.out.on (((Below.refl wr.heap.size wr).drew).trans bb))
              clear x0 x1 x2 x3 x4 x5 y0 y1 y2 y3 y4 y5 p0 p1 p2 p3 p4 p5 q0 q1 q2 q3 q4 q5 hcall hN2 hU bb
              cases r
              · have hx := hbad (fun e => by have := hr.2 e; cases this)
                clear hbad hmore hr
                go_wp2
                go_ret
                exact told_not hx.out hV.out.low
              · have hq := hmore (hr.1 rfl)
                clear hbad hmore hr
                go_wp2_with fail
                go_roundw
                case rel => exact ⟨j2 + 1, by omega, by go_num, hq, hV⟩
                case measure => simp [intOf] <;> omega
          · have hks : kids1 = kids2 := by
              have := heq.out
              rwa [List.take_of_length_le (by omega), List.take_of_length_le (by have := h6.out; omega)] at this
            have hfin2 := hfin hks
            clear hks heq hfin
            go_wp2_with fail
            go_ret
            exact ⟨⟨true, rfl, by simp [hfin2.out]⟩, hU.out.low⟩
end Go.Proofs.YtcjlhdmekhifaaaGreatDoor
