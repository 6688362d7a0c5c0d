/-
  The document's own word of which trees may be told.
-/
import Derived.Test.YtegaidfmkfnbnaaGreatDoorP24
import Derived.Test.YtegaidfmkfnbnaaGreatDoorQ13
import Derived.Test.YtegaidfmkfnbnaaGreatDoorP20
namespace Go.Proofs.YtegaidfmkfnbnaaGreatDoor
open Go.RowKit

set_option maxRecDepth 100000 in
set_option maxHeartbeats 12800000 in
theorem refMayElem_any {S : Nat → Prop} (m : Gv.Node → Bool) (sp nm d : ByteArray) (as' : List Gv.Att) (kids : List Gv.Node) (ao bo : Option Addr) (ca cb : Nat) (cs : Nat → List Value) (o : Int) (r : Bool)
    (hr : r = (decide (o ≤ 30) && (decide (as'.length ≤ 24) && decide (d = ByteArray.empty) && G.plain nm.data.toList && Sc.spaceOk sp && decide (sp ≠ P.xmlS) && Sc.attsGo [] as' && Sc.kidsGo m none kids))) (w : World)
    (hat : AttsAt S w (.slice ao as'.length ca) as') (hat2 : as'.length ≤ maxLen) (haz : ∀ a ∈ as', a.space.size ≤ 1000000 ∧ a.name.size ≤ 1000000 ∧ a.value.size ≤ 1000000)
    (hl : RowsAt S w (.slice bo kids.length cb) kids.length cs) (hm : kids.length ≤ maxLen) (hn : ∀ j (h : j < kids.length), NodeAt S w (cs j) kids[j])
    (h1 : sp.size ≤ 1000000) (h2 : nm.size ≤ 1000000) (ho : -1000 ≤ o ∧ o ≤ 1000)
    (hcall : o ≤ 30 → ∀ (W : World), Below w.heap.size w W → ∀ j (h : j < kids.length), Calls Tryz.prog 19 #[.agg (cs j).toArray, .int .i64 (o + 1)] W fun e w' => e = .returned (.bool (m kids[j])) ∧ Below W.heap.size W w') :
    Calls Tryz.prog 19 #[.agg (nodeArr 0 sp nm (.slice ao as'.length ca) (.slice bo kids.length cb) d), .int .i64 o] w fun e w' => e = .returned (.bool r) ∧ Below w.heap.size w w' := by
  have b0 := (Below.refl w.heap.size w).alloc (Nat.le_refl _) (.cells (nodeArr 0 sp nm (.slice ao as'.length ca) (.slice bo kids.length cb) d) 25)
  have kA := Cells.new w 25 (nodeArr 0 sp nm (.slice ao as'.length ca) (.slice bo kids.length cb) d)
  have c1 := fun W => refPlain_any nm W (by unfold maxLen; omega)
  have c2 := fun W => refSpaceOk_any sp (Sc.spaceOk sp) rfl W h1
  have c3 := fun W (hb : Below w.heap.size w W) => refAtts_any ao ca as' (Sc.attsGo [] as') rfl W (hat.stay (stay_below hb)) hat2 haz
  have hshape : ∀ j (h : j < kids.length), ∃ (ksp knm kd : ByteArray) (kao kbo : Option Addr) (ka kb kc1 kc2 : Nat), cs j = [.int .i64 kids[j].kind, .string ksp, .string knm, .slice kao ka kc1, .slice kbo kb kc2, .string kd] := fun j h => by
    obtain ⟨_, _, _, _, _, _, _, _, _, _, _, e1, e, _, _, _⟩ := (hn j h).open'
    rw [e1]
    exact ⟨_, _, _, _, _, _, _, _, _, e⟩
  replace hshape := Lib.hid hshape
  have hS := nil_is (s := d)
  have hX := two_is sp P.xmlS
  rw [xmlS_lit] at hX
  have hK := Lib.hid (show (Sc.kidsGo m none kids) = Sc.kidsGo m (prevKind kids 0) (kids.drop 0) from rfl)
  unfold maxLen at hm hat2
  clear h1 h2 hat haz hn
  unfold nodeArr at *
  generalize G.plain nm.data.toList = p1 at *
  generalize Sc.spaceOk sp = p2 at *
  generalize Sc.attsGo [] as' = p3 at *
  generalize Sc.kidsGo m none kids = p4 at *
  generalize decide (d = ByteArray.empty) = q1 at *
  generalize decide (sp ≠ P.xmlS) = q2 at *
  obtain ⟨x0, x1, x2, x3, x4, x5⟩ := node_open kA
  have hc := Lib.hid (fun W hb => node_open (kA.on (w' := W) hb))
  replace kA := Lib.hid kA
  replace hr := Lib.hid hr
  replace hX := Lib.hid hX
  replace hS := Lib.hid hS
  replace hl := Lib.hid hl
  replace hcall := Lib.hid hcall
  have c1 := Lib.hid c1
  have c2 := Lib.hid c2
  have c3 := Lib.hid c3
  go_enter Tryz.func19, Tryz.ntmps19
  try generalize hW0 : w.alloc (.cells #[.int .i64 0, .string sp, .string nm, .slice ao as'.length ca, .slice bo kids.length cb, .string d] 25) = w0 at *
  by_cases h30 : o ≤ 30
  case neg =>
    replace hr := Lib.hid (show r = false by rw [hr.out]; simp [h30])
    have z30 : (30 : Int) < o := by omega
    have z31 : decide ((30 : Int) < o) = true := by simpa using z30
    go_wp2_with fail
    go_ret
    exact ⟨ret_of hr.out, b0⟩
  replace hr := Lib.hid (show r = ((decide (as'.length ≤ 24)) && q1 && p1 && p2 && q2 && p3 && p4) by rw [hr.out]; simp [h30])
  have z30 : ¬ (30 : Int) < o := by omega
  have z31 : decide ((30 : Int) < o) = false := by simpa using z30
  by_cases h24 : as'.length ≤ 24
  case neg =>
    replace hr := Lib.hid (show r = false by rw [hr.out]; simp [h24])
    have z24 : (24 : Int) < (as'.length : Int) := by omega
    have z25 : decide ((24 : Int) < (as'.length : Int)) = true := by simpa using z24
    go_wp2_with fail
    go_ret
    exact ⟨ret_of hr.out, b0⟩
  replace hr := Lib.hid (show r = (q1 && p1 && p2 && q2 && p3 && p4) by rw [hr.out]; simp [h24])
  have z24 : ¬ (24 : Int) < (as'.length : Int) := by omega
  have z25 : decide ((24 : Int) < (as'.length : Int)) = false := by simpa using z24
  rcases hS.out with ⟨rfl, z1, y1⟩ | ⟨rfl, z1, y1⟩
  · replace hr := Lib.hid (show r = (p1 && p2 && q2 && p3 && p4) by rw [hr.out]; try simp)
    cases p1 with
    | false =>
      replace hr := Lib.hid (show r = false by rw [hr.out]; try simp)
      go_wp2_with fail
      (with_reducible refine (c1.out _).mono ?_); rintro e w1 ⟨rfl, b1⟩
      have g1 := b0.trans (b1.mono b0.size)
      have f1 := b1
      clear x0 x1 x2 x3 x4 x5
      obtain ⟨x0, x1, x2, x3, x4, x5⟩ := hc.out _ f1
      go_wp2_with fail
      go_ret
      exact ⟨ret_of hr.out, g1⟩
    | true =>
      replace hr := Lib.hid (show r = (p2 && q2 && p3 && p4) by rw [hr.out]; try simp)
      cases p2 with
      | false =>
        replace hr := Lib.hid (show r = false by rw [hr.out]; try simp)
        go_wp2_with fail
        (with_reducible refine (c1.out _).mono ?_); rintro e w1 ⟨rfl, b1⟩
        have g1 := b0.trans (b1.mono b0.size)
        have f1 := b1
        clear x0 x1 x2 x3 x4 x5
        obtain ⟨x0, x1, x2, x3, x4, x5⟩ := hc.out _ f1
        go_wp2_with fail
        (with_reducible refine (c2.out _).mono ?_); rintro e w2 ⟨rfl, b2⟩
        have g2 := g1.trans (b2.mono g1.size)
        have f2 := f1.trans (b2.mono f1.size)
        clear x0 x1 x2 x3 x4 x5
        obtain ⟨x0, x1, x2, x3, x4, x5⟩ := hc.out _ f2
        go_wp2_with fail
        go_ret
        exact ⟨ret_of hr.out, g2⟩
      | true =>
        replace hr := Lib.hid (show r = (q2 && p3 && p4) by rw [hr.out]; try simp)
        rcases hX.out with ⟨rfl, m1, m2, m3⟩ | ⟨rfl, m1, m2, m3⟩
        · replace hr := Lib.hid (show r = (p3 && p4) by rw [hr.out]; try simp)
          cases p3 with
          | false =>
            replace hr := Lib.hid (show r = false by rw [hr.out]; try simp)
            go_wp2_with fail
            (with_reducible refine (c1.out _).mono ?_); rintro e w1 ⟨rfl, b1⟩
            have g1 := b0.trans (b1.mono b0.size)
            have f1 := b1
            clear x0 x1 x2 x3 x4 x5
            obtain ⟨x0, x1, x2, x3, x4, x5⟩ := hc.out _ f1
            go_wp2_with fail
            (with_reducible refine (c2.out _).mono ?_); rintro e w2 ⟨rfl, b2⟩
            have g2 := g1.trans (b2.mono g1.size)
            have f2 := f1.trans (b2.mono f1.size)
            clear x0 x1 x2 x3 x4 x5
            obtain ⟨x0, x1, x2, x3, x4, x5⟩ := hc.out _ f2
            go_wp2_with fail
            (with_reducible refine (c3.out _ g2).mono ?_); rintro e w3 ⟨rfl, b3⟩
            have g3 := g2.trans (b3.mono g2.size)
            have f3 := f2.trans (b3.mono f2.size)
            clear x0 x1 x2 x3 x4 x5
            obtain ⟨x0, x1, x2, x3, x4, x5⟩ := hc.out _ f3
            go_wp2_with fail
            go_ret
            exact ⟨ret_of hr.out, g3⟩
          | true =>
            replace hr := Lib.hid (show r = (p4) by rw [hr.out]; try simp)
            go_wp2_with fail
            (with_reducible refine (c1.out _).mono ?_); rintro e w1 ⟨rfl, b1⟩
            have g1 := b0.trans (b1.mono b0.size)
            have f1 := b1
            clear x0 x1 x2 x3 x4 x5
            obtain ⟨x0, x1, x2, x3, x4, x5⟩ := hc.out _ f1
            go_wp2_with fail
            (with_reducible refine (c2.out _).mono ?_); rintro e w2 ⟨rfl, b2⟩
            have g2 := g1.trans (b2.mono g1.size)
            have f2 := f1.trans (b2.mono f1.size)
            clear x0 x1 x2 x3 x4 x5
            obtain ⟨x0, x1, x2, x3, x4, x5⟩ := hc.out _ f2
            go_wp2_with fail
            (with_reducible refine (c3.out _ g2).mono ?_); rintro e w3 ⟨rfl, b3⟩
            have g3 := g2.trans (b3.mono g2.size)
            have f3 := f2.trans (b3.mono f2.size)
            clear x0 x1 x2 x3 x4 x5
            obtain ⟨x0, x1, x2, x3, x4, x5⟩ := hc.out _ f3
            go_wp2_with fail
            go_loopg [5] kids.length (fun gg s5 wr => ∃ kk : Nat, kk ≤ kids.length ∧ kids.length - kk ≤ gg ∧ s5 = .int .i64 kk ∧ Hid (Below w0.heap.size w0 wr) ∧ Hid (r = Sc.kidsGo m (prevKind kids kk) (kids.drop kk)))
            case atStart => exact ⟨0, Nat.zero_le _, by omega, rfl, Lib.hid f3, Lib.hid (by rw [hr.out, hK.out])⟩
            case round =>
              obtain ⟨kk, hkk, hg, rfl, BW, A⟩ := hrel
              clear hr hK f1 f2 f3 g1 g2 g3 b1 b2 b3 x0 x1 x2 x3 x4 x5 c1 c2 c3
              obtain ⟨x0, x1, x2, x3, x4, x5⟩ := hc.out wr BW.out
              have BB := Lib.hid (b0.trans (BW.out.mono b0.size))
              by_cases hlt : kk < kids.length
              · have hltz : (kk : Int) < (kids.length : Int) := by omega
                have hA := A.out
                rw [kidsGo_step hlt] at hA
                obtain ⟨ksp, knm, kdt, kao, kbo, ka, kb, kc1, kc2, hy⟩ := hshape.out kk hlt
                have c1 := hcall.out h30 wr BB.out kk hlt
                rw [hy] at c1
                replace hA := Lib.hid hA
                have hread : ∀ (W : World), Below wr.heap.size wr W → ∃ b off, bo = some ⟨b, off, none⟩ ∧ W.cell? ⟨b, off + kk * 6, none⟩ = some (.int .i64 kids[kk].kind) ∧ W.cell? ⟨b, off + kk * 6 + 1, none⟩ = some (.string ksp) ∧ W.cell? ⟨b, off + kk * 6 + 2, none⟩ = some (.string knm) ∧ W.cell? ⟨b, off + kk * 6 + 3, none⟩ = some (.slice kao ka kc1) ∧ W.cell? ⟨b, off + kk * 6 + 4, none⟩ = some (.slice kbo kb kc2) ∧ W.cell? ⟨b, off + kk * 6 + 5, none⟩ = some (.string kdt) := fun W hb => (hl.out.stay (stay_below (BB.out.trans (hb.mono BB.out.size)))).cells hlt hy
                have hprev : ∀ (W : World), Below wr.heap.size wr W → ∀ i, kk = i + 1 → prevKind kids kk = some ((kids[i]?).map Gv.Node.kind |>.getD 0) ∧ ∃ b off, bo = some ⟨b, off, none⟩ ∧ W.cell? ⟨b, off + i * 6, none⟩ = some (.int .i64 ((kids[i]?).map Gv.Node.kind |>.getD 0)) := fun W hb i hi => by
                  subst hi
                  have hi2 : i < kids.length := by omega
                  obtain ⟨_, _, _, _, _, _, _, _, _, hz⟩ := hshape.out i hi2
                  obtain ⟨b', off', e', q0, _⟩ := (hl.out.stay (stay_below (BB.out.trans (hb.mono BB.out.size)))).cells hi2 hz
                  rw [show prevKind kids (i + 1) = (kids[i]?).map Gv.Node.kind from rfl, List.getElem?_eq_getElem hi2]
                  exact ⟨rfl, b', off', e', q0⟩
                replace hprev := Lib.hid hprev
                obtain ⟨b, off, rfl, p0, p1, p2, p3, p4, p5⟩ := hread wr (Below.refl _ _)
                replace hread := Lib.hid hread
                clear hy A
                generalize hkd : kids[kk].kind = kd at *
                generalize m kids[kk] = q at *
                go_wp2_with fail
                (with_reducible refine c1.mono ?_); rintro e w4 ⟨rfl, b4⟩
                clear x0 x1 x2 x3 x4 x5 p0 p1 p2 p3 p4 p5
                obtain ⟨x0, x1, x2, x3, x4, x5⟩ := hc.out w4 (BW.out.trans (b4.mono BW.out.size))
                have hb := Lib.hid (BW.out.trans (b4.mono BW.out.size))
                have hB := Lib.hid (b0.trans (hb.out.mono b0.size))
                cases q with
                | false =>
                  have hx := Lib.hid (show r = false by rw [hA.out]; rfl)
                  clear hA hprev hread
                  go_wp2_with fail
                  go_ret
                  exact ⟨ret_of hx.out, hB.out⟩
                | true =>
                  have hA := Lib.hid (show r = (!(decide (kd = 1) && decide (prevKind kids kk = some 1)) && Sc.kidsGo m (prevKind kids (kk + 1)) (kids.drop (kk + 1))) by rw [hA.out]; simp)
                  by_cases h0 : kk = 0
                  · have hx := Lib.hid (show r = Sc.kidsGo m (prevKind kids (kk + 1)) (kids.drop (kk + 1)) by rw [hA.out, h0]; simp [prevKind])
                    have g0 : ¬ (0 : Int) < (kk : Int) := by omega
                    have g1 : decide ((0 : Int) < (kk : Int)) = false := by simpa using g0
                    clear hA hprev hread
                    go_wp2_with fail
                    go_roundg (kids.length - (kk + 1))
                    case measure => omega
                    case rel => exact ⟨kk + 1, by omega, by omega, by go_num, hb, hx⟩
                  · obtain ⟨i, hi⟩ : ∃ i, kk = i + 1 := ⟨kk - 1, by omega⟩
                    obtain ⟨e1, _, _, e3, e2⟩ := hprev.out w4 b4 i hi
                    cases e3
                    obtain ⟨_, _, e4, p0, _⟩ := hread.out w4 b4
                    cases e4
                    generalize ((kids[i]?).map Gv.Node.kind |>.getD 0) = pk at *
                    have hA := Lib.hid (show r = (!(decide (kd = 1) && decide (pk = 1)) && Sc.kidsGo m (prevKind kids (kk + 1)) (kids.drop (kk + 1))) by rw [hA.out, e1]; simp)
                    have g0 : (0 : Int) < (kk : Int) := by omega
                    have g1 : (kk : Int) - 1 = (i : Int) := by omega
                    have g2 : (i : Int) < (kids.length : Int) := by omega
                    have g3 : i < kids.length := by omega
                    clear hprev hread e1 h0 hi
                    by_cases hk1 : kd = 1
                    · by_cases hk2 : pk = 1
                      · have hx := Lib.hid (show r = false by rw [hA.out, hk1, hk2]; simp)
                        subst hk1 hk2
                        clear hA
                        go_wp2_with fail
                        go_ret
                        exact ⟨ret_of hx.out, hB.out⟩
                      · have hx := Lib.hid (show r = Sc.kidsGo m (prevKind kids (kk + 1)) (kids.drop (kk + 1)) by rw [hA.out]; simp [hk2])
                        have z : (pk == 1) = false := by simpa using hk2
                        subst hk1
                        clear hA
                        go_wp2_with fail
                        go_roundg (kids.length - (kk + 1))
                        case measure => omega
                        case rel => exact ⟨kk + 1, by omega, by omega, by go_num, hb, hx⟩
                    · have hx := Lib.hid (show r = Sc.kidsGo m (prevKind kids (kk + 1)) (kids.drop (kk + 1)) by rw [hA.out]; simp [hk1])
                      have z : (kd == 1) = false := by simpa using hk1
                      clear hA
                      go_wp2_with fail
                      go_roundg (kids.length - (kk + 1))
                      case measure => omega
                      case rel => exact ⟨kk + 1, by omega, by omega, by go_num, hb, hx⟩
              · have hltz : ¬ (kk : Int) < (kids.length : Int) := by omega
                have hx := Lib.hid (show r = true by rw [A.out, List.drop_eq_nil_of_le (by omega)]; rfl)
                clear hlt hl A
                go_wp2_with fail
                go_ret
                exact ⟨ret_of hx.out, BB.out⟩
        · replace hr := Lib.hid (show r = false by rw [hr.out]; try simp)
          go_wp2_with fail
          (with_reducible refine (c1.out _).mono ?_); rintro e w1 ⟨rfl, b1⟩
          have g1 := b0.trans (b1.mono b0.size)
          have f1 := b1
          clear x0 x1 x2 x3 x4 x5
          obtain ⟨x0, x1, x2, x3, x4, x5⟩ := hc.out _ f1
          go_wp2_with fail
          (with_reducible refine (c2.out _).mono ?_); rintro e w2 ⟨rfl, b2⟩
          have g2 := g1.trans (b2.mono g1.size)
          have f2 := f1.trans (b2.mono f1.size)
          clear x0 x1 x2 x3 x4 x5
          obtain ⟨x0, x1, x2, x3, x4, x5⟩ := hc.out _ f2
          go_wp2_with fail
          go_ret
          exact ⟨ret_of hr.out, g2⟩
  · replace hr := Lib.hid (show r = false by rw [hr.out]; try simp)
    go_wp2_with fail
    go_ret
    exact ⟨ret_of hr.out, b0⟩

theorem trim_of_wt : ∀ n : Gv.Node, Gv.wt n ≤ 1000000 → Gv.Trim 1000000 1000000 n
  | .mk k sp nm as' kids d, h => by
    obtain ⟨h1, h2, h3, h4, h5, h6, h7⟩ := Gv.wt_parts h
    exact .mk h1 h2 h3 h6 h7 h4 (fun n hn => trim_of_wt n (h5 n hn))
theorem refElem_is {g : Nat} {sp nm d : ByteArray} {as' : List Gv.Att} {kids : List Gv.Node} : (decide (as'.length ≤ 24) && decide (d = ByteArray.empty) && G.plain nm.data.toList && Sc.spaceOk sp && decide (sp ≠ P.xmlS) && Sc.attsGo [] as' && Sc.kidsGo (Sc.may g) none kids) = Sc.may (g + 1) (.mk 0 sp nm as' kids d) := rfl

set_option maxRecDepth 100000 in
set_option maxHeartbeats 12800000 in
/-- A NODE: one step of the tree. -/
theorem refMay_step {S : Nat → Prop} (f : Nat) (hf : f ≤ 30) (ih : ∀ g, f = g + 1 → ∀ (W : World) (c : List Value) (n : Gv.Node), NodeAt S W c n → Gv.Trim 1000000 1000000 n → Calls Tryz.prog 19 #[.agg c.toArray, .int .i64 (31 - (g : Int))] W fun e w' => e = .returned (.bool (Sc.may g n)) ∧ Below W.heap.size W w')
    (w : World) (c : List Value) (n : Gv.Node) (hn : NodeAt S w c n) (hz : Gv.Trim 1000000 1000000 n) (r : Bool) (hr : r = Sc.may f n) :
    Calls Tryz.prog 19 #[.agg c.toArray, .int .i64 (31 - (f : Int))] w fun e w' => e = .returned (.bool r) ∧ Below w.heap.size w w' := by
  obtain ⟨k, sp, nm, d, as', kids, ao, bo, ca, cb, cs, rfl, rfl, hat, hl, hk, hm1, hm2⟩ := hn.open'
  obtain ⟨z1, z2, z3, z4, z5, z6, z7⟩ := Gv.trim_parts hz
  clear hn hz
  by_cases k0 : k = 0
  · subst k0
    exact refMayElem_any (fun n => Sc.may (f - 1) n) sp nm d as' kids ao bo ca cb cs (31 - (f : Int)) r (by
      cases f with
      | zero => rw [hr]; simp [Sc.may, Gv.Node.kind]
      | succ g =>
        rw [show decide ((31 : Int) - ((g + 1 : Nat) : Int) ≤ 30) = true from decide_eq_true (by omega), Bool.true_and]
        exact hr.trans refElem_is.symm) w hat hm1 z4 hl hm2 hk z1 z2 (by omega)
      (fun h30 W hb j h => by
        obtain ⟨g, rfl⟩ : ∃ g, f = g + 1 := ⟨f - 1, by omega⟩
        have := ih g rfl W (cs j) kids[j] ((hk j h).on hb) (z5 _ (List.getElem_mem h))
        rw [show (31 : Int) - ((g + 1 : Nat) : Int) + 1 = 31 - (g : Int) by omega]
        exact this)
  have hr2 := hr.trans (show Sc.may f (.mk k sp nm as' kids d) = Sc.leafOk (.mk k sp nm as' kids d) by cases f <;> simp [Sc.may, Gv.Node.kind, k0])
  have b0 := (Below.refl w.heap.size w).alloc (Nat.le_refl _) (.cells (nodeArr k sp nm (.slice ao as'.length ca) (.slice bo kids.length cb) d) 25)
  have kA := Cells.new w 25 (nodeArr k sp nm (.slice ao as'.length ca) (.slice bo kids.length cb) d)
  obtain ⟨x0, x1, x2, x3, x4, x5⟩ := node_open kA
  have g0 : (k != 0) = true := by simpa using k0
  unfold maxLen at hm1 hm2
  have c1 := fun W => refLeafOk_any k sp nm d ao bo as'.length kids.length ca cb r hr2 W z2 z3 (by omega) (by omega)
  clear hr hr2 ih hat hl hk z1 z2 z3 z4 z5 z6 z7 kA
  have c1 := Lib.hid c1
  unfold nodeArr at *
  go_enter Tryz.func19, Tryz.ntmps19
  go_wp2_with fail
  (with_reducible refine (c1.out _).mono ?_); rintro e w1 ⟨rfl, b1⟩
  go_wp2
  go_ret
  exact ⟨rfl, b0.trans (b1.mono b0.size)⟩

/-- WHETHER A NODE MAY BE TOLD that stands in so many elements: the document's word. -/
theorem refMay_any {S : Nat → Prop} : ∀ (f : Nat), f ≤ 30 → ∀ (w : World) (c : List Value) (n : Gv.Node), NodeAt S w c n → Gv.Trim 1000000 1000000 n →
    Calls Tryz.prog 19 #[.agg c.toArray, .int .i64 (31 - (f : Int))] w fun e w' => e = .returned (.bool (Sc.may f n)) ∧ Below w.heap.size w w' := by
  intro f
  induction f with
  | zero => exact fun hf w c n hn hz => refMay_step 0 hf (fun g e => by cases e) w c n hn hz _ rfl
  | succ g ih => exact fun hf w c n hn hz => refMay_step (g + 1) hf (fun g' e W c n => by cases e; exact ih (by omega) W c n) w c n hn hz _ rfl
end Go.Proofs.YtegaidfmkfnbnaaGreatDoor
