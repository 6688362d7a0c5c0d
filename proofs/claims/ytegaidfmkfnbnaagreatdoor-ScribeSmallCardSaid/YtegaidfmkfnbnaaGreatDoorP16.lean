/-
  WHICH TREES MAY BE TOLD: what the program's words of kids, elements and nodes come to.
  WHICH TREES MAY BE TOLD: what the program's words of elements and nodes come to.
-/
import Derived.Test.YtegaidfmkfnbnaaGreatDoorP15
namespace Go.Proofs.YtegaidfmkfnbnaaGreatDoor
open Go.RowKit

/-- A tree whose texts are no longer than this. -/
inductive Fits : Gv.Node → Prop where
  | mk {k : Int} {sp nm d : ByteArray} {as' : List Gv.Att} {kids : List Gv.Node} (h1 : sp.size ≤ 1000000) (h2 : nm.size ≤ 1000000) (h3 : d.size ≤ 1000000) (ha : ∀ a ∈ as', a.space.size ≤ 1000000 ∧ a.name.size ≤ 1000000 ∧ a.value.size ≤ 1000000) (hk : ∀ n ∈ kids, Fits n) : Fits (.mk k sp nm as' kids d)

def prevKind (l : List Gv.Node) : Nat → Option Int
  | 0 => none
  | j + 1 => (l[j]?).map Gv.Node.kind
theorem kidsGo_step {m : Gv.Node → Bool} {l : List Gv.Node} {j : Nat} (h : j < l.length) : Sc.kidsGo m (prevKind l j) (l.drop j) = (m l[j] && !(decide (l[j].kind = 1) && decide (prevKind l j = some 1)) && Sc.kidsGo m (prevKind l (j + 1)) (l.drop (j + 1))) := by
  rw [List.drop_eq_getElem_cons h, Sc.kidsGo]
  rw [show prevKind l (j + 1) = (l[j]?).map Gv.Node.kind from rfl, List.getElem?_eq_getElem h]
  rfl

set_option maxRecDepth 100000 in
set_option maxHeartbeats 6400000 in
theorem areKids_any {S : Nat → Prop} (m : Gv.Node → Bool) (bo : Option Addr) (cap : Nat) (l : List Gv.Node) (cs : Nat → List Value) (o : Int) (r : Bool) (hr : r = Sc.kidsGo m none l) (w : World) (hl : RowsAt S w (.slice bo l.length cap) l.length cs) (hm : l.length ≤ maxLen)
    (hn : ∀ j (h : j < l.length), NodeAt S w (cs j) l[j])
    (hcall : ∀ (W : World), Below w.heap.size w W → ∀ j (h : j < l.length), Calls Tryz.prog 15 #[.agg (cs j).toArray, .int .i64 o] W fun e w' => e = .returned (.bool (m l[j])) ∧ Below W.heap.size W w') :
    Calls Tryz.prog 51 #[.slice bo l.length cap, .int .i64 o] w fun e w' => e = .returned (.bool r) ∧ Below w.heap.size w w' := by
  unfold maxLen at hm
  have hshape : ∀ j (h : j < l.length), ∃ (ksp knm kd : ByteArray) (kao kbo : Option Addr) (ka kb kc1 kc2 : Nat), cs j = [.int .i64 l[j].kind, .string ksp, .string knm, .slice kao ka kc1, .slice kbo kb kc2, .string kd] := fun j h => by
    obtain ⟨_, _, _, _, _, _, _, _, _, _, _, e1, e, _, _, _⟩ := (hn j h).open'
    rw [e1]
    exact ⟨_, _, _, _, _, _, _, _, _, e⟩
  replace hshape := Lib.hid hshape
  clear hn
  replace hcall := Lib.hid hcall
  go_enter Tryz.func51, Tryz.ntmps51
  have hr0 := Lib.hid (show r = Sc.kidsGo m (prevKind l 0) (l.drop 0) from hr)
  clear hr
  go_wp2_with fail
  go_loopg [5, 6, 9] l.length (fun gg _ _ s9 wr => ∃ kk : Nat, kk ≤ l.length ∧ l.length - kk ≤ gg ∧ s9 = .int .i64 kk ∧ Hid (Below w.heap.size w wr) ∧ Hid (r = Sc.kidsGo m (prevKind l kk) (l.drop kk)))
  case atStart => exact ⟨0, Nat.zero_le _, by omega, rfl, Lib.hid (Below.refl _ w), hr0⟩
  case round =>
    obtain ⟨kk, hkk, hg, rfl, BW, A⟩ := hrel
    clear hr0
    by_cases hlt : kk < l.length
    · have hltz : (kk : Int) < (l.length : Int) := by omega
      have hA := A.out
      rw [kidsGo_step hlt] at hA
      obtain ⟨ksp, knm, kdt, kao, kbo, ka, kb, kc1, kc2, hy⟩ := hshape.out kk hlt
      obtain ⟨b, off, rfl, p0, p1, p2, p3, p4, p5⟩ := (hl.stay (stay_below BW.out)).cells hlt hy
      have c1 := fun (W : World) (hb : Below wr.heap.size wr W) => hcall.out W (BW.out.trans (hb.mono BW.out.size)) kk hlt
      rw [hy] at c1
      replace hA := Lib.hid hA
      have bW := (Below.refl wr.heap.size wr).alloc (Nat.le_refl _) (.cells #[.int .i64 l[kk].kind, .string ksp, .string knm, .slice kao ka kc1, .slice kbo kb kc2, .string kdt] 25)
      have kA := Cells.new wr 25 #[.int .i64 l[kk].kind, .string ksp, .string knm, .slice kao ka kc1, .slice kbo kb kc2, .string kdt]
      have c1 := c1 _ bW
      have x0 := kA.cell (i := 0) rfl
      have x1 := kA.cell (i := 1) rfl
      have x2 := kA.cell (i := 2) rfl
      have x3 := kA.cell (i := 3) rfl
      have x4 := kA.cell (i := 4) rfl
      have x5 := kA.cell (i := 5) rfl
      have hprev : ∀ (W : World), Below wr.heap.size wr W → ∀ i, kk = i + 1 → prevKind l kk = some ((l[i]?).map Gv.Node.kind |>.getD 0) ∧ W.cell? ⟨b, off + i * 6, none⟩ = some (.int .i64 ((l[i]?).map Gv.Node.kind |>.getD 0)) := fun W hb i hi => by
        subst hi
        have hi2 : i < l.length := by omega
        obtain ⟨_, _, _, _, _, _, _, _, _, hz⟩ := hshape.out i hi2
        obtain ⟨b', off', e', q0, _⟩ := (hl.stay (stay_below (BW.out.trans (hb.mono BW.out.size)))).cells hi2 hz
        cases e'
        rw [show prevKind l (i + 1) = (l[i]?).map Gv.Node.kind from rfl, List.getElem?_eq_getElem hi2]
        exact ⟨rfl, q0⟩
      replace hprev := Lib.hid hprev
      replace hl := Lib.hid hl
      replace kA := Lib.hid kA
      clear hy A
      generalize hkd : l[kk].kind = kd at *
      generalize m l[kk] = q at *
      go_wp2_with fail
      (with_reducible refine c1.mono ?_); rintro e w1 ⟨rfl, b1⟩
      have x0 := (b1.cell (World.block_lt_of_cell? _ _ x0)).trans x0
      have bw1 := bW.trans (b1.mono bW.size)
      have hb := Lib.hid (BW.out.trans (bw1.mono BW.out.size))
      clear x1 x2 x3 x4 x5 p0 p1 p2 p3 p4 p5
      cases q with
      | false =>
        have hx := Lib.hid (show r = false by rw [hA.out]; rfl)
        clear hA hprev
        go_wp2_with fail
        go_ret
        exact ⟨ret_of hx.out, hb.out⟩
      | true =>
        have hA := Lib.hid (show r = (!(decide (kd = 1) && decide (prevKind l kk = some 1)) && Sc.kidsGo m (prevKind l (kk + 1)) (l.drop (kk + 1))) by rw [hA.out]; simp)
        by_cases h0 : kk = 0
        · have hx := Lib.hid (show r = Sc.kidsGo m (prevKind l (kk + 1)) (l.drop (kk + 1)) by rw [hA.out, h0]; simp [prevKind])
          have g0 : ¬ (0 : Int) < (kk : Int) := by omega
          have g1 : decide ((0 : Int) < (kk : Int)) = false := by simpa using g0
          clear hA hprev
          go_wp2_with fail
          go_roundg (l.length - (kk + 1))
          case measure => omega
          case rel => exact ⟨kk + 1, by omega, by omega, by go_num, hb, hx⟩
        · obtain ⟨i, hi⟩ : ∃ i, kk = i + 1 := ⟨kk - 1, by omega⟩
          obtain ⟨e1, e2⟩ := hprev.out w1 bw1 i hi
          generalize ((l[i]?).map Gv.Node.kind |>.getD 0) = pk at *
          have hA := Lib.hid (show r = (!(decide (kd = 1) && decide (pk = 1)) && Sc.kidsGo m (prevKind l (kk + 1)) (l.drop (kk + 1))) by rw [hA.out, e1]; simp)
          have g0 : (0 : Int) < (kk : Int) := by omega
          have g1 : (kk : Int) - 1 = (i : Int) := by omega
          have g2 : (i : Int) < (l.length : Int) := by omega
          have g3 : i < l.length := by omega
          clear hprev e1 h0
          by_cases hk1 : kd = 1
          · by_cases hk2 : pk = 1
            · have hx := Lib.hid (show r = false by rw [hA.out, hk1, hk2]; simp)
              subst hk1 hk2
              clear hA
              go_wp2_with fail
              go_ret
              exact ⟨ret_of hx.out, hb.out⟩
            · have hx := Lib.hid (show r = Sc.kidsGo m (prevKind l (kk + 1)) (l.drop (kk + 1)) by rw [hA.out]; simp [hk2])
              have z : (pk == 1) = false := by simpa using hk2
              subst hk1
              clear hA
              go_wp2_with fail
              go_roundg (l.length - (kk + 1))
              case measure => omega
              case rel => exact ⟨kk + 1, by omega, by omega, by go_num, hb, hx⟩
          · have hx := Lib.hid (show r = Sc.kidsGo m (prevKind l (kk + 1)) (l.drop (kk + 1)) by rw [hA.out]; simp [hk1])
            have z : (kd == 1) = false := by simpa using hk1
            clear hA
            go_wp2_with fail
            go_roundg (l.length - (kk + 1))
            case measure => omega
            case rel => exact ⟨kk + 1, by omega, by omega, by go_num, hb, hx⟩
    · have hltz : ¬ (kk : Int) < (l.length : Int) := by omega
      have hx := Lib.hid (show r = true by rw [A.out, List.drop_eq_nil_of_le (by omega)]; rfl)
      clear hlt hl A
      go_wp2_with fail
      go_ret
      exact ⟨ret_of hx.out, BW.out⟩
end Go.Proofs.YtegaidfmkfnbnaaGreatDoor
namespace Go.Proofs.YtegaidfmkfnbnaaGreatDoor
open Go.RowKit

set_option maxRecDepth 100000 in
set_option maxHeartbeats 12800000 in
theorem isElement_any {S : Nat → Prop} (m : Gv.Node → Bool) (k : Int) (sp nm d : ByteArray) (as' : List Gv.Att) (kids : List Gv.Node) (ao bo : Option Addr) (ca cb : Nat) (cs : Nat → List Value) (o : Int) (r : Bool)
    (hr : r = (decide (o < 30) && decide (d = ByteArray.empty) && G.plain nm.data.toList && G.check sp.data.toList && decide (sp ≠ P.xmlS) && decide (sp ≠ P.xmlnsS) && (decide (as'.length ≤ 24) && Sc.attsGo [] as') && Sc.kidsGo m none kids)) (w : World)
    (hat : AttsAt S w (.slice ao as'.length ca) as') (hat2 : as'.length ≤ maxLen) (haz : ∀ a ∈ as', a.space.size ≤ 1000000 ∧ a.name.size ≤ 1000000 ∧ a.value.size ≤ 1000000)
    (hl : RowsAt S w (.slice bo kids.length cb) kids.length cs) (hm : kids.length ≤ maxLen) (hn : ∀ j (h : j < kids.length), NodeAt S w (cs j) kids[j])
    (h1 : sp.size ≤ 1000000) (h2 : nm.size ≤ 1000000) (ho : -1000 ≤ o ∧ o ≤ 1000) (hE : Env w)
    (hcall : o < 30 → ∀ (W : World), Below w.heap.size w W → ∀ j (h : j < kids.length), Calls Tryz.prog 15 #[.agg (cs j).toArray, .int .i64 (o + 1)] W fun e w' => e = .returned (.bool (m kids[j])) ∧ Below W.heap.size W w') :
    Calls Tryz.prog 25 #[.agg (nodeArr k sp nm (.slice ao as'.length ca) (.slice bo kids.length cb) d), .int .i64 o] w fun e w' => e = .returned (.bool r) ∧ Below w.heap.size w w' := by
  have b0 := (Below.refl w.heap.size w).alloc (Nat.le_refl _) (.cells (nodeArr k sp nm (.slice ao as'.length ca) (.slice bo kids.length cb) d) 25)
  have kA := Cells.new w 25 (nodeArr k sp nm (.slice ao as'.length ca) (.slice bo kids.length cb) d)
  have c1 := fun W (hb : Below w.heap.size w W) => gPlain_any nm W h2 (hE.on hb)
  have c2 := fun W (hb : Below w.heap.size w W) => isText_any sp (G.check sp.data.toList) rfl W h1 (hE.on hb)
  have c3 := fun W (hb : Below w.heap.size w W) => areAttributes_any ao ca as' (decide (as'.length ≤ 24) && Sc.attsGo [] as') rfl W (hat.stay (stay_below hb)) hat2 haz (hE.on hb)
  have c4 := fun (h30 : o < 30) W (hb : Below w.heap.size w W) => areKids_any m bo cb kids cs (o + 1) (Sc.kidsGo m none kids) rfl W (hl.stay (stay_below hb)) hm (fun j h => (hn j h).on hb) (fun W2 hb2 j h => hcall h30 W2 (hb.trans (hb2.mono hb.size)) j h)
  have hS := nil_is (s := d)
  have hX := two_is sp P.xmlS
  have hY := two_is sp P.xmlnsS
  rw [xmlS_lit] at hX
  rw [xmlns_lit] at hY
  clear hE h1 h2 hat haz hl hm hn hcall hat2
  unfold nodeArr at *
  generalize G.plain nm.data.toList = p1 at *
  generalize G.check sp.data.toList = p2 at *
  generalize (decide (as'.length ≤ 24) && Sc.attsGo [] as') = p3 at *
  generalize Sc.kidsGo m none kids = p4 at *
  generalize decide (d = ByteArray.empty) = q1 at *
  generalize decide (sp ≠ P.xmlS) = q2 at *
  generalize decide (sp ≠ P.xmlnsS) = q3 at *
  obtain ⟨x0, x1, x2, x3, x4, x5⟩ := node_open kA
  have hc := Lib.hid (fun W hb => node_open (kA.on (w' := W) hb))
  replace kA := Lib.hid kA
  replace hr := Lib.hid hr
  replace hX := Lib.hid hX
  replace hY := Lib.hid hY
  replace hS := Lib.hid hS
  have c1 := Lib.hid c1
  have c2 := Lib.hid c2
  have c3 := Lib.hid c3
  have c4 := Lib.hid c4
  go_enter Tryz.func25, Tryz.ntmps25
  try generalize hW0 : w.alloc (.cells #[.int .i64 k, .string sp, .string nm, .slice ao as'.length ca, .slice bo kids.length cb, .string d] 25) = w0 at *
  by_cases h30 : o < 30
  case neg =>
    replace hr := Lib.hid (show r = false by rw [hr.out]; simp [h30])
    have z30 : decide (o < 30) = false := by simpa using h30
    go_wp2_with fail
    go_ret
    exact ⟨ret_of hr.out, b0⟩
  replace hr := Lib.hid (show r = (q1 && p1 && p2 && q2 && q3 && p3 && p4) by rw [hr.out]; simp [h30])
  rcases hS.out with ⟨rfl, z1, y1⟩ | ⟨rfl, z1, y1⟩
  · replace hr := Lib.hid (show r = (p1 && p2 && q2 && q3 && p3 && p4) by rw [hr.out]; try simp)
    cases p1 with
    | false =>
      replace hr := Lib.hid (show r = false by rw [hr.out]; try simp)
      go_wp2_with fail
      (with_reducible refine (c1.out _ b0).mono ?_); rintro e w1 ⟨rfl, b1⟩
      have g1 := b0.trans (b1.mono b0.size)
      have f1 := b1
      clear x0 x1 x2 x3 x4 x5
      obtain ⟨x0, x1, x2, x3, x4, x5⟩ := hc.out _ f1
      go_wp2_with fail
      go_ret
      exact ⟨ret_of hr.out, g1⟩
    | true =>
      replace hr := Lib.hid (show r = (p2 && q2 && q3 && p3 && p4) by rw [hr.out]; try simp)
      cases p2 with
      | false =>
        replace hr := Lib.hid (show r = false by rw [hr.out]; try simp)
        go_wp2_with fail
        (with_reducible refine (c1.out _ b0).mono ?_); rintro e w1 ⟨rfl, b1⟩
        have g1 := b0.trans (b1.mono b0.size)
        have f1 := b1
        clear x0 x1 x2 x3 x4 x5
        obtain ⟨x0, x1, x2, x3, x4, x5⟩ := hc.out _ f1
        go_wp2_with fail
        (with_reducible refine (c2.out _ g1).mono ?_); rintro e w2 ⟨rfl, b2⟩
        have g2 := g1.trans (b2.mono g1.size)
        have f2 := f1.trans (b2.mono f1.size)
        clear x0 x1 x2 x3 x4 x5
        obtain ⟨x0, x1, x2, x3, x4, x5⟩ := hc.out _ f2
        go_wp2_with fail
        go_ret
        exact ⟨ret_of hr.out, g2⟩
      | true =>
        replace hr := Lib.hid (show r = (q2 && q3 && p3 && p4) by rw [hr.out]; try simp)
        rcases hX.out with ⟨rfl, m1, m2, m3⟩ | ⟨rfl, m1, m2, m3⟩
        · replace hr := Lib.hid (show r = (q3 && p3 && p4) by rw [hr.out]; try simp)
          rcases hY.out with ⟨rfl, n1, n2, n3⟩ | ⟨rfl, n1, n2, n3⟩
          · replace hr := Lib.hid (show r = (p3 && p4) by rw [hr.out]; try simp)
            cases p3 with
            | false =>
              replace hr := Lib.hid (show r = false by rw [hr.out]; try simp)
              go_wp2_with fail
              (with_reducible refine (c1.out _ b0).mono ?_); rintro e w1 ⟨rfl, b1⟩
              have g1 := b0.trans (b1.mono b0.size)
              have f1 := b1
              clear x0 x1 x2 x3 x4 x5
              obtain ⟨x0, x1, x2, x3, x4, x5⟩ := hc.out _ f1
              go_wp2_with fail
              (with_reducible refine (c2.out _ g1).mono ?_); rintro e w2 ⟨rfl, b2⟩
              have g2 := g1.trans (b2.mono g1.size)
              have f2 := f1.trans (b2.mono f1.size)
              clear x0 x1 x2 x3 x4 x5
              obtain ⟨x0, x1, x2, x3, x4, x5⟩ := hc.out _ f2
              go_wp2_with fail
              (with_reducible refine (c3.out _ g2).mono ?_); rintro e w3 ⟨rfl, b3⟩
              have g3 := g2.trans (b3.mono g2.size)
              have f3 := f2.trans (b3.mono f2.size)
              clear x0 x1 x2 x3 x4 x5
              obtain ⟨x0, x1, x2, x3, x4, x5⟩ := hc.out _ f3
              go_wp2_with fail
              go_ret
              exact ⟨ret_of hr.out, g3⟩
            | true =>
              replace hr := Lib.hid (show r = (p4) by rw [hr.out]; try simp)
              cases p4 with
              | false =>
                replace hr := Lib.hid (show r = false by rw [hr.out]; try simp)
                go_wp2_with fail
                (with_reducible refine (c1.out _ b0).mono ?_); rintro e w1 ⟨rfl, b1⟩
                have g1 := b0.trans (b1.mono b0.size)
                have f1 := b1
                clear x0 x1 x2 x3 x4 x5
                obtain ⟨x0, x1, x2, x3, x4, x5⟩ := hc.out _ f1
                go_wp2_with fail
                (with_reducible refine (c2.out _ g1).mono ?_); rintro e w2 ⟨rfl, b2⟩
                have g2 := g1.trans (b2.mono g1.size)
                have f2 := f1.trans (b2.mono f1.size)
                clear x0 x1 x2 x3 x4 x5
                obtain ⟨x0, x1, x2, x3, x4, x5⟩ := hc.out _ f2
                go_wp2_with fail
                (with_reducible refine (c3.out _ g2).mono ?_); rintro e w3 ⟨rfl, b3⟩
                have g3 := g2.trans (b3.mono g2.size)
                have f3 := f2.trans (b3.mono f2.size)
                clear x0 x1 x2 x3 x4 x5
                obtain ⟨x0, x1, x2, x3, x4, x5⟩ := hc.out _ f3
                go_wp2_with fail
                (with_reducible refine (c4.out h30 _ g3).mono ?_); rintro e w4 ⟨rfl, b4⟩
                have g4 := g3.trans (b4.mono g3.size)
                have f4 := f3.trans (b4.mono f3.size)
                go_wp2_with fail
                go_ret
                exact ⟨ret_of hr.out, g4⟩
              | true =>
                replace hr := Lib.hid (show r = (true) by rw [hr.out]; try simp)
                go_wp2_with fail
                (with_reducible refine (c1.out _ b0).mono ?_); rintro e w1 ⟨rfl, b1⟩
                have g1 := b0.trans (b1.mono b0.size)
                have f1 := b1
                clear x0 x1 x2 x3 x4 x5
                obtain ⟨x0, x1, x2, x3, x4, x5⟩ := hc.out _ f1
                go_wp2_with fail
                (with_reducible refine (c2.out _ g1).mono ?_); rintro e w2 ⟨rfl, b2⟩
                have g2 := g1.trans (b2.mono g1.size)
                have f2 := f1.trans (b2.mono f1.size)
                clear x0 x1 x2 x3 x4 x5
                obtain ⟨x0, x1, x2, x3, x4, x5⟩ := hc.out _ f2
                go_wp2_with fail
                (with_reducible refine (c3.out _ g2).mono ?_); rintro e w3 ⟨rfl, b3⟩
                have g3 := g2.trans (b3.mono g2.size)
                have f3 := f2.trans (b3.mono f2.size)
                clear x0 x1 x2 x3 x4 x5
                obtain ⟨x0, x1, x2, x3, x4, x5⟩ := hc.out _ f3
                go_wp2_with fail
                (with_reducible refine (c4.out h30 _ g3).mono ?_); rintro e w4 ⟨rfl, b4⟩
                have g4 := g3.trans (b4.mono g3.size)
                have f4 := f3.trans (b4.mono f3.size)
                go_wp2_with fail
                go_ret
                exact ⟨ret_of hr.out, g4⟩
          · replace hr := Lib.hid (show r = false by rw [hr.out]; try simp)
            go_wp2_with fail
            (with_reducible refine (c1.out _ b0).mono ?_); rintro e w1 ⟨rfl, b1⟩
            have g1 := b0.trans (b1.mono b0.size)
            have f1 := b1
            clear x0 x1 x2 x3 x4 x5
            obtain ⟨x0, x1, x2, x3, x4, x5⟩ := hc.out _ f1
            go_wp2_with fail
            (with_reducible refine (c2.out _ g1).mono ?_); rintro e w2 ⟨rfl, b2⟩
            have g2 := g1.trans (b2.mono g1.size)
            have f2 := f1.trans (b2.mono f1.size)
            clear x0 x1 x2 x3 x4 x5
            obtain ⟨x0, x1, x2, x3, x4, x5⟩ := hc.out _ f2
            go_wp2_with fail
            go_ret
            exact ⟨ret_of hr.out, g2⟩
        · replace hr := Lib.hid (show r = false by rw [hr.out]; try simp)
          go_wp2_with fail
          (with_reducible refine (c1.out _ b0).mono ?_); rintro e w1 ⟨rfl, b1⟩
          have g1 := b0.trans (b1.mono b0.size)
          have f1 := b1
          clear x0 x1 x2 x3 x4 x5
          obtain ⟨x0, x1, x2, x3, x4, x5⟩ := hc.out _ f1
          go_wp2_with fail
          (with_reducible refine (c2.out _ g1).mono ?_); rintro e w2 ⟨rfl, b2⟩
          have g2 := g1.trans (b2.mono g1.size)
          have f2 := f1.trans (b2.mono f1.size)
          clear x0 x1 x2 x3 x4 x5
          obtain ⟨x0, x1, x2, x3, x4, x5⟩ := hc.out _ f2
          go_wp2_with fail
          go_ret
          exact ⟨ret_of hr.out, g2⟩
  · replace hr := Lib.hid (show r = false by rw [hr.out]; try simp)
    go_wp2_with fail
    go_ret
    exact ⟨ret_of hr.out, b0⟩

theorem may_fits {k : Int} {sp nm d : ByteArray} {as' : List Gv.Att} {kids : List Gv.Node} (h : Fits (.mk k sp nm as' kids d)) : sp.size ≤ 1000000 ∧ nm.size ≤ 1000000 ∧ d.size ≤ 1000000 ∧ (∀ a ∈ as', a.space.size ≤ 1000000 ∧ a.name.size ≤ 1000000 ∧ a.value.size ≤ 1000000) ∧ ∀ n ∈ kids, Fits n := by
  cases h with
  | mk h1 h2 h3 ha hk => exact ⟨h1, h2, h3, ha, hk⟩
theorem elem_is {g : Nat} {sp nm d : ByteArray} {as' : List Gv.Att} {kids : List Gv.Node} {o : Int} (ho : o < 30) : (decide (o < 30) && decide (d = ByteArray.empty) && G.plain nm.data.toList && G.check sp.data.toList && decide (sp ≠ P.xmlS) && decide (sp ≠ P.xmlnsS) && (decide (as'.length ≤ 24) && Sc.attsGo [] as') && Sc.kidsGo (Sc.may g) none kids) = Sc.may (g + 1) (.mk 0 sp nm as' kids d) := by
  rw [show Sc.may (g + 1) (.mk 0 sp nm as' kids d) = (Sc.elemOk (.mk 0 sp nm as' kids d) && Sc.kidsGo (Sc.may g) none kids) from rfl]
  rw [show Sc.elemOk (.mk 0 sp nm as' kids d) = (decide (as'.length ≤ 24) && decide (d = ByteArray.empty) && G.plain nm.data.toList && (G.check sp.data.toList && decide (sp ≠ P.xmlnsS)) && decide (sp ≠ P.xmlS) && Sc.attsGo [] as') from rfl]
  simp only [ho, decide_true, Bool.true_and]
  generalize decide (d = ByteArray.empty) = a
  generalize G.plain nm.data.toList = b
  generalize G.check sp.data.toList = c
  generalize decide (sp ≠ P.xmlS) = d
  generalize decide (sp ≠ P.xmlnsS) = e
  generalize decide (as'.length ≤ 24) = f
  generalize Sc.attsGo [] as' = g
  generalize Sc.kidsGo (Sc.may _) none kids = h
  cases a <;> cases b <;> cases c <;> cases d <;> cases e <;> cases f <;> cases g <;> cases h <;> rfl

set_option maxRecDepth 100000 in
set_option maxHeartbeats 12800000 in
/-- A NODE: one step of the tree. -/
theorem mayBe_step {S : Nat → Prop} (f : Nat) (hf : f ≤ 30) (ih : ∀ g, f = g + 1 → ∀ (W : World) (c : List Value) (n : Gv.Node), NodeAt S W c n → Fits n → Env W → Calls Tryz.prog 15 #[.agg c.toArray, .int .i64 (30 - (g : Int))] W fun e w' => e = .returned (.bool (Sc.may g n)) ∧ Below W.heap.size W w')
    (w : World) (c : List Value) (n : Gv.Node) (hn : NodeAt S w c n) (hz : Fits n) (hE : Env w) (r : Bool) (hr : r = Sc.may f n) :
    Calls Tryz.prog 15 #[.agg c.toArray, .int .i64 (30 - (f : Int))] w fun e w' => e = .returned (.bool r) ∧ Below w.heap.size w w' := by
  obtain ⟨k, sp, nm, d, as', kids, ao, bo, ca, cb, cs, rfl, rfl, hat, hl, hk, hm1, hm2⟩ := hn.open'
  obtain ⟨z1, z2, z3, z4, z5⟩ := may_fits hz
  clear hn hz
  have b0 := (Below.refl w.heap.size w).alloc (Nat.le_refl _) (.cells (nodeArr k sp nm (.slice ao as'.length ca) (.slice bo kids.length cb) d) 25)
  have kA := Cells.new w 25 (nodeArr k sp nm (.slice ao as'.length ca) (.slice bo kids.length cb) d)
  obtain ⟨x0, x1, x2, x3, x4, x5⟩ := node_open kA
  have hc := Lib.hid (fun W hb => node_open (kA.on (w' := W) hb))
  replace kA := Lib.hid kA
  go_enter Tryz.func15, Tryz.ntmps15
  by_cases k0 : k = 0
  · subst k0
    have c1 := isElement_any (fun n => Sc.may (f - 1) n) 0 sp nm d as' kids ao bo ca cb cs (30 - (f : Int)) r (by
      cases f with
      | zero => rw [hr]; simp [Sc.may, Gv.Node.kind]
      | succ g => rw [hr]; exact (elem_is (by omega)).symm) _ (hat.stay (stay_below b0)) hm1 z4 (hl.stay (stay_below b0)) hm2 (fun j h => (hk j h).on b0) z1 z2 (by omega) (hE.on b0)
      (fun h30 W hb j h => by
        obtain ⟨g, rfl⟩ : ∃ g, f = g + 1 := ⟨f - 1, by omega⟩
        have hb' := b0.trans (hb.mono b0.size)
        have := ih g rfl W (cs j) kids[j] ((hk j h).on hb') (z5 _ (List.getElem_mem h)) (hE.on hb')
        rw [show (30 : Int) - ((g + 1 : Nat) : Int) + 1 = 30 - (g : Int) by omega]
        exact this)
    clear hr hc ih hat hl hk hm1 hm2 z1 z2 z3 z4 z5 hE
    unfold nodeArr at *
    go_wp2_with fail
    (with_reducible refine c1.mono ?_); rintro e w1 ⟨rfl, b1⟩
    go_wp2
    go_ret
    exact ⟨rfl, b0.trans (b1.mono b0.size)⟩
  have hr := hr.trans (show Sc.may f (.mk k sp nm as' kids d) = Sc.leafOk (.mk k sp nm as' kids d) by cases f <;> simp [Sc.may, Gv.Node.kind, k0])
  rw [show Sc.leafOk (.mk k sp nm as' kids d) = (decide (sp = ByteArray.empty) && decide (as'.length + kids.length = 0) && G.check d.data.toList && Sc.leafData k nm d) from rfl] at hr
  unfold Sc.leafData at hr
  have g0 : (k == 0) = false := by simpa using k0
  have cA := fun W (hb : Below w.heap.size w W) => isDataAlone_any k sp nm d ao bo as'.length kids.length ca cb (decide (sp = ByteArray.empty) && decide (as'.length + kids.length = 0) && G.check d.data.toList) rfl W z3 (hE.on hb)
  have cC := fun W (hb : Below w.heap.size w W) => isComment_any d _ rfl W z3 (hE.on hb)
  have cT := fun W (hb : Below w.heap.size w W) => isTarget_any nm _ rfl W z2 (hE.on hb)
  have cI := fun W (hb : Below w.heap.size w W) => isInstruction_any d _ rfl W z3 (hE.on hb)
  have hS := nil_is (s := nm)
  have hD := two_is d ByteArray.empty
  rw [show ByteArray.empty.toList = [] by rw [ByteArray.toList_eq]; rfl] at hD
  generalize (decide (sp = ByteArray.empty) && decide (as'.length + kids.length = 0) && G.check d.data.toList) = pA at *
  clear ih hat hl hk hm1 hm2 z1 z2 z3 z4 z5 hE
  unfold nodeArr at *
  replace cA := Lib.hid cA
  replace cC := Lib.hid cC
  replace cT := Lib.hid cT
  replace cI := Lib.hid cI
  by_cases k1 : k = 1
  · subst k1
    clear cC cT cI
    rw [if_pos rfl] at hr
    generalize decide (nm = ByteArray.empty) = q1 at *
    generalize decide (d ≠ ByteArray.empty) = q2 at *
    replace hr := Lib.hid hr
    rcases hS with ⟨rfl, s1, s2⟩ | ⟨rfl, s1, s2⟩
    · cases pA with
      | false =>
        replace hr := Lib.hid (show r = false by rw [hr.out]; simp)
        clear hD
        go_wp2_with fail
        (with_reducible refine (cA.out _ b0).mono ?_); rintro e w1 ⟨rfl, b1⟩
        go_wp2
        go_ret
        exact ⟨ret_of hr.out, b0.trans (b1.mono b0.size)⟩
      | true =>
        replace hr := Lib.hid (show r = q2 by rw [hr.out]; simp)
        rcases hD with ⟨rfl, d1, d2, d3⟩ | ⟨rfl, d1, d2, d3⟩
        · go_wp2_with fail
          (with_reducible refine (cA.out _ b0).mono ?_); rintro e w1 ⟨rfl, b1⟩
          clear x0 x1 x2 x3 x4 x5
          obtain ⟨x0, x1, x2, x3, x4, x5⟩ := hc.out _ b1
          go_wp2_with fail
          go_ret
          exact ⟨ret_of hr.out, b0.trans (b1.mono b0.size)⟩
        · go_wp2_with fail
          (with_reducible refine (cA.out _ b0).mono ?_); rintro e w1 ⟨rfl, b1⟩
          clear x0 x1 x2 x3 x4 x5
          obtain ⟨x0, x1, x2, x3, x4, x5⟩ := hc.out _ b1
          go_wp2_with fail
          go_ret
          exact ⟨ret_of hr.out, b0.trans (b1.mono b0.size)⟩
    · replace hr := Lib.hid (show r = false by rw [hr.out]; simp)
      clear hD
      go_wp2_with fail
      go_ret
      exact ⟨ret_of hr.out, b0⟩
  have g1 : (k == 1) = false := by simpa using k1
  rw [if_neg k1] at hr
  clear hD
  by_cases k2 : k = 2
  · subst k2
    clear cT cI
    rw [if_pos rfl] at hr
    rw [show ∀ a b c e : Bool, (a && b && c && e) = (a && (b && c && e)) from by decide] at hr
    generalize (!Sc.hasIn [45, 45] d.data.toList && decide (d.data.toList.getLast? ≠ some 45) && !Sc.hasIn [13] d.data.toList) = pC at *
    generalize decide (nm = ByteArray.empty) = q1 at *
    replace hr := Lib.hid hr
    rcases hS with ⟨rfl, s1, s2⟩ | ⟨rfl, s1, s2⟩
    · cases pA with
      | false =>
        replace hr := Lib.hid (show r = false by rw [hr.out]; simp)
        go_wp2_with fail
        (with_reducible refine (cA.out _ b0).mono ?_); rintro e w1 ⟨rfl, b1⟩
        go_wp2
        go_ret
        exact ⟨ret_of hr.out, b0.trans (b1.mono b0.size)⟩
      | true =>
        replace hr := Lib.hid (show r = pC by rw [hr.out]; simp)
        go_wp2_with fail
        (with_reducible refine (cA.out _ b0).mono ?_); rintro e w1 ⟨rfl, b1⟩
        have g2 := b0.trans (b1.mono b0.size)
        clear x0 x1 x2 x3 x4 x5
        obtain ⟨x0, x1, x2, x3, x4, x5⟩ := hc.out _ b1
        go_wp2_with fail
        (with_reducible refine (cC.out _ g2).mono ?_); rintro e w2 ⟨rfl, rfl⟩
        go_wp2_with fail
        go_ret
        exact ⟨ret_of hr.out, g2⟩
    · replace hr := Lib.hid (show r = false by rw [hr.out]; simp)
      go_wp2_with fail
      go_ret
      exact ⟨ret_of hr.out, b0⟩
  have g2 : (k == 2) = false := by simpa using k2
  rw [if_neg k2] at hr
  clear hS cC
  by_cases k3 : k = 3
  · subst k3
    rw [if_pos rfl] at hr
    rw [show ∀ a b c e g : Bool, (a && b && c && e && g) = ((a && b) && (c && e && g)) from by decide] at hr
    generalize (P.plainB nm && decide (nm.data.toList.map T.lower ≠ [120, 109, 108])) = pT at *
    generalize (!Sc.hasIn [63, 62] d.data.toList && decide (T.skip d.data.toList = d.data.toList) && !Sc.hasIn [13] d.data.toList) = pI at *
    replace hr := Lib.hid hr
    cases pT with
    | false =>
      replace hr := Lib.hid (show r = false by rw [hr.out]; simp)
      go_wp2_with fail
      (with_reducible refine (cT.out _ b0).mono ?_); rintro e w1 ⟨rfl, b1⟩
      go_wp2
      go_ret
      exact ⟨ret_of hr.out, b0.trans (b1.mono b0.size)⟩
    | true =>
      cases pA with
      | false =>
        replace hr := Lib.hid (show r = false by rw [hr.out]; simp)
        go_wp2_with fail
        (with_reducible refine (cT.out _ b0).mono ?_); rintro e w1 ⟨rfl, b1⟩
        have g2 := b0.trans (b1.mono b0.size)
        clear x0 x1 x2 x3 x4 x5
        obtain ⟨x0, x1, x2, x3, x4, x5⟩ := hc.out _ b1
        go_wp2_with fail
        (with_reducible refine (cA.out _ g2).mono ?_); rintro e w2 ⟨rfl, b2⟩
        go_wp2
        go_ret
        exact ⟨ret_of hr.out, g2.trans (b2.mono g2.size)⟩
      | true =>
        replace hr := Lib.hid (show r = pI by rw [hr.out]; simp)
        go_wp2_with fail
        (with_reducible refine (cT.out _ b0).mono ?_); rintro e w1 ⟨rfl, b1⟩
        have g2 := b0.trans (b1.mono b0.size)
        clear x0 x1 x2 x3 x4 x5
        obtain ⟨x0, x1, x2, x3, x4, x5⟩ := hc.out _ b1
        go_wp2_with fail
        (with_reducible refine (cA.out _ g2).mono ?_); rintro e w2 ⟨rfl, b2⟩
        have g3 := g2.trans (b2.mono g2.size)
        clear x0 x1 x2 x3 x4 x5
        obtain ⟨x0, x1, x2, x3, x4, x5⟩ := hc.out _ (b1.trans (b2.mono b1.size))
        go_wp2_with fail
        (with_reducible refine (cI.out _ g3).mono ?_); rintro e w3 ⟨rfl, b3⟩
        go_wp2_with fail
        go_ret
        exact ⟨ret_of hr.out, g3.trans (b3.mono g3.size)⟩
  · have g3 : (k == 3) = false := by simpa using k3
    rw [if_neg k3] at hr
    replace hr := Lib.hid (show r = false by rw [hr]; simp)
    clear cA cT cI
    go_wp2_with fail
    go_ret
    exact ⟨ret_of hr.out, b0⟩

/-- WHETHER A NODE MAY BE TOLD that stands in so many elements. -/
theorem mayBe_any {S : Nat → Prop} : ∀ (f : Nat), f ≤ 30 → ∀ (w : World) (c : List Value) (n : Gv.Node), NodeAt S w c n → Fits n → Env w →
    Calls Tryz.prog 15 #[.agg c.toArray, .int .i64 (30 - (f : Int))] w fun e w' => e = .returned (.bool (Sc.may f n)) ∧ Below w.heap.size w w' := by
  intro f
  induction f with
  | zero => exact fun hf w c n hn hz hE => mayBe_step 0 hf (fun g e => by cases e) w c n hn hz hE _ rfl
  | succ g ih => exact fun hf w c n hn hz hE => mayBe_step (g + 1) hf (fun g' e W c n => by cases e; exact ih (by omega) W c n) w c n hn hz hE _ rfl
end Go.Proofs.YtegaidfmkfnbnaaGreatDoor
