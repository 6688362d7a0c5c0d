/-
  Which trees may be told: what the program's words of nodes without attributes and kids, and of attributes, come to.
  Which trees may be told: what the program's word of an element's attributes comes to.
-/
import Derived.Test.YtegaidfmkfnbnaaGreatDoorP14
import Derived.Shelf.RegionOpen
import Derived.Deep.RegionHeld3
namespace Go.Proofs.YtegaidfmkfnbnaaGreatDoor
open Go.RowKit

theorem nil_is {s : ByteArray} : (decide (s = ByteArray.empty) = true ∧ (s.toList == ([] : List UInt8)) = true ∧ s.toList = []) ∨ (decide (s = ByteArray.empty) = false ∧ (s.toList == ([] : List UInt8)) = false ∧ ¬ s.toList = []) := by
  have h0 : ByteArray.empty.toList = [] := by rw [ByteArray.toList_eq]; rfl
  by_cases h : s = ByteArray.empty
  · subst h; exact .inl ⟨by simp, by rw [h0]; rfl, h0⟩
  · refine .inr ⟨by simpa using h, by have := sn_isnt (b := ByteArray.empty) h; rwa [h0] at this, ?_⟩
    intro e
    rw [ByteArray.toList_eq] at e
    exact h (bytes_eq e)

set_option maxRecDepth 100000 in
set_option maxHeartbeats 3200000 in
theorem isDataAlone_any (k : Int) (sp nm d : ByteArray) (ao bo : Option Addr) (m1 m2 ca cb : Nat) (r : Bool) (hr : r = (decide (sp = ByteArray.empty) && decide (m1 + m2 = 0) && G.check d.data.toList)) (w : World) (hd : d.size ≤ 1000000) (hE : Env w) :
    Calls Tryz.prog 26 #[.agg (nodeArr k sp nm (.slice ao m1 ca) (.slice bo m2 cb) d)] w fun e w' => e = .returned (.bool r) ∧ Below w.heap.size w w' := by
  have b0 := (Below.refl w.heap.size w).alloc (Nat.le_refl _) (.cells (nodeArr k sp nm (.slice ao m1 ca) (.slice bo m2 cb) d) 25)
  have kA := Cells.new w 25 (nodeArr k sp nm (.slice ao m1 ca) (.slice bo m2 cb) d)
  obtain ⟨x0, x1, x2, x3, x4, x5⟩ := node_open kA
  have c := fun w1 (b : Below w.heap.size w w1) => isText_any d (G.check d.data.toList) rfl w1 hd (hE.on b)
  have c0 := c _ b0
  clear hE c
  replace kA := Lib.hid kA
  unfold nodeArr at *
  generalize G.check d.data.toList = p at *
  go_enter Tryz.func26, Tryz.ntmps26
  rcases nil_is (s := sp) with ⟨e, z, y⟩ | ⟨e, z, y⟩
  · by_cases h1 : m1 = 0
    · by_cases h2 : m2 = 0
      · subst h1 h2
        rw [e] at hr
        replace hr := Lib.hid hr
        clear e
        go_wp2_with fail
        (with_reducible refine c0.mono ?_); rintro e w1 ⟨rfl, b⟩
        go_wp2
        go_ret
        exact ⟨ret_of (by rw [hr.out]; simp), b0.trans (b.mono b0.size)⟩
      · have g : ((m2 : Int) == 0) = false := by rw [beq_eq_false_iff_ne]; omega
        have g' : ¬ (m2 : Int) = 0 := by omega
        rw [e, show decide (m1 + m2 = 0) = false by rw [decide_eq_false_iff_not]; omega] at hr
        replace hr := Lib.hid hr
        subst h1
        clear e h2
        go_wp2_with fail
        go_ret
        exact ⟨ret_of (by rw [hr.out]; simp), b0⟩
    · have g : ((m1 : Int) == 0) = false := by rw [beq_eq_false_iff_ne]; omega
      have g' : ¬ (m1 : Int) = 0 := by omega
      rw [e, show decide (m1 + m2 = 0) = false by rw [decide_eq_false_iff_not]; omega] at hr
      replace hr := Lib.hid hr
      clear e h1
      go_wp2_with fail
      go_ret
      exact ⟨ret_of (by rw [hr.out]; simp), b0⟩
  · rw [e] at hr
    replace hr := Lib.hid hr
    clear e
    go_wp2_with fail
    go_ret
    exact ⟨ret_of (by rw [hr.out]; simp), b0⟩

/-- A text beside another one. -/
theorem two_is (s t : ByteArray) : (decide (s ≠ t) = true ∧ (s.toList == t.toList) = false ∧ ¬ s.toList = t.toList ∧ (s.toList != t.toList) = true) ∨ (decide (s ≠ t) = false ∧ (s.toList == t.toList) = true ∧ s.toList = t.toList ∧ (s.toList != t.toList) = false) := by
  by_cases h : s = t
  · subst h; exact .inr ⟨by simp, by simp, rfl, by simp⟩
  · exact .inl ⟨by simpa using h, sn_isnt h, sn_prop h, sn_ne h⟩
theorem xmlns_lit : P.xmlnsS.toList = [104, 116, 116, 112, 58, 47, 47, 119, 119, 119, 46, 119, 51, 46, 111, 114, 103, 47, 50, 48, 48, 48, 47, 120, 109, 108, 110, 115, 47] := by decide +kernel
theorem xmlS_lit : P.xmlS.toList = [104, 116, 116, 112, 58, 47, 47, 119, 119, 119, 46, 119, 51, 46, 111, 114, 103, 47, 88, 77, 76, 47, 49, 57, 57, 56, 47, 110, 97, 109, 101, 115, 112, 97, 99, 101] := by decide +kernel
theorem xmlnsN_lit : P.xmlns.toList = [120, 109, 108, 110, 115] := by decide +kernel

set_option maxRecDepth 100000 in
set_option maxHeartbeats 6400000 in
theorem isAttribute_any (a : Gv.Att) (r : Bool) (hr : r = Sc.attOk a) (w : World) (h1 : a.space.size ≤ 1000000) (h2 : a.name.size ≤ 1000000) (h3 : a.value.size ≤ 1000000) (hE : Env w) :
    Calls Tryz.prog 83 #[.agg (attArr a)] w fun e w' => e = .returned (.bool r) ∧ Below w.heap.size w w' := by
  obtain ⟨xs, xn, xv⟩ := a
  unfold Sc.attOk Sc.spaceOk P.plainB at hr
  unfold attArr
  dsimp only at *
  have b0 := (Below.refl w.heap.size w).alloc (Nat.le_refl _) (.cells #[.string xs, .string xn, .string xv] 40)
  have kA := Cells.new w 40 #[.string xs, .string xn, .string xv]
  have x0 := kA.cell (i := 0) (v := .string xs) rfl
  have x1 := kA.cell (i := 1) (v := .string xn) rfl
  have x2 := kA.cell (i := 2) (v := .string xv) rfl
  replace kA := Lib.hid kA
  have c1 := gPlain_any xn _ h2 (hE.on b0)
  have c2 := fun w1 (b : Below w.heap.size w w1) => isText_any xs (G.check xs.data.toList) rfl w1 h1 (hE.on b)
  have c3 := fun w1 (b : Below w.heap.size w w1) => isText_any xv (G.check xv.data.toList) rfl w1 h3 (hE.on b)
  have hS := nil_is (s := xs)
  have hN := two_is xn P.xmlns
  have hX := two_is xs P.xmlnsS
  rw [xmlnsN_lit] at hN
  rw [xmlns_lit] at hX
  rw [show decide (xn = P.xmlns) = !decide (xn ≠ P.xmlns) by simp] at hr
  clear hE h1 h2 h3
  generalize G.plain xn.data.toList = p1 at *
  generalize G.check xs.data.toList = p2 at *
  generalize G.check xv.data.toList = p3 at *
  generalize decide (xs = ByteArray.empty) = q1 at *
  generalize decide (xn ≠ P.xmlns) = q2 at *
  generalize decide (xs ≠ P.xmlnsS) = q3 at *
  replace hX := Lib.hid hX
  go_enter Tryz.func83, Tryz.ntmps83
  rcases hS with ⟨rfl, z, y⟩ | ⟨rfl, z, y⟩
  · rcases hN with ⟨rfl, n1, n2, n3⟩ | ⟨rfl, n1, n2, n3⟩
    · have hr := Lib.hid (show r = (p1 && (p2 && q3) && p3) by rw [hr]; simp)
      cases p1 with
      | false =>
        replace hr := Lib.hid hr.out
        clear c2 c3
        go_wp2_with fail
        (with_reducible refine c1.mono ?_); rintro e w1 ⟨rfl, b1⟩
        have g1 := b0.trans (b1.mono b0.size)
        go_wp2_with fail
        go_ret
        exact ⟨ret_of hr.out, g1⟩
      | true =>
        cases p2 with
        | false =>
          clear c3
          go_wp2_with fail
          (with_reducible refine c1.mono ?_); rintro e w1 ⟨rfl, b1⟩
          have g1 := b0.trans (b1.mono b0.size)
          have x0 := (b1.cell (World.block_lt_of_cell? _ _ x0)).trans x0
          go_wp2_with fail
          (with_reducible refine (c2 _ g1).mono ?_); rintro e w2 ⟨rfl, b2⟩
          have g2 := g1.trans (b2.mono g1.size)
          go_wp2_with fail
          go_ret
          exact ⟨ret_of hr.out, g2⟩
        | true =>
          rcases hX.out with ⟨rfl, m1, m2, m3⟩ | ⟨rfl, m1, m2, m3⟩
          · cases p3 with
            | false =>
              go_wp2_with fail
              (with_reducible refine c1.mono ?_); rintro e w1 ⟨rfl, b1⟩
              have g1 := b0.trans (b1.mono b0.size)
              have x0 := (b1.cell (World.block_lt_of_cell? _ _ x0)).trans x0
              have x2 := (b1.cell (World.block_lt_of_cell? _ _ x2)).trans x2
              go_wp2_with fail
              (with_reducible refine (c2 _ g1).mono ?_); rintro e w2 ⟨rfl, b2⟩
              have g2 := g1.trans (b2.mono g1.size)
              have x0 := (b2.cell (World.block_lt_of_cell? _ _ x0)).trans x0
              have x2 := (b2.cell (World.block_lt_of_cell? _ _ x2)).trans x2
              go_wp2_with fail
              (with_reducible refine (c3 _ g2).mono ?_); rintro e w3 ⟨rfl, b3⟩
              have g3 := g2.trans (b3.mono g2.size)
              go_wp2_with fail
              go_ret
              exact ⟨ret_of hr.out, g3⟩
            | true =>
              go_wp2_with fail
              (with_reducible refine c1.mono ?_); rintro e w1 ⟨rfl, b1⟩
              have g1 := b0.trans (b1.mono b0.size)
              have x0 := (b1.cell (World.block_lt_of_cell? _ _ x0)).trans x0
              have x2 := (b1.cell (World.block_lt_of_cell? _ _ x2)).trans x2
              go_wp2_with fail
              (with_reducible refine (c2 _ g1).mono ?_); rintro e w2 ⟨rfl, b2⟩
              have g2 := g1.trans (b2.mono g1.size)
              have x0 := (b2.cell (World.block_lt_of_cell? _ _ x0)).trans x0
              have x2 := (b2.cell (World.block_lt_of_cell? _ _ x2)).trans x2
              go_wp2_with fail
              (with_reducible refine (c3 _ g2).mono ?_); rintro e w3 ⟨rfl, b3⟩
              have g3 := g2.trans (b3.mono g2.size)
              go_wp2_with fail
              go_ret
              exact ⟨ret_of hr.out, g3⟩
          · exact absurd (y.symm.trans m2) (by simp)
    · have hr := Lib.hid (show r = false by rw [hr]; simp)
      clear c1 c2 c3
      go_wp2_with fail
      go_ret
      exact ⟨ret_of hr.out, b0⟩
  · have hr := Lib.hid (show r = (p1 && (p2 && q3) && p3) by rw [hr]; simp)
    clear hN
    cases p1 with
    | false =>
      replace hr := Lib.hid hr.out
      clear c2 c3
      go_wp2_with fail
      (with_reducible refine c1.mono ?_); rintro e w1 ⟨rfl, b1⟩
      have g1 := b0.trans (b1.mono b0.size)
      go_wp2_with fail
      go_ret
      exact ⟨ret_of hr.out, g1⟩
    | true =>
      cases p2 with
      | false =>
        clear c3
        go_wp2_with fail
        (with_reducible refine c1.mono ?_); rintro e w1 ⟨rfl, b1⟩
        have g1 := b0.trans (b1.mono b0.size)
        have x0 := (b1.cell (World.block_lt_of_cell? _ _ x0)).trans x0
        go_wp2_with fail
        (with_reducible refine (c2 _ g1).mono ?_); rintro e w2 ⟨rfl, b2⟩
        have g2 := g1.trans (b2.mono g1.size)
        go_wp2_with fail
        go_ret
        exact ⟨ret_of hr.out, g2⟩
      | true =>
        rcases hX.out with ⟨rfl, m1, m2, m3⟩ | ⟨rfl, m1, m2, m3⟩
        · cases p3 with
          | false =>
            go_wp2_with fail
            (with_reducible refine c1.mono ?_); rintro e w1 ⟨rfl, b1⟩
            have g1 := b0.trans (b1.mono b0.size)
            have x0 := (b1.cell (World.block_lt_of_cell? _ _ x0)).trans x0
            have x2 := (b1.cell (World.block_lt_of_cell? _ _ x2)).trans x2
            go_wp2_with fail
            (with_reducible refine (c2 _ g1).mono ?_); rintro e w2 ⟨rfl, b2⟩
            have g2 := g1.trans (b2.mono g1.size)
            have x0 := (b2.cell (World.block_lt_of_cell? _ _ x0)).trans x0
            have x2 := (b2.cell (World.block_lt_of_cell? _ _ x2)).trans x2
            go_wp2_with fail
            (with_reducible refine (c3 _ g2).mono ?_); rintro e w3 ⟨rfl, b3⟩
            have g3 := g2.trans (b3.mono g2.size)
            go_wp2_with fail
            go_ret
            exact ⟨ret_of hr.out, g3⟩
          | true =>
            go_wp2_with fail
            (with_reducible refine c1.mono ?_); rintro e w1 ⟨rfl, b1⟩
            have g1 := b0.trans (b1.mono b0.size)
            have x0 := (b1.cell (World.block_lt_of_cell? _ _ x0)).trans x0
            have x2 := (b1.cell (World.block_lt_of_cell? _ _ x2)).trans x2
            go_wp2_with fail
            (with_reducible refine (c2 _ g1).mono ?_); rintro e w2 ⟨rfl, b2⟩
            have g2 := g1.trans (b2.mono g1.size)
            have x0 := (b2.cell (World.block_lt_of_cell? _ _ x0)).trans x0
            have x2 := (b2.cell (World.block_lt_of_cell? _ _ x2)).trans x2
            go_wp2_with fail
            (with_reducible refine (c3 _ g2).mono ?_); rintro e w3 ⟨rfl, b3⟩
            have g3 := g2.trans (b3.mono g2.size)
            go_wp2_with fail
            go_ret
            exact ⟨ret_of hr.out, g3⟩
        · have hr := Lib.hid (show r = false by rw [hr.out]; cases p3 <;> rfl)
          clear c3
          go_wp2_with fail
          (with_reducible refine c1.mono ?_); rintro e w1 ⟨rfl, b1⟩
          have g1 := b0.trans (b1.mono b0.size)
          have x0 := (b1.cell (World.block_lt_of_cell? _ _ x0)).trans x0
          go_wp2_with fail
          (with_reducible refine (c2 _ g1).mono ?_); rintro e w2 ⟨rfl, b2⟩
          have g2 := g1.trans (b2.mono g1.size)
          have x0 := (b2.cell (World.block_lt_of_cell? _ _ x0)).trans x0
          go_wp2_with fail
          go_ret
          exact ⟨ret_of hr.out, g2⟩

end Go.Proofs.YtegaidfmkfnbnaaGreatDoor
namespace Go.Proofs.YtegaidfmkfnbnaaGreatDoor
open Go.RowKit

theorem attsGo_step {l : List Gv.Att} {k : Nat} (h : k < l.length) : Sc.attsGo (l.take k) (l.drop k) = (Sc.attOk l[k] && !((l.take k).any fun x => decide (x.space = l[k].space ∧ x.name = l[k].name)) && Sc.attsGo (l.take (k + 1)) (l.drop (k + 1))) := by
  rw [List.drop_eq_getElem_cons h, Sc.attsGo, List.take_succ_eq_append_getElem h]

set_option maxRecDepth 100000 in
set_option maxHeartbeats 6400000 in
theorem areAttributes_any {S : Nat → Prop} (ao : Option Addr) (cap : Nat) (l : List Gv.Att) (r : Bool) (hr : r = (decide (l.length ≤ 24) && Sc.attsGo [] l)) (w : World) (hl : AttsAt S w (.slice ao l.length cap) l) (hm : l.length ≤ maxLen)
    (hz : ∀ a ∈ l, a.space.size ≤ 1000000 ∧ a.name.size ≤ 1000000 ∧ a.value.size ≤ 1000000) (hE : Env w) :
    Calls Tryz.prog 50 #[.slice ao l.length cap] w fun e w' => e = .returned (.bool r) ∧ Below w.heap.size w w' := by
  unfold maxLen at hm
  have hc := hl.room.2
  go_enter Tryz.func50, Tryz.ntmps50
  by_cases h24 : l.length ≤ 24
  case neg =>
    have g : (24 : Int) < (l.length : Int) := by omega
    have hr := Lib.hid (show r = false by rw [hr]; simp [h24])
    clear h24
    go_wp2_with fail
    go_ret
    exact ⟨ret_of hr.out, Below.refl _ _⟩
  have g : ¬ (24 : Int) < (l.length : Int) := by omega
  have hr0 := Lib.hid (show r = Sc.attsGo (l.take 0) (l.drop 0) by rw [hr]; simp [h24])
  clear hr
  replace hE := Lib.hid hE
  replace hz := Lib.hid hz
  go_wp2_with fail
  clear g h24
  go_loopg [3, 4, 10] l.length (fun gg _ _ s10 wr => ∃ kk : Nat, kk ≤ l.length ∧ l.length - kk ≤ gg ∧ s10 = .int .i64 kk ∧ Hid (Below w.heap.size w wr) ∧ Hid (r = Sc.attsGo (l.take kk) (l.drop kk)))
  case atStart => exact ⟨0, Nat.zero_le _, by omega, rfl, Lib.hid (Below.refl _ w), hr0⟩
  case round =>
    obtain ⟨kk, hkk, hg, rfl, BW, A⟩ := hrel
    clear hr0
    by_cases hlt : kk < l.length
    · have hltz : (kk : Int) < (l.length : Int) := by omega
      have hstep := attsGo_step hlt
      obtain ⟨z1, z2, z3⟩ := hz.out l[kk] (List.getElem_mem hlt)
      have hA2 := fun (W : World) (hb : Below w.heap.size w W) => atts_take (hl.stay (stay_below hb)) kk hkk cap (by omega)
      have hcell := (hl.stay (stay_below BW.out)).cells hlt (sp := l[kk].space) (nm := l[kk].name) (va := l[kk].value) rfl
      have hA := A.out
      rw [hstep] at hA
      have c1 := fun (W : World) (hb : Below wr.heap.size wr W) => isAttribute_any l[kk] (Sc.attOk l[kk]) rfl W z1 z2 z3 (hE.out.on (BW.out.trans (hb.mono BW.out.size)))
      have c2 := fun (W : World) (hb : Below wr.heap.size wr W) => has_any ao cap (l.take kk) l[kk].space l[kk].name ((l.take kk).any fun x => decide (x.space = l[kk].space ∧ x.name = l[kk].name)) rfl W (by rw [List.length_take, Nat.min_eq_left hkk]; exact hA2 W (BW.out.trans (hb.mono BW.out.size))) (by rw [List.length_take]; unfold maxLen; omega)
      rw [List.length_take, Nat.min_eq_left hkk] at c2
      replace hA := Lib.hid hA
      replace hl := Lib.hid hl
      clear hstep A hA2
      obtain ⟨b, off, rfl, p0, p1, p2⟩ := hcell
      unfold attArr at c1
      generalize l[kk].space = us at *
      generalize l[kk].name = un at *
      generalize l[kk].value = uv at *
      generalize Sc.attOk l[kk] = q1 at *
      generalize ((l.take kk).any fun x => decide (x.space = us ∧ x.name = un)) = q2 at *
      clear z1 z2 z3
      have bW := (Below.refl wr.heap.size wr).alloc (Nat.le_refl _) (.cells #[.string us, .string un, .string uv] 40)
      have kA := Cells.new wr 40 #[.string us, .string un, .string uv]
      go_wp2_with fail
      generalize wr.alloc (.cells #[.string us, .string un, .string uv] 40) = W at *
      have hS : ∀ w', Below W.heap.size W w' → w'.cell? ⟨wr.heap.size, 0, none⟩ = some (.string us) ∧ w'.cell? ⟨wr.heap.size, 1, none⟩ = some (.string un) ∧ w'.cell? ⟨wr.heap.size, 2, none⟩ = some (.string uv) ∧ Below W.heap.size W w' := fun w' hb =>
        ⟨(kA.on hb).cell (i := 0) rfl, (kA.on hb).cell (i := 1) rfl, (kA.on hb).cell (i := 2) rfl, hb⟩
      have k1 := fun (w' : World) (hb : Below W.heap.size W w') => (c1 w' (bW.trans (hb.mono bW.size))).mono (fun e w'' (h : e = .returned (.bool q1) ∧ Below w'.heap.size w' w'') => (⟨h.1, hS w'' (hb.trans (h.2.mono hb.size))⟩ : e = .returned (.bool q1) ∧ _))
      have k2 := fun (w' : World) (hb : Below W.heap.size W w') => (c2 w' (bW.trans (hb.mono bW.size))).mono (fun e w'' (h : e = .returned (.bool q2) ∧ Below w'.heap.size w' w'') => (⟨h.1, hS w'' (hb.trans (h.2.mono hb.size))⟩ : e = .returned (.bool q2) ∧ _))
      have s0 := hS W (Below.refl _ _)
      have s1 := hS W.drew (Below.refl _ _).drew
      have BW' := Lib.hid (BW.out.trans (bW.mono BW.out.size))
      clear c1 c2 hS p0 p1 p2 kA bW BW
      have hcl : (kk : Int) ≤ (cap : Int) := by omega
      cases q1 with
      | false =>
        have hx := Lib.hid (show r = false by rw [hA.out]; rfl)
        clear k2 hA
        refine wp_region_held_drew (S := fun w' => w'.cell? ⟨wr.heap.size, 0, none⟩ = some (.string us) ∧ w'.cell? ⟨wr.heap.size, 1, none⟩ = some (.string un) ∧ w'.cell? ⟨wr.heap.size, 2, none⟩ = some (.string uv) ∧ Below W.heap.size W w') (by kernel_rfl) s1 (fun hHeld => ?_)
        refine wpAnyH_take (i := 0) (v := .agg #[.string us, .string un, .string uv]) rfl (by kernel_rfl) (by kernel_rfl) (by kernel_rfl) (fun _ _ _ h => h) (Or.inl ⟨by rfl, ?_⟩) (by assumption) ?_
        · intro w' hSw; (try dsimp only at hSw); go_simp
        try simp only [Act.put, List.getElem_toArray, List.getElem_cons_zero, List.setIfInBounds_toArray, List.set_cons_zero, List.set_cons_succ]
        refine wpAnyH_ready (rs := [1]) (by kernel_rfl) (by simp) (AllReadyH.cons rfl (fun K hK => ?_) AllReadyH.nil)
        go_simp
        refine (k1 _ (Below.refl _ _).drew).mono ?_
        rintro e w' ⟨rfl, hcb⟩
        refine hK.out _ _ hcb (fun hHeld2 => ?_)
        clear hK K hHeld
        try simp only [Act.put, List.getElem_toArray, List.getElem_cons_succ, List.getElem_cons_zero, List.setIfInBounds_toArray, List.set_cons_zero, List.set_cons_succ]
        refine wpAnyH_take (i := 2) (v := .bool true) rfl (by kernel_rfl) (by kernel_rfl) (by kernel_rfl) (fun _ _ _ h => h) (Or.inl ⟨by rfl, ?_⟩) (by assumption) ?_
        · intro w' hSw; (try dsimp only at hSw); go_simp
        try simp only [Act.put, List.getElem_toArray, List.getElem_cons_succ, List.getElem_cons_zero, List.setIfInBounds_toArray, List.set_cons_zero, List.set_cons_succ]
        refine wpAnyH_take (i := 3) (v := .bool true) rfl (by kernel_rfl) (by kernel_rfl) (by kernel_rfl) (fun _ _ _ h => h) (Or.inl ⟨by rfl, ?_⟩) (by assumption) ?_
        · intro w' hSw; (try dsimp only at hSw); go_simp
        try simp only [Act.put, List.getElem_toArray, List.getElem_cons_succ, List.getElem_cons_zero, List.setIfInBounds_toArray, List.set_cons_zero, List.set_cons_succ]
        refine wpAnyH_take (i := 4) (v := undef) rfl (by kernel_rfl) (by kernel_rfl) (by kernel_rfl) (fun _ _ _ h => h) (Or.inr ⟨by rfl, rfl⟩) (by assumption) ?_
        try simp only [Act.put, List.getElem_toArray, List.getElem_cons_succ, List.getElem_cons_zero, List.setIfInBounds_toArray, List.set_cons_zero, List.set_cons_succ]
        refine wpAnyH_take (i := 5) (v := undef) rfl (by kernel_rfl) (by kernel_rfl) (by kernel_rfl) (fun _ _ _ h => h) (Or.inr ⟨by rfl, rfl⟩) (by assumption) ?_
        try simp only [Act.put, List.getElem_toArray, List.getElem_cons_succ, List.getElem_cons_zero, List.setIfInBounds_toArray, List.set_cons_zero, List.set_cons_succ]
        refine wpAnyH_take (i := 6) (v := undef) rfl (by kernel_rfl) (by kernel_rfl) (by kernel_rfl) (fun _ _ _ h => h) (Or.inr ⟨by rfl, rfl⟩) (by assumption) ?_
        try simp only [Act.put, List.getElem_toArray, List.getElem_cons_succ, List.getElem_cons_zero, List.setIfInBounds_toArray, List.set_cons_zero, List.set_cons_succ]
        refine wpAnyH_take (i := 7) (v := undef) rfl (by kernel_rfl) (by kernel_rfl) (by kernel_rfl) (fun _ _ _ h => h) (Or.inr ⟨by rfl, rfl⟩) (by assumption) ?_
        try simp only [Act.put, List.getElem_toArray, List.getElem_cons_succ, List.getElem_cons_zero, List.setIfInBounds_toArray, List.set_cons_zero, List.set_cons_succ]
        refine wpAnyH_take (i := 8) (v := undef) rfl (by kernel_rfl) (by kernel_rfl) (by kernel_rfl) (fun _ _ _ h => h) (Or.inr ⟨by rfl, rfl⟩) (by assumption) ?_
        try simp only [Act.put, List.getElem_toArray, List.getElem_cons_succ, List.getElem_cons_zero, List.setIfInBounds_toArray, List.set_cons_zero, List.set_cons_succ]
        refine wpAnyH_take (i := 9) (v := undef) rfl (by kernel_rfl) (by kernel_rfl) (by kernel_rfl) (fun _ _ _ h => h) (Or.inr ⟨by rfl, rfl⟩) (by assumption) ?_
        try simp only [Act.put, List.getElem_toArray, List.getElem_cons_succ, List.getElem_cons_zero, List.setIfInBounds_toArray, List.set_cons_zero, List.set_cons_succ]
        refine wpAnyH_take (i := 10) (v := undef) rfl (by kernel_rfl) (by kernel_rfl) (by kernel_rfl) (fun _ _ _ h => h) (Or.inr ⟨by rfl, rfl⟩) (by assumption) ?_
        try simp only [Act.put, List.getElem_toArray, List.getElem_cons_succ, List.getElem_cons_zero, List.setIfInBounds_toArray, List.set_cons_zero, List.set_cons_succ]
        refine wpAnyH_take (i := 11) (v := undef) rfl (by kernel_rfl) (by kernel_rfl) (by kernel_rfl) (fun _ _ _ h => h) (Or.inr ⟨by rfl, rfl⟩) (by assumption) ?_
        try simp only [Act.put, List.getElem_toArray, List.getElem_cons_succ, List.getElem_cons_zero, List.setIfInBounds_toArray, List.set_cons_zero, List.set_cons_succ]
        refine wpAnyH_take (i := 12) (v := .bool true) rfl (by kernel_rfl) (by kernel_rfl) (by kernel_rfl) (fun _ _ _ h => h) (Or.inl ⟨by rfl, ?_⟩) (by assumption) ?_
        · intro w' hSw; (try dsimp only at hSw); go_simp
        try simp only [Act.put, List.getElem_toArray, List.getElem_cons_succ, List.getElem_cons_zero, List.setIfInBounds_toArray, List.set_cons_zero, List.set_cons_succ]
        refine wpAnyH_done (by kernel_rfl) ?_ _
        have bb := hcb.2.2.2
        clear hcb hHeld2 k1 s0 s1
        go_wp2_with fail
        go_ret
        exact ⟨ret_of hx.out, BW'.out.trans (bb.mono BW'.out.size)⟩
      | true =>
        have hx := Lib.hid (show r = (!q2 && Sc.attsGo (l.take (kk + 1)) (l.drop (kk + 1))) by rw [hA.out]; simp)
        clear hA
        go_region_held3 (fun w' => w'.cell? ⟨wr.heap.size, 0, none⟩ = some (.string us) ∧ w'.cell? ⟨wr.heap.size, 1, none⟩ = some (.string un) ∧ w'.cell? ⟨wr.heap.size, 2, none⟩ = some (.string uv) ∧ Below W.heap.size W w')
          (first | exact s1 | exact s0 | assumption)
          (first
            | (go_at_call 83; refine (k1 _ ?_).mono ?_; (first | exact (Below.refl _ _).drew | exact Below.refl _ _ | assumption); rintro e w' ⟨rfl, hcb⟩)
            | (go_at_call 84; refine (k2 _ ?_).mono ?_; (first | exact (Below.refl _ _).drew | exact Below.refl _ _ | exact hcb.2.2.2 | assumption); rintro e w' ⟨rfl, hcb⟩))
        all_goals
          have bb := Lib.hid (BW'.out.trans (hcb.2.2.2.mono BW'.out.size))
          clear hcb k1 k2 s0 s1 BW'
          cases q2 with
          | true =>
            have hx := Lib.hid (show r = false by rw [hx.out]; rfl)
            go_wp2_with fail
            go_ret
            exact ⟨ret_of hx.out, bb.out⟩
          | false =>
            have hx := Lib.hid (show r = Sc.attsGo (l.take (kk + 1)) (l.drop (kk + 1)) by rw [hx.out]; simp)
            go_wp2_with fail
            go_roundg (l.length - (kk + 1))
            case measure => omega
            case rel => exact ⟨kk + 1, by omega, by omega, by go_num, bb, hx⟩
    · have hltz : ¬ (kk : Int) < (l.length : Int) := by omega
      have hx := Lib.hid (show r = true by rw [A.out, List.drop_eq_nil_of_le (by omega)]; rfl)
      clear hlt hl A
      go_wp2_with fail
      go_ret
      exact ⟨ret_of hx.out, BW.out⟩
end Go.Proofs.YtegaidfmkfnbnaaGreatDoor
