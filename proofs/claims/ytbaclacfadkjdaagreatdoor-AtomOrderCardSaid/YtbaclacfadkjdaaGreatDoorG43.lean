/-
  AtomOrder: the order of an entry's kids changes nothing.
-/
import Derived.Test.YtbaclacfadkjdaaGreatDoorG33
import Derived.Test.YtbaclacfadkjdaaGreatDoorG41
namespace Go.Proofs.YtbaclacfadkjdaaGreatDoor
open Go.RowKit
set_option linter.unusedSimpArgs false
set_option linter.unusedVariables false
set_option maxRecDepth 100000 in
set_option maxHeartbeats 12800000 in
theorem order_any {ao0 : Option Addr} {cap0 : Nat} {c : List Value} {n0 : Gv.Node} (L : List (Nat × Nat × Nat)) (pr : Bool) (w : World) (hL : BitsIn w ao0 L) (hlen : L.length ≤ 9223372036854775807) (hN : NodeAt (fun _ => True) w c n0) (hs0 : Sized n0) (hE : Env w) :
    Calls Tryz.prog 7 #[.slice ao0 L.length cap0, .agg c.toArray, .bool pr] w fun e w' => e = .returned (.bool true) ∧ Below w.heap.size w w' := by
  obtain ⟨i0, hi, hz0, hz1', hz2⟩ := info_parts infoNode
  obtain ⟨rk, rsp, rnm, rd, ras, rkd, rao, rbo, rca, rcb, rcs, rfl, rfl, rA, rR, rK, rla, rlk⟩ := hN.open'
  have bA := (Below.refl w.heap.size w).alloc (Nat.le_refl _) (.cells #[.int .i64 rk, .string rsp, .string rnm, .slice rao ras.length rca, .slice rbo rkd.length rcb, .string rd] 25)
  have kA := Cells.new w 25 (nodeArr rk rsp rnm (.slice rao ras.length rca) (.slice rbo rkd.length rcb) rd)
  unfold nodeArr at kA
  have hraw := Lib.hid (⟨rA, rR, rK, rla, rlk, hs0⟩ : _ ∧ _ ∧ _ ∧ _ ∧ _ ∧ _)
  replace hE := Lib.hid hE
  replace hL := Lib.hid hL
  clear hN rA rR rK rla rlk hs0
  go_enter Tryz.func7, Tryz.ntmps7
  go_upto_region 1 with fail
  have hnA : w.heap.size < (w.alloc (.cells #[.int .i64 rk, .string rsp, .string rnm, .slice rao ras.length rca, .slice rbo rkd.length rcb, .string rd] 25)).heap.size := by simp
  generalize w.alloc (.cells #[.int .i64 rk, .string rsp, .string rnm, .slice rao ras.length rca, .slice rbo rkd.length rcb, .string rd] 25) = wA at *
  go_wp2_with fail
  (refine (awake_any _ (hE.out.on bA)).mono ?_); rintro e wB ⟨rfl, bB⟩
  have gB := bA.trans (bB.mono bA.size)
  have kB := kA.on bB
  clear kA bA
  go_wp2_with fail
  (refine (made_any _ false _ (hL.out.below gB) hlen).mono ?_); rintro e wC ⟨bC, A, n1, rfl, hnd, hz, -⟩
  obtain ⟨S, hM⟩ := hnd
  obtain ⟨mk, msp, mnm, md, mas, mkd, mao, mbo, mca, mcb, mcs, rfl, mec, mA, mR, mK, mla, mlk⟩ := hM.open'
  obtain rfl : A = nodeArr mk msp mnm (.slice mao mas.length mca) (.slice mbo mkd.length mcb) md := by apply Array.toList_inj.1; exact mec
  unfold nodeArr at *
  have bx := (Below.refl wC.heap.size wC).alloc (Nat.le_refl _) (.cells #[.int .i64 mk, .string msp, .string mnm, .slice mao mas.length mca, .slice mbo mkd.length mcb, .string md] 25)
  have kM := Cells.new wC 25 (nodeArr mk msp mnm (.slice mao mas.length mca) (.slice mbo mkd.length mcb) md)
  unfold nodeArr at kM
  have gC := gB.trans (bC.mono gB.size)
  have gD := gC.trans (bx.mono gC.size)
  have kD := (kB.on bC).on bx
  have hmade := Lib.hid (⟨mA, mR, mK, mla, mlk, sized_of_wt _ _ hz (by omega), stay_below (S := fun b => b < wC.heap.size) bx⟩ : _ ∧ _ ∧ _ ∧ _ ∧ _ ∧ _ ∧ _)
  have hnb := Lib.hid (show w.heap.size < wC.heap.size by have := bB.size; have := bC.size; omega)
  clear mec hM mA mR mK mla mlk hz bB bC bx kB gB gC
  go_upto_if 18 with fail
  generalize wC.alloc (.cells #[.int .i64 mk, .string msp, .string mnm, .slice mao mas.length mca, .slice mbo mkd.length mcb, .string md] 25) = wD at *
  go_cut [19] (fun _ wx => Hid (∃ (k : Int) (sp nm d : ByteArray) (as' : List Gv.Att) (kids : List Gv.Node) (ao : Option Addr) (ca : Nat) (bo : Option Addr) (cb : Nat) (cs : Nat → List Value), Picked w wC.heap.size k sp nm d as' kids ao ca bo cb cs wx))
  case first =>
    cases pr with
    | false =>
      go_wp2_with fail
      go_meet
      obtain ⟨mA, mR, mK, mla, mlk, mz, mst⟩ := hmade.out
      exact Lib.hid ⟨_, _, _, _, _, _, _, _, _, _, _, picked_new mA mR mK mla mlk mz (Nat.le_refl _) mst kM gD⟩
    | true =>
      obtain ⟨x0, x1, x2, x3, x4, x5⟩ := node_open (show Cells wD _ _ (nodeArr rk rsp rnm (.slice rao ras.length rca) (.slice rbo rkd.length rcb) rd) from kD)
      obtain ⟨z0, z1, z2, z3, z4, z5⟩ := node_open (show Cells wD _ _ (nodeArr mk msp mnm (.slice mao mas.length mca) (.slice mbo mkd.length mcb) md) from kM)
      have f0 := kM.free 0
      have f1 := kM.free 1
      have f2 := kM.free 2
      have f3 := kM.free 3
      have f4 := kM.free 4
      have f5 := kM.free 5
      have hfin := Lib.hid (six_cells kM (.int .i64 rk) (.string rsp) (.string rnm) (.slice rao ras.length rca) (.slice rbo rkd.length rcb) (.string rd))
      have hbf := Lib.hid (six_below gD (Nat.le_of_lt hnb.out) (.int .i64 rk) (.string rsp) (.string rnm) (.slice rao ras.length rca) (.slice rbo rkd.length rcb) (.string rd))
      clear kM kD
      go_wp2_with fail
      go_meet
      obtain ⟨rA, rR, rK, rla, rlk, rz⟩ := hraw.out
      exact Lib.hid ⟨_, _, _, _, _, _, _, _, _, _, _, picked_new rA rR rK rla rlk rz (Nat.le_of_lt hnb.out) (stay_below hbf.out) hfin.out hbf.out⟩
  case rest =>
  obtain ⟨k, sp, nm, d, as', kids, ao, ca, bo, cb, cs, hP⟩ := hcut.out
  clear hcut hmade hraw kM kD gD
  generalize wc = wE at *
  clear wc
  have hsz := Lib.hid (fun W hb => refSize_any hP.nd hP.z W hb 3000 (by omega) (by omega))
  obtain ⟨x0, x1, x2, x3, x4, x5⟩ := node_open hP.c
  replace hP := Lib.hid hP
  go_wp2_with fail
  (with_reducible refine (hsz.out _ (Below.refl _ _)).mono ?_); rintro e wF ⟨⟨k1, rfl, q1, q2, q3⟩, bF⟩
  have hPF := hP.out.on bF
  clear x0 x1 x2 x3 x4 x5 hsz bF
  by_cases hk1 : k1 ≤ 3000
  case neg =>
    have y1 : (3000 : Int) < k1 := by omega
    clear hk1 q3
    have hfin := Lib.hid hPF.low
    go_wp2_with fail
    go_ret
    exact ⟨rfl, hfin.out⟩
  have y1 : ¬ (3000 : Int) < k1 := by omega
  have y1' : decide ((3000 : Int) < k1) = false := by simpa using hk1
  have hz1 := Lib.hid (show Gv.wt (.mk k sp nm as' kids d) ≤ 3000 by have := q3 hk1; omega)
  clear q3 hk1
  obtain ⟨x0, x1, x2, x3, x4, x5⟩ := node_open hPF.c
  have bm := (Below.refl wF.heap.size wF).alloc (Nat.le_refl _) (.cells #[.int .i64 k, .string sp, .string nm, .slice ao as'.length ca, .slice bo kids.length cb, .string d] 25)
  have kM := Cells.new wF 25 (nodeArr k sp nm (.slice ao as'.length ca) (.slice bo kids.length cb) d)
  unfold nodeArr at kM
  have hPG := hPF.on bm
  have hnm := hPF.c.lt
  have hwm : w.heap.size ≤ wF.heap.size := hPF.low.size
  replace hPF := Lib.hid hPF
  clear bm
  go_upto_region 10 with fail
  generalize wF.alloc (.cells #[.int .i64 k, .string sp, .string nm, .slice ao as'.length ca, .slice bo kids.length cb, .string d] 25) = wG at *
  have hO := Other.start (va := .slice ao as'.length ca) (vk := .slice bo kids.length cb) kM (Below.refl wF.heap.size wG)
  have m4 : wG.cell? ⟨wF.heap.size, 4, none⟩ = some (.slice bo kids.length cb) := kM.cell (i := 4) rfl
  have mf := kM.free 4
  have hatt := hPG.att.mono (S' := fun b => b < wF.heap.size) (fun b hb _ => Nat.lt_trans hb hnm)
  have hPH := hPG.far hO.low hnm hwm
  replace hatt := Lib.hid hatt
  replace hPG := Lib.hid hPG
  clear x0 x1 x2 x3 x4 x5
  go_upto_region 11 with fail
  clear m4 mf kM
  generalize wG.setCell ⟨wF.heap.size, 4, none⟩ (.slice none 0 0) = wH at *
  have x4 : wH.cell? ⟨wC.heap.size, 4, none⟩ = some (.slice bo kids.length cb) := hPH.c.cell (i := 4) rfl
  have hla := hPH.la
  have hlk := hPH.lk
  have hkc : kids.length ≤ 3000 := by
    have h1 := Am.kids_wt (.mk k sp nm as' kids d)
    exact Nat.le_trans h1 hz1.out
  replace hO := Lib.hid hO
  replace hPH := Lib.hid hPH
  go_wp2_with fail
  clear x4
  go_loopw [10] (fun iv wr => ∃ (j : Nat) (vk : Value) (D : List Gv.Node), iv = .int .i64 ((j : Int) - 1) ∧ j ≤ kids.length ∧ Hid (D = (kids.drop j).reverse) ∧ Hid (Other wF.heap.size wG k sp nm d (.slice ao as'.length ca) vk D wr)) (fun iv _ => ((intOf iv) + 1).toNat)
  case atStart => exact ⟨kids.length, _, _, rfl, Nat.le_refl _, Lib.hid (by simp), hO⟩
  case round =>
    obtain ⟨j, vk, D, rfl, hj, hD, hOr⟩ := hrel
    have hDl : D.length ≤ 3000 := by rw [hD.out, List.length_reverse, List.length_drop]; omega
    have hPr := hPG.out.far hOr.out.low hnm hwm
    obtain ⟨xo, xc, xcs, rfl, -⟩ := (hOr.out.kid.mono (S' := fun _ => True) (fun _ _ _ => trivial)).rows (fun _ _ _ => trivial)
    cases j with
    | zero =>
      have hno : ¬ (0 : Int) ≤ ((0 : Nat) : Int) - 1 := by omega
      have hDr : D = kids.reverse := by rw [hD.out, List.drop_zero]
      subst hDr
      obtain ⟨yo, yc, hye, hndm⟩ := hOr.out.node hatt.out hla
      injection hye with hy1 hy2 hy3
      subst hy1; subst hy3
      clear hy2
      have hnd := hPr.nd
      have hndn : Nd wr (nodeArr k sp nm (.slice ao as'.length ca) (.slice bo kids.length cb) d) (.mk k sp nm as' kids d) := ⟨_, hnd⟩
      have hzn : Gv.wt (.mk k sp nm as' kids d) ≤ 100000 := Nat.le_trans hz1.out (by omega)
      have hzm : Gv.wt (.mk k sp nm as' kids.reverse d) ≤ 100000 := by
        refine Nat.le_trans ?_ hzn
        rw [Gv.wt_mk, Gv.wt_mk, wts_reverse]
        exact Nat.le_refl _
      have gr := Lib.hid hPr.low
      have c1 := Lib.hid (fun W (hb : Below wr.heap.size wr W) => aCheck_any _ false W (hndn.on hb) hzn (hE.out.on (gr.out.trans (hb.mono gr.out.size))))
      have c2 := Lib.hid (fun W (hb : Below wr.heap.size wr W) => aCheck_any _ true W (hndn.on hb) hzn (hE.out.on (gr.out.trans (hb.mono gr.out.size))))
      have d1 := Lib.hid (fun W (hb : Below wr.heap.size wr W) => aCheck_any _ false W (hndm.on hb) hzm (hE.out.on (gr.out.trans (hb.mono gr.out.size))))
      have d2 := Lib.hid (fun W (hb : Below wr.heap.size wr W) => aCheck_any _ true W (hndm.on hb) hzm (hE.out.on (gr.out.trans (hb.mono gr.out.size))))
      have hrev : ∀ s, ckE (.mk k sp nm as' kids.reverse d) s = ckE (.mk k sp nm as' kids d) s := fun s => by
        unfold ckE
        rw [show (.mk k sp nm as' kids.reverse d : Gv.Node) = Am.withKids (.mk k sp nm as' kids d) (Am.kidsOf (.mk k sp nm as' kids d)).reverse from rfl, Am.check_reverse]
      rw [hrev] at d1 d2
      have hles : (ckE (.mk k sp nm as' kids d) true = 0 ∧ ckE (.mk k sp nm as' kids d) false = 0) ∨ ckE (.mk k sp nm as' kids d) true = 150 := by
        unfold ckE
        by_cases h : Am.check Am.onD (.mk k sp nm as' kids d) true = true
        · rw [if_pos h, if_pos (Am.check_less _ _ h)]; exact .inl ⟨rfl, rfl⟩
        · rw [if_neg h]; exact .inr rfl
      generalize ckE (.mk k sp nm as' kids d) true = B1 at *
      generalize ckE (.mk k sp nm as' kids d) false = A1 at *
      have hn := Lib.hid hPr.c
      have hm := Lib.hid hOr.out.c
      unfold nodeArr at c1 c2 d1 d2
      simp only [List.length_reverse] at d1 d2
      clear hnd hndn hndm hzn hzm hrev hPr hOr hD hDl
      obtain ⟨x0, x1, x2, x3, x4, x5⟩ := node_open hn.out
      go_upto_region 15 with fail
      refine wp_region_held_drew (S := fun w' => w'.cell? ⟨wC.heap.size, 0, none⟩ = some (.int .i64 k) ∧ w'.cell? ⟨wC.heap.size, 1, none⟩ = some (.string sp) ∧ w'.cell? ⟨wC.heap.size, 2, none⟩ = some (.string nm) ∧ w'.cell? ⟨wC.heap.size, 3, none⟩ = some (.slice ao as'.length ca) ∧ w'.cell? ⟨wC.heap.size, 4, none⟩ = some (.slice bo kids.length cb) ∧ w'.cell? ⟨wC.heap.size, 5, none⟩ = some (.string d) ∧ Below wr.heap.size wr w') (by kernel_rfl) ⟨x0, x1, x2, x3, x4, x5, (Below.refl _ _).drew⟩ (fun hH => ?_)
      clear x0 x1 x2 x3 x4 x5
      refine wpAnyH_take (i := 0) (v := .agg #[.int .i64 k, .string sp, .string nm, .slice ao as'.length ca, .slice bo kids.length cb, .string d]) rfl (by kernel_rfl) (by kernel_rfl) (by kernel_rfl) (fun _ _ _ h => h) (Or.inl ⟨by rfl, ?_⟩) (by assumption) ?_
      · intro w' hSw; (try dsimp only at hSw); go_simp
      try simp only [Act.put, List.setIfInBounds_toArray, List.set_cons_zero, List.set_cons_succ]
      refine wpAnyH_take (i := 2) (v := .agg #[.int .i64 k, .string sp, .string nm, .slice ao as'.length ca, .slice bo kids.length cb, .string d]) rfl (by kernel_rfl) (by kernel_rfl) (by kernel_rfl) (fun _ _ _ h => h) (Or.inl ⟨by rfl, ?_⟩) (by assumption) ?_
      · intro w' hSw; (try dsimp only at hSw); go_simp
      try simp only [Act.put, List.setIfInBounds_toArray, List.set_cons_zero, List.set_cons_succ]
      refine wpAnyH_ready (rs := [1]) (by kernel_rfl) (by simp) (AllReadyH.cons rfl (fun K hK => ?_) AllReadyH.nil)
      go_simp
      refine (amKeep6 (w0 := wr) (a0 := ⟨wC.heap.size, 0, none⟩) (a1 := ⟨wC.heap.size, 1, none⟩) (a2 := ⟨wC.heap.size, 2, none⟩) (a3 := ⟨wC.heap.size, 3, none⟩) (a4 := ⟨wC.heap.size, 4, none⟩) (a5 := ⟨wC.heap.size, 5, none⟩) (x0 := .int .i64 k) (x1 := .string sp) (x2 := .string nm) (x3 := .slice ao as'.length ca) (x4 := .slice bo kids.length cb) (x5 := .string d) (fun W hb => c1.out W hb) hH).mono ?_
      rintro e v2 ⟨rfl, hcb⟩
      refine hK.out _ _ hcb (fun hH1 => ?_)
      clear hK K hH hcb
      try simp only [Act.put, List.setIfInBounds_toArray, List.set_cons_zero, List.set_cons_succ]
      refine wpAnyH_ready (rs := [3]) (by kernel_rfl) (by simp) (AllReadyH.cons rfl (fun K hK => ?_) AllReadyH.nil)
      go_simp
      refine (amKeep6 (w0 := wr) (a0 := ⟨wC.heap.size, 0, none⟩) (a1 := ⟨wC.heap.size, 1, none⟩) (a2 := ⟨wC.heap.size, 2, none⟩) (a3 := ⟨wC.heap.size, 3, none⟩) (a4 := ⟨wC.heap.size, 4, none⟩) (a5 := ⟨wC.heap.size, 5, none⟩) (x0 := .int .i64 k) (x1 := .string sp) (x2 := .string nm) (x3 := .slice ao as'.length ca) (x4 := .slice bo kids.length cb) (x5 := .string d) (fun W hb => c2.out W hb) hH1).mono ?_
      rintro e v2 ⟨rfl, hcb⟩
      refine hK.out _ _ hcb (fun hH2 => ?_)
      clear hK K hH1 hcb
      try simp only [Act.put, List.setIfInBounds_toArray, List.set_cons_zero, List.set_cons_succ]
      refine wpAnyH_take (i := 4) (v := .int .i64 A1) rfl (by kernel_rfl) (by kernel_rfl) (by kernel_rfl) (fun _ _ _ h => h) (Or.inl ⟨by rfl, ?_⟩) (by assumption) ?_
      · intro w' hSw; (try dsimp only at hSw); go_simp
      try simp only [Act.put, List.setIfInBounds_toArray, List.set_cons_zero, List.set_cons_succ]
      refine wpAnyH_take (i := 5) (v := .int .i64 B1) rfl (by kernel_rfl) (by kernel_rfl) (by kernel_rfl) (fun _ _ _ h => h) (Or.inl ⟨by rfl, ?_⟩) (by assumption) ?_
      · intro w' hSw; (try dsimp only at hSw); go_simp
      try simp only [Act.put, List.setIfInBounds_toArray, List.set_cons_zero, List.set_cons_succ]
      refine wpAnyH_done (by kernel_rfl) ?_ _
      have hcb := hH2
      clear hH2
      all_goals
        obtain ⟨-, -, -, -, -, -, b6⟩ := hcb
        have h6 := hm.out.on b6
        obtain ⟨y0, y1x, y2, y3, y4, y5⟩ := node_open h6
        rcases hles with ⟨rfl, rfl⟩ | rfl
        all_goals
          go_wp2_with fail
          (refine (d1.out _ b6).mono ?_); rintro e w7 ⟨rfl, b7⟩
          have b67 := b6.trans (b7.mono b6.size)
          obtain ⟨v0, v1, v2, v3, v4, v5⟩ := node_open (h6.on b7)
          clear y0 y1x y2 y3 y4 y5
          go_wp2_with fail
          (refine (d2.out _ b67).mono ?_); rintro e w8 ⟨rfl, b8⟩
          have b68 := b67.trans (b8.mono b67.size)
          go_wp2_with fail
          go_ret
          exact ⟨by first | rfl | simp, gr.out.trans (b68.mono gr.out.size)⟩
    | succ t =>
      have hge : (0 : Int) ≤ ((t + 1 : Nat) : Int) - 1 := by omega
      have hi1 : (((t + 1 : Nat) : Int) - 1) = (t : Int) := by omega
      have htl : t < kids.length := hj
      have hti : (t : Int) < (kids.length : Int) := by omega
      obtain ⟨ro, rcap, hre, hrows⟩ := hPr.row
      injection hre with hr1 _ hr3
      subst hr1; subst hr3
      obtain ⟨h6, rb, roff, rfl, hrb, hrc⟩ := hrows t htl
      have hkt := hPr.kid t htl
      obtain ⟨nk, nsp, nnm, nd, nas, nkd, nao, nbo, nca, ncb, ncs, hne, hce, -⟩ := hkt.open'
      rw [hce] at hkt hrc
      have c0 := hrc 0 _ rfl
      have c1 := hrc 1 _ rfl
      have c2 := hrc 2 _ rfl
      have c3 := hrc 3 _ rfl
      have c4 := hrc 4 _ rfl
      have c5 := hrc 5 _ rfl
      rw [Nat.add_zero] at c0
      have hnx : Hid (D ++ [kids[t]] = (kids.drop t).reverse) := Lib.hid (by rw [hD.out, List.drop_eq_getElem_cons htl, List.reverse_cons])
      generalize kids[t] = kt at *
      have n4 : wr.cell? ⟨wC.heap.size, 4, none⟩ = some (.slice (some ⟨rb, roff, none⟩) kids.length cb) := hPr.c.cell (i := 4) rfl
      have o4 : wr.cell? ⟨wF.heap.size, 4, none⟩ = some (.slice xo D.length xc) := hOr.out.c.cell (i := 4) rfl
      have hgr := Lib.hid hOr.out.low.size
      have hrow0 := World.ownsRow.lt hOr.out.kid.choose_spec.2.1
      replace hrow0 := Lib.hid hrow0
      replace hkt := Lib.hid hkt
      replace hrb := Lib.hid hrb
      replace hne := Lib.hid hne
      rw [hi1]
      clear hrows h6 hce hrc
      have hon := fun {W : World} {a : Addr} {v : Value} (b : Below wr.heap.size wr W) (hx : wr.cell? a = some v) => (b.cell (World.block_lt_of_cell? wr _ hx)).trans hx
      have hcw : Hid (∀ w', Below wr.heap.size wr w' → w'.cell? ⟨wF.heap.size, 4, none⟩ = some (.slice xo D.length xc) ∧ w'.cell? ⟨wC.heap.size, 4, none⟩ = some (.slice (some ⟨rb, roff, none⟩) kids.length cb) ∧ w'.cell? ⟨rb, roff + t * 6, none⟩ = some (.int .i64 nk) ∧ w'.cell? ⟨rb, roff + t * 6 + 1, none⟩ = some (.string nsp) ∧ w'.cell? ⟨rb, roff + t * 6 + 2, none⟩ = some (.string nnm) ∧ w'.cell? ⟨rb, roff + t * 6 + 3, none⟩ = some (.slice nao nas.length nca) ∧ w'.cell? ⟨rb, roff + t * 6 + 4, none⟩ = some (.slice nbo nkd.length ncb) ∧ w'.cell? ⟨rb, roff + t * 6 + 5, none⟩ = some (.string nd)) := Lib.hid (fun _ b => ⟨hon b o4, hon b n4, hon b c0, hon b c1, hon b c2, hon b c3, hon b c4, hon b c5⟩)
      clear hon
      go_upto_region 14 with fail
      refine wp_region_last (n := 10) (S := fun w' => w'.cell? ⟨wF.heap.size, 4, none⟩ = some (.slice xo D.length xc) ∧ w'.cell? ⟨wC.heap.size, 4, none⟩ = some (.slice (some ⟨rb, roff, none⟩) kids.length cb) ∧ w'.cell? ⟨rb, roff + t * 6, none⟩ = some (.int .i64 nk) ∧ w'.cell? ⟨rb, roff + t * 6 + 1, none⟩ = some (.string nsp) ∧ w'.cell? ⟨rb, roff + t * 6 + 2, none⟩ = some (.string nnm) ∧ w'.cell? ⟨rb, roff + t * 6 + 3, none⟩ = some (.slice nao nas.length nca) ∧ w'.cell? ⟨rb, roff + t * 6 + 4, none⟩ = some (.slice nbo nkd.length ncb) ∧ w'.cell? ⟨rb, roff + t * 6 + 5, none⟩ = some (.string nd)) (by kernel_rfl) (by rfl) (by rfl) (by rfl) (by rfl) (by kernel_rfl) (hcw.out _ (Below.refl _ _).drew) (fun hH => ?_)
      simp only [lastNop, nopOf, List.setIfInBounds_toArray, List.set_cons_succ, List.set_cons_zero]
      have hb0 := Lib.hid (Below.refl wr.heap.size wr).drew
      generalize wr.drew = v0 at *
      clear c0 c1 c2 c3 c4 c5 n4 o4
      refine wpAnyH_take (i := 0) (v := .pointer (some ⟨wF.heap.size, 4, none⟩)) rfl (by kernel_rfl) (by kernel_rfl) (by kernel_rfl) (fun _ _ _ h => h) (Or.inl ⟨by rfl, ?_⟩) (by assumption) ?_
      · intro w' hSw; (try dsimp only at hSw); go_simp
      try simp only [Act.put, List.setIfInBounds_toArray, List.set_cons_zero, List.set_cons_succ]
      refine wpAnyH_take (i := 1) (v := .slice xo D.length xc) rfl (by kernel_rfl) (by kernel_rfl) (by kernel_rfl) (fun _ _ _ h => h) (Or.inl ⟨by rfl, ?_⟩) (by assumption) ?_
      · intro w' hSw; (try dsimp only at hSw); go_simp
      try simp only [Act.put, List.setIfInBounds_toArray, List.set_cons_zero, List.set_cons_succ]
      refine wpAnyH_take (i := 2) (v := .pointer (some ⟨wC.heap.size, 4, none⟩)) rfl (by kernel_rfl) (by kernel_rfl) (by kernel_rfl) (fun _ _ _ h => h) (Or.inl ⟨by rfl, ?_⟩) (by assumption) ?_
      · intro w' hSw; (try dsimp only at hSw); go_simp
      try simp only [Act.put, List.setIfInBounds_toArray, List.set_cons_zero, List.set_cons_succ]
      refine wpAnyH_take (i := 3) (v := .slice (some ⟨rb, roff, none⟩) kids.length cb) rfl (by kernel_rfl) (by kernel_rfl) (by kernel_rfl) (fun _ _ _ h => h) (Or.inl ⟨by rfl, ?_⟩) (by assumption) ?_
      · intro w' hSw; (try dsimp only at hSw); go_simp
      try simp only [Act.put, List.setIfInBounds_toArray, List.set_cons_zero, List.set_cons_succ]
      refine wpAnyH_take (i := 4) (v := .int .i64 (t : Int)) rfl (by kernel_rfl) (by kernel_rfl) (by kernel_rfl) (fun _ _ _ h => h) (Or.inl ⟨by rfl, ?_⟩) (by assumption) ?_
      · intro w' hSw; (try dsimp only at hSw); go_simp
      try simp only [Act.put, List.setIfInBounds_toArray, List.set_cons_zero, List.set_cons_succ]
      refine wpAnyH_take (i := 5) (v := .pointer (some ⟨rb, roff + t * 6, none⟩)) rfl (by kernel_rfl) (by kernel_rfl) (by kernel_rfl) (fun _ _ _ h => h) (Or.inl ⟨by rfl, ?_⟩) (by assumption) ?_
      · intro w' hSw; (try dsimp only at hSw); go_simp
      try simp only [Act.put, List.setIfInBounds_toArray, List.set_cons_zero, List.set_cons_succ]
      refine wpAnyH_take (i := 6) (v := .agg #[.int .i64 nk, .string nsp, .string nnm, .slice nao nas.length nca, .slice nbo nkd.length ncb, .string nd]) rfl (by kernel_rfl) (by kernel_rfl) (by kernel_rfl) (fun _ _ _ h => h) (Or.inl ⟨by rfl, ?_⟩) (by assumption) ?_
      · intro w' hSw; (try dsimp only at hSw); go_simp
      try simp only [Act.put, List.setIfInBounds_toArray, List.set_cons_zero, List.set_cons_succ]
      refine wpAnyH_ready (rs := [7]) (by kernel_rfl) (by simp) (AllReadyH.cons rfl (fun K hK => ?_) AllReadyH.nil)
      go_simp
      have ba := (Below.refl v0.heap.size v0).alloc (Nat.le_refl _) (.cells #[.int .i64 nk, .string nsp, .string nnm, .slice nao nas.length nca, .slice nbo nkd.length ncb, .string nd] 25)
      have hr := Lib.hid (am_cells_row v0 [.int .i64 nk, .string nsp, .string nnm, .slice nao nas.length nca, .slice nbo nkd.length ncb, .string nd] 25)
      have hb2 := Lib.hid (hb0.out.trans (ba.mono hb0.out.size))
      refine hK.out _ _ (hcw.out _ hb2.out) (fun hH2 => ?_)
      clear hK K hH ba
      generalize v0.alloc (.cells #[.int .i64 nk, .string nsp, .string nnm, .slice nao nas.length nca, .slice nbo nkd.length ncb, .string nd] 25) = v2 at *
      try simp only [Act.put, List.setIfInBounds_toArray, List.set_cons_zero, List.set_cons_succ]
      refine wpAnyH_ready (rs := [8]) (by kernel_rfl) (by simp) (AllReadyH.cons rfl (fun K hK => ?_) AllReadyH.nil)
      have gW := hOr.out.on hb2.out
      have hlW := gW.c.lt
      obtain ⟨css, hcl, hown, hkd⟩ := gW.kid
      have hvb : ∀ x, (Value.slice xo D.length xc).ownBlock = some x → wF.heap.size + 1 ≤ x := fun x e => (World.ownsRow.lt hown x e).1
      refine step_append_lies _ (by rfl) _ _ _ (by rfl) (wF.heap.size + 1) 25 i0 _ 6 104 Tryz.underlying23 hi hz0 hz1' hz2 rfl (by decide) (.slice xo D.length xc) D.length css.flatten (by rfl) hown ⟨v0.heap.size, 0, none⟩ 1 1 [.int .i64 nk, .string nsp, .string nnm, .slice nao nas.length nca, .slice nbo nkd.length ncb, .string nd] rfl rfl hr.out (by simp [Value.oneCell']) (by decide) (by unfold maxLen; omega) (by omega) (by omega) _ rfl ?_
      intro gg cap5 v3 hown5 hg5 hat5 hlt5
      have nV : Cells v3 wF.heap.size 25 _ := (hg5.block wF.heap.size hlW (fun e => by have := hvb _ e.symm; omega)).trans gW.c
      have hsame : ∀ b o, b < wF.heap.size → v3.cell? ⟨b, o, none⟩ = v2.cell? ⟨b, o, none⟩ := fun b o hlt => World.cell?_of_block (a := ⟨b, o, none⟩) (hg5.block b (by omega) (fun e => by have := hvb _ e.symm; omega))
      have hrb2 : rb < wF.heap.size := Nat.lt_trans hrb.out hnm
      have hS2 := hcw.out _ hb2.out
      refine hK.out _ _ ⟨nV.cell (i := 4) rfl, (hsame _ _ hnm).trans hS2.2.1, (hsame _ _ hrb2).trans hS2.2.2.1, (hsame _ _ hrb2).trans hS2.2.2.2.1, (hsame _ _ hrb2).trans hS2.2.2.2.2.1, (hsame _ _ hrb2).trans hS2.2.2.2.2.2.1, (hsame _ _ hrb2).trans hS2.2.2.2.2.2.2.1, (hsame _ _ hrb2).trans hS2.2.2.2.2.2.2.2⟩ (fun hH3 => ?_)
      have nF := nV.free 4
      have nC := nV.cell (i := 4) rfl
      clear hK K hH2 nV hsame hS2
      try simp only [Act.put, List.setIfInBounds_toArray, List.set_cons_zero, List.set_cons_succ]
      refine wpAnyH_take (i := 9) (v := .pointer (some ⟨wF.heap.size, 4, none⟩)) rfl (by kernel_rfl) (by kernel_rfl) (by kernel_rfl) (fun _ _ _ h => h) (Or.inl ⟨by rfl, ?_⟩) (by assumption) ?_
      · intro w' hSw; (try dsimp only at hSw); go_simp
      try simp only [Act.put, List.setIfInBounds_toArray, List.set_cons_zero, List.set_cons_succ]
      refine wpAnyH_take (i := 10) (v := .bool true) rfl (by kernel_rfl) (by kernel_rfl) (by kernel_rfl) (fun _ _ _ h => h) (Or.inl ⟨by rfl, ?_⟩) (by assumption) ?_
      · intro w' hSw; (try dsimp only at hSw); go_simp
      try simp only [Act.put, List.setIfInBounds_toArray, List.set_cons_zero, List.set_cons_succ]
      refine wpAnyH_done (by kernel_rfl) ?_ _
      show Oper.wp _ _ _ _ _ _
      go_simp
      have hkn : NodeAt (fun b => b < wF.heap.size ∧ some b ≠ (Value.slice xo D.length xc).ownBlock) v2 [.int .i64 nk, .string nsp, .string nnm, .slice nao nas.length nca, .slice nbo nkd.length ncb, .string nd] kt := (hkt.out.on hb2.out).mono (fun b hb _ => ⟨Nat.lt_trans hb hnm, fun e => by have := hvb _ e.symm; omega⟩)
      have st9 := Lib.hid (gW.put (kids_more hcl hkd hkn hown5 hg5 (hat5.imp (fun e => e.symm) (fun e => by rw [e] <;> first | rfl | simp [Value.ownBlock])) (Nat.le_refl _)) hg5)
      clear hown5 hg5 hat5 hlt5 hown hkd gW nC nF hcw hkn
      generalize v3.setCell ⟨wF.heap.size, 4, none⟩ (.slice (some ⟨gg, 0, none⟩) (D.length + 1) cap5) = w9 at *
      go_wp2_with fail
      go_round
      case rel => exact ⟨t, _, _, by go_num, by omega, hnx, st9⟩
      case measure => simp [intOf]
end Go.Proofs.YtbaclacfadkjdaaGreatDoor
