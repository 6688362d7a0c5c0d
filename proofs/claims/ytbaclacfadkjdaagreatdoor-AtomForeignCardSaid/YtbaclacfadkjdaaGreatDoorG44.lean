/-
  AtomForeign: kids of another space, comments and texts change nothing.
-/
import Derived.Test.YtbaclacfadkjdaaGreatDoorG33
import Derived.Test.YtbaclacfadkjdaaGreatDoorG41
import Derived.Test.YtbaclacfadkjdaaGreatDoorG11
import Derived.Maps.AppendAt
namespace Go.Proofs.YtbaclacfadkjdaaGreatDoor
open Go.RowKit
set_option linter.unusedSimpArgs false
set_option linter.unusedVariables false
theorem kids_app {S : Nat → Prop} {B N : Nat} {v v' : Value} {kids K2 : List Gv.Node} {css : List (List Value)} {w w' : World} {cs2 : Nat → List Value} (h1 : css.length = kids.length)
    (h3 : ∀ j (h1 : j < css.length) (h2 : j < kids.length), NodeAt (fun b => S b ∧ some b ≠ v.ownBlock) w css[j] kids[j]) (hk : ∀ j (h : j < K2.length), NodeAt (fun b => S b ∧ some b ≠ v.ownBlock) w (cs2 j) K2[j])
    (hr : w'.ownsRow B 25 6 v' (kids.length + K2.length) (css.flatten ++ (kidList K2.length cs2).flatten)) (hg : w.grownBy w' v.ownBlock) (hat : v'.ownBlock = v.ownBlock ∨ v'.ownBlock = some N) (hN : w.heap.size ≤ N) : OwnsKids S B v' (kids ++ K2) w' := by
  have step : ∀ {c : List Value} {n : Gv.Node}, NodeAt (fun b => S b ∧ some b ≠ v.ownBlock) w c n → NodeAt (fun b => S b ∧ some b ≠ v'.ownBlock) w' c n := fun {c n} h => by
    have h' : NodeAt (fun b => (S b ∧ some b ≠ v.ownBlock) ∧ some b ≠ v'.ownBlock) w c n := h.mono fun b hb hl => ⟨hb, by
      rcases hat with e | e
      · rw [e]; exact hb.2
      · rw [e]; intro x; injection x with x; omega⟩
    exact (h'.stay (stay_grown hg (fun g e x => x.1.2 e.symm))).mono fun b hb _ => ⟨hb.1.1, hb.2⟩
  refine ⟨css ++ kidList K2.length cs2, by simp [h1, kidList_len], by rw [List.length_append, List.flatten_append]; exact hr, fun j a b => ?_⟩
  by_cases hj : j < css.length
  · rw [List.getElem_append_left hj, List.getElem_append_left (by omega)]
    exact step (h3 j hj (by omega))
  · have hj2 : j - kids.length < K2.length := by rw [List.length_append] at b; omega
    rw [List.getElem_append_right (by omega), List.getElem_append_right (by omega), kidList_at]
    simp only [h1]
    exact step (hk _ hj2)
theorem wp_app_kids {S2 : Nat → Prop} {mb : Nat} {K1 K2 : List Gv.Node} {v : Value} {bo : Option Addr} {m cb : Nat} {cs2 : Nat → List Value} {o : Oper} {a : Act} {K : Act → World → Prop} {Q : Exit → Act → World → Prop} {w : World} (s x : Operand)
    (ho : o.op = .call { callee := .builtin .append, args := #[s, x], argTypes := #[23, 23] }) (hs : a.eval s = v) (hO : OwnsKids (fun b => b < mb) (mb + 1) v K1 w) (hx : a.eval x = .slice bo m cb) (hrow : RowsAt S2 w (.slice bo m cb) m cs2) (hm : K2.length = m) (hk : ∀ j (h : j < K2.length), NodeAt (fun b => b < mb) w (cs2 j) K2[j]) (hbo : bo = none → m = 0 ∧ cb = 0) (hlen : K1.length + m ≤ 1000000) (hB : mb + 1 ≤ w.heap.size)
    (h : ∀ v' w', OwnsKids (fun b => b < mb) (mb + 1) v' (K1 ++ K2) w' → w.grownBy w' v.ownBlock → K (a.put o.dst v') w') : Oper.wp Tryz.prog o a w K Q := by
  obtain ⟨i0, hi, hz0, hz1, hz2⟩ := info_parts infoNode
  obtain ⟨css, hcl, hown, hkd⟩ := id hO
  cases bo with
  | none =>
    obtain ⟨rfl, rfl⟩ := hbo rfl
    have hr := run_append_owned_none (P := Tryz.prog) (w := w) (mb + 1) 23 o.type 25 i0 6 Tryz.underlying23 hi v K1.length css.flatten hown
    obtain rfl : K2 = [] := List.eq_nil_of_length_eq_zero hm
    unfold Oper.wp execOp
    simp only [ho, resolve, invoke, builtin, Sem.run_bind, Sem.run_pure, Result.andThen_ok, List.map_toArray, List.map_cons, List.map_nil, hs, hx, hr]
    exact h _ _ (by rw [List.append_nil]; exact hO) (grown_of_below (Below.refl _ _) _)
  | some ad =>
    subst hm
    obtain ⟨hl, hnews⟩ := rows_news hrow
    have hvb : ∀ j, v.ownBlock = some j → mb + 1 ≤ j := fun j e => (World.ownsRow.lt hown j e).1
    have hk' : ∀ j (h : j < K2.length), NodeAt (fun b => b < mb ∧ some b ≠ v.ownBlock) w (cs2 j) K2[j] := fun j hj => (hk j hj).mono fun b hb _ => ⟨hb, fun e => by have := hvb b e.symm; omega⟩
    obtain ⟨v', w', hr, h2, h3, h4, h5⟩ := run_append_own_at (P := Tryz.prog) w (mb + 1) 23 o.type 25 i0 _ 6 104 Tryz.underlying23 hi hz0 hz1 hz2 rfl (by decide) v K1.length css.flatten hown ad K2.length cb (kidList K2.length cs2).flatten hl hnews (kidList_one hk) (by unfold maxLen; omega) (by omega) hB
    unfold Oper.wp execOp
    simp only [ho, resolve, invoke, builtin, Sem.run_bind, Sem.run_pure, Result.andThen_ok, List.map_toArray, List.map_cons, List.map_nil, hs, hx, hr]
    exact h _ _ (kids_app hcl hkd hk' h2 h3 h5 (Nat.le_refl _)) h3
theorem step_app_kids {S2 : Nat → Prop} {mb : Nat} {K1 K2 : List Gv.Node} {v : Value} {bo : Option Addr} {m cb : Nat} {cs2 : Nat → List Value} {ops : Array Oper} {o : Oper} {a : Act} {K : Act → World → Prop} {Q : Exit → Act → World → Prop} {E : Prop} {w : World} (hgd : o.guard = none) (s x : Operand)
    (ho : o.op = .call { callee := .builtin .append, args := #[s, x], argTypes := #[23, 23] }) (hs : a.eval s = v) (hO : OwnsKids (fun b => b < mb) (mb + 1) v K1 w) (hx : a.eval x = .slice bo m cb) (hrow : RowsAt S2 w (.slice bo m cb) m cs2) (hm : K2.length = m) (hk : ∀ j (h : j < K2.length), NodeAt (fun b => b < mb) w (cs2 j) K2[j]) (hbo : bo = none → m = 0 ∧ cb = 0) (hlen : K1.length + m ≤ 1000000) (hB : mb + 1 ≤ w.heap.size)
    (h : ∀ v' w', OwnsKids (fun b => b < mb) (mb + 1) v' (K1 ++ K2) w' → w.grownBy w' v.ownBlock → K (a.put o.dst v') w') : if Region.wanted o (yielded ops a.tmps) = true then Oper.wp Tryz.prog o a w K Q else E := by
  rw [if_pos (by simp [Region.wanted, hgd])]
  exact wp_app_kids s x ho hs hO hx hrow hm hk hbo hlen hB h
theorem wpList_app_kids {S2 : Nat → Prop} {mb : Nat} {K1 K2 : List Gv.Node} {v : Value} {bo : Option Addr} {m cb : Nat} {cs2 : Nat → List Value} {ops : Array Oper} {rest : List Oper} {o : Oper} {a : Act} {Q : Exit → Act → World → Prop} {w : World} (hgd : o.guard = none) (s x : Operand)
    (ho : o.op = .call { callee := .builtin .append, args := #[s, x], argTypes := #[23, 23] }) (hs : a.eval s = v) (hO : OwnsKids (fun b => b < mb) (mb + 1) v K1 w) (hx : a.eval x = .slice bo m cb) (hrow : RowsAt S2 w (.slice bo m cb) m cs2) (hm : K2.length = m) (hk : ∀ j (h : j < K2.length), NodeAt (fun b => b < mb) w (cs2 j) K2[j]) (hbo : bo = none → m = 0 ∧ cb = 0) (hlen : K1.length + m ≤ 1000000) (hB : mb + 1 ≤ w.heap.size)
    (h : ∀ v' w', OwnsKids (fun b => b < mb) (mb + 1) v' (K1 ++ K2) w' → w.grownBy w' v.ownBlock → wpList Tryz.prog ops Q rest (a.put o.dst v') w') : wpList Tryz.prog ops Q (o :: rest) a w :=
  wpList_plain hgd fun _ hK => wp_app_kids s x ho hs hO hx hrow hm hk hbo hlen hB fun v' w' a b => hK _ _ (h v' w' a b)
theorem rows_sliced {S : Nat → Prop} {w : World} {bo : Option Addr} {m cb : Nat} {cs : Nat → List Value} (h : RowsAt S w (.slice bo m cb) m cs) (l r : Nat) (h1 : r ≤ m) (h2 : m ≤ cb) : RowsAt S w (.slice (if cb = l then bo else bo.map (·.add (l * 6))) (r - l) (cb - l)) (r - l) (fun j => cs (l + j)) := by
  refine ⟨_, _, rfl, fun j hj => ?_⟩
  obtain ⟨_, _, e0, c0⟩ := h
  cases e0
  obtain ⟨h6, b, off, rfl, hb, hc⟩ := c0 (l + j) (by omega)
  refine ⟨h6, b, off + l * 6, ?_, hb, fun i u hu => ?_⟩
  · rw [if_neg (by omega)]
    simp [Addr.add]
  · have := hc i u hu
    rw [← this]
    congr 2
    omega
theorem sliced_none {bo : Option Addr} {m cb l : Nat} (h : bo = none → m = 0 ∧ cb = 0) (r : Nat) (h1 : r ≤ m) : (if cb = l then bo else bo.map (·.add (l * 6))) = none → r - l = 0 ∧ cb - l = 0 := by
  cases bo with
  | none => intro _; have := h rfl; omega
  | some a => intro e; exfalso; split at e <;> cases e
theorem amKeep12 {f : FuncId} {args : Array Value} {v : Value} {W w0 : World} {a0 a1 a2 a3 a4 a5 a6 a7 a8 a9 a10 a11 : Addr} {x0 x1 x2 x3 x4 x5 x6 x7 x8 x9 x10 x11 : Value} (hC : ∀ W, Below w0.heap.size w0 W → Calls Tryz.prog f args W fun e w' => e = .returned v ∧ Below W.heap.size W w')
    (h : W.cell? a0 = some x0 ∧ W.cell? a1 = some x1 ∧ W.cell? a2 = some x2 ∧ W.cell? a3 = some x3 ∧ W.cell? a4 = some x4 ∧ W.cell? a5 = some x5 ∧ W.cell? a6 = some x6 ∧ W.cell? a7 = some x7 ∧ W.cell? a8 = some x8 ∧ W.cell? a9 = some x9 ∧ W.cell? a10 = some x10 ∧ W.cell? a11 = some x11 ∧ Below w0.heap.size w0 W) :
    Calls Tryz.prog f args W fun e w' => e = .returned v ∧ (w'.cell? a0 = some x0 ∧ w'.cell? a1 = some x1 ∧ w'.cell? a2 = some x2 ∧ w'.cell? a3 = some x3 ∧ w'.cell? a4 = some x4 ∧ w'.cell? a5 = some x5 ∧ w'.cell? a6 = some x6 ∧ w'.cell? a7 = some x7 ∧ w'.cell? a8 = some x8 ∧ w'.cell? a9 = some x9 ∧ w'.cell? a10 = some x10 ∧ w'.cell? a11 = some x11 ∧ Below w0.heap.size w0 w') := by
  obtain ⟨h0, h1, h2, h3, h4, h5, h6, h7, h8, h9, h10, h11, e⟩ := h
  refine (hC W e).mono fun _ _ ⟨he, hb⟩ => ⟨he, ?_⟩
  have on := fun {a : Addr} {x : Value} (hx : W.cell? a = some x) => (hb.cell (World.block_lt_of_cell? W _ hx)).trans hx
  exact ⟨on h0, on h1, on h2, on h3, on h4, on h5, on h6, on h7, on h8, on h9, on h10, on h11, e.trans (hb.mono e.size)⟩
set_option maxRecDepth 100000 in
set_option maxHeartbeats 12800000 in
theorem foreign_any {ao0 : Option Addr} {cap0 : Nat} {c : List Value} {n0 : Gv.Node} (L : List (Nat × Nat × Nat)) (pr : Bool) (at_ wh : Nat) (hat : at_ < 256) (hwh : wh < 256) (w : World) (hL : BitsIn w ao0 L) (hlen : L.length ≤ 9223372036854775807) (hN : NodeAt (fun _ => True) w c n0) (hcap : ∀ bo m cb, c[4]? = some (.slice bo m cb) → (bo = none → m = 0 ∧ cb = 0) ∧ m ≤ cb) (hs0 : Sized n0) (hE : Env w) :
    Calls Tryz.prog 6 #[.slice ao0 L.length cap0, .agg c.toArray, .bool pr, .int .u8 (at_ : Int), .int .u8 (wh : Int)] w fun e w' => e = .returned (.bool true) ∧ Below w.heap.size w w' := by
  obtain ⟨i0, hi, hz0, hz1', hz2⟩ := info_parts infoNode
  obtain ⟨rk, rsp, rnm, rd, ras, rkd, rao, rbo, rca, rcb, rcs, rfl, rfl, rA, rR, rK, rla, rlk⟩ := hN.open'
  have bA := (Below.refl w.heap.size w).alloc (Nat.le_refl _) (.cells #[.int .i64 rk, .string rsp, .string rnm, .slice rao ras.length rca, .slice rbo rkd.length rcb, .string rd] 25)
  have kA := Cells.new w 25 (nodeArr rk rsp rnm (.slice rao ras.length rca) (.slice rbo rkd.length rcb) rd)
  unfold nodeArr at kA
  have hraw := Lib.hid (⟨rA, rR, rK, rla, rlk, hs0, hcap _ _ _ rfl⟩ : _ ∧ _ ∧ _ ∧ _ ∧ _ ∧ _ ∧ _)
  replace hE := Lib.hid hE
  replace hL := Lib.hid hL
  clear hN rA rR rK rla rlk hs0 hcap
  go_enter Tryz.func6, Tryz.ntmps6
  go_upto_region 1 with fail
  have hnA : w.heap.size < (w.alloc (.cells #[.int .i64 rk, .string rsp, .string rnm, .slice rao ras.length rca, .slice rbo rkd.length rcb, .string rd] 25)).heap.size := by simp
  generalize w.alloc (.cells #[.int .i64 rk, .string rsp, .string rnm, .slice rao ras.length rca, .slice rbo rkd.length rcb, .string rd] 25) = wA at *
  go_wp2_with fail
  (refine (awake_any _ (hE.out.on bA)).mono ?_); rintro e wB ⟨rfl, bB⟩
  have gB := bA.trans (bB.mono bA.size)
  have kB := kA.on bB
  clear kA bA
  go_wp2_with fail
  (refine (made_any _ false _ (hL.out.below gB) hlen).mono ?_); rintro e wC ⟨bC, A, n1, rfl, hnd, hz, hmc⟩
  obtain ⟨S, hM⟩ := hnd
  obtain ⟨mk, msp, mnm, md, mas, mkd, mao, mbo, mca, mcb, mcs, rfl, mec, mA, mR, mK, mla, mlk⟩ := hM.open'
  obtain rfl : A = nodeArr mk msp mnm (.slice mao mas.length mca) (.slice mbo mkd.length mcb) md := by apply Array.toList_inj.1; exact mec
  unfold nodeArr at *
  replace hmc := Lib.hid (hmc _ _ _ rfl)
  have bx := (Below.refl wC.heap.size wC).alloc (Nat.le_refl _) (.cells #[.int .i64 mk, .string msp, .string mnm, .slice mao mas.length mca, .slice mbo mkd.length mcb, .string md] 25)
  have kM := Cells.new wC 25 (nodeArr mk msp mnm (.slice mao mas.length mca) (.slice mbo mkd.length mcb) md)
  unfold nodeArr at kM
  have gC := gB.trans (bC.mono gB.size)
  have gD := gC.trans (bx.mono gC.size)
  have kD := (kB.on bC).on bx
  have hmade := Lib.hid (⟨mA, mR, mK, mla, mlk, sized_of_wt _ _ hz (by omega), stay_below (S := fun b => b < wC.heap.size) bx⟩ : _ ∧ _ ∧ _ ∧ _ ∧ _ ∧ _ ∧ _)
  have hnb := Lib.hid (show w.heap.size < wC.heap.size by have := bB.size; have := bC.size; omega)
  clear mec hM mA mR mK mla mlk hz bB bC bx kB gB gC
  go_upto_if 21 with fail
  generalize wC.alloc (.cells #[.int .i64 mk, .string msp, .string mnm, .slice mao mas.length mca, .slice mbo mkd.length mcb, .string md] 25) = wD at *
  go_cut [22] (fun _ wx => Hid (∃ (k : Int) (sp nm d : ByteArray) (as' : List Gv.Att) (kids : List Gv.Node) (ao : Option Addr) (ca : Nat) (bo : Option Addr) (cb : Nat) (cs : Nat → List Value), Picked w wC.heap.size k sp nm d as' kids ao ca bo cb cs wx ∧ ((bo = none → kids.length = 0 ∧ cb = 0) ∧ kids.length ≤ cb)))
  case first =>
    cases pr with
    | false =>
      go_wp2_with fail
      go_meet
      obtain ⟨mA, mR, mK, mla, mlk, mz, mst⟩ := hmade.out
      exact Lib.hid ⟨_, _, _, _, _, _, _, _, _, _, _, ⟨picked_new mA mR mK mla mlk mz (Nat.le_refl _) mst kM gD, hmc.out⟩⟩
    | true =>
      obtain ⟨x0, x1, x2, x3, x4, x5⟩ := node_open (show Cells wD _ _ (nodeArr rk rsp rnm (.slice rao ras.length rca) (.slice rbo rkd.length rcb) rd) from kD)
      obtain ⟨z0, z1, z2, z3, z4, z5⟩ := node_open (show Cells wD _ _ (nodeArr mk msp mnm (.slice mao mas.length mca) (.slice mbo mkd.length mcb) md) from kM)
      have f0 := kM.free 0
      have f1 := kM.free 1
      have f2 := kM.free 2
      have f3 := kM.free 3
      have f4 := kM.free 4
      have f5 := kM.free 5
      have hfin := Lib.hid (six_cells kM (.int .i64 rk) (.string rsp) (.string rnm) (.slice rao ras.length rca) (.slice rbo rkd.length rcb) (.string rd))
      have hbf := Lib.hid (six_below gD (Nat.le_of_lt hnb.out) (.int .i64 rk) (.string rsp) (.string rnm) (.slice rao ras.length rca) (.slice rbo rkd.length rcb) (.string rd))
      clear kM kD
      go_wp2_with fail
      go_meet
      obtain ⟨rA, rR, rK, rla, rlk, rz, rc⟩ := hraw.out
      exact Lib.hid ⟨_, _, _, _, _, _, _, _, _, _, _, ⟨picked_new rA rR rK rla rlk rz (Nat.le_of_lt hnb.out) (stay_below hbf.out) hfin.out hbf.out, rc⟩⟩
  case rest =>
  obtain ⟨k, sp, nm, d, as', kids, ao, ca, bo, cb, cs, ⟨hP, hcb⟩⟩ := hcut.out
  clear hcut hmade hraw kM kD gD
  generalize wc = wE at *
  clear wc
  have hsz := Lib.hid (fun W hb => refSize_any hP.nd hP.z W hb 3000 (by omega) (by omega))
  obtain ⟨x0, x1, x2, x3, x4, x5⟩ := node_open hP.c
  replace hP := Lib.hid hP
  go_wp2_with fail
  (with_reducible refine (hsz.out _ (Below.refl _ _)).mono ?_); rintro e wF ⟨⟨k1, rfl, q1, q2, q3⟩, bF⟩
  have hPF := hP.out.on bF
  clear x0 x1 x2 x3 x4 x5 hsz bF
  by_cases hk1 : k1 ≤ 3000
  case neg =>
    have y1 : (3000 : Int) < k1 := by omega
    clear hk1 q3
    have hfin := Lib.hid hPF.low
    go_wp2_with fail
    go_ret
    exact ⟨rfl, hfin.out⟩
  have y1 : ¬ (3000 : Int) < k1 := by omega
  have y1' : decide ((3000 : Int) < k1) = false := by simpa using hk1
  have hz1 := Lib.hid (show Gv.wt (.mk k sp nm as' kids d) ≤ 3000 by have := q3 hk1; omega)
  clear q3 hk1
  have hcb' := Lib.hid hcb
  go_upto_region 9 with fail
  have xl := Lib.hid (Cells.new wF 25 #[.int .i64 0, .string ⟨#[104, 116, 116, 112, 58, 47, 47, 120]⟩, .string ⟨#[116, 105, 116, 108, 101]⟩, .slice none 0 0, .slice none 0 0, .string ⟨#[]⟩])
  have xb := Lib.hid ((Below.refl wF.heap.size wF).alloc (Nat.le_refl _) (.cells #[.int .i64 0, .string ⟨#[104, 116, 116, 112, 58, 47, 47, 120]⟩, .string ⟨#[116, 105, 116, 108, 101]⟩, .slice none 0 0, .slice none 0 0, .string ⟨#[]⟩] 25))
  replace hPF := Lib.hid hPF
  clear q1 q2 hcb
  have hw3 : wh % 3 = 0 ∨ wh % 3 = 1 ∨ wh % 3 = 2 := by omega
  have xm : ∀ (xk : Int) (xsp xnm xd : ByteArray) (W : World), Cells W wF.heap.size 25 #[.int .i64 xk, .string xsp, .string xnm, .slice none 0 0, .slice none 0 0, .string xd] → Below wF.heap.size wF W → (∀ nm, Am.isEl (.mk xk xsp xnm [] [] xd) Am.atomS nm = false) → xsp.size + xnm.size + xd.size ≤ 40 → Hid (∃ (xk : Int) (xsp xnm xd : ByteArray), Cells W wF.heap.size 25 #[.int .i64 xk, .string xsp, .string xnm, .slice none 0 0, .slice none 0 0, .string xd] ∧ Below wF.heap.size wF W ∧ (∀ nm, Am.isEl (.mk xk xsp xnm [] [] xd) Am.atomS nm = false) ∧ xsp.size + xnm.size + xd.size ≤ 40) := fun _ _ _ _ _ a b c d => Lib.hid ⟨_, _, _, _, a, b, c, d⟩
  replace xm := Lib.hid xm
  go_upto_region 10 with fail
  generalize wF.alloc (.cells #[.int .i64 0, .string ⟨#[104, 116, 116, 112, 58, 47, 47, 120]⟩, .string ⟨#[116, 105, 116, 108, 101]⟩, .slice none 0 0, .slice none 0 0, .string ⟨#[]⟩] 25) = wX at *
  obtain ⟨z0, z1, z2, z3, z4, z5⟩ := node_open (show Cells wX _ _ (nodeArr 0 ⟨#[104, 116, 116, 112, 58, 47, 47, 120]⟩ ⟨#[116, 105, 116, 108, 101]⟩ (.slice none 0 0) (.slice none 0 0) ⟨#[]⟩) from xl.out)
  have f0 := xl.out.free 0
  have f1 := xl.out.free 1
  have f2 := xl.out.free 2
  have f3 := xl.out.free 3
  have f4 := xl.out.free 4
  have f5 := xl.out.free 5
  rcases hw3 with h3 | h3 | h3
  all_goals
    first
      | (have e0 : ((wh : Int) % 3 == 1) = false := by rw [beq_eq_false_iff_ne]; omega
         have e1 : ((wh : Int) % 3 == 2) = false := by rw [beq_eq_false_iff_ne]; omega
         have hm0 := xm.out 0 _ _ _ _ xl.out xb.out (fun nm => by unfold Am.isEl; rw [show decide ((Am.spaceOf (.mk 0 ⟨#[104, 116, 116, 112, 58, 47, 47, 120]⟩ ⟨#[116, 105, 116, 108, 101]⟩ [] [] ⟨#[]⟩)).data.toList = Am.atomS) = false by decide +kernel]; simp) (by decide)
         go_upto_region 15 with fail
         clear z0 z1 z2 z3 z4 z5 f0 f1 f2 f3 f4 f5 xm e0 e1 xl xb
         generalize wX = wY at *)
      | (have e0 : ((wh : Int) % 3 == 1) = true := by rw [beq_iff_eq]; omega
         have hm0 := xm.out 2 _ _ _ _ (six_cells xl.out (.int .i64 2) (.string ⟨#[]⟩) (.string ⟨#[]⟩) (.slice none 0 0) (.slice none 0 0) (.string ⟨#[105, 100]⟩)) (six_below xb.out (Nat.le_refl _) _ _ _ _ _ _) (fun nm => by unfold Am.isEl; rw [show decide (Am.kindOf (.mk 2 ⟨#[]⟩ ⟨#[]⟩ [] [] ⟨#[105, 100]⟩) = 0) = false by decide +kernel]; simp) (by decide)
         go_upto_region 15 with fail
         clear z0 z1 z2 z3 z4 z5 f0 f1 f2 f3 f4 f5 xm e0 xl xb
         generalize ((((((wX.setCell ⟨wF.heap.size, 0, none⟩ (.int .i64 2)).setCell ⟨wF.heap.size, 1, none⟩ (.string ⟨#[]⟩)).setCell ⟨wF.heap.size, 2, none⟩ (.string ⟨#[]⟩)).setCell ⟨wF.heap.size, 3, none⟩ (.slice none 0 0)).setCell ⟨wF.heap.size, 4, none⟩ (.slice none 0 0)).setCell ⟨wF.heap.size, 5, none⟩ (.string ⟨#[105, 100]⟩)) = wY at *)
      | (have e0 : ((wh : Int) % 3 == 1) = false := by rw [beq_eq_false_iff_ne]; omega
         have e1 : ((wh : Int) % 3 == 2) = true := by rw [beq_iff_eq]; omega
         have hm0 := xm.out 1 _ _ _ _ (six_cells xl.out (.int .i64 1) (.string ⟨#[]⟩) (.string ⟨#[]⟩) (.slice none 0 0) (.slice none 0 0) (.string ⟨#[116, 101, 120, 116]⟩)) (six_below xb.out (Nat.le_refl _) _ _ _ _ _ _) (fun nm => by unfold Am.isEl; rw [show decide (Am.kindOf (.mk 1 ⟨#[]⟩ ⟨#[]⟩ [] [] ⟨#[116, 101, 120, 116]⟩) = 0) = false by decide +kernel]; simp) (by decide)
         go_upto_region 15 with fail
         clear z0 z1 z2 z3 z4 z5 f0 f1 f2 f3 f4 f5 xm e0 e1 xl xb
         generalize ((((((wX.setCell ⟨wF.heap.size, 0, none⟩ (.int .i64 1)).setCell ⟨wF.heap.size, 1, none⟩ (.string ⟨#[]⟩)).setCell ⟨wF.heap.size, 2, none⟩ (.string ⟨#[]⟩)).setCell ⟨wF.heap.size, 3, none⟩ (.slice none 0 0)).setCell ⟨wF.heap.size, 4, none⟩ (.slice none 0 0)).setCell ⟨wF.heap.size, 5, none⟩ (.string ⟨#[116, 101, 120, 116]⟩)) = wY at *)
  all_goals
    obtain ⟨xk, xsp, xnm, xd, hX, hXb, hfor, hxz⟩ := hm0.out
    clear hm0 h3 hwh
    have hPY := hPF.out.on hXb
    replace hfor := Lib.hid hfor
    have hkc : kids.length ≤ 3000 := by
      have h1 := Am.kids_wt (.mk k sp nm as' kids d)
      exact Nat.le_trans h1 hz1.out
    have n4 : wY.cell? ⟨wC.heap.size, 4, none⟩ = some (.slice bo kids.length cb) := hPY.c.cell (i := 4) rfl
    have hkn0 : ¬ ((kids.length : Int) + 1 = 0) := by omega
    have hkn1 : ((kids.length : Int) + 1 == 0) = false := by rw [beq_eq_false_iff_ne]; omega
    go_upto_region 16 with fail
    obtain ⟨κ, hκ⟩ : ∃ κ, κ = at_ % (kids.length + 1) := ⟨_, rfl⟩
    have hκi : ((at_ : Int) % ((kids.length : Int) + 1)) = (κ : Int) := by rw [hκ]; norm_cast
    have hκl : κ ≤ kids.length := by have := Nat.mod_lt at_ (show 0 < kids.length + 1 by omega); omega
    rw [hκi]
    clear hκ hκi hkn0 hkn1 n4 hat
    have hnw : wF.heap.size < wY.heap.size := hX.lt
    have hXG := Lib.hid (hX.on ((Below.refl wY.heap.size wY).alloc (Nat.le_refl _) (.cells #[.int .i64 k, .string sp, .string nm, .slice ao as'.length ca, .slice bo kids.length cb, .string d] 25)))
    clear hX hXb hkc
    obtain ⟨x0, x1, x2, x3, x4, x5⟩ := node_open hPY.c
    have bm := (Below.refl wY.heap.size wY).alloc (Nat.le_refl _) (.cells #[.int .i64 k, .string sp, .string nm, .slice ao as'.length ca, .slice bo kids.length cb, .string d] 25)
    have kM := Cells.new wY 25 (nodeArr k sp nm (.slice ao as'.length ca) (.slice bo kids.length cb) d)
    unfold nodeArr at kM
    have hPG := hPY.on bm
    have hnm := hPY.c.lt
    have hwm : w.heap.size ≤ wY.heap.size := hPY.low.size
    replace hPY := Lib.hid hPY
    clear bm
    go_upto_region 17 with fail
    generalize wY.alloc (.cells #[.int .i64 k, .string sp, .string nm, .slice ao as'.length ca, .slice bo kids.length cb, .string d] 25) = wG at *
    have hO := Other.start (va := .slice ao as'.length ca) (vk := .slice bo kids.length cb) kM (Below.refl wY.heap.size wG)
    have m4 : wG.cell? ⟨wY.heap.size, 4, none⟩ = some (.slice bo kids.length cb) := kM.cell (i := 4) rfl
    have mf := kM.free 4
    have hatt := hPG.att.mono (S' := fun b => b < wY.heap.size) (fun b hb _ => Nat.lt_trans hb hnm)
    have hPH := hPG.far hO.low hnm hwm
    replace hatt := Lib.hid hatt
    replace hPG := Lib.hid hPG
    clear x0 x1 x2 x3 x4 x5
    go_upto_region 18 with fail
    clear m4 mf kM
    generalize wG.setCell ⟨wY.heap.size, 4, none⟩ (.slice none 0 0) = wH at *
    have x4 : wH.cell? ⟨wC.heap.size, 4, none⟩ = some (.slice bo kids.length cb) := hPH.c.cell (i := 4) rfl
    have hla := hPH.la
    have hlk := hPH.lk
    have hkc : kids.length ≤ 3000 := by
      have h1 := Am.kids_wt (.mk k sp nm as' kids d)
      exact Nat.le_trans h1 hz1.out
    replace hO := Lib.hid hO
    replace hPH := Lib.hid hPH
    have hPW := hPH
    have hκ0 : (0 : Int) ≤ (κ : Int) := by omega
    have hκc : (κ : Int) ≤ (cb : Int) := by have := hcb'.out.2; omega
    have hκn : (κ : Int) ≤ (kids.length : Int) := by omega
    clear x4 hPH
    have hcw : Hid (∀ w', Below wH.heap.size wH w' → w'.cell? ⟨wY.heap.size, 4, none⟩ = some (.slice none 0 0) ∧ w'.cell? ⟨wC.heap.size, 4, none⟩ = some (.slice bo kids.length cb)) := Lib.hid (fun _ b => ⟨(hO.out.on b).c.cell (i := 4) rfl, (hPW.out.on b).c.cell (i := 4) rfl⟩)
    refine wp_region_last (n := 8) (S := fun w' => w'.cell? ⟨wY.heap.size, 4, none⟩ = some (.slice none 0 0) ∧ w'.cell? ⟨wC.heap.size, 4, none⟩ = some (.slice bo kids.length cb)) (by kernel_rfl) (by rfl) (by rfl) (by rfl) (by rfl) (by kernel_rfl) (hcw.out _ (Below.refl _ _).drew) (fun hH => ?_)
    simp only [lastNop, nopOf, List.setIfInBounds_toArray, List.set_cons_succ, List.set_cons_zero]
    have hb0 := Lib.hid (Below.refl wH.heap.size wH).drew
    generalize wH.drew = v0 at *
    refine wpAnyH_take (i := 0) (v := .pointer (some ⟨wY.heap.size, 4, none⟩)) rfl (by kernel_rfl) (by kernel_rfl) (by kernel_rfl) (fun _ _ _ h => h) (Or.inl ⟨by rfl, ?_⟩) (by assumption) ?_
    · intro w' hSw; (try dsimp only at hSw); go_simp
    try simp only [Act.put, List.setIfInBounds_toArray, List.set_cons_zero, List.set_cons_succ]
    refine wpAnyH_take (i := 1) (v := .slice none 0 0) rfl (by kernel_rfl) (by kernel_rfl) (by kernel_rfl) (fun _ _ _ h => h) (Or.inl ⟨by rfl, ?_⟩) (by assumption) ?_
    · intro w' hSw; (try dsimp only at hSw); go_simp
    try simp only [Act.put, List.setIfInBounds_toArray, List.set_cons_zero, List.set_cons_succ]
    refine wpAnyH_take (i := 2) (v := .pointer (some ⟨wC.heap.size, 4, none⟩)) rfl (by kernel_rfl) (by kernel_rfl) (by kernel_rfl) (fun _ _ _ h => h) (Or.inl ⟨by rfl, ?_⟩) (by assumption) ?_
    · intro w' hSw; (try dsimp only at hSw); go_simp
    try simp only [Act.put, List.setIfInBounds_toArray, List.set_cons_zero, List.set_cons_succ]
    refine wpAnyH_take (i := 3) (v := .slice bo kids.length cb) rfl (by kernel_rfl) (by kernel_rfl) (by kernel_rfl) (fun _ _ _ h => h) (Or.inl ⟨by rfl, ?_⟩) (by assumption) ?_
    · intro w' hSw; (try dsimp only at hSw); go_simp
    try simp only [Act.put, List.setIfInBounds_toArray, List.set_cons_zero, List.set_cons_succ]
    refine wpAnyH_take (i := 4) (v := .int .i64 (κ : Int)) rfl (by kernel_rfl) (by kernel_rfl) (by kernel_rfl) (fun _ _ _ h => h) (Or.inl ⟨by rfl, ?_⟩) (by assumption) ?_
    · intro w' hSw; (try dsimp only at hSw); go_simp
    try simp only [Act.put, List.setIfInBounds_toArray, List.set_cons_zero, List.set_cons_succ]
    refine wpAnyH_take (i := 5) (v := (.slice (if cb = 0 then bo else bo.map (·.add (0 * 6))) (κ - 0) (cb - 0))) rfl (by kernel_rfl) (by kernel_rfl) (by kernel_rfl) (fun _ _ _ h => h) (Or.inl ⟨by rfl, ?_⟩) (by assumption) ?_
    · intro w' hSw; (try dsimp only at hSw); go_simp
    try simp only [Act.put, List.setIfInBounds_toArray, List.set_cons_zero, List.set_cons_succ]
    refine wpAnyH_ready (rs := [6]) (by kernel_rfl) (by simp) (AllReadyH.cons rfl (fun K hK => ?_) AllReadyH.nil)
    have gW := hO.out.on hb0.out
    have gP := hPW.out.on hb0.out
    have hlW := gW.c.lt
    have hvb : ∀ x, (.slice none 0 0 : Value).ownBlock = some x → wY.heap.size + 1 ≤ x := fun x e => (World.ownsRow.lt gW.kid.choose_spec.2.1 x e).1
    refine step_app_kids rfl _ _ (by rfl) (by rfl) gW.kid (by rfl) (rows_sliced gP.row 0 κ hκl hcb'.out.2) (K2 := kids.take κ) (by rw [List.length_take]; omega) (fun j hj => ?_) (sliced_none hcb'.out.1 κ hκl) ?_ hlW ?_
    · show NodeAt _ _ (cs (0 + j)) _; rw [List.getElem_take]; simp only [Nat.zero_add]; rw [List.length_take] at hj; exact (gP.kid j (by omega)).mono (fun b hb _ => Nat.lt_trans hb hnm)
    · simp only [List.length_append, List.length_take, List.length_cons, List.length_nil]; omega
    intro v3 W3 hown5 hg5
    obtain ⟨xo, xc, rfl⟩ : ∃ xo xc, v3 = .slice xo (κ) xc := by
      obtain ⟨xo, xc, xcs, e, -⟩ := (hown5.mono (S' := fun _ => True) (fun _ _ _ => trivial)).rows (fun _ _ _ => trivial)
      refine ⟨xo, xc, ?_⟩
      rw [e]
      congr 1
      simp only [List.length_append, List.length_take, List.length_drop, List.length_cons, List.length_nil]
      omega
    have nV := (hg5.block wY.heap.size hlW (fun e => by have := hvb _ e.symm; omega)).trans gW.c
    have nX : W3.cell? ⟨wC.heap.size, 4, none⟩ = some (.slice bo kids.length cb) := (World.cell?_of_block (a := ⟨wC.heap.size, 4, none⟩) (hg5.block wC.heap.size (Nat.lt_trans hnm hlW) (fun e => by have := hvb _ e.symm; omega))).trans (gP.c.cell (i := 4) rfl)
    refine hK.out _ _ ⟨Cells.cell (i := 4) nV rfl, nX⟩ (fun hH3 => ?_)
    have nF := Cells.free nV 4
    have nC := Cells.cell (i := 4) nV rfl
    clear hK K hH nV nX gP
    try simp only [Act.put, List.setIfInBounds_toArray, List.set_cons_zero, List.set_cons_succ]
    refine wpAnyH_take (i := 7) (v := .pointer (some ⟨wY.heap.size, 4, none⟩)) rfl (by kernel_rfl) (by kernel_rfl) (by kernel_rfl) (fun _ _ _ h => h) (Or.inl ⟨by rfl, ?_⟩) (by assumption) ?_
    · intro w' hSw; (try dsimp only at hSw); go_simp
    try simp only [Act.put, List.setIfInBounds_toArray, List.set_cons_zero, List.set_cons_succ]
    refine wpAnyH_take (i := 8) (v := .bool true) rfl (by kernel_rfl) (by kernel_rfl) (by kernel_rfl) (fun _ _ _ h => h) (Or.inl ⟨by rfl, ?_⟩) (by assumption) ?_
    · intro w' hSw; (try dsimp only at hSw); go_simp
    try simp only [Act.put, List.setIfInBounds_toArray, List.set_cons_zero, List.set_cons_succ]
    refine wpAnyH_done (by kernel_rfl) ?_ _
    show Oper.wp _ _ _ _ _ _
    go_simp
    have hO9 := Lib.hid (gW.put hown5 hg5)
    clear hown5 hg5 hvb hlW gW nC nF hcw hH3 hb0 hO hPW
    generalize W3.setCell ⟨wY.heap.size, 4, none⟩ (.slice xo (κ) xc) = w9 at *
    clear v0 W3
    have hPW := Lib.hid (hPG.out.far hO9.out.low hnm hwm)
    have gO := hO9.out
    have hX9 := (gO.low.block wF.heap.size hnw).trans hXG.out
    obtain ⟨p0, p1, p2, p3, p4, p5⟩ := node_open (show Cells w9 _ _ (nodeArr xk xsp xnm (.slice none 0 0) (.slice none 0 0) xd) from hX9)
    have o4 : w9.cell? ⟨wY.heap.size, 4, none⟩ = some (.slice xo κ xc) := gO.c.cell (i := 4) rfl
    have gO2 := Lib.hid (gO.on ((Below.refl w9.heap.size w9).alloc (Nat.le_refl _) (.cells #[.int .i64 xk, .string xsp, .string xnm, .slice none 0 0, .slice none 0 0, .string xd] 25)))
    have hrow : Hid (RowsAt (fun _ => True) (w9.alloc (.cells #[.int .i64 xk, .string xsp, .string xnm, .slice none 0 0, .slice none 0 0, .string xd] 25)) (.slice (some ⟨w9.heap.size, 0, none⟩) 1 1) 1 (fun _ => [.int .i64 xk, .string xsp, .string xnm, .slice none 0 0, .slice none 0 0, .string xd])) := Lib.hid ⟨_, _, rfl, fun j hj => ⟨rfl, w9.heap.size, 0, rfl, trivial, fun i u hu => by
      obtain rfl : j = 0 := by omega
      have := am_cells_row w9 [.int .i64 xk, .string xsp, .string xnm, .slice none 0 0, .slice none 0 0, .string xd] 25 i u hu
      rw [add_at] at this
      simpa using this⟩⟩
    have hkd : Hid (∀ j (h : j < [(.mk xk xsp xnm [] [] xd : Gv.Node)].length), NodeAt (fun b => b < wY.heap.size) (w9.alloc (.cells #[.int .i64 xk, .string xsp, .string xnm, .slice none 0 0, .slice none 0 0, .string xd] 25)) [.int .i64 xk, .string xsp, .string xnm, .slice none 0 0, .slice none 0 0, .string xd] [(.mk xk xsp xnm [] [] xd : Gv.Node)][j]) := Lib.hid (fun j hj => by
      have e : j = 0 := by simp at hj; exact hj
      subst e
      exact node_plain _ _ xk xsp xnm xd)
    have hlK : Hid (([] ++ kids.take κ).length + 1 ≤ 1000000) := Lib.hid (by simp only [List.length_append, List.length_take, List.length_nil]; omega)
    have hl9 := Lib.hid (gO2.out.c.lt)
    clear gO hX9 hO9 hPW
    go_wp2_with (at_builtin; refine wpList_app_kids (K2 := [(.mk xk xsp xnm [] [] xd : Gv.Node)]) rfl _ _ rfl rfl gO2.out.kid rfl hrow.out rfl hkd.out (fun e => by cases e) hlK.out hl9.out ?_)
    intro v5 W5 hown6 hg6
    obtain ⟨yo, yc, rfl⟩ : ∃ yo yc, v5 = .slice yo (κ + 1) yc := by
      obtain ⟨yo, yc, ycs, e, -⟩ := (hown6.mono (S' := fun _ => True) (fun _ _ _ => trivial)).rows (fun _ _ _ => trivial)
      refine ⟨yo, yc, ?_⟩
      rw [e]
      congr 1
      simp only [List.length_append, List.length_take, List.length_cons, List.length_nil]
      omega
    have hlW := hl9.out
    have hvb : ∀ x, (Value.slice xo κ xc).ownBlock = some x → wY.heap.size + 1 ≤ x := fun x e => (World.ownsRow.lt gO2.out.kid.choose_spec.2.1 x e).1
    have nV := (hg6.block wY.heap.size hlW (fun e => by have := hvb _ e.symm; omega)).trans gO2.out.c
    have nF := Cells.free nV 4
    have nC := Cells.cell (i := 4) nV rfl
    have hO10 := Lib.hid (gO2.out.put hown6 hg6)
    clear p0 p1 p2 p3 p4 p5 o4 hown6 hg6 nV gO2 hrow hkd hlK hl9 hlW hvb
    go_upto_region 20 with fail
    clear nF nC
    generalize W5.setCell ⟨wY.heap.size, 4, none⟩ (.slice yo (κ + 1) yc) = wT at *
    have hPW := Lib.hid (hPG.out.far hO10.out.low hnm hwm)
    have hcw : Hid (∀ w', Below wT.heap.size wT w' → w'.cell? ⟨wY.heap.size, 4, none⟩ = some (.slice yo (κ + 1) yc) ∧ w'.cell? ⟨wC.heap.size, 4, none⟩ = some (.slice bo kids.length cb)) := Lib.hid (fun _ b => ⟨(hO10.out.on b).c.cell (i := 4) rfl, (hPW.out.on b).c.cell (i := 4) rfl⟩)
    refine wp_region_last (n := 8) (S := fun w' => w'.cell? ⟨wY.heap.size, 4, none⟩ = some (.slice yo (κ + 1) yc) ∧ w'.cell? ⟨wC.heap.size, 4, none⟩ = some (.slice bo kids.length cb)) (by kernel_rfl) (by rfl) (by rfl) (by rfl) (by rfl) (by kernel_rfl) (hcw.out _ (Below.refl _ _).drew) (fun hH => ?_)
    simp only [lastNop, nopOf, List.setIfInBounds_toArray, List.set_cons_succ, List.set_cons_zero]
    have hb0 := Lib.hid (Below.refl wT.heap.size wT).drew
    generalize wT.drew = v0 at *
    refine wpAnyH_take (i := 0) (v := .pointer (some ⟨wY.heap.size, 4, none⟩)) rfl (by kernel_rfl) (by kernel_rfl) (by kernel_rfl) (fun _ _ _ h => h) (Or.inl ⟨by rfl, ?_⟩) (by assumption) ?_
    · intro w' hSw; (try dsimp only at hSw); go_simp
    try simp only [Act.put, List.setIfInBounds_toArray, List.set_cons_zero, List.set_cons_succ]
    refine wpAnyH_take (i := 1) (v := .slice yo (κ + 1) yc) rfl (by kernel_rfl) (by kernel_rfl) (by kernel_rfl) (fun _ _ _ h => h) (Or.inl ⟨by rfl, ?_⟩) (by assumption) ?_
    · intro w' hSw; (try dsimp only at hSw); go_simp
    try simp only [Act.put, List.setIfInBounds_toArray, List.set_cons_zero, List.set_cons_succ]
    refine wpAnyH_take (i := 2) (v := .pointer (some ⟨wC.heap.size, 4, none⟩)) rfl (by kernel_rfl) (by kernel_rfl) (by kernel_rfl) (fun _ _ _ h => h) (Or.inl ⟨by rfl, ?_⟩) (by assumption) ?_
    · intro w' hSw; (try dsimp only at hSw); go_simp
    try simp only [Act.put, List.setIfInBounds_toArray, List.set_cons_zero, List.set_cons_succ]
    refine wpAnyH_take (i := 3) (v := .slice bo kids.length cb) rfl (by kernel_rfl) (by kernel_rfl) (by kernel_rfl) (fun _ _ _ h => h) (Or.inl ⟨by rfl, ?_⟩) (by assumption) ?_
    · intro w' hSw; (try dsimp only at hSw); go_simp
    try simp only [Act.put, List.setIfInBounds_toArray, List.set_cons_zero, List.set_cons_succ]
    refine wpAnyH_take (i := 4) (v := .int .i64 (κ : Int)) rfl (by kernel_rfl) (by kernel_rfl) (by kernel_rfl) (fun _ _ _ h => h) (Or.inl ⟨by rfl, ?_⟩) (by assumption) ?_
    · intro w' hSw; (try dsimp only at hSw); go_simp
    try simp only [Act.put, List.setIfInBounds_toArray, List.set_cons_zero, List.set_cons_succ]
    refine wpAnyH_take (i := 5) (v := (.slice (if cb = κ then bo else bo.map (·.add (κ * 6))) (kids.length - κ) (cb - κ))) rfl (by kernel_rfl) (by kernel_rfl) (by kernel_rfl) (fun _ _ _ h => h) (Or.inl ⟨by rfl, ?_⟩) (by assumption) ?_
    · intro w' hSw; (try dsimp only at hSw); go_simp
    try simp only [Act.put, List.setIfInBounds_toArray, List.set_cons_zero, List.set_cons_succ]
    refine wpAnyH_ready (rs := [6]) (by kernel_rfl) (by simp) (AllReadyH.cons rfl (fun K hK => ?_) AllReadyH.nil)
    have gW := hO10.out.on hb0.out
    have gP := hPW.out.on hb0.out
    have hlW := gW.c.lt
    have hvb : ∀ x, (.slice yo (κ + 1) yc : Value).ownBlock = some x → wY.heap.size + 1 ≤ x := fun x e => (World.ownsRow.lt gW.kid.choose_spec.2.1 x e).1
    refine step_app_kids rfl _ _ (by rfl) (by rfl) gW.kid (by rfl) (rows_sliced gP.row κ kids.length (Nat.le_refl _) hcb'.out.2) (K2 := kids.drop κ) (by rw [List.length_drop]) (fun j hj => ?_) (sliced_none hcb'.out.1 kids.length (Nat.le_refl _)) ?_ hlW ?_
    · show NodeAt _ _ (cs (κ + j)) _; rw [List.getElem_drop]; rw [List.length_drop] at hj; exact (gP.kid (κ + j) (by omega)).mono (fun b hb _ => Nat.lt_trans hb hnm)
    · simp only [List.length_append, List.length_take, List.length_cons, List.length_nil]; omega
    intro v3 W3 hown5 hg5
    obtain ⟨xo, xc, rfl⟩ : ∃ xo xc, v3 = .slice xo (κ + 1 + (kids.length - κ)) xc := by
      obtain ⟨xo, xc, xcs, e, -⟩ := (hown5.mono (S' := fun _ => True) (fun _ _ _ => trivial)).rows (fun _ _ _ => trivial)
      refine ⟨xo, xc, ?_⟩
      rw [e]
      congr 1
      simp only [List.length_append, List.length_take, List.length_drop, List.length_cons, List.length_nil]
      omega
    have nV := (hg5.block wY.heap.size hlW (fun e => by have := hvb _ e.symm; omega)).trans gW.c
    have nX : W3.cell? ⟨wC.heap.size, 4, none⟩ = some (.slice bo kids.length cb) := (World.cell?_of_block (a := ⟨wC.heap.size, 4, none⟩) (hg5.block wC.heap.size (Nat.lt_trans hnm hlW) (fun e => by have := hvb _ e.symm; omega))).trans (gP.c.cell (i := 4) rfl)
    refine hK.out _ _ ⟨Cells.cell (i := 4) nV rfl, nX⟩ (fun hH3 => ?_)
    have nF := Cells.free nV 4
    have nC := Cells.cell (i := 4) nV rfl
    clear hK K hH nV nX gP
    try simp only [Act.put, List.setIfInBounds_toArray, List.set_cons_zero, List.set_cons_succ]
    refine wpAnyH_take (i := 7) (v := .pointer (some ⟨wY.heap.size, 4, none⟩)) rfl (by kernel_rfl) (by kernel_rfl) (by kernel_rfl) (fun _ _ _ h => h) (Or.inl ⟨by rfl, ?_⟩) (by assumption) ?_
    · intro w' hSw; (try dsimp only at hSw); go_simp
    try simp only [Act.put, List.setIfInBounds_toArray, List.set_cons_zero, List.set_cons_succ]
    refine wpAnyH_take (i := 8) (v := .bool true) rfl (by kernel_rfl) (by kernel_rfl) (by kernel_rfl) (fun _ _ _ h => h) (Or.inl ⟨by rfl, ?_⟩) (by assumption) ?_
    · intro w' hSw; (try dsimp only at hSw); go_simp
    try simp only [Act.put, List.setIfInBounds_toArray, List.set_cons_zero, List.set_cons_succ]
    refine wpAnyH_done (by kernel_rfl) ?_ _
    show Oper.wp _ _ _ _ _ _
    go_simp
    have hO9 := Lib.hid (gW.put hown5 hg5)
    clear hown5 hg5 hvb hlW gW nC nF hcw hH3 hb0 hO10 hPW
    generalize W3.setCell ⟨wY.heap.size, 4, none⟩ (.slice xo (κ + 1 + (kids.length - κ)) xc) = w9 at *
    clear v0 W3
    have hPW := Lib.hid (hPG.out.far hO9.out.low hnm hwm)
    go_upto_region 21 with fail
    have hlm : (kids.take κ ++ [(.mk xk xsp xnm [] [] xd : Gv.Node)] ++ kids.drop κ).length = κ + 1 + (kids.length - κ) := by simp only [List.length_append, List.length_take, List.length_drop, List.length_cons, List.length_nil]; omega
    obtain ⟨yo2, yc2, hye, hndm⟩ := hO9.out.node hatt.out hla
    rw [hlm] at hye hndm
    injection hye with hy1 hy2 hy3
    subst hy1; subst hy3
    clear hy2
    have hndn : Nd w9 (nodeArr k sp nm (.slice ao as'.length ca) (.slice bo kids.length cb) d) (.mk k sp nm as' kids d : Gv.Node) := ⟨_, hPW.out.nd⟩
    have hzn : Gv.wt (.mk k sp nm as' kids d : Gv.Node) ≤ 100000 := Nat.le_trans hz1.out (by omega)
    have hzm : Gv.wt (.mk k sp nm as' (kids.take κ ++ [(.mk xk xsp xnm [] [] xd : Gv.Node)] ++ kids.drop κ) d : Gv.Node) ≤ 100000 := by
      have h1 := hz1.out
      have h2 : Gv.wts kids = Gv.wts (kids.take κ) + Gv.wts (kids.drop κ) := by rw [← wts_append, List.take_append_drop]
      have h3 : Gv.wt (.mk xk xsp xnm [] [] xd : Gv.Node) ≤ 41 := by rw [Gv.wt_mk]; simp only [Gv.wts, List.length_nil, List.map_nil, List.sum_nil]; omega
      rw [Gv.wt_mk] at h1 ⊢
      rw [wts_append, wts_append]
      simp only [Gv.wts]
      omega
    have gr := Lib.hid hPW.out.low
    have c1 := Lib.hid (fun W (hb : Below w9.heap.size w9 W) => aCheck_any _ false W (hndn.on hb) hzn (hE.out.on (gr.out.trans (hb.mono gr.out.size))))
    have c2 := Lib.hid (fun W (hb : Below w9.heap.size w9 W) => aCheck_any _ true W (hndn.on hb) hzn (hE.out.on (gr.out.trans (hb.mono gr.out.size))))
    have d1 := Lib.hid (fun W (hb : Below w9.heap.size w9 W) => aCheck_any _ false W (hndm.on hb) hzm (hE.out.on (gr.out.trans (hb.mono gr.out.size))))
    have d2 := Lib.hid (fun W (hb : Below w9.heap.size w9 W) => aCheck_any _ true W (hndm.on hb) hzm (hE.out.on (gr.out.trans (hb.mono gr.out.size))))
    have hrev : ∀ s, ckE (.mk k sp nm as' (kids.take κ ++ [(.mk xk xsp xnm [] [] xd : Gv.Node)] ++ kids.drop κ) d : Gv.Node) s = ckE (.mk k sp nm as' kids d : Gv.Node) s := fun s => by
      unfold ckE
      rw [show (.mk k sp nm as' (kids.take κ ++ [(.mk xk xsp xnm [] [] xd : Gv.Node)] ++ kids.drop κ) d : Gv.Node) = Am.withKids (.mk k sp nm as' kids d : Gv.Node) (kids.take κ ++ (.mk xk xsp xnm [] [] xd : Gv.Node) :: kids.drop κ) by rw [List.append_assoc]; rfl, Am.check_foreign _ _ _ _ _ (show Am.kidsOf (.mk k sp nm as' kids d : Gv.Node) = kids.take κ ++ kids.drop κ from (List.take_append_drop κ kids).symm) hfor.out]
    rw [hrev] at d1 d2
    generalize ckE (.mk k sp nm as' kids d : Gv.Node) true = B1 at *
    generalize ckE (.mk k sp nm as' kids d : Gv.Node) false = A1 at *
    unfold nodeArr at c1 c2 d1 d2
    obtain ⟨x0, x1, x2, x3, x4, x5⟩ := node_open hPW.out.c
    obtain ⟨y0, y1z, y2, y3, y4, y5⟩ := node_open hO9.out.c
    clear hndn hndm hzn hzm hrev hlm hO9 hPW
    refine wp_region_held_drew (S := fun w' => w'.cell? ⟨wC.heap.size, 0, none⟩ = some (.int .i64 k) ∧ w'.cell? ⟨wC.heap.size, 1, none⟩ = some (.string sp) ∧ w'.cell? ⟨wC.heap.size, 2, none⟩ = some (.string nm) ∧ w'.cell? ⟨wC.heap.size, 3, none⟩ = some (.slice ao as'.length ca) ∧ w'.cell? ⟨wC.heap.size, 4, none⟩ = some (.slice bo kids.length cb) ∧ w'.cell? ⟨wC.heap.size, 5, none⟩ = some (.string d) ∧ w'.cell? ⟨wY.heap.size, 0, none⟩ = some (.int .i64 k) ∧ w'.cell? ⟨wY.heap.size, 1, none⟩ = some (.string sp) ∧ w'.cell? ⟨wY.heap.size, 2, none⟩ = some (.string nm) ∧ w'.cell? ⟨wY.heap.size, 3, none⟩ = some (.slice ao as'.length ca) ∧ w'.cell? ⟨wY.heap.size, 4, none⟩ = some (.slice xo (κ + 1 + (kids.length - κ)) xc) ∧ w'.cell? ⟨wY.heap.size, 5, none⟩ = some (.string d) ∧ Below w9.heap.size w9 w') (by kernel_rfl) ⟨x0, x1, x2, x3, x4, x5, y0, y1z, y2, y3, y4, y5, (Below.refl _ _).drew⟩ (fun hH => ?_)
    clear x0 x1 x2 x3 x4 x5 y0 y1z y2 y3 y4 y5
    refine wpAnyH_take (i := 0) (v := .bool true) rfl (by kernel_rfl) (by kernel_rfl) (by kernel_rfl) (fun _ _ _ h => h) (Or.inl ⟨by rfl, ?_⟩) (by assumption) ?_
    · intro w' hSw; (try dsimp only at hSw); go_simp
    try simp only [Act.put, List.setIfInBounds_toArray, List.set_cons_zero, List.set_cons_succ]
    refine wpAnyH_take (i := 1) (v := .bool true) rfl (by kernel_rfl) (by kernel_rfl) (by kernel_rfl) (fun _ _ _ h => h) (Or.inl ⟨by rfl, ?_⟩) (by assumption) ?_
    · intro w' hSw; (try dsimp only at hSw); go_simp
    try simp only [Act.put, List.setIfInBounds_toArray, List.set_cons_zero, List.set_cons_succ]
    refine wpAnyH_take (i := 2) (v := .agg #[.int .i64 k, .string sp, .string nm, .slice ao as'.length ca, .slice bo kids.length cb, .string d]) rfl (by kernel_rfl) (by kernel_rfl) (by kernel_rfl) (fun _ _ _ h => h) (Or.inl ⟨by rfl, ?_⟩) (by assumption) ?_
    · intro w' hSw; (try dsimp only at hSw); go_simp
    try simp only [Act.put, List.setIfInBounds_toArray, List.set_cons_zero, List.set_cons_succ]
    refine wpAnyH_take (i := 4) (v := .agg #[.int .i64 k, .string sp, .string nm, .slice ao as'.length ca, .slice xo (κ + 1 + (kids.length - κ)) xc, .string d]) rfl (by kernel_rfl) (by kernel_rfl) (by kernel_rfl) (fun _ _ _ h => h) (Or.inl ⟨by rfl, ?_⟩) (by assumption) ?_
    · intro w' hSw; (try dsimp only at hSw); go_simp
    try simp only [Act.put, List.setIfInBounds_toArray, List.set_cons_zero, List.set_cons_succ]
    refine wpAnyH_ready (rs := [3]) (by kernel_rfl) (by simp) (AllReadyH.cons rfl (fun K hK => ?_) AllReadyH.nil)
    go_simp
    refine (amKeep12 (w0 := w9) (a0 := ⟨wC.heap.size, 0, none⟩) (a1 := ⟨wC.heap.size, 1, none⟩) (a2 := ⟨wC.heap.size, 2, none⟩) (a3 := ⟨wC.heap.size, 3, none⟩) (a4 := ⟨wC.heap.size, 4, none⟩) (a5 := ⟨wC.heap.size, 5, none⟩) (a6 := ⟨wY.heap.size, 0, none⟩) (a7 := ⟨wY.heap.size, 1, none⟩) (a8 := ⟨wY.heap.size, 2, none⟩) (a9 := ⟨wY.heap.size, 3, none⟩) (a10 := ⟨wY.heap.size, 4, none⟩) (a11 := ⟨wY.heap.size, 5, none⟩) (x0 := .int .i64 k) (x1 := .string sp) (x2 := .string nm) (x3 := .slice ao as'.length ca) (x4 := .slice bo kids.length cb) (x5 := .string d) (x6 := .int .i64 k) (x7 := .string sp) (x8 := .string nm) (x9 := .slice ao as'.length ca) (x10 := .slice xo (κ + 1 + (kids.length - κ)) xc) (x11 := .string d) (fun W hb => c1.out W hb) hH).mono ?_
    rintro e v2 ⟨rfl, hcb⟩
    refine hK.out _ _ hcb (fun hH1 => ?_)
    clear hK K hH hcb
    try simp only [Act.put, List.setIfInBounds_toArray, List.set_cons_zero, List.set_cons_succ]
    refine wpAnyH_ready (rs := [5]) (by kernel_rfl) (by simp) (AllReadyH.cons rfl (fun K hK => ?_) AllReadyH.nil)
    go_simp
    refine (amKeep12 (w0 := w9) (a0 := ⟨wC.heap.size, 0, none⟩) (a1 := ⟨wC.heap.size, 1, none⟩) (a2 := ⟨wC.heap.size, 2, none⟩) (a3 := ⟨wC.heap.size, 3, none⟩) (a4 := ⟨wC.heap.size, 4, none⟩) (a5 := ⟨wC.heap.size, 5, none⟩) (a6 := ⟨wY.heap.size, 0, none⟩) (a7 := ⟨wY.heap.size, 1, none⟩) (a8 := ⟨wY.heap.size, 2, none⟩) (a9 := ⟨wY.heap.size, 3, none⟩) (a10 := ⟨wY.heap.size, 4, none⟩) (a11 := ⟨wY.heap.size, 5, none⟩) (x0 := .int .i64 k) (x1 := .string sp) (x2 := .string nm) (x3 := .slice ao as'.length ca) (x4 := .slice bo kids.length cb) (x5 := .string d) (x6 := .int .i64 k) (x7 := .string sp) (x8 := .string nm) (x9 := .slice ao as'.length ca) (x10 := .slice xo (κ + 1 + (kids.length - κ)) xc) (x11 := .string d) (fun W hb => d1.out W hb) hH1).mono ?_
    rintro e v2 ⟨rfl, hcb⟩
    refine hK.out _ _ hcb (fun hH2 => ?_)
    clear hK K hH1 hcb
    try simp only [Act.put, List.setIfInBounds_toArray, List.set_cons_zero, List.set_cons_succ]
    refine wpAnyH_take (i := 6) (v := .bool true) rfl (by kernel_rfl) (by kernel_rfl) (by kernel_rfl) (fun _ _ _ h => h) (Or.inl ⟨by rfl, ?_⟩) (by assumption) ?_
    · intro w' hSw; (try dsimp only at hSw); go_simp
    try simp only [Act.put, List.setIfInBounds_toArray, List.set_cons_zero, List.set_cons_succ]
    refine wpAnyH_take (i := 7) (v := .bool true) rfl (by kernel_rfl) (by kernel_rfl) (by kernel_rfl) (fun _ _ _ h => h) (Or.inl ⟨by rfl, ?_⟩) (by assumption) ?_
    · intro w' hSw; (try dsimp only at hSw); go_simp
    try simp only [Act.put, List.setIfInBounds_toArray, List.set_cons_zero, List.set_cons_succ]
    refine wpAnyH_take (i := 8) (v := .bool true) rfl (by kernel_rfl) (by kernel_rfl) (by kernel_rfl) (fun _ _ _ h => h) (Or.inl ⟨by rfl, ?_⟩) (by assumption) ?_
    · intro w' hSw; (try dsimp only at hSw); go_simp
    try simp only [Act.put, List.setIfInBounds_toArray, List.set_cons_zero, List.set_cons_succ]
    refine wpAnyH_take (i := 9) (v := .agg #[.int .i64 k, .string sp, .string nm, .slice ao as'.length ca, .slice bo kids.length cb, .string d]) rfl (by kernel_rfl) (by kernel_rfl) (by kernel_rfl) (fun _ _ _ h => h) (Or.inl ⟨by rfl, ?_⟩) (by assumption) ?_
    · intro w' hSw; (try dsimp only at hSw); go_simp
    try simp only [Act.put, List.setIfInBounds_toArray, List.set_cons_zero, List.set_cons_succ]
    refine wpAnyH_take (i := 11) (v := .agg #[.int .i64 k, .string sp, .string nm, .slice ao as'.length ca, .slice xo (κ + 1 + (kids.length - κ)) xc, .string d]) rfl (by kernel_rfl) (by kernel_rfl) (by kernel_rfl) (fun _ _ _ h => h) (Or.inl ⟨by rfl, ?_⟩) (by assumption) ?_
    · intro w' hSw; (try dsimp only at hSw); go_simp
    try simp only [Act.put, List.setIfInBounds_toArray, List.set_cons_zero, List.set_cons_succ]
    refine wpAnyH_ready (rs := [10]) (by kernel_rfl) (by simp) (AllReadyH.cons rfl (fun K hK => ?_) AllReadyH.nil)
    go_simp
    refine (amKeep12 (w0 := w9) (a0 := ⟨wC.heap.size, 0, none⟩) (a1 := ⟨wC.heap.size, 1, none⟩) (a2 := ⟨wC.heap.size, 2, none⟩) (a3 := ⟨wC.heap.size, 3, none⟩) (a4 := ⟨wC.heap.size, 4, none⟩) (a5 := ⟨wC.heap.size, 5, none⟩) (a6 := ⟨wY.heap.size, 0, none⟩) (a7 := ⟨wY.heap.size, 1, none⟩) (a8 := ⟨wY.heap.size, 2, none⟩) (a9 := ⟨wY.heap.size, 3, none⟩) (a10 := ⟨wY.heap.size, 4, none⟩) (a11 := ⟨wY.heap.size, 5, none⟩) (x0 := .int .i64 k) (x1 := .string sp) (x2 := .string nm) (x3 := .slice ao as'.length ca) (x4 := .slice bo kids.length cb) (x5 := .string d) (x6 := .int .i64 k) (x7 := .string sp) (x8 := .string nm) (x9 := .slice ao as'.length ca) (x10 := .slice xo (κ + 1 + (kids.length - κ)) xc) (x11 := .string d) (fun W hb => c2.out W hb) hH2).mono ?_
    rintro e v2 ⟨rfl, hcb⟩
    refine hK.out _ _ hcb (fun hH3 => ?_)
    clear hK K hH2 hcb
    try simp only [Act.put, List.setIfInBounds_toArray, List.set_cons_zero, List.set_cons_succ]
    refine wpAnyH_ready (rs := [12]) (by kernel_rfl) (by simp) (AllReadyH.cons rfl (fun K hK => ?_) AllReadyH.nil)
    go_simp
    refine (amKeep12 (w0 := w9) (a0 := ⟨wC.heap.size, 0, none⟩) (a1 := ⟨wC.heap.size, 1, none⟩) (a2 := ⟨wC.heap.size, 2, none⟩) (a3 := ⟨wC.heap.size, 3, none⟩) (a4 := ⟨wC.heap.size, 4, none⟩) (a5 := ⟨wC.heap.size, 5, none⟩) (a6 := ⟨wY.heap.size, 0, none⟩) (a7 := ⟨wY.heap.size, 1, none⟩) (a8 := ⟨wY.heap.size, 2, none⟩) (a9 := ⟨wY.heap.size, 3, none⟩) (a10 := ⟨wY.heap.size, 4, none⟩) (a11 := ⟨wY.heap.size, 5, none⟩) (x0 := .int .i64 k) (x1 := .string sp) (x2 := .string nm) (x3 := .slice ao as'.length ca) (x4 := .slice bo kids.length cb) (x5 := .string d) (x6 := .int .i64 k) (x7 := .string sp) (x8 := .string nm) (x9 := .slice ao as'.length ca) (x10 := .slice xo (κ + 1 + (kids.length - κ)) xc) (x11 := .string d) (fun W hb => d2.out W hb) hH3).mono ?_
    rintro e v2 ⟨rfl, hcb⟩
    refine hK.out _ _ hcb (fun hH4 => ?_)
    clear hK K hH3 hcb
    try simp only [Act.put, List.setIfInBounds_toArray, List.set_cons_zero, List.set_cons_succ]
    refine wpAnyH_take (i := 13) (v := .bool true) rfl (by kernel_rfl) (by kernel_rfl) (by kernel_rfl) (fun _ _ _ h => h) (Or.inl ⟨by rfl, ?_⟩) (by assumption) ?_
    · intro w' hSw; (try dsimp only at hSw); go_simp
    try simp only [Act.put, List.setIfInBounds_toArray, List.set_cons_zero, List.set_cons_succ]
    refine wpAnyH_take (i := 14) (v := .bool true) rfl (by kernel_rfl) (by kernel_rfl) (by kernel_rfl) (fun _ _ _ h => h) (Or.inl ⟨by rfl, ?_⟩) (by assumption) ?_
    · intro w' hSw; (try dsimp only at hSw); go_simp
    try simp only [Act.put, List.setIfInBounds_toArray, List.set_cons_zero, List.set_cons_succ]
    refine wpAnyH_take (i := 15) (v := .bool true) rfl (by kernel_rfl) (by kernel_rfl) (by kernel_rfl) (fun _ _ _ h => h) (Or.inl ⟨by rfl, ?_⟩) (by assumption) ?_
    · intro w' hSw; (try dsimp only at hSw); go_simp
    try simp only [Act.put, List.setIfInBounds_toArray, List.set_cons_zero, List.set_cons_succ]
    refine wpAnyH_done (by kernel_rfl) ?_ _
    obtain ⟨-, -, -, -, -, -, -, -, -, -, -, -, b6⟩ := hH4
    have hfin := Lib.hid (gr.out.trans (b6.mono gr.out.size))
    clear b6 c1 c2 d1 d2 gr
    go_wp2_with fail
    all_goals
      go_ret
      exact ⟨rfl, hfin.out⟩
end Go.Proofs.YtbaclacfadkjdaaGreatDoor
