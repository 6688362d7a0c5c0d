/-
  The program's own word of the client's kids: clients.
-/
import Derived.Test.YtdhondndidoniaaGreatDoorG10
import Derived.Test.YtdhondndidoniaaGreatDoorG12
namespace Go.Proofs.YtdhondndidoniaaGreatDoor
open Go.RowKit Go.Shelf
attribute [local go_sem] Oper.semAt_some
set_option linter.unusedVariables false
set_option linter.unusedSimpArgs false

theorem ppWithout_any (a : Option Addr) (len cap : Nat) (w : World) :
    Calls Tryz.prog 60 #[.slice a len cap] w fun e w' => e = .returned (.func (.func 102) #[] #[.pointer (some ⟨w.heap.size, 0, none⟩)]) ∧ w' = w.alloc (.cells #[.slice a len cap] 25) := by
  go_enter Tryz.func60, Tryz.ntmps60
  go_wp2_with fail
  go_ret
  exact ⟨rfl, rfl⟩

theorem kd_wts {S : Nat → Prop} {w : World} : ∀ (l : List (Kd S w)), Gv.wts (l.map nodeK) ≤ l.length * 100000
  | [] => by simp [Gv.wts]
  | x :: l => by
    have h1 := kd_wts l
    have h2 : Gv.wt (nodeK x) ≤ 100000 := x.2.2
    simp only [List.map_cons, Gv.wts, List.length_cons]
    omega
/-- What stands between two rounds. -/
def PpI (S : Nat → Prop) (w : World) (pre : List (Kd S w)) (W : World) : Prop := ∃ vl vt, StA S w.heap.size w.heap.size (w.heap.size + 1) W vl vt vl vt (Pr.gath (pre.map nodeK)).1 (Pr.gath (pre.map nodeK)).2 W ∧ w.heap.size + 3 ≤ W.heap.size

set_option maxRecDepth 100000 in
set_option maxHeartbeats 12800000 in
theorem ppClients_in {S : Nat → Prop} {bo : Option Addr} {cb : Nat} {kids : List Gv.Node} (w : World) (hS : ∀ b, S b → b < w.heap.size) (hK : KidsAt S w (.slice bo kids.length cb) kids) (hlen : kids.length ≤ 100000) (hwt : ∀ x ∈ kids, Gv.wt x ≤ 100000) :
    CallsIn Fence.wide 3 Tryz.prog 32 #[.slice bo kids.length cb] w fun e w' => ∃ v', e = .returned v' ∧ OwnsKids S w.heap.size v' (Pr.joined (kids.filter fun x => !Pr.own x)) w' ∧ Below w.heap.size w w' := by
  refine callsIn_of_wp_marks Tryz.func32 rfl trivial ?_ rfl
  simp only [Tryz.ntmps32, List.size_toArray, List.length_cons, List.length_nil, Nat.reduceAdd, Nat.reduceSub, Array.replicate_succ, Array.replicate_zero, List.push_toArray, List.append_toArray, List.nil_append, List.cons_append]
  gi_wp2_with fail
  refine ⟨trivial, (callsIn_wide.2 (ppWithout_any _ _ _ _)).mono ?_⟩; rintro e w' ⟨rfl, rfl⟩
  gi_wp2
  have bL := ((Boxed.new w 25 (.slice none 0 0)).alloc (.cells #[.slice none 0 0] 25)).alloc (.cells #[.slice bo kids.length cb] 25)
  have bT := (Boxed.new (w.alloc (.cells #[.slice none 0 0] 25)) 25 (.slice none 0 0)).alloc (.cells #[.slice bo kids.length cb] 25)
  have bS := Boxed.new ((w.alloc (.cells #[.slice none 0 0] 25)).alloc (.cells #[.slice none 0 0] 25)) 25 (.slice bo kids.length cb)
  simp only [World.size_alloc] at bT bS
  have hB0 : Below w.heap.size w (((w.alloc (.cells #[.slice none 0 0] 25)).alloc (.cells #[.slice none 0 0] 25)).alloc (.cells #[.slice bo kids.length cb] 25)) := (((Below.refl _ w).alloc (Nat.le_refl _) _).alloc (by simp) _).alloc (by simp; omega) _
  have hsz : (((w.alloc (.cells #[.slice none 0 0] 25)).alloc (.cells #[.slice none 0 0] 25)).alloc (.cells #[.slice bo kids.length cb] 25)).heap.size = w.heap.size + 3 := by simp
  obtain ⟨W0, hW0⟩ : ∃ W0, ((w.alloc (.cells #[.slice none 0 0] 25)).alloc (.cells #[.slice none 0 0] 25)).alloc (.cells #[.slice bo kids.length cb] 25) = W0 := ⟨_, rfl⟩
  rw [hW0] at bL bT bS hB0 hsz ⊢
  clear hW0
  refine wpIn_rangeFunc_ownH rfl (by decide) (gf := 102) (lb := #[.pointer (some ⟨w.heap.size + 1 + 1, 0, none⟩)]) rfl trivial (enters_of Tryz.func102 (by kernel_rfl) rfl)
    (iter_stops 2 (by decide) w W0 (w.heap.size + 1 + 1) (by omega) hK hwt hB0 bS.cell) belowK_t (belowK_b (by omega)) (Below.refl _ _) (fun _ => rfl)
    (fun pre W => PpI S w pre W ∧ Below w.heap.size w W)
    (fun _ _ _ => False)
    ?hI (fun _ _ _ _ _ hs _ _ => hs)
    ?h0
    (fun x a' W => ∃ (Bx : Nat) (xl xt : Value), w.heap.size + 3 ≤ Bx ∧ W.heap[Bx]? = some (.cells #[.int .i64 x.1.1.k, .string x.1.1.sp, .string x.1.1.nm, .slice x.1.1.ao x.1.1.na x.1.1.ca, .slice x.1.1.bo x.1.1.nb x.1.1.cb, .string x.1.1.d] 27 (0, 0)) ∧ Boxed W w.heap.size 25 xl ∧ Boxed W (w.heap.size + 1) 25 xt ∧ some Bx ≠ xl.ownBlock ∧ some Bx ≠ xt.ownBlock ∧ a' = { tmps := #[.slice bo kids.length cb, undef, .slice none 0 0, .pointer (some ⟨w.heap.size, 0, none⟩), .pointer (some ⟨w.heap.size + 1, 0, none⟩), .pointer (some ⟨Bx, 0, none⟩), .slice bo kids.length cb, .func (.func 102) #[] #[.pointer (some ⟨w.heap.size + 1 + 1, 0, none⟩)], .agg #[.int .i64 x.1.1.k, .string x.1.1.sp, .string x.1.1.nm, .slice x.1.1.ao x.1.1.na x.1.1.ca, .slice x.1.1.bo x.1.1.nb x.1.1.cb, .string x.1.1.d], undef, undef, undef, undef, undef, undef, undef, undef, undef, undef, undef, undef, undef, undef, undef, undef, undef, undef, undef, undef], defers := [] })
    (fun x a' _ X Y row hs hg hr => by
      obtain ⟨Bx, xl, xt, h1, h2, h4, h5, h6, h7, h3⟩ := hs
      have hne : ∀ {B : Nat} {o : Obj}, X.heap[B]? = some o → o.isCells = true → some B ≠ row := fun {B o} ho hc e => by
        obtain ⟨_, o', ho', hc'⟩ := hr B e.symm
        rw [ho] at ho'; cases ho'; rw [hc] at hc'; cases hc'
      exact ⟨Bx, xl, xt, h1, (hg.block Bx (Array.getElem?_eq_some_iff.1 h2).1 (hne h2 rfl)).trans h2, h4.kept hg (hne h4 rfl), h5.kept hg (hne h5 rfl), h6, h7, h3⟩)
    ?assign ?body ?done ?stop
  case hI =>
    rintro pre X Y row ⟨⟨vl, vt, hs, hs3⟩, hb⟩ hg hr
    have hne : ∀ r, row = some r → w.heap.size ≤ r ∧ r ≠ w.heap.size ∧ r ≠ w.heap.size + 1 := fun r e => by
      have := (hr r e).1
      omega
    have hoc : ∀ {v : Value} {kd : List Gv.Node}, OwnsKids S w.heap.size v kd X → ∀ r, row = some r → some r ≠ v.ownBlock := fun {v kd} ho r e x => by
      obtain ⟨_, o, ho', hc⟩ := hr r e
      have := (own_cells ho x.symm).2.2 o ho'
      rw [hc] at this; cases this
    refine ⟨⟨vl, vt, ?_, Nat.le_trans hs3 hg.size⟩, hb.grown hg hs.low (fun k e => (hne k e).1)⟩
    exact { bl := hs.bl.kept hg (fun e => (hne _ e.symm).2.1 rfl), bt := hs.bt.kept hg (fun e => (hne _ e.symm).2.2 rfl), ol := hs.ol.far hg (fun g e x => by have := (hne g e).1; have := hS g x; omega) (by
      cases hv : vl.ownBlock with
      | none => exact .inl rfl
      | some r => exact .inr fun e => hoc hs.ol r e.symm hv.symm), ot := hs.ot.far hg (fun g e x => by have := (hne g e).1; have := hS g x; omega) (by
      cases hv : vt.ownBlock with
      | none => exact .inl rfl
      | some r => exact .inr fun e => hoc hs.ot r e.symm hv.symm), ne := hs.ne, l1 := hs.l1, l2 := hs.l2, lt := hs.lt, kb := Below.refl _ _, ko := KeepsOthers.refl _, hS := hS }
  case h0 => exact ⟨⟨_, _, { bl := bL, bt := bT, ol := kids_nil _ _ _, ot := kids_nil _ _ _, ne := .inl rfl, l1 := Nat.le_refl _, l2 := by omega, lt := by omega, kb := Below.refl _ _, ko := KeepsOthers.refl _, hS := hS }, by omega⟩, hB0⟩
  case assign =>
    rintro q pre x W K ⟨⟨vl, vt, hs, hs3⟩, hb⟩ hK'
    have hlt := hs.bt.lt
    have hlo := hs.low
    unfold encK
    gi_wp2
    have ha := (hs.on (W' := W.alloc (.cells #[.int .i64 x.1.1.k, .string x.1.1.sp, .string x.1.1.nm, .slice x.1.1.ao x.1.1.na x.1.1.ca, .slice x.1.1.bo x.1.1.nb x.1.1.cb, .string x.1.1.d] 27)) ((Below.refl _ W).alloc (Nat.le_refl _) _)).from _ (Below.refl _ _) (KeepsOthers.refl _)
    refine hK' _ _ ((KeepsOthers.alloc _ _).from _) ((Below.refl _ W).alloc hlo _) ⟨⟨vl, vt, ha, by simp; omega⟩, hb.alloc hlo _⟩ ⟨W.heap.size, vl, vt, hs3, World.alloc_heap_new _ _, ha.bl, ha.bt, fun e => ?_, fun e => ?_, rfl⟩
    · have := (own_cells hs.ol e.symm).2.1; omega
    · have := (own_cells hs.ot e.symm).2.1; omega
  case body =>
    rintro q pre x a' W hq _ ⟨⟨vl, vt, hs, hs3⟩, hb⟩ ⟨Bx, xl, xt, hBx, bX, hxl, hxt, nl, nt, rfl⟩ hlt
    have ebl : vl = xl := Boxed.same hs.bl hxl
    have ebt : vt = xt := Boxed.same hs.bt hxt
    subst ebl
    subst ebt
    have hstep := Lib.hid (Pr.gath_snoc (pre.map nodeK) (nodeK x))
    have hmap := Lib.hid (show (pre ++ [x]).map nodeK = pre.map nodeK ++ [nodeK x] by rw [List.map_append]; rfl)
    have hTw : Gv.wts (Pr.gath (pre.map nodeK)).2 ≤ 90000000000 := by
      have h1 := Pr.gath_wt (pre.map nodeK)
      have h2 := kd_wts pre
      have h3 : pre.length * 100000 ≤ 100000 * 100000 := Nat.mul_le_mul_right _ (by omega)
      omega
    have hLT : (Pr.gath (pre.map nodeK)).1.length + (Pr.gath (pre.map nodeK)).2.length ≤ 100000 := by
      have h1 := Pr.gath_len (pre.map nodeK)
      rw [List.length_map] at h1
      omega
    obtain ⟨n, hn⟩ : ∃ n, n = nodeK x := ⟨_, rfl⟩
    have hx := x.2.1
    rw [show x.1.2 = n from hn.symm] at hx
    rw [← hn] at hstep hmap
    obtain ⟨L, hL⟩ : ∃ L, L = (Pr.gath (pre.map nodeK)).1 := ⟨_, rfl⟩
    obtain ⟨T, hT⟩ : ∃ T, T = (Pr.gath (pre.map nodeK)).2 := ⟨_, rfl⟩
    rw [← hL, ← hT] at hs hLT
    rw [← hT] at hTw
    have hst : Hid (Pr.gath (pre.map nodeK ++ [n]) = Pr.stepK (L, T) n) := Lib.hid (by rw [hstep.out, hL, hT])
    clear hL hT hstep
    obtain ⟨⟨k, sp, nm, ao, na, ca, bo2, nb, cb2, d⟩, hH⟩ : ∃ H : NH, H = x.1.1 := ⟨_, rfl⟩
    rw [← hH] at hx bX ⊢
    dsimp only [NH.list] at hx bX ⊢
    have hkn : Am.kindOf n = k := by
      obtain ⟨_, _, _, _, _, _, _, _, _, _, _, e1, e2, -⟩ := hx.open'
      rw [e1]
      injection e2 with e2 _
      injection e2 with _ e2
      exact e2.symm
    have hs0 : Hid (StX S w.heap.size w.heap.size (w.heap.size + 1) Bx #[.int .i64 k, .string sp, .string nm, .slice ao na ca, .slice bo2 nb cb2, .string d] W vl vt vl vt L T W) := Lib.hid ⟨hs, bX, nl, nt, by omega, by omega⟩
    have hxw := Lib.hid (hx.stay (w' := W) fun b o hbb _ => hb.cell (p := ⟨b, o, none⟩) (hS b hbb))
    have hfin : Hid (∀ (vl' vt' : Value) (L' T' : List Gv.Node) (V : World), Hid (Pr.gath (pre.map nodeK ++ [n]) = (L', T')) → StX S w.heap.size w.heap.size (w.heap.size + 1) Bx #[.int .i64 k, .string sp, .string nm, .slice ao na ca, .slice bo2 nb cb2, .string d] W vl' vt' vl' vt' L' T' V → KeepsFrom W0.heap.size W V ∧ Below w.heap.size W V ∧ PpI S w (pre ++ [x]) V ∧ Below w.heap.size w V) := Lib.hid (fun vl' vt' L' T' V he h => ⟨h.st.ko.from _, h.st.kb, ⟨vl', vt', by rw [hmap.out, he.out]; exact h.st.from _ (Below.refl _ _) (KeepsOthers.refl _), Nat.le_trans hs3 h.st.kb.size⟩, hb.trans h.st.kb⟩)
    clear hs hb hs3 hx bX nl nt hxl hxt hn hH hmap
    obtain ⟨x0, x1, x2, x3, x4, x5⟩ := node_open (show Cells W Bx _ (nodeArr k sp nm (.slice ao na ca) (.slice bo2 nb cb2) d) from hs0.out.cx)
    by_cases hk1 : k = 1
    case pos =>
      subst hk1
      have hst2 : Hid (Pr.gath (pre.map nodeK ++ [n]) = (L, T ++ [n])) := Lib.hid (by rw [hst.out]; exact if_pos hkn)
      replace hTw := Lib.hid hTw
      clear hst
      gi_upto_region 5 with fail
      clear x0 x1 x2 x3 x4 x5
      refine wpIn_region_round (S := fun w' => Cells w' Bx 27 #[.int .i64 1, .string sp, .string nm, .slice ao na ca, .slice bo2 nb cb2, .string d]) (by kernel_rfl) (by kernel_rfl) (by rintro ⟨a, w, h⟩; exact h) hs0.out.cx.drew (fun hSd => ?_)
      have hs1 := Lib.hid (hs0.out.on (Below.refl _ _).drew)
      have hx1 := Lib.hid (hxw.out.on (Below.refl _ _).drew)
      generalize W.drew = v0 at *
      refine wpAnyH_take (i := 1) (v := .agg #[.int .i64 1, .string sp, .string nm, .slice ao na ca, .slice bo2 nb cb2, .string d]) rfl (by kernel_rfl) (by kernel_rfl) (by kernel_rfl) (fun _ _ _ h => h) (Or.inl ⟨by rfl, ?_⟩) (by assumption) ?_
      · intro w' hSw; obtain ⟨p0, p1, p2, p3, p4, p5⟩ := node_open (show Cells w' Bx _ (nodeArr 1 sp nm (.slice ao na ca) (.slice bo2 nb cb2) d) from hSw); go_simp
      try simp only [Act.put, List.setIfInBounds_toArray, List.set_cons_zero, List.set_cons_succ]
      obtain ⟨tb, tc, tcs, rfl, -, -, -⟩ := hs1.out.st.ot.parts2
      refine wpAnyH_ready (rs := [0, 3]) (by kernel_rfl) (by simp) (AllReadyH.cons rfl (fun K hK => ?_) (AllReadyH.cons rfl (fun K hK => ?_) AllReadyH.nil))
      all_goals first
        | (
            have c4 := hs1.out.st.bt.cell
            go_simp
            refine hK.out _ _ hs1.out.cx (fun hH0 => ?_)
            clear hK K c4
            try simp only [Act.put, List.setIfInBounds_toArray, List.set_cons_zero, List.set_cons_succ]
            refine wpAnyH_take (i := 2) (v := .int .i64 (T.length : Int)) rfl (by kernel_rfl) (by kernel_rfl) (by kernel_rfl) (fun _ _ _ h => h) (Or.inl ⟨by rfl, ?_⟩) (by assumption) ?_
            · intro w' hSw; go_simp
            try simp only [Act.put, List.setIfInBounds_toArray, List.set_cons_zero, List.set_cons_succ]
            refine wpAnyH_ready (rs := [3]) (by kernel_rfl) (by simp) (AllReadyH.cons rfl (fun K hK => ?_) AllReadyH.nil)
            go_simp
            have ba := (Below.refl v0.heap.size v0).alloc (Nat.le_refl _) (.cells #[.int .i64 0, .string ⟨#[]⟩, .string ⟨#[]⟩, .slice none 0 0, .slice none 0 0, .string ⟨#[]⟩] 27)
            have hz1 := Lib.hid (Cells.new v0 27 #[.int .i64 0, .string ⟨#[]⟩, .string ⟨#[]⟩, .slice none 0 0, .slice none 0 0, .string ⟨#[]⟩])
            have hs2 := Lib.hid (hs1.out.on ba)
            have hx2 := Lib.hid (hx1.out.on ba)
            refine hK.out _ _ hs2.out.cx (fun hH1 => ?_)
            clear hK K ba hH0)
        | (
            go_simp
            have ba := (Below.refl v0.heap.size v0).alloc (Nat.le_refl _) (.cells #[.int .i64 0, .string ⟨#[]⟩, .string ⟨#[]⟩, .slice none 0 0, .slice none 0 0, .string ⟨#[]⟩] 27)
            have hz1 := Lib.hid (Cells.new v0 27 #[.int .i64 0, .string ⟨#[]⟩, .string ⟨#[]⟩, .slice none 0 0, .slice none 0 0, .string ⟨#[]⟩])
            have hs2 := Lib.hid (hs1.out.on ba)
            have hx2 := Lib.hid (hx1.out.on ba)
            refine hK.out _ _ hs2.out.cx (fun hH0 => ?_)
            clear hK K ba
            try simp only [Act.put, List.setIfInBounds_toArray, List.set_cons_zero, List.set_cons_succ]
            refine wpAnyH_ready (rs := [0]) (by kernel_rfl) (by simp) (AllReadyH.cons rfl (fun K hK => ?_) AllReadyH.nil)
            have c4 := hs2.out.st.bt.cell
            go_simp
            refine hK.out _ _ hs2.out.cx (fun hH1 => ?_)
            clear hK K c4 hH0
            try simp only [Act.put, List.setIfInBounds_toArray, List.set_cons_zero, List.set_cons_succ]
            refine wpAnyH_take (i := 2) (v := .int .i64 (T.length : Int)) rfl (by kernel_rfl) (by kernel_rfl) (by kernel_rfl) (fun _ _ _ h => h) (Or.inl ⟨by rfl, ?_⟩) (by assumption) ?_
            · intro w' hSw; go_simp
            try simp only [Act.put, List.setIfInBounds_toArray, List.set_cons_zero, List.set_cons_succ])
      all_goals
        generalize v0.alloc (.cells #[.int .i64 0, .string ⟨#[]⟩, .string ⟨#[]⟩, .slice none 0 0, .slice none 0 0, .string ⟨#[]⟩] 27) = v1 at *
        try simp only [Act.put, List.setIfInBounds_toArray, List.set_cons_zero, List.set_cons_succ]
        refine wpAnyH_ready (rs := [4]) (by kernel_rfl) (by simp) (AllReadyH.cons rfl (fun K hK => ?_) AllReadyH.nil)
        refine step_app_more (K2 := [(.mk 0 ⟨#[]⟩ ⟨#[]⟩ [] [] ⟨#[]⟩ : Gv.Node)]) rfl _ _ rfl rfl hs2.out.st.ot rfl (node_row hz1.out (node_plain (fun _ => True) _ 0 ⟨#[]⟩ ⟨#[]⟩ ⟨#[]⟩)) rfl (fun j hj => by
          have hj0 : j = 0 := by simp at hj; exact hj
          subst hj0
          exact node_plain _ _ 0 ⟨#[]⟩ ⟨#[]⟩ ⟨#[]⟩) (fun e => (by cases e)) (by omega) hs2.out.st.low ?_
        intro v' v2 hO hg hat
        obtain ⟨g, cap, rfl⟩ := hO.full (by simp)
        rw [List.length_append, List.length_singleton] at hO hat ⊢
        have hs4 := Lib.hid (hs2.out.appT hO hg hat)
        have hx4 := Lib.hid (hs4.out.node hxw.out)
        obtain ⟨⟨y0, y1, y2, y3, y4, y5, d0, d1, d2, d3, d4, d5⟩, fz⟩ := last_cells hO rfl
        refine hK.out _ _ hs4.out.cx (fun hH2 => ?_)
        clear hK K hO hg hat hs2 hs1 hz1 hx2
        try simp only [Act.put, List.setIfInBounds_toArray, List.set_cons_zero, List.set_cons_succ]
        have hti : (T.length : Int) < ((T.length + 1 : Nat) : Int) := by omega
        have ht0 : (0 : Int) ≤ (T.length : Int) := by omega
        refine wpAnyH_take (i := 5) (v := .pointer (some ⟨g, T.length * 6, none⟩)) rfl (by kernel_rfl) (by kernel_rfl) (by kernel_rfl) (fun _ _ _ h => h) (Or.inl ⟨by rfl, ?_⟩) (by assumption) ?_
        · intro w' hSw; go_simp; intro hxx; omega
        try simp only [Act.put, List.setIfInBounds_toArray, List.set_cons_zero, List.set_cons_succ]
        refine wpAnyH_ready (rs := [6, 7]) (by kernel_rfl) (by simp) (AllReadyH.cons rfl (fun K hK => ?_) (AllReadyH.cons rfl (fun K hK => ?_) AllReadyH.nil))
        · go_simp
          have hs5 := Lib.hid (hs4.out.putT rfl rfl hx4.out)
          unfold sixSet at hs5
          refine hK.out _ _ hs5.out.cx (fun hH3 => ?_)
          clear hK K hs4 hx4 d0 d1 d2 d3 d4 d5 fz
          try simp only [Act.put, List.setIfInBounds_toArray, List.set_cons_zero, List.set_cons_succ]
          refine wpAnyH_ready (rs := [7]) (by kernel_rfl) (by simp) (AllReadyH.cons rfl (fun K hK => ?_) AllReadyH.nil)
          have c4 := hs5.out.st.bt.cell
          have f4 := hs5.out.st.bt.frozen
          go_simp
          have hs6 := Lib.hid (hs5.out.setT (.slice (some ⟨g, 0, none⟩) (T.length + 1) cap))
          refine hK.out _ _ hs6.out.cx (fun hH4 => ?_)
          clear hK K hs5 c4 f4
          try simp only [Act.put, List.setIfInBounds_toArray, List.set_cons_zero, List.set_cons_succ]
          refine wpAnyH_done (by kernel_rfl) ?_ _
          gi_wp2
          exact hfin.out _ _ _ _ _ hst2 hs6.out
        · have c4 := hs4.out.st.bt.cell
          have f4 := hs4.out.st.bt.frozen
          go_simp
          have hs5 := Lib.hid (hs4.out.setT (.slice (some ⟨g, 0, none⟩) (T.length + 1) cap))
          refine hK.out _ _ hs5.out.cx (fun hH3 => ?_)
          clear hK K hs4 hx4 d0 d1 d2 d3 d4 d5 fz c4 f4
          try simp only [Act.put, List.setIfInBounds_toArray, List.set_cons_zero, List.set_cons_succ]
          refine wpAnyH_ready (rs := [6]) (by kernel_rfl) (by simp) (AllReadyH.cons rfl (fun K hK => ?_) AllReadyH.nil)
          obtain ⟨⟨y0, y1, y2, y3, y4, y5, d0, d1, d2, d3, d4, d5⟩, fz⟩ := last_cells hs5.out.st.ot rfl
          have hx5 := Lib.hid (hs5.out.node hxw.out)
          go_simp
          have hs6 := Lib.hid (hs5.out.putT rfl rfl hx5.out)
          unfold sixSet at hs6
          refine hK.out _ _ hs6.out.cx (fun hH4 => ?_)
          clear hK K hs5 hx5 d0 d1 d2 d3 d4 d5 fz
          try simp only [Act.put, List.setIfInBounds_toArray, List.set_cons_zero, List.set_cons_succ]
          refine wpAnyH_done (by kernel_rfl) ?_ _
          gi_wp2
          exact hfin.out _ _ _ _ _ hst2 hs6.out
    case neg =>
      have hkb : (k == 1) = false := by rw [beq_eq_false_iff_ne]; exact hk1
      have hst2 : Hid (Pr.gath (pre.map nodeK ++ [n]) = (L ++ Pr.one T ++ [n], [])) := Lib.hid (by rw [hst.out]; exact if_neg (by rw [hkn]; exact hk1))
      have hone : (Pr.one T).length ≤ T.length := by
        unfold Pr.one
        split
        · exact Nat.le_refl _
        · simp; omega
      clear hst
      gi_upto_region 6 with fail
      clear x0 x1 x2 x3 x4 x5 hkb hk1 hkn
      refine wpIn_region_round_last (m := 7) (S := fun w' => Cells w' Bx 27 #[.int .i64 k, .string sp, .string nm, .slice ao na ca, .slice bo2 nb cb2, .string d] ∧ w'.cell? ⟨w.heap.size, 0, none⟩ = some vl ∧ w'.cell? ⟨w.heap.size + 1, 0, none⟩ = some vt) (by kernel_rfl) (by kernel_rfl) (by rintro ⟨a, w, h⟩; exact h) (by rfl) (by rfl) (by rfl) (by rfl) (by kernel_rfl) ⟨hs0.out.cx.drew, hs0.out.st.bl.cell, hs0.out.st.bt.cell⟩ (fun hSd => ?_)
      simp only [lastNop, nopOf, List.setIfInBounds_toArray, List.set_cons_succ, List.set_cons_zero]
      have hs1 := Lib.hid (hs0.out.on (Below.refl _ _).drew)
      generalize W.drew = v0 at *
      obtain ⟨tb, tc, tcs, rfl, hrow, hkd, hno⟩ := hs1.out.st.ot.parts2
      refine wpAnyH_take (i := 0) (v := vl) rfl (by kernel_rfl) (by kernel_rfl) (by kernel_rfl) (fun _ _ _ h => h) (Or.inl ⟨by rfl, ?_⟩) (by assumption) ?_
      · intro w' hSw; obtain ⟨-, c3, -⟩ := hSw; go_simp
      try simp only [Act.put, List.setIfInBounds_toArray, List.set_cons_zero, List.set_cons_succ]
      refine wpAnyH_take (i := 1) (v := .slice tb T.length tc) rfl (by kernel_rfl) (by kernel_rfl) (by kernel_rfl) (fun _ _ _ h => h) (Or.inl ⟨by rfl, ?_⟩) (by assumption) ?_
      · intro w' hSw; obtain ⟨-, -, c4⟩ := hSw; go_simp
      try simp only [Act.put, List.setIfInBounds_toArray, List.set_cons_zero, List.set_cons_succ]
      refine wpAnyH_take (i := 4) (v := .agg #[.int .i64 k, .string sp, .string nm, .slice ao na ca, .slice bo2 nb cb2, .string d]) rfl (by kernel_rfl) (by kernel_rfl) (by kernel_rfl) (fun _ _ _ h => h) (Or.inl ⟨by rfl, ?_⟩) (by assumption) ?_
      · intro w' hSw; obtain ⟨hc5, -, -⟩ := hSw; obtain ⟨p0, p1, p2, p3, p4, p5⟩ := node_open (show Cells w' Bx _ (nodeArr k sp nm (.slice ao na ca) (.slice bo2 nb cb2) d) from hc5); go_simp
      try simp only [Act.put, List.setIfInBounds_toArray, List.set_cons_zero, List.set_cons_succ]
      refine wpAnyH_ready (rs := [2, 5]) (by kernel_rfl) (by simp) (AllReadyH.cons rfl (fun K hK => ?_) (AllReadyH.cons rfl (fun K hK => ?_) AllReadyH.nil))
      · go_simp
        refine (ppJoin_any v0 hrow hkd hno (by omega) hTw).mono ?_
        rintro e v1 ⟨jb, jc, jcs, rfl, jrow, jkd, jno, b1⟩
        have hs2 := Lib.hid (hs1.out.on b1)
        refine hK.out _ _ ⟨hs2.out.cx, hs2.out.st.bl.cell, hs2.out.st.bt.cell⟩ (fun hH0 => ?_)
        clear hK K b1 hrow hkd hno hs1
        try simp only [Act.put, List.setIfInBounds_toArray, List.set_cons_zero, List.set_cons_succ]
        refine wpAnyH_ready (rs := [3, 5]) (by kernel_rfl) (by simp) (AllReadyH.cons rfl (fun K hK => ?_) (AllReadyH.cons rfl (fun K hK => ?_) AllReadyH.nil))
        · refine step_app_more (K2 := Pr.one T) rfl _ _ rfl rfl hs2.out.st.ol rfl jrow rfl (fun j hj => (jkd j hj).mono fun b hb _ => ⟨hb, fun e => by have := (own_cells hs2.out.st.ol e.symm).1; have := hS b hb; omega⟩) jno (by omega) hs2.out.st.low ?_
          intro v' v2 hO hg hat
          have hs3 := Lib.hid (hs2.out.appL hO hg hat)
          refine hK.out _ _ ⟨hs3.out.cx, hs3.out.st.bl.cell, hs3.out.st.bt.cell⟩ (fun hH1 => ?_)
          clear hK K hO hg hat hs2 jrow jkd jno
          try simp only [Act.put, List.setIfInBounds_toArray, List.set_cons_zero, List.set_cons_succ]
          refine wpAnyH_ready (rs := [5]) (by kernel_rfl) (by simp) (AllReadyH.cons rfl (fun K hK => ?_) AllReadyH.nil)
          go_simp
          have ba := (Below.refl v2.heap.size v2).alloc (Nat.le_refl _) (.cells #[.int .i64 k, .string sp, .string nm, .slice ao na ca, .slice bo2 nb cb2, .string d] 27)
          have hG := Lib.hid (Cells.new v2 27 #[.int .i64 k, .string sp, .string nm, .slice ao na ca, .slice bo2 nb cb2, .string d])
          have hs4 := Lib.hid (hs3.out.on ba)
          refine hK.out _ _ ⟨hs4.out.cx, hs4.out.st.bl.cell, hs4.out.st.bt.cell⟩ (fun hH2 => ?_)
          clear hK K hs3 ba
          generalize v2.alloc (.cells #[.int .i64 k, .string sp, .string nm, .slice ao na ca, .slice bo2 nb cb2, .string d] 27) = v5 at *
          try simp only [Act.put, List.setIfInBounds_toArray, List.set_cons_zero, List.set_cons_succ]
          refine wpAnyH_ready (rs := [6]) (by kernel_rfl) (by simp) (AllReadyH.cons rfl (fun K hK => ?_) AllReadyH.nil)
          have hxn := hs4.out.node hxw.out
          refine step_app_more (K2 := [n]) rfl _ _ rfl rfl hs4.out.st.ol rfl (node_row hG.out hxn) rfl (fun j hj => by
            have hj0 : j = 0 := by simp at hj; exact hj
            subst hj0
            exact hxn.mono fun b hb _ => ⟨hb, fun e => by have := (own_cells hs4.out.st.ol e.symm).1; have := hS b hb; omega⟩) (fun e => (by cases e)) (by rw [List.length_append]; omega) hs4.out.st.low ?_
          intro v3 v6 hO3 hg3 hat3
          obtain ⟨g, cap, rfl⟩ := hO3.full (by simp)
          generalize (L ++ Pr.one T ++ [n]).length = m at *
          have hs5 := Lib.hid (hs4.out.appL hO3 hg3 hat3)
          refine hK.out _ _ ⟨hs5.out.cx, hs5.out.st.bl.cell, hs5.out.st.bt.cell⟩ (fun hH9 => ?_)
          clear hK K hs4 hG hO3 hg3 hat3 hxn
          try simp only [Act.put, List.setIfInBounds_toArray, List.set_cons_zero, List.set_cons_succ]
          refine wpAnyH_take (i := 7) (v := .bool true) rfl (by kernel_rfl) (by kernel_rfl) (by kernel_rfl) (fun _ _ _ h => h) (Or.inl ⟨by rfl, ?_⟩) (by assumption) ?_
          · intro w' hSw; go_simp
          try simp only [Act.put, List.setIfInBounds_toArray, List.set_cons_zero, List.set_cons_succ]
          refine wpAnyH_done (by kernel_rfl) ?_ _
          show Oper.wp _ _ _ _ _ _
          have c3 := hs5.out.st.bl.cell
          have f3 := hs5.out.st.bl.frozen
          have hs6 := Lib.hid (hs5.out.setL (.slice (some ⟨g, 0, none⟩) m cap))
          have hs7 := Lib.hid (hs6.out.nilT.setT (.slice none 0 0))
          have c4 := hs6.out.st.bt.cell
          have f4 := hs6.out.st.bt.frozen
          clear hs5
          go_simp
          gi_wp2
          exact hfin.out _ _ _ _ _ hst2 hs7.out
        · go_simp
          have ba := (Below.refl v1.heap.size v1).alloc (Nat.le_refl _) (.cells #[.int .i64 k, .string sp, .string nm, .slice ao na ca, .slice bo2 nb cb2, .string d] 27)
          have hG := Lib.hid (Cells.new v1 27 #[.int .i64 k, .string sp, .string nm, .slice ao na ca, .slice bo2 nb cb2, .string d])
          have hs3 := Lib.hid (hs2.out.on ba)
          have jrow2 := jrow.stay (stay_below ba)
          have jkd2 := fun j h => (jkd j h).on ba
          refine hK.out _ _ ⟨hs3.out.cx, hs3.out.st.bl.cell, hs3.out.st.bt.cell⟩ (fun hH1 => ?_)
          clear hK K ba jrow jkd
          have hGl : some v1.heap.size ≠ vl.ownBlock := fun e => by have := (own_cells hs2.out.st.ol e.symm).2.1; omega
          clear hs2
          generalize v1.alloc (.cells #[.int .i64 k, .string sp, .string nm, .slice ao na ca, .slice bo2 nb cb2, .string d] 27) = v2 at *
          try simp only [Act.put, List.setIfInBounds_toArray, List.set_cons_zero, List.set_cons_succ]
          refine wpAnyH_ready (rs := [3]) (by kernel_rfl) (by simp) (AllReadyH.cons rfl (fun K hK => ?_) AllReadyH.nil)
          refine step_app_more (K2 := Pr.one T) rfl _ _ rfl rfl hs3.out.st.ol rfl jrow2 rfl (fun j hj => (jkd2 j hj).mono fun b hb _ => ⟨hb, fun e => by have := (own_cells hs3.out.st.ol e.symm).1; have := hS b hb; omega⟩) jno (by omega) hs3.out.st.low ?_
          intro v' v5 hO hg hat
          have hs4 := Lib.hid (hs3.out.appL hO hg hat)
          replace hG := Lib.hid (show Cells v5 v1.heap.size _ _ from (hg.block v1.heap.size hG.out.lt hGl).trans hG.out)
          refine hK.out _ _ ⟨hs4.out.cx, hs4.out.st.bl.cell, hs4.out.st.bt.cell⟩ (fun hH2 => ?_)
          clear hK K hO hg hat hs3 jrow2 jkd2 jno hGl
          try simp only [Act.put, List.setIfInBounds_toArray, List.set_cons_zero, List.set_cons_succ]
          refine wpAnyH_ready (rs := [6]) (by kernel_rfl) (by simp) (AllReadyH.cons rfl (fun K hK => ?_) AllReadyH.nil)
          have hxn := hs4.out.node hxw.out
          refine step_app_more (K2 := [n]) rfl _ _ rfl rfl hs4.out.st.ol rfl (node_row hG.out hxn) rfl (fun j hj => by
            have hj0 : j = 0 := by simp at hj; exact hj
            subst hj0
            exact hxn.mono fun b hb _ => ⟨hb, fun e => by have := (own_cells hs4.out.st.ol e.symm).1; have := hS b hb; omega⟩) (fun e => (by cases e)) (by rw [List.length_append]; omega) hs4.out.st.low ?_
          intro v3 v6 hO3 hg3 hat3
          obtain ⟨g, cap, rfl⟩ := hO3.full (by simp)
          generalize (L ++ Pr.one T ++ [n]).length = m at *
          have hs5 := Lib.hid (hs4.out.appL hO3 hg3 hat3)
          refine hK.out _ _ ⟨hs5.out.cx, hs5.out.st.bl.cell, hs5.out.st.bt.cell⟩ (fun hH9 => ?_)
          clear hK K hs4 hG hO3 hg3 hat3 hxn
          try simp only [Act.put, List.setIfInBounds_toArray, List.set_cons_zero, List.set_cons_succ]
          refine wpAnyH_take (i := 7) (v := .bool true) rfl (by kernel_rfl) (by kernel_rfl) (by kernel_rfl) (fun _ _ _ h => h) (Or.inl ⟨by rfl, ?_⟩) (by assumption) ?_
          · intro w' hSw; go_simp
          try simp only [Act.put, List.setIfInBounds_toArray, List.set_cons_zero, List.set_cons_succ]
          refine wpAnyH_done (by kernel_rfl) ?_ _
          show Oper.wp _ _ _ _ _ _
          have c3 := hs5.out.st.bl.cell
          have f3 := hs5.out.st.bl.frozen
          have hs6 := Lib.hid (hs5.out.setL (.slice (some ⟨g, 0, none⟩) m cap))
          have hs7 := Lib.hid (hs6.out.nilT.setT (.slice none 0 0))
          have c4 := hs6.out.st.bt.cell
          have f4 := hs6.out.st.bt.frozen
          clear hs5
          go_simp
          gi_wp2
          exact hfin.out _ _ _ _ _ hst2 hs7.out
      · go_simp
        have ba := (Below.refl v0.heap.size v0).alloc (Nat.le_refl _) (.cells #[.int .i64 k, .string sp, .string nm, .slice ao na ca, .slice bo2 nb cb2, .string d] 27)
        have hG := Lib.hid (Cells.new v0 27 #[.int .i64 k, .string sp, .string nm, .slice ao na ca, .slice bo2 nb cb2, .string d])
        have hs2 := Lib.hid (hs1.out.on ba)
        have hrow2 := hrow.stay (stay_below ba)
        have hkd2 := fun j h => (hkd j h).on ba
        refine hK.out _ _ ⟨hs2.out.cx, hs2.out.st.bl.cell, hs2.out.st.bt.cell⟩ (fun hH0 => ?_)
        clear hK K ba hrow hkd
        have hGl : some v0.heap.size ≠ vl.ownBlock := fun e => by have := (own_cells hs1.out.st.ol e.symm).2.1; omega
        clear hs1
        generalize v0.alloc (.cells #[.int .i64 k, .string sp, .string nm, .slice ao na ca, .slice bo2 nb cb2, .string d] 27) = v1 at *
        try simp only [Act.put, List.setIfInBounds_toArray, List.set_cons_zero, List.set_cons_succ]
        refine wpAnyH_ready (rs := [2]) (by kernel_rfl) (by simp) (AllReadyH.cons rfl (fun K hK => ?_) AllReadyH.nil)
        go_simp
        refine (ppJoin_any v1 hrow2 hkd2 hno (by omega) hTw).mono ?_
        rintro e v2 ⟨jb, jc, jcs, rfl, jrow, jkd, jno, b1⟩
        have hs3 := Lib.hid (hs2.out.on b1)
        replace hG := Lib.hid (hG.out.on b1)
        refine hK.out _ _ ⟨hs3.out.cx, hs3.out.st.bl.cell, hs3.out.st.bt.cell⟩ (fun hH1 => ?_)
        clear hK K b1 hrow2 hkd2 hno hs2
        try simp only [Act.put, List.setIfInBounds_toArray, List.set_cons_zero, List.set_cons_succ]
        refine wpAnyH_ready (rs := [3]) (by kernel_rfl) (by simp) (AllReadyH.cons rfl (fun K hK => ?_) AllReadyH.nil)
        refine step_app_more (K2 := Pr.one T) rfl _ _ rfl rfl hs3.out.st.ol rfl jrow rfl (fun j hj => (jkd j hj).mono fun b hb _ => ⟨hb, fun e => by have := (own_cells hs3.out.st.ol e.symm).1; have := hS b hb; omega⟩) jno (by omega) hs3.out.st.low ?_
        intro v' v5 hO hg hat
        have hs4 := Lib.hid (hs3.out.appL hO hg hat)
        replace hG := Lib.hid (show Cells v5 v0.heap.size _ _ from (hg.block v0.heap.size hG.out.lt hGl).trans hG.out)
        refine hK.out _ _ ⟨hs4.out.cx, hs4.out.st.bl.cell, hs4.out.st.bt.cell⟩ (fun hH2 => ?_)
        clear hK K hO hg hat hs3 jrow jkd jno hGl
        try simp only [Act.put, List.setIfInBounds_toArray, List.set_cons_zero, List.set_cons_succ]
        refine wpAnyH_ready (rs := [6]) (by kernel_rfl) (by simp) (AllReadyH.cons rfl (fun K hK => ?_) AllReadyH.nil)
        have hxn := hs4.out.node hxw.out
        refine step_app_more (K2 := [n]) rfl _ _ rfl rfl hs4.out.st.ol rfl (node_row hG.out hxn) rfl (fun j hj => by
          have hj0 : j = 0 := by simp at hj; exact hj
          subst hj0
          exact hxn.mono fun b hb _ => ⟨hb, fun e => by have := (own_cells hs4.out.st.ol e.symm).1; have := hS b hb; omega⟩) (fun e => (by cases e)) (by rw [List.length_append]; omega) hs4.out.st.low ?_
        intro v3 v6 hO3 hg3 hat3
        obtain ⟨g, cap, rfl⟩ := hO3.full (by simp)
        generalize (L ++ Pr.one T ++ [n]).length = m at *
        have hs5 := Lib.hid (hs4.out.appL hO3 hg3 hat3)
        refine hK.out _ _ ⟨hs5.out.cx, hs5.out.st.bl.cell, hs5.out.st.bt.cell⟩ (fun hH9 => ?_)
        clear hK K hs4 hG hO3 hg3 hat3 hxn
        try simp only [Act.put, List.setIfInBounds_toArray, List.set_cons_zero, List.set_cons_succ]
        refine wpAnyH_take (i := 7) (v := .bool true) rfl (by kernel_rfl) (by kernel_rfl) (by kernel_rfl) (fun _ _ _ h => h) (Or.inl ⟨by rfl, ?_⟩) (by assumption) ?_
        · intro w' hSw; go_simp
        try simp only [Act.put, List.setIfInBounds_toArray, List.set_cons_zero, List.set_cons_succ]
        refine wpAnyH_done (by kernel_rfl) ?_ _
        show Oper.wp _ _ _ _ _ _
        have c3 := hs5.out.st.bl.cell
        have f3 := hs5.out.st.bl.frozen
        have hs6 := Lib.hid (hs5.out.setL (.slice (some ⟨g, 0, none⟩) m cap))
        have hs7 := Lib.hid (hs6.out.nilT.setT (.slice none 0 0))
        have c4 := hs6.out.st.bt.cell
        have f4 := hs6.out.st.bt.frozen
        clear hs5
        go_simp
        gi_wp2
        exact hfin.out _ _ _ _ _ hst2 hs7.out
  case done =>
    rintro D ys W hD hys ⟨⟨vl, vt, hs, hs3⟩, hb⟩ hKd
    have hjo : Hid (Pr.joined (kids.filter fun x => !Pr.own x) = (Pr.gath (ys.map nodeK)).1 ++ Pr.one (Pr.gath (ys.map nodeK)).2) := Lib.hid (by rw [← hys.out]; exact (Pr.gath_joined _).symm)
    have hyl : ys.length ≤ kids.length := by
      have h1 := congrArg List.length hys.out
      rw [List.length_map] at h1
      have h2 := List.length_filter_le (fun x => !Pr.own x) kids
      omega
    have hTw : Gv.wts (Pr.gath (ys.map nodeK)).2 ≤ 90000000000 := by
      have h1 := Pr.gath_wt (ys.map nodeK)
      have h2 := kd_wts ys
      have h3 : ys.length * 100000 ≤ 100000 * 100000 := Nat.mul_le_mul_right _ (by omega)
      omega
    have hLT : (Pr.gath (ys.map nodeK)).1.length + (Pr.gath (ys.map nodeK)).2.length ≤ 100000 := by
      have h1 := Pr.gath_len (ys.map nodeK)
      rw [List.length_map] at h1
      omega
    generalize (Pr.gath (ys.map nodeK)).1 = L at *
    generalize (Pr.gath (ys.map nodeK)).2 = T at *
    have hone : (Pr.one T).length ≤ T.length := by
      unfold Pr.one
      split
      · exact Nat.le_refl _
      · simp; omega
    replace hb := Lib.hid hb
    replace hTw := Lib.hid hTw
    replace hs3 := Lib.hid hs3
    replace hKd := Lib.hid hKd
    replace hD := Lib.hid hD
    clear hys hyl
    gi_upto_region 8 with fail
    refine wpIn_wide.2 ?_
    refine wp_region_noPanic ?_
    refine wp_region_held_drew (S := fun w' => w'.cell? ⟨w.heap.size, 0, none⟩ = some vl ∧ w'.cell? ⟨w.heap.size + 1, 0, none⟩ = some vt) (by kernel_rfl) ⟨hs.bl.cell, hs.bt.cell⟩ (fun hSd => ?_)
    have hs1 := Lib.hid (hs.on (Below.refl _ _).drew)
    clear hs
    have hKv : Hid (W.drew.heap[D]? = some (.deferred (some []))) := Lib.hid hKd.out
    have hbv := Lib.hid (hb.out.trans ((Below.refl _ _).drew))
    generalize W.drew = v0 at *
    obtain ⟨tb, tc, tcs, rfl, hrow, hkd, hno⟩ := hs1.out.ot.parts2
    refine wpAnyH_take (i := 0) (v := vl) rfl (by kernel_rfl) (by kernel_rfl) (by kernel_rfl) (fun _ _ _ h => h) (Or.inl ⟨by rfl, ?_⟩) (by assumption) ?_
    · intro w' hSw; obtain ⟨c3, -⟩ := hSw; go_simp
    try simp only [Act.put, List.setIfInBounds_toArray, List.set_cons_zero, List.set_cons_succ]
    refine wpAnyH_take (i := 1) (v := .slice tb T.length tc) rfl (by kernel_rfl) (by kernel_rfl) (by kernel_rfl) (fun _ _ _ h => h) (Or.inl ⟨by rfl, ?_⟩) (by assumption) ?_
    · intro w' hSw; obtain ⟨-, c4⟩ := hSw; go_simp
    try simp only [Act.put, List.setIfInBounds_toArray, List.set_cons_zero, List.set_cons_succ]
    refine wpAnyH_ready (rs := [2]) (by kernel_rfl) (by simp) (AllReadyH.cons rfl (fun K hK => ?_) AllReadyH.nil)
    go_simp
    refine (ppJoin_any v0 hrow hkd hno (by omega) hTw.out).mono ?_
    rintro e v1 ⟨jb, jc, jcs, rfl, jrow, jkd, jno, b1⟩
    have hs2 := Lib.hid (hs1.out.on b1)
    refine hK.out _ _ ⟨hs2.out.bl.cell, hs2.out.bt.cell⟩ (fun hH0 => ?_)
    clear hK K hrow hkd hno hs1
    try simp only [Act.put, List.setIfInBounds_toArray, List.set_cons_zero, List.set_cons_succ]
    refine wpAnyH_ready (rs := [3]) (by kernel_rfl) (by simp) (AllReadyH.cons rfl (fun K hK => ?_) AllReadyH.nil)
    refine step_app_more (K2 := Pr.one T) rfl _ _ rfl rfl hs2.out.ol rfl jrow rfl (fun j hj => (jkd j hj).mono fun b hb _ => ⟨hb, fun e => by have := (own_cells hs2.out.ol e.symm).1; have := hS b hb; omega⟩) jno (by omega) hs2.out.low ?_
    intro v' v2 hO hg hat
    have hs4 := Lib.hid (hs2.out.appL hO hg hat)
    refine hK.out _ _ ⟨hs4.out.bl.cell, hs4.out.bt.cell⟩ (fun hH1 => ?_)
    clear hK K hO hg hat hs2 jrow jkd jno b1
    try simp only [Act.put, List.setIfInBounds_toArray, List.set_cons_zero, List.set_cons_succ]
    refine wpAnyH_ready (rs := [4]) (by kernel_rfl) (by simp) (AllReadyH.cons rfl (fun K hK => ?_) AllReadyH.nil)
    go_simp
    refine hK.out _ _ ⟨hs4.out.bl.cell, hs4.out.bt.cell⟩ (fun hH2 => ?_)
    clear hK K
    try simp only [Act.put, List.setIfInBounds_toArray, List.set_cons_zero, List.set_cons_succ]
    refine wpAnyH_done (by kernel_rfl) ?_ _
    refine NoPanic.normal ?_
    gi_wp2
    have hK2 : v2.heap[D]? = some (.deferred (some [])) := hs4.out.ko.same D _ hKd.out rfl
    have hD0 := hD.out
    refine ⟨by simp, .inl ⟨_, _, rfl, run_takeDeferred hK2, ?_⟩⟩
    refine ⟨_, results_tmp rfl _ _ _, _, rfl, ?_, (hb.out.trans hs4.out.kb).trans (belowK_b (w := w) (Nat.le_refl _) v2 D _ _ (by omega) hK2 rfl rfl)⟩
    rw [hjo.out]
    refine hs4.out.ol.far (grownBy_putObj' _ D _) (fun g e x => by injection e with e; have := hS g x; omega) (.inr fun e => ?_)
    have := (own_cells hs4.out.ol e).2.2 _ hK2
    cases this
  case stop =>
    rintro D c pre W hD _ h
    exact h.elim
theorem ppClients_any {S : Nat → Prop} {bo : Option Addr} {cb : Nat} {kids : List Gv.Node} (w : World) (hS : ∀ b, S b → b < w.heap.size) (hK : KidsAt S w (.slice bo kids.length cb) kids) (hlen : kids.length ≤ 100000) (hwt : ∀ x ∈ kids, Gv.wt x ≤ 100000) :
    Calls Tryz.prog 32 #[.slice bo kids.length cb] w fun e w' => ∃ v', e = .returned v' ∧ OwnsKids S w.heap.size v' (Pr.joined (kids.filter fun x => !Pr.own x)) w' ∧ Below w.heap.size w w' :=
  callsIn_wide.1 (ppClients_in w hS hK hlen hwt)
end Go.Proofs.YtdhondndidoniaaGreatDoor
