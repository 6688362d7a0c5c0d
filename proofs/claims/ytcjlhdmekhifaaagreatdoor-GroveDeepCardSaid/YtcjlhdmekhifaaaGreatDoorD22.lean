/-
  What the program's own words of a start-tag come to: begin.
-/
import Derived.Test.YtcjlhdmekhifaaaGreatDoorD19
import Derived.Test.YtcjlhdmekhifaaaGreatDoorD20
import Derived.Test.YtcjlhdmekhifaaaGreatDoorD21
import Derived.ArgAppend
namespace Go.Proofs.YtcjlhdmekhifaaaGreatDoor
open Go.RowKit

set_option maxRecDepth 100000 in
set_option maxHeartbeats 1600000 in
theorem clip_any {ao : Option Addr} {n cap : Nat} (w : World) (hc : n ≤ cap) (h0 : ao = none → cap = 0) :
    Calls Tryz.prog 78 #[.slice ao n cap] w fun x w' => x = .returned (.slice ao n n) ∧ w' = w := by
  have h1 : (n : Int) ≤ (cap : Int) := by omega
  cases ao with
  | none =>
    obtain rfl : cap = 0 := h0 rfl
    obtain rfl : n = 0 := by omega
    go_enter Tryz.func78, Tryz.ntmps78
    go_wp2_with fail
    go_ret
    exact ⟨by simp, rfl⟩
  | some ad =>
    obtain ⟨b, off, spot⟩ := ad
    go_enter Tryz.func78, Tryz.ntmps78
    go_wp2_with fail
    go_ret
    exact ⟨by simp, rfl⟩

theorem run_append_zero {P : Program} {w : World} (t ty e : TypeId) (i : TypeInfo) (ht : P.underlying t = some (.slice e)) (hi : P.info? e = some i) (ao bo : Option Addr) (n c : Nat) :
    (Builtin.append_ #[t, t] ty #[.slice ao n n, .slice bo 0 c]).run P w = .ok (.slice ao n n) w := by
  cases bo <;> cases ao <;> simp [Builtin.append_, run_underlying ht, sizeOf, typeInfo, hi, Builtin.lenOf, Builtin.firstCells, storeCells, loadCells, loadCellsFrom]

/-- WHAT IS DECLARED, behind an outer scope that is clipped. -/
theorem wpList_append_scope {ops : Array Oper} {rest : List Oper} {o : Oper} {a : Act} {Q : Exit → Act → World → Prop} {w : World} (hgd : o.guard = none) (s x : Operand)
    (ho : o.op = .call { callee := .builtin .append, args := #[s, x], argTypes := #[39, 39] }) (B : Nat) (L M : List Pair) (ao bo : Option Addr) (n m c cap2 : Nat) (hs : a.eval s = .slice ao n n) (hn : L.length = n) (hL : ScopeAt B (.slice ao n cap2) L w)
    (hx : a.eval x = .slice bo m c) (hm : M.length = m) (hM : PairsIn w bo M) (hlen : n + m ≤ 1000000) (hB : B ≤ w.heap.size)
    (h : ∀ v' w', ScopeAt B v' (L ++ M) w' → Below w.heap.size w w' → wpList Tryz.prog ops Q rest (a.put o.dst v') w') : wpList Tryz.prog ops Q (o :: rest) a w := by
  obtain ⟨i0, hi, hz0, hz1, hz2⟩ := info_parts infoPair
  subst hn hm
  obtain ⟨ao', cap, cap', e0, hown, h1, h2⟩ := hL
  cases e0
  by_cases hm0 : M = []
  · subst hm0
    refine wpList_plain hgd fun K hK => ?_
    have hrun := run_append_zero (P := Tryz.prog) (w := w) 39 o.type 86 i0 Tryz.underlying39 hi ao bo L.length c
    have hx2 : a.eval x = .slice bo 0 c := hx
    unfold Oper.wp
    simp [execOp, ho, resolve, invoke, builtin, hs, hx2, hrun, Result.andThen]
    refine hK _ _ (h _ _ ⟨ao, cap, L.length, by simp, by simpa using hown, by simp, fun e => ?_⟩ (Below.refl _ _))
    have := h2 e
    omega
  · obtain ⟨b, off, rfl, _⟩ := hM 0 (List.length_pos_iff.2 hm0)
    have hmp := List.length_pos_iff.2 hm0
    obtain ⟨ao2, cap3, e1, hp⟩ := pairs_of_owns hown
    cases e1
    refine wpList_append_grows w hgd s x 39 ho 86 i0 _ 2 32 Tryz.underlying39 hi hz0 hz1 hz2 rfl (by decide) ao L.length L.length (L.flatMap pairCells) hs (fun e => by have := h2 e; omega) (pairRow_len L) (fun b e => by subst e; exact pairRow_news hp) ⟨b, off, none⟩ M.length c (M.flatMap pairCells) hx (pairRow_len M) (pairRow_news hM) (pairRow_one M) (by omega) (by unfold maxLen; omega) (by omega) ?_
    intro v' w' ho' hg
    have hg0 : w.grownBy w' none := hg
    refine h v' w' ?_ ((Below.refl _ _).grown hg0 (Nat.le_refl _) (fun j e => by cases e))
    have ho2 : OwnsPairs B v' (L ++ M) w' := by
      unfold OwnsPairs
      rw [List.length_append, List.flatMap_append]
      exact World.ownsRow.mono ho' hB
    obtain ⟨hl3, h3⟩ := ho'
    rcases h3 with ⟨rfl, h4⟩ | ⟨g, cap4, cur, rfl, _, _, h4, _⟩
    · omega
    · exact ⟨some ⟨g, 0, none⟩, cap4, cap4, by rw [List.length_append], by rw [List.length_append]; unfold OwnsPairs at *; rw [List.length_append] at *; exact ho2, by rw [List.length_append]; exact h4, fun e => by cases e⟩

theorem Gv.attrsGo_err0 {sc : List Pair} {e : Nat} : ∀ (l : List Pair) (acc : List Gv.Att), Gv.attrsGo sc acc l = .error e → e ≠ 0
  | [], acc, h => by unfold Gv.attrsGo at h; cases h
  | a :: l, acc, h => by
    unfold Gv.attrsGo at h
    split at h
    · cases h; omega
    · split at h
      · cases h; omega
      · exact Gv.attrsGo_err0 l _ h
/-- What is told of an element that is begun. -/
def elArr (tag : ByteArray) (vs : Value) (sp nm : ByteArray) (va vk : Value) : Array Value := #[.string tag, vs, .int .i64 0, .string sp, .string nm, va, vk, .string ⟨#[]⟩]
def BeginTold (B : Nat) (t : T.Tok) (scope : List Pair) (w : World) (x : Ending) (w' : World) : Prop := Below w.heap.size w w' ∧
  match Gv.element t scope with
  | .error e => x = .returned (.tuple #[.agg (elArr ⟨#[]⟩ (.slice none 0 0) ⟨#[]⟩ ⟨#[]⟩ (.slice none 0 0) (.slice none 0 0)), .int .i64 (e : Int)])
  | .ok ((sp, nm, as'), sc) => ∃ vs va, x = .returned (.tuple #[.agg (elArr ⟨t.name.toArray⟩ vs sp nm va (.slice none 0 0)), .int .i64 0]) ∧ ScopeAt B vs sc w' ∧ OwnsAtts w.heap.size va as' w'
theorem beginTold_err {B : Nat} {t : T.Tok} {scope : List Pair} {w w' : World} {e : Nat} {k : Int} (h : Gv.element t scope = .error e) (hk : k = (e : Int)) (hb : Below w.heap.size w w') :
    BeginTold B t scope w (.returned (.tuple #[.agg (elArr ⟨#[]⟩ (.slice none 0 0) ⟨#[]⟩ ⟨#[]⟩ (.slice none 0 0) (.slice none 0 0)), .int .i64 k])) w' := by
  refine ⟨hb, ?_⟩
  rw [h, hk]
theorem beginTold_ok {B : Nat} {t : T.Tok} {scope sc : List Pair} {w w' : World} {sp nm tag : ByteArray} {as' : List Gv.Att} {va vs : Value} (h : Gv.element t scope = .ok ((sp, nm, as'), sc)) (ht : tag = ⟨t.name.toArray⟩) (hb : Below w.heap.size w w') (hs : ScopeAt B vs sc w') (ha : OwnsAtts w.heap.size va as' w') :
    BeginTold B t scope w (.returned (.tuple #[.agg (elArr tag vs sp nm va (.slice none 0 0)), .int .i64 0])) w' := by
  refine ⟨hb, ?_⟩
  rw [h, ht]
  exact ⟨vs, va, rfl, hs, ha⟩
theorem begin_end {F : Func} {R : Ending → World → Prop} {tmps : Array Value} {w : World} {rb i j : Nat} {y : Int} {tag sp nm : ByteArray} {vs va vk : Value} (hres : F.results = #[ResultVar.cell i 71, ResultVar.tmp j])
    (h2 : tmps[i]? = some (.pointer (some ⟨rb, 0, none⟩))) (h4 : tmps[j]? = some (.int .i64 y)) (hc : Cells w rb 71 (elArr tag vs sp nm va vk))
    (hR : R (.returned (.tuple #[.agg (elArr tag vs sp nm va vk), .int .i64 y])) w) : bodyPost Tryz.prog F R .ret { tmps := tmps, defers := [] } w := by
  refine ⟨rfl, _, ?_, hR⟩
  have l2 : i < tmps.size := (Array.getElem?_eq_some_iff.1 h2).1
  have g2 : tmps[i] = .pointer (some ⟨rb, 0, none⟩) := (Array.getElem?_eq_some_iff.1 h2).2
  have l4 : j < tmps.size := (Array.getElem?_eq_some_iff.1 h4).1
  have g4 : tmps[j] = .int .i64 y := (Array.getElem?_eq_some_iff.1 h4).2
  have x0 := hc.cell (i := 0) (v := .string tag) rfl
  have x1 := hc.cell (i := 1) (v := vs) rfl
  have x2 := hc.cell (i := 2) (v := .int .i64 0) rfl
  have x3 := hc.cell (i := 3) (v := .string sp) rfl
  have x4 := hc.cell (i := 4) (v := .string nm) rfl
  have x5 := hc.cell (i := 5) (v := va) rfl
  have x6 := hc.cell (i := 6) (v := vk) rfl
  have x7 := hc.cell (i := 7) (v := .string ⟨#[]⟩) rfl
  simp [results, hres, go_sem, l2, g2, l4, g4, x0, x1, x2, x3, x4, x5, x6, x7]
  rfl
def eightSet (w : World) (b : Nat) (u0 u1 u2 u3 u4 u5 u6 u7 : Value) : World := (((((((w.setCell ⟨b, 0, none⟩ u0).setCell ⟨b, 1, none⟩ u1).setCell ⟨b, 2, none⟩ u2).setCell ⟨b, 3, none⟩ u3).setCell ⟨b, 4, none⟩ u4).setCell ⟨b, 5, none⟩ u5).setCell ⟨b, 6, none⟩ u6).setCell ⟨b, 7, none⟩ u7
theorem el_set {w : World} {b : Nat} {tag0 sp0 nm0 : ByteArray} {vs0 va0 vk0 : Value} (h : Cells w b 71 (elArr tag0 vs0 sp0 nm0 va0 vk0)) (tag sp nm : ByteArray) (vs va vk : Value) :
    Cells (eightSet w b (.string tag) vs (.int .i64 0) (.string sp) (.string nm) va vk (.string ⟨#[]⟩)) b 71 (elArr tag vs sp nm va vk) := by
  have := (((((((h.set 0 (.string tag)).set 1 vs).set 2 (.int .i64 0)).set 3 (.string sp)).set 4 (.string nm)).set 5 va).set 6 vk).set 7 (.string ⟨#[]⟩)
  unfold eightSet
  simpa [elArr] using this
theorem grown_eight (w : World) (b : Nat) (u0 u1 u2 u3 u4 u5 u6 u7 : Value) : w.grownBy (eightSet w b u0 u1 u2 u3 u4 u5 u6 u7) (some b) :=
  (((((((grown_put w b 0 u0).trans (grown_put _ b 1 u1)).trans (grown_put _ b 2 u2)).trans (grown_put _ b 3 u3)).trans (grown_put _ b 4 u4)).trans (grown_put _ b 5 u5)).trans (grown_put _ b 6 u6)).trans (grown_put _ b 7 u7)
theorem eight_below {B : Nat} {w0 w : World} {b : Nat} (h : Below B w0 w) (hB : B ≤ w.heap.size) (hb : B ≤ b) (u0 u1 u2 u3 u4 u5 u6 u7 : Value) : Below B w0 (eightSet w b u0 u1 u2 u3 u4 u5 u6 u7) := h.grown (grown_eight w b u0 u1 u2 u3 u4 u5 u6 u7) hB (fun j e => by injection e; omega)

set_option maxRecDepth 100000 in
set_option maxHeartbeats 6400000 in
theorem begin_any {B n : Nat} {ao : Option Addr} {cap : Nat} (t : T.Tok) (tv : Value) (scope : List Pair) (w : World) (hat : AttrsAt w tv t.attrs) (hsc : ScopeAt B (.slice ao n cap) scope w) (hn : scope.length = n) (hB : B ≤ w.heap.size) (hsl : n ≤ 10000) (h50 : ¬ 50 < t.attrs.length)
    (hnm : t.name.length ≤ 1000000) (hza : ∀ a ∈ t.attrs.map mpair, a.name.size ≤ 1000000) (hE : Env w) :
    Calls Tryz.prog 40 #[.slice ao n cap, .agg (tokCells t tv).toArray] w (BeginTold B t scope w) := by
  obtain ⟨tao, tc, rfl, htp⟩ := hat
  obtain ⟨tk, tn, tat, tal, tda⟩ := t
  have hE2 := fun hd => Lib.hid (Gv.el_decl (t := ⟨tk, tn, tat, tal, tda⟩) (scope := scope) h50 hd)
  have hE3 := fun more rest hd hr => Lib.hid (Gv.el_name (t := ⟨tk, tn, tat, tal, tda⟩) (scope := scope) (more := more) (rest := rest) h50 hd hr)
  have hE4 := fun more rest sp nm hd hr => Lib.hid (Gv.el_go (t := ⟨tk, tn, tat, tal, tda⟩) (scope := scope) (more := more) (rest := rest) (sp := sp) (nm := nm) h50 hd hr)
  simp only [Gv.elA_mpair] at hE2 hE3 hE4
  unfold Gv.str at hE3 hE4
  unfold tokCells
  dsimp only at *
  have hon : Hid ((⟨tn.toArray⟩ : ByteArray) = ⟨(⟨tk, tn, tat, tal, tda⟩ : T.Tok).name.toArray⟩) := Lib.hid rfl
  generalize hT : (⟨tk, tn, tat, tal, tda⟩ : T.Tok) = T0 at hE2 hE3 hE4 hon ⊢
  clear hT
  have hns : (⟨tn.toArray⟩ : ByteArray).size ≤ 1000000 := by simpa [ByteArray.size] using hnm
  generalize (⟨tn.toArray⟩ : ByteArray) = nb at *
  generalize (⟨tda.toArray⟩ : ByteArray) = db at *
  have hlm : (tat.map mpair).length = tat.length := List.length_map _
  generalize tat.map mpair = ats at *
  generalize tat.length = tl at *
  replace hn := Lib.hid hn
  replace hlm := Lib.hid hlm
  have hcap : n ≤ cap ∧ (ao = none → cap = 0) := by
    obtain ⟨_, _, _, e0, _, h1, h2⟩ := hsc
    rw [hn.out] at h1
    cases e0
    exact ⟨h1, h2⟩
  go_enter Tryz.func40, Tryz.ntmps40
  have kT := Cells.new w 41 #[.int .i64 (tk : Int), .string nb, .slice tao tl tc, .bool tal, .string db]
  have kR := Cells.new (w.alloc (.cells #[.int .i64 (tk : Int), .string nb, .slice tao tl tc, .bool tal, .string db] 41)) 71 (elArr ⟨#[]⟩ (.slice none 0 0) ⟨#[]⟩ ⟨#[]⟩ (.slice none 0 0) (.slice none 0 0))
  have b0 := ((Below.refl w.heap.size w).alloc (Nat.le_refl _) (.cells #[.int .i64 (tk : Int), .string nb, .slice tao tl tc, .bool tal, .string db] 41)).alloc (by simp) (.cells (elArr ⟨#[]⟩ (.slice none 0 0) ⟨#[]⟩ ⟨#[]⟩ (.slice none 0 0) (.slice none 0 0)) 71)
  replace kT := kT.alloc (.cells (elArr ⟨#[]⟩ (.slice none 0 0) ⟨#[]⟩ ⟨#[]⟩ (.slice none 0 0) (.slice none 0 0)) 71)
  rw [World.size_alloc] at kR
  unfold elArr at kR kT b0
  have htp1 := htp.below b0
  have hsc1 := hsc.on b0
  have hE1 := hE.on b0
  have z2 := kT.cell (i := 2) (v := .slice tao tl tc) rfl
  clear htp hsc
  go_wp2_with fail
  (with_reducible refine (pDeclare_own ats _ htp1 hlm.out (by omega) hza hE1).mono ?_); rintro e w2 ⟨v1, v2, rfl, o1, o2, b1⟩
  have c2 := b0.trans (b1.mono b0.size)
  have kR2 := kR.on b1
  have kT2 := kT.on b1
  have hsc2 := hsc1.on b1
  have hE2w := hE1.on b1
  have hx2 : w.heap.size + 2 ≤ w2.heap.size := by have := b1.size; rw [World.size_alloc, World.size_alloc] at this; omega
  clear b1 kR kT hsc1 htp1 hE1 b0 z2
  cases hd : P.declare ats with
  | none =>
    obtain ⟨e1, e2, e3⟩ := P.de_none hd
    have hg := hE2 hd
    rw [e3]
    clear hE2 hE3 hE4 hd e1 e2 e3 o1 o2 hsc2
    have y0 := kR2.cell (i := 0) (v := .string ⟨#[]⟩) rfl
    have y1 := kR2.cell (i := 1) (v := .slice none 0 0) rfl
    have y2 := kR2.cell (i := 2) (v := .int .i64 0) rfl
    have y3 := kR2.cell (i := 3) (v := .string ⟨#[]⟩) rfl
    have y4 := kR2.cell (i := 4) (v := .string ⟨#[]⟩) rfl
    have y5 := kR2.cell (i := 5) (v := .slice none 0 0) rfl
    have y6 := kR2.cell (i := 6) (v := .slice none 0 0) rfl
    have y7 := kR2.cell (i := 7) (v := .string ⟨#[]⟩) rfl
    have f0 := kR2.free 0
    have f1 := kR2.free 1
    have f2 := kR2.free 2
    have f3 := kR2.free 3
    have f4 := kR2.free 4
    have f5 := kR2.free 5
    have f6 := kR2.free 6
    have f7 := kR2.free 7
    have kR3 := Lib.hid (el_set kR2 ⟨#[]⟩ ⟨#[]⟩ ⟨#[]⟩ (.slice none 0 0) (.slice none 0 0) (.slice none 0 0))
    have c3 := Lib.hid (eight_below c2 (by omega) (show w.heap.size ≤ w.heap.size + 1 by omega) (.string ⟨#[]⟩) (.slice none 0 0) (.int .i64 0) (.string ⟨#[]⟩) (.string ⟨#[]⟩) (.slice none 0 0) (.slice none 0 0) (.string ⟨#[]⟩))
    clear kR2 kT2
    go_wp2_with fail
    exact begin_end (rb := w.heap.size + 1) rfl rfl rfl kR3.out (beginTold_err hg.out rfl c3.out)
  | some z =>
    obtain ⟨more, rest⟩ := z
    obtain ⟨e1, e2, e3⟩ := P.de_some hd
    rw [e1] at o1
    rw [e2] at o2
    rw [e3]
    obtain ⟨hlen, hmem⟩ := P.declGo_kept _ _ _ _ _ hd
    replace hE3 := fun h => hE3 _ _ hd h
    replace hE4 := fun sp nm h => hE4 _ _ sp nm hd h
    have hzr : ∀ a ∈ rest, a.name.size ≤ 1000000 := fun a ha => hza a ((hmem a ha).resolve_left (by simp))
    clear hE2 e1 e2 e3 hza hmem hd
    have hml : more.length ≤ 1000 := by have := hlm.out; simp at hlen; omega
    have hrl : rest.length ≤ 1000 := by have := hlm.out; simp at hlen; omega
    clear hlen
    obtain ⟨a1, cp1, rfl, hp1⟩ := pairs_of_owns o1
    obtain ⟨a2, cp2, rfl, hp2⟩ := pairs_of_owns o2
    replace o1 := Lib.hid o1
    replace o2 := Lib.hid o2
    replace hml := Lib.hid hml
    replace hrl := Lib.hid hrl
    go_wp2_with fail
    (with_reducible refine (clip_any _ hcap.1 hcap.2).mono ?_); rintro e w2 ⟨rfl, rfl⟩
    have hB2 : B ≤ w2.heap.size := by omega
    have hl2 : n + more.length ≤ 1000000 := by have := hml.out; omega
    go_wp2_with (at_builtin; refine wpList_append_scope rfl _ _ rfl B scope more ao a1 n more.length cp1 cap rfl hn.out hsc2 rfl rfl hp1 hl2 hB2 ?_)
    intro vs w4 hs4 b4
    have kR4 := kR2.on b4
    have kT4 := kT2.on b4
    have hp24 := hp2.below b4
    have hE4w := hE2w.on b4
    have c4 := c2.trans (b4.mono c2.size)
    have hx4 : w.heap.size + 2 ≤ w4.heap.size := Nat.le_trans hx2 b4.size
    clear hsc2 kR2 kT2 hp1 hp2 hE2w b4 c2 o1 o2 hB2
    obtain ⟨aS, cS, rfl, hpS, hcS⟩ := hs4.at'
    have hSl : (scope ++ more).length ≤ 100000 := by have := hml.out; rw [List.length_append, hn.out]; omega
    generalize hsm : scope ++ more = sc at *
    generalize hscl : sc.length = scl at *
    replace hscl := Lib.hid hscl
    have z1 := kT4.cell (i := 1) (v := .string nb) rfl
    go_wp2_with fail
    (with_reducible refine (pResolve_any sc nb false _ hpS hscl.out hSl hns hE4w).mono ?_); rintro e w6 ⟨rfl, b6⟩
    have kR6 := kR4.on b6
    have kT6 := kT4.on b6
    have hp26 := hp24.below b6
    have hpS6 := hpS.below b6
    have hs6 := hs4.on b6
    have hE6w := hE4w.on b6
    have c6 := c4.trans (b6.mono c4.size)
    have hx6 : w.heap.size + 2 ≤ w6.heap.size := Nat.le_trans hx4 b6.size
    clear kR4 kT4 hp24 hpS hs4 hE4w c4 b6 z1 hx4 hx2
    cases hr : P.resolve sc nb false with
    | none =>
      obtain ⟨e1, e2, e3⟩ := P.re_none hr
      have hg := hE3 hr
      rw [e1, e2, e3]
      clear hE3 hE4 hr e1 e2 e3 hs6 hpS6 hp26
      have y0 := kR6.cell (i := 0) (v := .string ⟨#[]⟩) rfl
      have y1 := kR6.cell (i := 1) (v := .slice none 0 0) rfl
      have y2 := kR6.cell (i := 2) (v := .int .i64 0) rfl
      have y3 := kR6.cell (i := 3) (v := .string ⟨#[]⟩) rfl
      have y4 := kR6.cell (i := 4) (v := .string ⟨#[]⟩) rfl
      have y5 := kR6.cell (i := 5) (v := .slice none 0 0) rfl
      have y6 := kR6.cell (i := 6) (v := .slice none 0 0) rfl
      have y7 := kR6.cell (i := 7) (v := .string ⟨#[]⟩) rfl
      have f0 := kR6.free 0
      have f1 := kR6.free 1
      have f2 := kR6.free 2
      have f3 := kR6.free 3
      have f4 := kR6.free 4
      have f5 := kR6.free 5
      have f6 := kR6.free 6
      have f7 := kR6.free 7
      have kR3 := Lib.hid (el_set kR6 ⟨#[]⟩ ⟨#[]⟩ ⟨#[]⟩ (.slice none 0 0) (.slice none 0 0) (.slice none 0 0))
      have c3 := Lib.hid (eight_below c6 (by omega) (show w.heap.size ≤ w.heap.size + 1 by omega) (.string ⟨#[]⟩) (.slice none 0 0) (.int .i64 0) (.string ⟨#[]⟩) (.string ⟨#[]⟩) (.slice none 0 0) (.slice none 0 0) (.string ⟨#[]⟩))
      clear kR6 kT6
      go_wp2_with fail
      exact begin_end (rb := w.heap.size + 1) rfl rfl rfl kR3.out (beginTold_err hg.out rfl c3.out)
    | some z =>
      obtain ⟨sp, nm⟩ := z
      obtain ⟨e1, e2, e3⟩ := P.re_some hr
      have hg := hE4 _ _ hr
      rw [e1, e2, e3]
      clear hE3 hE4 hr e1 e2 e3
      go_wp2_with fail
      (with_reducible refine (attributes_any sc rest _ hpS6 hscl.out hSl hp26 rfl hrl.out hzr hE6w).mono ?_); rintro e w7 ⟨b7, hA⟩
      have kR7 := kR6.on b7
      have kT7 := kT6.on b7
      have hs7 := hs6.on b7
      have c7 := c6.trans (b7.mono c6.size)
      have hx7 : w.heap.size + 2 ≤ w7.heap.size := Nat.le_trans hx6 b7.size
      clear kR6 kT6 hp26 hpS6 hs6 hE6w b7 hzr
      have y0 := kR7.cell (i := 0) (v := .string ⟨#[]⟩) rfl
      have y1 := kR7.cell (i := 1) (v := .slice none 0 0) rfl
      have y2 := kR7.cell (i := 2) (v := .int .i64 0) rfl
      have y3 := kR7.cell (i := 3) (v := .string ⟨#[]⟩) rfl
      have y4 := kR7.cell (i := 4) (v := .string ⟨#[]⟩) rfl
      have y5 := kR7.cell (i := 5) (v := .slice none 0 0) rfl
      have y6 := kR7.cell (i := 6) (v := .slice none 0 0) rfl
      have y7 := kR7.cell (i := 7) (v := .string ⟨#[]⟩) rfl
      have f0 := kR7.free 0
      have f1 := kR7.free 1
      have f2 := kR7.free 2
      have f3 := kR7.free 3
      have f4 := kR7.free 4
      have f5 := kR7.free 5
      have f6 := kR7.free 6
      have f7 := kR7.free 7
      cases ha : Gv.attrsGo sc [] rest with
      | error e =>
        rw [ha] at hA hg
        simp only at hA hg
        subst hA
        have hne := Gv.attrsGo_err0 _ _ ha
        have hz1 : ((e : Int) != 0) = true := by rw [bne_iff_ne]; omega
        have hz2 : ¬ (e : Int) = 0 := by omega
        have kR3 := Lib.hid (el_set kR7 ⟨#[]⟩ ⟨#[]⟩ ⟨#[]⟩ (.slice none 0 0) (.slice none 0 0) (.slice none 0 0))
        have c3 := Lib.hid (eight_below c7 (by omega) (show w.heap.size ≤ w.heap.size + 1 by omega) (.string ⟨#[]⟩) (.slice none 0 0) (.int .i64 0) (.string ⟨#[]⟩) (.string ⟨#[]⟩) (.slice none 0 0) (.slice none 0 0) (.string ⟨#[]⟩))
        replace hg := Lib.hid hg
        clear kR7 kT7 hs7 ha
        go_wp2_with fail
        exact begin_end (rb := w.heap.size + 1) rfl rfl rfl kR3.out (beginTold_err hg.out rfl c3.out)
      | ok as' =>
        rw [ha] at hA hg
        simp only at hA hg
        obtain ⟨va, rfl, hO⟩ := hA
        have hO : OwnsAtts w6.heap.size va as' w7 := hO
        obtain ⟨aA, cA, rfl, _⟩ := OwnsAtts.at' hO
        have z1 := kT7.cell (i := 1) (v := .string nb) rfl
        have bN := (Below.refl w7.heap.size w7).alloc (Nat.le_refl _) (.cells #[.int .i64 0, .string sp, .string nm, .slice aA as'.length cA, .slice none 0 0, .string ⟨#[]⟩] 26)
        have kR8 := kR7.on bN
        have hs8 := hs7.on bN
        have hO8 := own_on hO bN
        have c8 := c7.trans (bN.mono c7.size)
        have kN8 := Cells.new w7 26 #[.int .i64 0, .string sp, .string nm, .slice aA as'.length cA, .slice none 0 0, .string ⟨#[]⟩]
        have kT8 := kT7.on bN
        have hne1 : ¬ w.heap.size + 1 = w7.heap.size := by omega
        have hne0 : ¬ w.heap.size = w7.heap.size := by omega
        replace kR8 := Lib.hid kR8
        replace hs8 := Lib.hid hs8
        replace hO8 := Lib.hid hO8
        replace c8 := Lib.hid c8
        replace kN8 := Lib.hid kN8
        replace kT8 := Lib.hid kT8
        replace hg := Lib.hid hg
        have hl68 : Hid (w.heap.size ≤ w6.heap.size) := Lib.hid (by omega)
        clear kR7 kT7 hs7 ha bN c7 hO y0 y1 y2 y3 y4 y5 y6 y7 f0 f1 f2 f3 f4 f5 f6 f7 z1 hE
        go_upto_region 12 with fail
        generalize hW8 : w7.alloc (.cells #[.int .i64 0, .string sp, .string nm, .slice aA as'.length cA, .slice none 0 0, .string ⟨#[]⟩] 26) = W8 at *
        clear hW8
        generalize w7.heap.size = nb7 at *
        replace kR8 := kR8.out
        replace hO8 := hO8.out
        have y0 := kR8.cell (i := 0) (v := .string ⟨#[]⟩) rfl
        have y1 := kR8.cell (i := 1) (v := .slice none 0 0) rfl
        have y2 := kR8.cell (i := 2) (v := .int .i64 0) rfl
        have y3 := kR8.cell (i := 3) (v := .string ⟨#[]⟩) rfl
        have y4 := kR8.cell (i := 4) (v := .string ⟨#[]⟩) rfl
        have y5 := kR8.cell (i := 5) (v := .slice none 0 0) rfl
        have y6 := kR8.cell (i := 6) (v := .slice none 0 0) rfl
        have y7 := kR8.cell (i := 7) (v := .string ⟨#[]⟩) rfl
        have f0 := kR8.free 0
        have f1 := kR8.free 1
        have f2 := kR8.free 2
        have f3 := kR8.free 3
        have f4 := kR8.free 4
        have f5 := kR8.free 5
        have f6 := kR8.free 6
        have f7 := kR8.free 7
        have z1 := kT8.out.cell (i := 1) (v := .string nb) rfl
        have n0 := kN8.out.cell (i := 0) (v := .int .i64 0) rfl
        have n1 := kN8.out.cell (i := 1) (v := .string sp) rfl
        have n2 := kN8.out.cell (i := 2) (v := .string nm) rfl
        have n3 := kN8.out.cell (i := 3) (v := .slice aA as'.length cA) rfl
        have n4 := kN8.out.cell (i := 4) (v := .slice none 0 0) rfl
        have n5 := kN8.out.cell (i := 5) (v := .string ⟨#[]⟩) rfl
        have kR9 := Lib.hid (el_set kR8 nb sp nm (.slice aS scl cS) (.slice aA as'.length cA) (.slice none 0 0))
        have hg8 := grown_eight W8 (w.heap.size + 1) (.string nb) (.slice aS scl cS) (.int .i64 0) (.string sp) (.string nm) (.slice aA as'.length cA) (.slice none 0 0) (.string ⟨#[]⟩)
        have c9 := Lib.hid (eight_below c8.out c8.out.size (show w.heap.size ≤ w.heap.size + 1 by omega) (.string nb) (.slice aS scl cS) (.int .i64 0) (.string sp) (.string nm) (.slice aA as'.length cA) (.slice none 0 0) (.string ⟨#[]⟩))
        have hs9 := Lib.hid (hs8.out.kept hg8 (fun g e => by injection e with e; subst e; exact ⟨_, _, _, kR8, by decide⟩))
        have hO9 : Hid (OwnsAtts w.heap.size (.slice aA as'.length cA) as' _) := Lib.hid (World.ownsRow.mono (World.ownsRow.kept hO8 hg8 (st_apart hO8 kR8 (by decide))) hl68.out)
        replace hg := Lib.hid hg.out
        clear kR8 kT8 kN8 hs8 hO8 hg8 c8
        go_wp2_with fail
        exact begin_end (rb := w.heap.size + 1) rfl rfl rfl kR9.out (beginTold_ok hg.out hon.out c9.out hs9.out hO9.out)
end Go.Proofs.YtcjlhdmekhifaaaGreatDoor
