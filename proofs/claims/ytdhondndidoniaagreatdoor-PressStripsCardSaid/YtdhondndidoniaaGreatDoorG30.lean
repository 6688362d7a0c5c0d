/-
  The program's own look at kids by rules: areFit, over whatever table of rules.
  The program's tables of rules: entryRules, personRules, insert by insert. (Printed by gen_arules.py.)
  The program's own words of persons: isEmail, isPerson.
-/
import Derived.Test.YtdhondndidoniaaGreatDoorG29
import Derived.Laws.EntriesVeiled
import Derived.Test.YtdhondndidoniaaGreatDoorG18
import Derived.Deep.RegionWith
namespace Go.Proofs.YtdhondndidoniaaGreatDoor
open Go.RowKit Go.Maps
set_option linter.unusedVariables false
set_option linter.unusedSimpArgs false

/-- Calling that function enters it. -/
def enters (f : FuncId) : Prop := ∀ (args : Array Value) (W : World), (callFunc f args).run Tryz.prog W = .ok (.enter f args) W
theorem enters_of {f : FuncId} {fn : Func} (hf : Tryz.prog.funcs[f]? = some fn) (hname : (fn.name == "runtime.NumGoroutine") = false) (hb : fn.body.isNone = false) : enters f := by
  intro args W
  have h1 : ¬ fn.name = "runtime.NumGoroutine" := by simpa using hname
  have h2 : ¬ fn.body = none := by cases hx : fn.body <;> simp_all
  simp [callFunc, hf, h1, h2]
theorem name_wt (n : Gv.Node) : (Am.nameOf n).size ≤ Gv.wt n := by
  cases n with
  | mk k s nm a kids d =>
    rw [Gv.wt_mk]
    show nm.size ≤ _
    omega
/-- How far a range has come. -/
def rngLeft (N r : Nat) (w : World) : Nat := match w.heap[r]? with
  | some (.mapIter _ _ seen _) => N - seen.size
  | _ => 0
theorem Rng.left {w : World} {b r N : Nat} {l : List (Value × Value)} {seen : List Nat} (h : Rng w b r l seen) : rngLeft N r w = N - seen.length := by
  unfold rngLeft
  rw [h.2]
  simp
theorem seen_le : ∀ {N : Nat} {l : List Nat}, l.Nodup → (∀ i ∈ l, i < N) → l.length ≤ N
  | 0, [], _, _ => Nat.le_refl _
  | 0, i :: l, _, h => absurd (h i (by simp)) (by omega)
  | N + 1, l, hn, h => by
    by_cases hm : N ∈ l
    · have h1 := seen_le (N := N) (l := l.erase N) (hn.erase N) (fun i hi => by
        have := (hn.mem_erase_iff).1 hi
        have h2 := h i this.2
        have := this.1
        omega)
      rw [List.length_erase_of_mem hm] at h1
      omega
    · have := seen_le (N := N) hn (fun i hi => by
        have h2 := h i hi
        have : i ≠ N := fun e => hm (e ▸ hi)
        omega)
      omega

theorem nd_named {w : World} {k : Int} {sp nm d : ByteArray} {x3 x4 : Value} {n : Gv.Node} (h : Nd w #[.int .i64 k, .string sp, .string nm, x3, x4, .string d] n) : Am.nameOf n = nm ∧ Am.isA n = (decide (k = 0) && decide (sp.data.toList = Am.atomS)) := by
  obtain ⟨S, k', sp', nm', d', as', kids, ao, bo', ca, cb', rfl, hA, ha, hK, h1, h2⟩ := h.form
  simp only [Array.mk.injEq, List.cons.injEq, Value.int.injEq, Value.string.injEq] at hA
  obtain ⟨⟨-, rfl⟩, rfl, rfl, -⟩ := hA
  exact ⟨rfl, rfl⟩

/-- The range's step, over rules. -/
theorem Rng.rule {w : World} {b r : Nat} {T : List Am.Rl} {seen : List Nat} (h : Rng w b r (ruleT T) seen) (ty : TypeId) :
    ((∀ i, i < T.length → i ∈ seen) ∧ (Instr.next (.pointer (some ⟨r, 0, none⟩)) false ty).run Tryz.prog w = .ok (.tuple #[.bool false]) w) ∨
    ∃ (i : Nat) (hi : i < T.length) (w' : World), i ∉ seen ∧ (Instr.next (.pointer (some ⟨r, 0, none⟩)) false ty).run Tryz.prog w = .ok (.tuple #[.bool true, .string T[i].name, ruleV T[i]]) w' ∧ Rng w' b r (ruleT T) (seen ++ [i]) ∧ w.grownBy w' (some r) ∧ w'.heap.size = w.heap.size ∧
      (Instr.entry (.pointer (some ⟨r, 0, none⟩))).run Tryz.prog w' = .ok (.tuple #[.string T[i].name, ruleV T[i]]) w' := by
  have hl : (ruleT T).length = T.length := by simp [ruleT]
  rcases h.next (P := Tryz.prog) ty with ⟨h1, h2⟩ | ⟨i, hi, w', h1, h2, h3, h4, h5, h6⟩
  · exact .inl ⟨fun i hi => h1 i (by omega), h2⟩
  · have hi' : i < T.length := by omega
    have e : (ruleT T)[i] = (.string T[i].name, ruleV T[i]) := by simp [ruleT]
    rw [e] at h2 h6
    exact .inr ⟨i, hi', w', h1, h2, h3, h4, h5, h6⟩
theorem Rng.seen_lt {w : World} {b r : Nat} {T : List Am.Rl} {seen : List Nat} {i : Nat} (h : Rng w b r (ruleT T) (seen ++ [i])) (hn : seen.Nodup) (hi : i ∉ seen) (hs : ∀ k ∈ seen, k < T.length) (hil : i < T.length) : rngLeft T.length r w = T.length - (seen.length + 1) ∧ seen.length + 1 ≤ T.length := by
  refine ⟨by rw [h.left]; simp, ?_⟩
  have := seen_le (N := T.length) (l := seen ++ [i]) (by
    rw [List.nodup_append]
    exact ⟨hn, by simp, fun a ha c hc e => by simp at hc; exact hi (by rw [← hc, ← e]; exact ha)⟩) (fun k hk => by
      rcases List.mem_append.1 hk with hk | hk
      · exact hs k hk
      · simp at hk; omega)
  simpa using this

set_option maxRecDepth 100000 in
set_option maxHeartbeats 12800000 in
theorem pFit_any {S : Nat → Prop} {bo : Option Addr} {cb bm : Nat} (T : List Am.Rl) (kids : List Gv.Node) (w : World) (hT : (T.map (·.name)).Nodup) (hz : ∀ r ∈ T, r.name.size ≤ maxLen)
    (hF : ∀ r ∈ T, ∀ (n : Gv.Node) (A : Array Value) (W : World), Nd W A n → Gv.wt n ≤ 100000 → Env W → Calls Tryz.prog r.fn #[.agg A] W fun e w' => e = .returned (.bool (r.fit n)) ∧ Below W.heap.size W w')
    (he0 : ∀ r ∈ T, enters r.fn) (hK : KidsAt S w (.slice bo kids.length cb) kids) (hkz : kids.length ≤ 1000000) (hwk0 : ∀ x, x ∈ kids → Gv.wt x ≤ 100000) (hM : Tab w bm (ruleT T)) (hE : Env w) :
    Calls Tryz.prog 42 #[.slice bo kids.length cb, .map (some bm)] w fun e w' => e = .returned (.bool (Am.fitIn T kids)) ∧ Below w.heap.size w w' := by
  have hq : Hid (Am.fitIn T kids = (kids.all (Am.kidFits T) && T.all (Am.countFits kids))) := Lib.hid rfl
  generalize Am.fitIn T kids = Q at *
  have hmm := @run_makeMap Tryz.prog
  have hwk := Lib.hid hwk0
  replace hK := Lib.hid hK
  replace hT := Lib.hid hT
  replace hz := Lib.hid hz
  replace hF := Lib.hid hF
  replace hM := Lib.hid hM
  have he := Lib.hid he0
  clear he0
  replace hE := Lib.hid hE
  clear hwk0
  have B0 := Lib.hid ((Below.refl w.heap.size w).alloc (Nat.le_refl _) (.map #[] 0))
  have T0 := Lib.hid (Tab.new w)
  go_enter Tryz.func42, Tryz.ntmps42
  go_upto_region 2 with fail
  clear hmm
  generalize w.alloc (.map #[] 0) = w0 at *
  obtain ⟨bc, hbc⟩ : ∃ bc, bc = w.heap.size := ⟨_, rfl⟩
  rw [← hbc] at T0 ⊢
  replace hbc := Lib.hid hbc
  go_wp2_with fail
  go_loopw [15] (fun i wr => ∃ (j : Nat) (l : List (ByteArray × Nat)), j ≤ kids.length ∧ i = .int .i64 (j : Int) ∧ Hid (Tab wr bc (cntT l)) ∧ Hid (CntOk l (kids.take j)) ∧ Hid ((kids.take j).all (Am.kidFits T) = true) ∧ Hid (Below w.heap.size w wr)) (fun i _ => kids.length - (intOf i).toNat)
  case atStart => exact ⟨0, [], Nat.zero_le _, rfl, T0, Lib.hid (by rw [List.take_zero]; exact CntOk.nil), Lib.hid (by simp), B0⟩
  case round =>
    obtain ⟨j, l, hj, rfl, hC, hO, hall, bw⟩ := hrel
    by_cases hlt : j < kids.length
    · obtain ⟨b, off, k', sp', nm', d', x3, x4, rfl, d0, d1, d2, d3, d4, d5, hN, ⟨po, pn, pc, rfl⟩, ⟨qo, qn, qc, rfl⟩, hkd, hdd⟩ := (hK.out.on bw.out).nd hlt
      have hji : (j : Int) < (kids.length : Int) := by omega
      have hwt := hwk.out kids[j] (List.getElem_mem hlt)
      have hnz := name_wt kids[j]
      have hnm : Am.nameOf kids[j] = nm' ∧ Am.isA kids[j] = (decide (k' = 0) && decide (sp'.data.toList = Am.atomS)) := nd_named hN
      have htk := List.take_succ_eq_append_getElem hlt
      have hbad := Lib.hid (fun e => am_all_bad (Am.kidFits T) kids j hlt e)
      have hgood := Lib.hid (fun e => am_all_more (Am.kidFits T) kids j hlt hall.out e)
      have bx := (Below.refl wr.heap.size wr).alloc (Nat.le_refl _) (.cells #[.int .i64 k', .string sp', .string nm', .slice po pn pc, .slice qo qn qc, .string d'] 27)
      have hN1 := Lib.hid (hN.on bx)
      have C1 := Cells.new wr 27 (nodeArr k' sp' nm' (.slice po pn pc) (.slice qo qn qc) d')
      unfold nodeArr at C1
      replace C1 := Lib.hid C1
      have bw1 := Lib.hid (bw.out.trans (bx.mono bw.out.size))
      have hC1 := Lib.hid (hC.out.on bx)
      have hM1 := Lib.hid ((hM.out.on bw.out).on bx)
      clear hN bx bw hkd hdd hC
      generalize kids[j] = nd at *
      go_upto_region 5 with fail
      clear d0 d1 d2 d3 d4 d5
      generalize wr.alloc (.cells #[.int .i64 k', .string sp', .string nm', .slice po pn pc, .slice qo qn qc, .string d'] 27) = w1 at *
      obtain ⟨x0, x1, x2, x3, x4, x5⟩ := node_open (show Cells w1 _ _ (nodeArr k' sp' nm' (.slice po pn pc) (.slice qo qn qc) d') from C1.out)
      by_cases hA : k' = 0 ∧ sp'.data.toList = Am.atomS
      · obtain ⟨rfl, hsp⟩ := hA
        obtain ⟨hnm, hisA⟩ := hnm
        rw [hsp] at hisA
        replace hisA : Am.isA nd = true := by rw [hisA]; simp
        have hfit : Hid (Am.kidFits T nd = match T.find? (fun r => decide (r.name = nm')) with | some r => r.fit nd | none => true) := Lib.hid (by unfold Am.kidFits; rw [hisA, hnm]; rfl)
        have y1 : (sp'.toList == [104, 116, 116, 112, 58, 47, 47, 119, 119, 119, 46, 119, 51, 46, 111, 114, 103, 47, 50, 48, 48, 53, 47, 65, 116, 111, 109]) = true := lit_yes rfl (hsp.trans am_atom.symm)
        have y2 : (sp'.toList != [104, 116, 116, 112, 58, 47, 47, 119, 119, 119, 46, 119, 51, 46, 111, 114, 103, 47, 50, 48, 48, 53, 47, 65, 116, 111, 109]) = false := by rw [bne, y1]; rfl
        have hns : nm'.size ≤ maxLen := by rw [hnm] at hnz; unfold maxLen; omega
        clear hsp
        rcases rule_look hM1.out hT.out hz.out hns with ⟨hl1, hl2⟩ | ⟨r, hr, hl1, hl2⟩
        · unfold ruleZ at hl1
          have hok2 := Lib.hid (hgood.out (by rw [hfit.out, hl2]))
          have b3 := (Below.refl w1.heap.size w1).alloc (Nat.le_refl _) (.cells #[.nilFunc, .bool false, .bool false] 97)
          replace hl2 := Lib.hid hl2
          go_upto_region 7 with fail
          clear hl1 x0 x1 x2 x3 x4 x5
          have bx := Lib.hid (bw1.out.trans (b3.mono bw1.out.size))
          have hCx := Lib.hid (hC1.out.on b3)
          generalize w1.alloc (.cells #[.nilFunc, .bool false, .bool false] 97) = w3 at *
          obtain ⟨x0, x1, x2, x3, x4, x5⟩ := node_open (show Cells w3 _ _ (nodeArr 0 sp' nm' (.slice po pn pc) (.slice qo qn qc) d') from C1.out.on b3)
          clear b3 bw1 hC1 hbad hgood
          obtain ⟨wu, l', hup, hg, hs, hC', hO'⟩ := cnt_put hCx.out hO.out hisA (by rw [hnm]; exact hns)
          have hlk := cnt_look hCx.out hO.out hns
          rw [hnm] at hup
          rw [← htk] at hO'
          have hcb : Am.rcnt (kids.take j) nm' ≤ 1000000 := Nat.le_trans (Am.rcnt_le _ _) (by rw [List.length_take]; omega)
          generalize Am.rcnt (kids.take j) nm' = c at *
          have bF := Lib.hid (bx.out.grown hg (by have := bx.out.size; omega) (fun k hk => by cases hk; rw [hbc.out]; exact Nat.le_refl _))
          replace hg := Lib.hid hg
          replace hs := Lib.hid hs
          replace hC' := Lib.hid hC'
          replace hO' := Lib.hid hO'
          replace htk := Lib.hid htk
          go_wp2_with fail
          go_roundw
          case rel => exact ⟨j + 1, l', by omega, by go_num, hC', hO', hok2, bF⟩
          case measure => simp [intOf]; omega
        · obtain ⟨rn, rf, r1, r2, rfit⟩ := r
          unfold ruleV at hl1
          dsimp only at hl1
          replace hl2 := Lib.hid hl2
          have R3 := Cells.new w1 97 #[.func (.func rf) #[] #[], .bool r1, .bool r2]
          have b3 := (Below.refl w1.heap.size w1).alloc (Nat.le_refl _) (.cells #[.func (.func rf) #[] #[], .bool r1, .bool r2] 97)
          go_upto_region 7 with fail
          clear hl1 x0 x1 x2 x3 x4 x5
          have b4 := Lib.hid (bw1.out.trans (b3.mono bw1.out.size))
          have hC4 := Lib.hid (hC1.out.on b3)
          have hN4 := Lib.hid (hN1.out.on b3)
          generalize w1.alloc (.cells #[.func (.func rf) #[] #[], .bool r1, .bool r2] 97) = w3 at *
          have q0 := R3.cell (i := 0) rfl
          have C4 := Lib.hid (C1.out.on b3)
          obtain ⟨x0, x1, x2, x3, x4, x5⟩ := node_open (show Cells w3 _ _ (nodeArr 0 sp' nm' (.slice po pn pc) (.slice qo qn qc) d') from C4.out)
          have hcall := Lib.hid (hF.out _ hr nd _ w3 hN4.out hwt (hE.out.on b4.out))
          have hent := (he.out _ hr) #[.agg #[.int .i64 0, .string sp', .string nm', .slice po pn pc, .slice qo qn qc, .string d']] w3
          dsimp only at hcall hent
          have hfv : Hid (Am.kidFits T nd = rfit nd) := Lib.hid (by rw [hfit.out, hl2.out])
          generalize rfit nd = fv at *
          clear b3 bw1 hC1 C1 hN1 hN4 R3
          go_wp2_with fail
          (with_reducible refine (hcall.out).mono ?_); rintro e w5 ⟨rfl, b5⟩
          clear x0 x1 x2 x3 x4 x5 q0 hent
          have bx := Lib.hid (b4.out.trans (b5.mono b4.out.size))
          have hCx := Lib.hid (hC4.out.on b5)
          obtain ⟨x0, x1, x2, x3, x4, x5⟩ := node_open (show Cells w5 _ _ (nodeArr 0 sp' nm' (.slice po pn pc) (.slice qo qn qc) d') from C4.out.on b5)
          clear b5 b4 hC4 C4 hcall
          cases fv with
          | false =>
            have hr : Hid (Q = false) := Lib.hid (by rw [hq.out, hbad.out hfv.out, Bool.false_and])
            go_wp2_with fail
            go_ret
            exact ⟨ret_bool hr.out.symm, bx.out⟩
          | true =>
          have hok2 := Lib.hid (hgood.out hfv.out)
          clear hbad hgood
          obtain ⟨wu, l', hup, hg, hs, hC', hO'⟩ := cnt_put hCx.out hO.out hisA (by rw [hnm]; exact hns)
          have hlk := cnt_look hCx.out hO.out hns
          rw [hnm] at hup
          rw [← htk] at hO'
          have hcb : Am.rcnt (kids.take j) nm' ≤ 1000000 := Nat.le_trans (Am.rcnt_le _ _) (by rw [List.length_take]; omega)
          generalize Am.rcnt (kids.take j) nm' = c at *
          have bF := Lib.hid (bx.out.grown hg (by have := bx.out.size; omega) (fun k hk => by cases hk; rw [hbc.out]; exact Nat.le_refl _))
          replace hg := Lib.hid hg
          replace hs := Lib.hid hs
          replace hC' := Lib.hid hC'
          replace hO' := Lib.hid hO'
          replace htk := Lib.hid htk
          go_wp2_with fail
          go_roundw
          case rel => exact ⟨j + 1, l', by omega, by go_num, hC', hO', hok2, bF⟩
          case measure => simp [intOf]; omega
      · have hok2 := Lib.hid (hgood.out (by
          unfold Am.kidFits
          rw [hnm.2]
          have : (decide (k' = 0) && decide (sp'.data.toList = Am.atomS)) = false := by
            rw [Bool.eq_false_iff]; intro e; rw [Bool.and_eq_true, decide_eq_true_eq, decide_eq_true_eq] at e; exact hA e
          rw [this]; rfl))
        have hO' : Hid (CntOk l (kids.take (j + 1))) := Lib.hid (by
          rw [htk]
          refine hO.out.skip ?_
          rw [hnm.2, Bool.eq_false_iff]; intro e; rw [Bool.and_eq_true, decide_eq_true_eq, decide_eq_true_eq] at e; exact hA e)
        replace htk := Lib.hid htk
        replace hnm := Lib.hid hnm
        have hsk : (k' = 0 ∧ (sp'.toList == [104, 116, 116, 112, 58, 47, 47, 119, 119, 119, 46, 119, 51, 46, 111, 114, 103, 47, 50, 48, 48, 53, 47, 65, 116, 111, 109]) = false ∧ (sp'.toList != [104, 116, 116, 112, 58, 47, 47, 119, 119, 119, 46, 119, 51, 46, 111, 114, 103, 47, 50, 48, 48, 53, 47, 65, 116, 111, 109]) = true) ∨ ((k' == 0) = false ∧ ¬ k' = 0) := by
          by_cases h0 : k' = 0
          · have y1 : (sp'.toList == [104, 116, 116, 112, 58, 47, 47, 119, 119, 119, 46, 119, 51, 46, 111, 114, 103, 47, 50, 48, 48, 53, 47, 65, 116, 111, 109]) = false := lit_no rfl (fun e => hA ⟨h0, e.trans am_atom⟩)
            exact .inl ⟨h0, y1, by rw [bne, y1]; rfl⟩
          · exact .inr ⟨beq_false_of_ne h0, h0⟩
        clear hA hbad hgood
        rcases hsk with ⟨rfl, y1, y2⟩ | ⟨y0, y1⟩
        all_goals
          go_wp2_with fail
          go_roundw
          case rel => exact ⟨j + 1, l, by omega, by go_num, hC1, hO', hok2, bw1⟩
          case measure => simp [intOf]; omega
    · obtain rfl : j = kids.length := by omega
      rw [List.take_length] at hO hall
      have hki : ¬ (kids.length : Int) < (kids.length : Int) := by omega
      have hq2 : Hid (Q = T.all (Am.countFits kids)) := Lib.hid (by rw [hq.out, hall.out, Bool.true_and])
      have hMr := hM.out.on bw.out
      obtain ⟨hrg, hR⟩ := Tab.range Tryz.underlying70 hMr
      have bi := (Below.refl wr.heap.size wr).alloc (Nat.le_refl _) (.mapIter (some bm) (ruleT T).length #[] (ruleT T).length)
      have bw1 := Lib.hid (bw.out.trans (bi.mono bw.out.size))
      have hC1 := Lib.hid (hC.out.on bi)
      obtain ⟨ri, hri⟩ : ∃ ri, ri = wr.heap.size := ⟨_, rfl⟩
      have hrl : Hid (w.heap.size ≤ ri) := Lib.hid (by rw [hri]; exact bw.out.size)
      have hlenT : Hid ((ruleT T).length = T.length) := Lib.hid (by simp [ruleT])
      rw [← hri] at hR
      replace hR := Lib.hid hR
      go_upto_region 12 with fail
      clear hrg
      rw [← hri]
      generalize wr.alloc (.mapIter (some bm) (ruleT T).length #[] (ruleT T).length) = w2 at *
      replace hri := Lib.hid hri
      clear hMr bi bw hC hall hq
      go_loopw [10] (fun _ wr => ∃ seen : List Nat, Hid (Rng wr bm ri (ruleT T) seen) ∧ Hid (∀ i ∈ seen, ∃ h : i < T.length, Am.countFits kids T[i] = true) ∧ Hid seen.Nodup ∧ Hid (Tab wr bc (cntT l)) ∧ Hid (Below w.heap.size w wr)) (fun _ wr => rngLeft T.length ri wr)
      case atStart => exact ⟨[], hR, Lib.hid (by simp), Lib.hid (by simp), hC1, bw1⟩
      case round =>
        obtain ⟨seen, hS, hG, hN, hC, bw⟩ := hrel
        rcases hS.out.rule 0 with ⟨hend, hrun⟩ | ⟨i, hi, wn, hns, hrun, hSn, hgn, hsn, hen⟩
        · have hr : Hid (Q = true) := Lib.hid (by
            rw [hq2.out, List.all_eq_true]
            intro r hr
            obtain ⟨i, hi, rfl⟩ := List.getElem_of_mem hr
            exact (hG.out i (hend i hi)).2)
          replace hend := Lib.hid hend
          go_wp2_with fail
          go_ret
          exact ⟨ret_bool hr.out.symm, bw.out⟩
        · have hcf : Hid (Am.countFits kids T[i] = !(T[i].one && decide (1 < Am.rcnt kids T[i].name) || T[i].need && decide (Am.rcnt kids T[i].name = 0))) := Lib.hid rfl
          have hnz := hz.out T[i] (List.getElem_mem hi)
          have hbad := Lib.hid (fun e => am_all_bad (Am.countFits kids) T i hi e)
          have hm := hSn.seen_lt hN.out hns (fun k hk => (hG.out k hk).1) hi
          have hm0 := hS.out.left (N := T.length)
          have hgood : Hid (Am.countFits kids T[i] = true → ∀ k ∈ seen ++ [i], ∃ h : k < T.length, Am.countFits kids T[k] = true) := Lib.hid (fun e k hk => by
            rcases List.mem_append.1 hk with hk | hk
            · exact hG.out k hk
            · simp at hk; subst hk; exact ⟨hi, e⟩)
          have hN' : Hid (seen ++ [i]).Nodup := Lib.hid (by
            rw [List.nodup_append]
            exact ⟨hN.out, by simp, fun a ha c hc e => by simp at hc; exact hns (by rw [← hc, ← e]; exact ha)⟩)
          have hcn := hC.out.kept hgn (by intro e; injection e with e; have h1 := hC.out; have h2 := hS.out.2; unfold Tab at h1; rw [e, h2] at h1; cases h1)
          have bn := bw.out.grown hgn bw.out.size (fun k hk => by cases hk; exact hrl.out)
          generalize hri2 : T[i] = rr at *
          obtain ⟨rn, rf, r1, r2, rfit⟩ := rr
          unfold ruleV at hrun hen
          dsimp only at hrun hen hcf hnz
          have R3 := Cells.new wn 97 #[.func (.func rf) #[] #[], .bool r1, .bool r2]
          have b3 := (Below.refl wn.heap.size wn).alloc (Nat.le_refl _) (.cells #[.func (.func rf) #[] #[], .bool r1, .bool r2] 97)
          rw [hsn] at R3
          go_upto_region 14 with fail
          clear hrun hen
          have bx := Lib.hid (bn.trans (b3.mono bn.size))
          have hSx := Lib.hid (hSn.on b3)
          have hCx := Lib.hid (hcn.on b3)
          generalize wn.alloc (.cells #[.func (.func rf) #[] #[], .bool r1, .bool r2] 97) = w3 at *
          have hmx := hSx.out.left (N := T.length)
          have q1 := R3.cell (i := 1) rfl
          have q2 := R3.cell (i := 2) rfl
          have hlk := cnt_look hCx.out hO.out hnz
          have hmea : Hid (rngLeft T.length ri w3 < rngLeft T.length ri wr) := Lib.hid (by
            rw [hmx, hm0, List.length_append]
            have := hm.2
            simp only [List.length_singleton]
            omega)
          generalize Am.rcnt kids rn = c at *
          replace hgn := Lib.hid hgn
          replace hns := Lib.hid hns
          replace hm := Lib.hid hm
          replace hri2 := Lib.hid hri2
          have hcs : (c = 0 ∧ ¬ (1 : Int) < (c : Int) ∧ ((c : Int) == 0) = true) ∨ (c = 1 ∧ ¬ (1 : Int) < (c : Int) ∧ ((c : Int) == 0) = false) ∨ (1 < c ∧ (1 : Int) < (c : Int) ∧ ((c : Int) == 0) = false) := by
            by_cases h0 : c = 0
            · exact .inl ⟨h0, by omega, by rw [h0]; rfl⟩
            · by_cases h1 : c = 1
              · exact .inr (.inl ⟨h1, by omega, beq_false_of_ne (by omega)⟩)
              · exact .inr (.inr ⟨by omega, by omega, beq_false_of_ne (by omega)⟩)
          clear bn b3 hcn hSn hC bw hN hG hS R3 hm0 hmx hsn hm hns
          rcases hcs with ⟨hc, y1, y2⟩ | ⟨hc, y1, y2⟩ | ⟨hc, y1, y2⟩
          · replace hcf : Hid (Am.countFits kids ⟨rn, rf, r1, r2, rfit⟩ = !r2) := Lib.hid (by rw [hcf.out, hc]; simp)
            replace hc := Lib.hid hc
            cases r1 <;> cases r2
            all_goals
              go_wp2_with fail
              first
              | (go_ret
                 exact ⟨ret_bool (show _ = Q by rw [hq2.out, hbad.out hcf.out]), bx.out⟩)
              | (go_roundw
                 case rel => exact ⟨_, hSx, Lib.hid (hgood.out hcf.out), hN', hCx, bx⟩
                 case measure => exact hmea.out)
          · replace hcf : Hid (Am.countFits kids ⟨rn, rf, r1, r2, rfit⟩ = true) := Lib.hid (by rw [hcf.out, hc]; simp)
            replace hc := Lib.hid hc
            cases r1 <;> cases r2
            all_goals
              go_wp2_with fail
              go_roundw
              case rel => exact ⟨_, hSx, Lib.hid (hgood.out hcf.out), hN', hCx, bx⟩
              case measure => exact hmea.out
          · replace hcf : Hid (Am.countFits kids ⟨rn, rf, r1, r2, rfit⟩ = !r1) := Lib.hid (by rw [hcf.out, decide_eq_true hc, decide_eq_false (show ¬ c = 0 by omega)]; simp)
            replace hc := Lib.hid hc
            cases r1 <;> cases r2
            all_goals
              go_wp2_with fail
              first
              | (go_ret
                 exact ⟨ret_bool (show _ = Q by rw [hq2.out, hbad.out hcf.out]), bx.out⟩)
              | (go_roundw
                 case rel => exact ⟨_, hSx, Lib.hid (hgood.out hcf.out), hN', hCx, bx⟩
                 case measure => exact hmea.out)
end Go.Proofs.YtdhondndidoniaaGreatDoor
namespace Go.Proofs.YtdhondndidoniaaGreatDoor
open Go.RowKit Go.Maps
set_option linter.unusedVariables false
set_option linter.unusedSimpArgs false

/-- A rule more. -/
theorem rule_put {w : World} {b : Nat} {T : List Am.Rl} (hb : Tab w b (ruleT T)) (hz0 : T.all (fun r => Nat.ble r.name.size 100) = true) (r : Am.Rl) (hn0 : Nat.ble r.name.size 100 = true) (hne0 : T.all (fun q => !(q.name.data.toList == r.name.data.toList)) = true) :
    ∃ w', (Instr.mapUpdate 70 (.map (some b)) (.string r.name) (.agg #[.func (.func r.fn) #[] #[], .bool r.one, .bool r.need])).run Tryz.prog w = .ok () w' ∧ Tab w' b (ruleT (T ++ [r])) ∧ w.grownBy w' (some b) ∧ w'.heap.size = w.heap.size := by
  have hz : ∀ r ∈ T, r.name.size ≤ maxLen := fun r hr => Nat.le_trans (Nat.le_of_ble_eq_true (List.all_eq_true.1 hz0 r hr)) (by decide)
  have hn : r.name.size ≤ maxLen := Nat.le_trans (Nat.le_of_ble_eq_true hn0) (by decide)
  have hne : ∀ q ∈ T, q.name ≠ r.name := fun q hq e => by
    have := List.all_eq_true.1 hne0 q hq
    rw [e] at this
    simp at this
  obtain ⟨w', hrun, hg, hs, hc⟩ := Tab.put am_strK Tryz.underlying70 hb (ruleT_keys hz) (am_key hn) (ruleV r)
  refine ⟨w', hrun, ?_, hg, hs⟩
  rcases hc with ⟨-, h2⟩ | ⟨j, u, h1, -⟩
  · have : ruleT (T ++ [r]) = ruleT T ++ [(.string r.name, ruleV r)] := by simp [ruleT]
    rw [this]; exact h2
  · obtain ⟨q, hq, e⟩ := List.mem_map.1 (List.mem_of_getElem? h1)
    simp only [Prod.mk.injEq, Value.string.injEq] at e
    exact absurd e.1 (hne q hq)
theorem tab_grown {w w' w0 : World} {b : Nat} (h : Below w0.heap.size w0 w) (hg : w.grownBy w' (some b)) (hb : w0.heap.size ≤ b) : Below w0.heap.size w0 w' :=
  h.grown hg h.size (fun k hk => by cases hk; exact hb)

set_option maxRecDepth 100000 in
set_option maxHeartbeats 6400000 in
theorem pPersonRules_at (f0 f1 f2 : Gv.Node → Bool) (w : World) :
    Calls Tryz.prog 112 #[] w fun e w' => e = .returned (.map (some w.heap.size)) ∧ Tab w' w.heap.size (ruleT [⟨⟨#[101, 109, 97, 105, 108]⟩, 145, true, false, f0⟩, ⟨⟨#[110, 97, 109, 101]⟩, 146, true, true, f1⟩, ⟨⟨#[117, 114, 105]⟩, 147, true, false, f2⟩]) ∧ Below w.heap.size w w' := by
  have b0 : Below w.heap.size w (w.alloc (.map #[] 0)) := (Below.refl w.heap.size w).alloc (Nat.le_refl _) _
  have t0 : Tab (w.alloc (.map #[] 0)) w.heap.size (ruleT []) := Tab.new w
  have hmm := @run_makeMap Tryz.prog
  obtain ⟨w1, u1, t1, g1, z1⟩ := rule_put t0 (by rfl) ⟨⟨#[101, 109, 97, 105, 108]⟩, 145, true, false, f0⟩ (by rfl) (by rfl)
  have b1 := tab_grown b0 g1 (Nat.le_refl _)
  obtain ⟨w2, u2, t2, g2, z2⟩ := rule_put t1 (by rfl) ⟨⟨#[110, 97, 109, 101]⟩, 146, true, true, f1⟩ (by rfl) (by rfl)
  have b2 := tab_grown b1 g2 (Nat.le_refl _)
  clear t1
  obtain ⟨w3, u3, t3, g3, z3⟩ := rule_put t2 (by rfl) ⟨⟨#[117, 114, 105]⟩, 147, true, false, f2⟩ (by rfl) (by rfl)
  have b3 := tab_grown b2 g3 (Nat.le_refl _)
  clear t2
  simp only [List.nil_append, List.cons_append] at t3
  replace t3 := Lib.hid t3
  replace b3 := Lib.hid b3
  dsimp only at u1 u2 u3
  clear t0 b0 g1 z1 b1 g2 z2 b2 g3 z3
  go_enter Tryz.func112, Tryz.ntmps112
  go_wp2_with fail
  go_ret
  exact ⟨rfl, t3.out, b3.out⟩

set_option maxRecDepth 100000 in
set_option maxHeartbeats 6400000 in
theorem pEntryRules_at (stored : Bool) (f0 f1 f2 f3 f4 f5 f6 f7 f8 f9 f10 : Gv.Node → Bool) (w : World) :
    Calls Tryz.prog 43 #[.bool stored] w fun e w' => e = .returned (.map (some w.heap.size)) ∧ Tab w' w.heap.size (ruleT [⟨⟨#[97, 117, 116, 104, 111, 114]⟩, 83, false, true, f0⟩, ⟨⟨#[99, 97, 116, 101, 103, 111, 114, 121]⟩, 84, false, false, f1⟩, ⟨⟨#[99, 111, 110, 116, 101, 110, 116]⟩, 85, true, false, f2⟩, ⟨⟨#[99, 111, 110, 116, 114, 105, 98, 117, 116, 111, 114]⟩, 83, false, false, f3⟩, ⟨⟨#[105, 100]⟩, 86, true, stored, f4⟩, ⟨⟨#[108, 105, 110, 107]⟩, 87, false, false, f5⟩, ⟨⟨#[112, 117, 98, 108, 105, 115, 104, 101, 100]⟩, 88, true, false, f6⟩, ⟨⟨#[114, 105, 103, 104, 116, 115]⟩, 89, true, false, f7⟩, ⟨⟨#[115, 117, 109, 109, 97, 114, 121]⟩, 89, true, false, f8⟩, ⟨⟨#[116, 105, 116, 108, 101]⟩, 89, true, true, f9⟩, ⟨⟨#[117, 112, 100, 97, 116, 101, 100]⟩, 88, true, stored, f10⟩]) ∧ Below w.heap.size w w' := by
  have b0 : Below w.heap.size w (w.alloc (.map #[] 0)) := (Below.refl w.heap.size w).alloc (Nat.le_refl _) _
  have t0 : Tab (w.alloc (.map #[] 0)) w.heap.size (ruleT []) := Tab.new w
  have hmm := @run_makeMap Tryz.prog
  obtain ⟨w1, u1, t1, g1, z1⟩ := rule_put t0 (by rfl) ⟨⟨#[97, 117, 116, 104, 111, 114]⟩, 83, false, true, f0⟩ (by rfl) (by rfl)
  have b1 := tab_grown b0 g1 (Nat.le_refl _)
  obtain ⟨w2, u2, t2, g2, z2⟩ := rule_put t1 (by rfl) ⟨⟨#[99, 97, 116, 101, 103, 111, 114, 121]⟩, 84, false, false, f1⟩ (by rfl) (by rfl)
  have b2 := tab_grown b1 g2 (Nat.le_refl _)
  clear t1
  obtain ⟨w3, u3, t3, g3, z3⟩ := rule_put t2 (by rfl) ⟨⟨#[99, 111, 110, 116, 101, 110, 116]⟩, 85, true, false, f2⟩ (by rfl) (by rfl)
  have b3 := tab_grown b2 g3 (Nat.le_refl _)
  clear t2
  obtain ⟨w4, u4, t4, g4, z4⟩ := rule_put t3 (by rfl) ⟨⟨#[99, 111, 110, 116, 114, 105, 98, 117, 116, 111, 114]⟩, 83, false, false, f3⟩ (by rfl) (by rfl)
  have b4 := tab_grown b3 g4 (Nat.le_refl _)
  clear t3
  obtain ⟨w5, u5, t5, g5, z5⟩ := rule_put t4 (by rfl) ⟨⟨#[105, 100]⟩, 86, true, stored, f4⟩ (by rfl) (by rfl)
  have b5 := tab_grown b4 g5 (Nat.le_refl _)
  clear t4
  obtain ⟨w6, u6, t6, g6, z6⟩ := rule_put t5 (by rfl) ⟨⟨#[108, 105, 110, 107]⟩, 87, false, false, f5⟩ (by rfl) (by rfl)
  have b6 := tab_grown b5 g6 (Nat.le_refl _)
  clear t5
  obtain ⟨w7, u7, t7, g7, z7⟩ := rule_put t6 (by rfl) ⟨⟨#[112, 117, 98, 108, 105, 115, 104, 101, 100]⟩, 88, true, false, f6⟩ (by rfl) (by rfl)
  have b7 := tab_grown b6 g7 (Nat.le_refl _)
  clear t6
  obtain ⟨w8, u8, t8, g8, z8⟩ := rule_put t7 (by rfl) ⟨⟨#[114, 105, 103, 104, 116, 115]⟩, 89, true, false, f7⟩ (by rfl) (by rfl)
  have b8 := tab_grown b7 g8 (Nat.le_refl _)
  clear t7
  obtain ⟨w9, u9, t9, g9, z9⟩ := rule_put t8 (by rfl) ⟨⟨#[115, 117, 109, 109, 97, 114, 121]⟩, 89, true, false, f8⟩ (by rfl) (by rfl)
  have b9 := tab_grown b8 g9 (Nat.le_refl _)
  clear t8
  obtain ⟨w10, u10, t10, g10, z10⟩ := rule_put t9 (by rfl) ⟨⟨#[116, 105, 116, 108, 101]⟩, 89, true, true, f9⟩ (by rfl) (by rfl)
  have b10 := tab_grown b9 g10 (Nat.le_refl _)
  clear t9
  obtain ⟨w11, u11, t11, g11, z11⟩ := rule_put t10 (by rfl) ⟨⟨#[117, 112, 100, 97, 116, 101, 100]⟩, 88, true, stored, f10⟩ (by rfl) (by rfl)
  have b11 := tab_grown b10 g11 (Nat.le_refl _)
  clear t10
  simp only [List.nil_append, List.cons_append] at t11
  replace t11 := Lib.hid t11
  replace b11 := Lib.hid b11
  dsimp only at u1 u2 u3 u4 u5 u6 u7 u8 u9 u10 u11
  clear t0 b0 g1 z1 b1 g2 z2 b2 g3 z3 b3 g4 z4 b4 g5 z5 b5 g6 z6 b6 g7 z7 b7 g8 z8 b8 g9 z9 b9 g10 z10 b10 g11 z11
  go_enter Tryz.func43, Tryz.ntmps43
  go_wp2_with fail
  go_ret
  exact ⟨rfl, t11.out, b11.out⟩

/-- The program's own tables. -/
def pPersonT : List Am.Rl := Am.personT Am.onD 145 146 147
def pEntryT (stored : Bool) : List Am.Rl := Am.entryT Am.onD 83 84 85 86 87 88 89 stored
theorem pPersonRules_any (w : World) : Calls Tryz.prog 112 #[] w fun e w' => e = .returned (.map (some w.heap.size)) ∧ Tab w' w.heap.size (ruleT pPersonT) ∧ Below w.heap.size w w' :=
  pPersonRules_at _ _ _ w
theorem pEntryRules_any (stored : Bool) (w : World) : Calls Tryz.prog 43 #[.bool stored] w fun e w' => e = .returned (.map (some w.heap.size)) ∧ Tab w' w.heap.size (ruleT (pEntryT stored)) ∧ Below w.heap.size w w' :=
  pEntryRules_at stored _ _ _ _ _ _ _ _ _ _ _ w
end Go.Proofs.YtdhondndidoniaaGreatDoor
namespace Go.Proofs.YtdhondndidoniaaGreatDoor
open Go.RowKit Go.Maps
set_option linter.unusedVariables false
set_option linter.unusedSimpArgs false

namespace Am
/-- One sign, neither first nor last: what stands ahead of the first one and behind it is there, and behind it there is none. -/
def pMailOk (t : List UInt8) : Bool := decide (t.count 64 = 1) && decide (t.head? ≠ some 64) && decide (t.getLast? ≠ some 64)
theorem mail_none {t : List UInt8} (h : Cu.parts 64 t = none) : pMailOk t = false := by
  have h0 : t.count 64 = 0 := List.count_eq_zero.2 (fun hm => Cu.parts_no h 64 hm rfl)
  unfold pMailOk
  rw [h0]; rfl
theorem mail_some {t a r : List UInt8} (h : Cu.parts 64 t = some (a, r)) : pMailOk t = (decide (a ≠ []) && decide (r ≠ []) && !decide (64 ∈ r)) := by
  have e := Cu.parts_append h
  have ha := Cu.parts_ahead h
  have hc : a.count 64 = 0 := List.count_eq_zero.2 (fun hm => ha 64 hm rfl)
  unfold pMailOk
  have h1 : decide (t.count 64 = 1) = !decide (64 ∈ r) := by
    rw [e, List.count_append, hc, List.count_cons_self]
    by_cases hr : 64 ∈ r
    · have := List.count_pos_iff.2 hr
      rw [decide_eq_true hr, decide_eq_false (by omega)]; rfl
    · rw [decide_eq_false hr, List.count_eq_zero.2 hr]; rfl
  have h2 : decide (t.head? ≠ some 64) = decide (a ≠ []) := by
    rw [e, decide_eq_decide]
    cases a with
    | nil => simp
    | cons b a =>
      have := ha b (by simp)
      simp [this]
  rw [h1, h2]
  by_cases hr : 64 ∈ r
  · simp [hr]
  · have h3 : decide (t.getLast? ≠ some 64) = decide (r ≠ []) := by
      rw [e, decide_eq_decide]
      cases hl : r.getLast? with
      | none =>
        rw [List.getLast?_eq_none_iff] at hl
        subst hl
        simp
      | some b =>
        obtain ⟨y, rfl⟩ := List.getLast?_eq_some_iff.1 hl
        have hb : b ≠ 64 := fun e => hr (by rw [e]; simp)
        rw [show a ++ 64 :: (y ++ [b]) = (a ++ 64 :: y) ++ [b] by simp, List.getLast?_concat]
        simp [hb]
    rw [h3]
    cases decide (a ≠ []) <;> cases decide (r ≠ []) <;> cases decide (64 ∈ r) <;> rfl
end Am
theorem contains_one64 (l : List UInt8) : Lib.contains l [64] = decide (64 ∈ l) := by
  have e := Cu.index_parts 64 l
  unfold Lib.contains
  rw [e]
  cases h : Cu.parts 64 l with
  | none =>
    rw [decide_eq_false (fun hm => Cu.parts_no h 64 hm rfl)]; rfl
  | some x =>
    obtain ⟨a, r⟩ := x
    have := Cu.parts_append h
    rw [decide_eq_true (show 64 ∈ l by rw [this]; simp)]
    simp
theorem contains64_any (s : ByteArray) (w : World) (hs : s.size ≤ 1000000) (hE : Env w) :
    Calls Tryz.prog 169 #[.string s, .string ⟨#[64]⟩] w fun e w' => e = .returned (.bool (decide (64 ∈ s.data.toList))) ∧ w' = w := by
  obtain ⟨m, hm⟩ := hE.most
  have c := Tryz.strings_Contains s ⟨#[64]⟩ m w (by omega) hm
  rw [show (⟨#[64]⟩ : ByteArray).data.toList = [64] from rfl, contains_one64] at c
  exact c
set_option maxRecDepth 100000 in
set_option maxHeartbeats 6400000 in
theorem pEmail_any (n : Gv.Node) {A : Array Value} (w : World) (h : Nd w A n) (hz : Gv.wt n ≤ 100000) (hE : Env w) :
    Calls Tryz.prog 145 #[.agg A] w fun e w' => e = .returned (.bool (Am.plain n && Am.pMailOk (Am.trim (Am.text n)))) ∧ Below w.heap.size w w' := by
  have hq : Hid ((Am.plain n && Am.pMailOk (Am.trim (Am.text n))) = (Am.plain n && Am.pMailOk (trS (txS n)).data.toList)) := Lib.hid (by rw [trS_list, txS_list])
  generalize (Am.plain n && Am.pMailOk (Am.trim (Am.text n))) = Q at *
  have s1 := txS_size n
  have s2 := trS_size (txS n)
  have kP := Lib.hid (fun W A (hW : Nd W A n) (_ : Env W) => pPlain_any n W hW)
  have kT := Lib.hid (fun W A (hW : Nd W A n) (_ : Env W) => pTrimmed_any n W hW (by omega))
  have hyz : (trS (txS n)).size ≤ 100000 := by omega
  generalize trS (txS n) = y at *
  generalize Am.plain n = pl at *
  clear s1 s2
  obtain ⟨S, k, sp, nm, d, as', kids, ao, bo, ca, cb, hn, rfl, ha, hK, h1, h2⟩ := h.form
  have bA := (Below.refl w.heap.size w).alloc (Nat.le_refl _) (.cells #[.int .i64 k, .string sp, .string nm, .slice ao as'.length ca, .slice bo kids.length cb, .string d] 27)
  have N0 := Lib.hid (h.on bA)
  have C0 := Lib.hid (Cells.new w 27 #[.int .i64 k, .string sp, .string nm, .slice ao as'.length ca, .slice bo kids.length cb, .string d])
  have E0 := Lib.hid (hE.on bA)
  have B0 := Lib.hid bA
  clear h ha hK h1 h2 hn bA hE hz
  go_enter Tryz.func145, Tryz.ntmps145
  go_upto_region 1 with fail
  generalize w.alloc (.cells #[.int .i64 k, .string sp, .string nm, .slice ao as'.length ca, .slice bo kids.length cb, .string d] 27) = wA at *
  obtain ⟨x0, x1, x2, x3, x4, x5⟩ := node_open (show Cells _ _ _ (nodeArr k sp nm (.slice ao as'.length ca) (.slice bo kids.length cb) d) from C0.out)
  have cc := Lib.hid (kT.out wA _ N0.out E0.out)
  go_wp2_with fail
  (with_reducible refine (cc.out).mono ?_); rintro e w1 ⟨rfl, b1⟩
  have C1 := Lib.hid (C0.out.on b1)
  have N1 := Lib.hid (N0.out.on b1)
  have E1 := Lib.hid (E0.out.on b1)
  have B1 := Lib.hid (B0.out.trans (b1.mono B0.out.size))
  clear cc b1
  clear x0 x1 x2 x3 x4 x5
  cases hpt : Cu.parts 64 y.data.toList with
  | none =>
    have kC := Lib.hid (fun W (hW : Env W) => Cu.no (p := ⟨#[64]⟩) rfl W (by omega) hW hpt)
    have hr : Hid (Q = false) := Lib.hid (by rw [hq.out, Am.mail_none hpt, Bool.and_false])
    replace hpt := Lib.hid hpt
    have cc := Lib.hid (kC.out w1 E1.out)
    go_wp2_with fail
    (with_reducible refine (cc.out).mono ?_); rintro e w2 ⟨rfl, b2⟩
    have C2 := Lib.hid (C1.out.on b2)
    have N2 := Lib.hid (N1.out.on b2)
    have E2 := Lib.hid (E1.out.on b2)
    have B2 := Lib.hid (B1.out.trans (b2.mono B1.out.size))
    clear cc b2
    obtain ⟨x0, x1, x2, x3, x4, x5⟩ := node_open (show Cells _ _ _ (nodeArr k sp nm (.slice ao as'.length ca) (.slice bo kids.length cb) d) from C2.out)
    have cc := Lib.hid (kP.out w2 _ N2.out E2.out)
    go_wp2_with fail
    (with_reducible refine (cc.out).mono ?_); rintro e w3 ⟨rfl, b3⟩
    have C3 := Lib.hid (C2.out.on b3)
    have N3 := Lib.hid (N2.out.on b3)
    have E3 := Lib.hid (E2.out.on b3)
    have B3 := Lib.hid (B2.out.trans (b3.mono B2.out.size))
    clear cc b3
    clear x0 x1 x2 x3 x4 x5
    cases pl with
    | false =>
      go_wp2_with fail
      go_ret
      exact ⟨ret_bool hr.out.symm, B3.out⟩
    | true =>
      go_wp2_with fail
      go_ret
      exact ⟨ret_bool hr.out.symm, B3.out⟩
  | some x =>
    obtain ⟨a, r⟩ := x
    obtain ⟨t, u, rfl, rfl⟩ : ∃ t u : ByteArray, t.data.toList = a ∧ u.data.toList = r := ⟨⟨a.toArray⟩, ⟨r.toArray⟩, rfl, rfl⟩
    have hus := Cu.parts_size hpt
    have kC := Lib.hid (fun W (hW : Env W) => Cu.yes (p := ⟨#[64]⟩) rfl W (by omega) hW hpt)
    have kD := Lib.hid (fun W (hW : Env W) => contains64_any u W (by omega) hW)
    have hm := Lib.hid (Am.mail_some hpt)
    replace hpt := Lib.hid hpt
    have hpa := am_empty t
    have hpb := am_empty u
    generalize decide (64 ∈ u.data.toList) = at64 at *
    have cc := Lib.hid (kC.out w1 E1.out)
    go_wp2_with fail
    (with_reducible refine (cc.out).mono ?_); rintro e w2 ⟨rfl, b2⟩
    have C2 := Lib.hid (C1.out.on b2)
    have N2 := Lib.hid (N1.out.on b2)
    have E2 := Lib.hid (E1.out.on b2)
    have B2 := Lib.hid (B1.out.trans (b2.mono B1.out.size))
    clear cc b2
    obtain ⟨x0, x1, x2, x3, x4, x5⟩ := node_open (show Cells _ _ _ (nodeArr k sp nm (.slice ao as'.length ca) (.slice bo kids.length cb) d) from C2.out)
    have cc := Lib.hid (kP.out w2 _ N2.out E2.out)
    go_wp2_with fail
    (with_reducible refine (cc.out).mono ?_); rintro e w3 ⟨rfl, b3⟩
    have C3 := Lib.hid (C2.out.on b3)
    have N3 := Lib.hid (N2.out.on b3)
    have E3 := Lib.hid (E2.out.on b3)
    have B3 := Lib.hid (B2.out.trans (b3.mono B2.out.size))
    clear cc b3
    clear x0 x1 x2 x3 x4 x5
    cases pl with
    | false =>
      have hr : Hid (Q = false) := Lib.hid (by rw [hq.out]; rfl)
      clear hpa hpb
      go_wp2_with fail
      go_ret
      exact ⟨ret_bool hr.out.symm, B3.out⟩
    | true =>
      rcases hpa with ⟨e1, e2, e3⟩ | ⟨e1, e2, e3⟩
      · have hr : Hid (Q = false) := Lib.hid (by rw [hq.out, hm.out, e3]; rfl)
        replace e3 := Lib.hid e3
        clear hpb
        go_wp2_with fail
        go_ret
        exact ⟨ret_bool hr.out.symm, B3.out⟩
      · rcases hpb with ⟨d1, d2, d3⟩ | ⟨d1, d2, d3⟩
        · have hr : Hid (Q = false) := Lib.hid (by rw [hq.out, hm.out, d3]; simp)
          replace e3 := Lib.hid e3
          replace d3 := Lib.hid d3
          go_wp2_with fail
          go_ret
          exact ⟨ret_bool hr.out.symm, B3.out⟩
        · have hr : Hid (Q = !at64) := Lib.hid (by rw [hq.out, hm.out, decide_eq_true (show t.data.toList ≠ [] from e3), decide_eq_true (show u.data.toList ≠ [] from d3)]; rfl)
          replace e3 := Lib.hid e3
          replace d3 := Lib.hid d3
          have cc := Lib.hid (kD.out w3 E3.out)
          go_wp2_with fail
          (with_reducible refine (cc.out).mono ?_); rintro e w4 ⟨rfl, rfl⟩
          go_wp2_with fail
          go_ret
          exact ⟨ret_bool hr.out.symm, B3.out⟩

theorem person_enters : ∀ r ∈ pPersonT, enters r.fn := by
  intro r hr
  simp only [pPersonT, Am.personT, List.mem_cons, List.not_mem_nil, or_false] at hr
  rcases hr with rfl | rfl | rfl
  · exact enters_of Tryz.func145 (by kernel_rfl) (by kernel_rfl)
  · exact enters_of Tryz.func146 (by kernel_rfl) (by kernel_rfl)
  · exact enters_of Tryz.func147 (by kernel_rfl) (by kernel_rfl)
theorem person_sizes : ∀ r ∈ pPersonT, r.name.size ≤ maxLen := by
  intro r hr
  simp only [pPersonT, Am.personT, List.mem_cons, List.not_mem_nil, or_false] at hr
  rcases hr with rfl | rfl | rfl <;> decide +kernel
theorem person_fits : ∀ r ∈ pPersonT, ∀ (n : Gv.Node) (A : Array Value) (W : World), Nd W A n → Gv.wt n ≤ 100000 → Env W → Calls Tryz.prog r.fn #[.agg A] W fun e w' => e = .returned (.bool (r.fit n)) ∧ Below W.heap.size W w' := by
  intro r hr n A W hN hz hE
  simp only [pPersonT, Am.personT, List.mem_cons, List.not_mem_nil, or_false] at hr
  rcases hr with rfl | rfl | rfl
  · have h := pEmail_any n W hN hz hE
    have e : (Am.plain n && Am.pMailOk (Am.trim (Am.text n))) = (Am.plain n && decide ((Am.trim (Am.text n)).count 64 = 1) && decide ((Am.trim (Am.text n)).head? ≠ some 64) && decide ((Am.trim (Am.text n)).getLast? ≠ some 64)) := by
      unfold Am.pMailOk
      rw [Bool.and_assoc, Bool.and_assoc, Bool.and_assoc]
    rw [e] at h
    exact h
  · exact pName_any n W hN hz hE
  · exact pUri_any n W hN hz hE
/-- A node's kids, by rules. -/
theorem pFit_nd (T : List Am.Rl) (hT : (T.map (·.name)).Nodup) (hz : ∀ r ∈ T, r.name.size ≤ maxLen) (he : ∀ r ∈ T, enters r.fn)
    (hF : ∀ r ∈ T, ∀ (n : Gv.Node) (A : Array Value) (W : World), Nd W A n → Gv.wt n ≤ 100000 → Env W → Calls Tryz.prog r.fn #[.agg A] W fun e w' => e = .returned (.bool (r.fit n)) ∧ Below W.heap.size W w')
    (n : Gv.Node) (W : World) {a b c d e : Value} {bo : Option Addr} {m cb bm : Nat} (h : Nd W #[a, b, c, d, .slice bo m cb, e] n) (hn : Gv.wt n ≤ 100000) (hM : Tab W bm (ruleT T)) (hE : Env W) :
    Calls Tryz.prog 42 #[.slice bo m cb, .map (some bm)] W fun e w' => e = .returned (.bool (Am.fitIn T (Am.kidsOf n))) ∧ Below W.heap.size W w' := by
  obtain ⟨S, rfl, hK⟩ := nd_slice h
  exact pFit_any T _ W hT hz hF he hK (by have := Am.kids_wt n; omega) (fun x hx => Nat.le_trans (Am.mem_kids hx) hn) hM hE

set_option maxRecDepth 100000 in
set_option maxHeartbeats 6400000 in
theorem pPerson_any (n : Gv.Node) {A : Array Value} (w : World) (h : Nd w A n) (hz : Gv.wt n ≤ 100000) (hE : Env w) :
    Calls Tryz.prog 83 #[.agg A] w fun e w' => e = .returned (.bool (Am.person Am.onD n)) ∧ Below w.heap.size w w' := by
  have hq : Hid (Am.fitIn pPersonT (Am.kidsOf n) = Am.person Am.onD n) := Lib.hid (Am.pPerson_is Am.onD _ _ _ n)
  have kR := Lib.hid pPersonRules_any
  have kF := Lib.hid (fun W a b c d e bo m cb bm (hW : Nd W #[a, b, c, d, .slice bo m cb, e] n) hM hE => pFit_nd (bo := bo) (m := m) (cb := cb) (bm := bm) pPersonT (Am.personT_apart _ _ _ _) person_sizes person_enters person_fits n W hW hz hM hE)
  rw [hq.out] at kF
  generalize Am.person Am.onD n = Q at *
  generalize ruleT pPersonT = TT at *
  obtain ⟨S, k, sp, nm, d, as', kids, ao, bo, ca, cb, hn, rfl, ha, hK, h1, h2⟩ := h.form
  have bA := (Below.refl w.heap.size w).alloc (Nat.le_refl _) (.cells #[.int .i64 k, .string sp, .string nm, .slice ao as'.length ca, .slice bo kids.length cb, .string d] 27)
  have N0 := Lib.hid (h.on bA)
  have C0 := Lib.hid (Cells.new w 27 #[.int .i64 k, .string sp, .string nm, .slice ao as'.length ca, .slice bo kids.length cb, .string d])
  have E0 := Lib.hid (hE.on bA)
  have B0 := Lib.hid bA
  clear h ha hK h1 h2 hn bA hE hz
  go_enter Tryz.func83, Tryz.ntmps83
  go_upto_region 1 with fail
  generalize w.alloc (.cells #[.int .i64 k, .string sp, .string nm, .slice ao as'.length ca, .slice bo kids.length cb, .string d] 27) = wA at *
  obtain ⟨x0, x1, x2, x3, x4, x5⟩ := node_open (show Cells _ _ _ (nodeArr k sp nm (.slice ao as'.length ca) (.slice bo kids.length cb) d) from C0.out)
  have yD := C0.out.drew
  clear hq
  go_region_with (first
        | (go_at_call 112; refine (kR.out _).mono ?_; rintro e wX ⟨rfl, hTX, bX⟩; have x4X := (yD.on bX).cell (i := 4) rfl)
        | (go_at_call 42; refine (kF.out _ _ _ _ _ _ _ _ _ _ (N0.out.on ((Below.refl wA.heap.size wA).drew.trans bX)) hTX (E0.out.on ((Below.refl wA.heap.size wA).drew.trans bX))).mono ?_; rintro e wY ⟨rfl, bY⟩))

  all_goals go_wp2_with fail
  all_goals go_ret
  all_goals exact ⟨rfl, B0.out.trans ((((Below.refl wA.heap.size wA).drew.trans bX).trans (bY.mono ((Below.refl wA.heap.size wA).drew.trans bX).size)).mono B0.out.size)⟩
end Go.Proofs.YtdhondndidoniaaGreatDoor
