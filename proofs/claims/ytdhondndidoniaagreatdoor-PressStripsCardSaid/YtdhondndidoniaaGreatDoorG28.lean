/-
  The program's own words of a kid: names, references, e-mail addresses, points of time, ids, categories, text constructs. (Printed by gen_akinds.py.)
-/
import Derived.Test.YtdhondndidoniaaGreatDoorG11
import Derived.Test.YtdhondndidoniaaGreatDoorG15
import Derived.Test.YtdhondndidoniaaGreatDoorG19
import Derived.Test.YtdhondndidoniaaGreatDoorG24
import Derived.Test.YtdhondndidoniaaGreatDoorG27
import Derived.Test.YtdhondndidoniaaGreatDoorG07
namespace Go.Proofs.YtdhondndidoniaaGreatDoor
open Go.RowKit
set_option linter.unusedVariables false
set_option linter.unusedSimpArgs false

set_option maxRecDepth 100000 in
set_option maxHeartbeats 3200000 in
theorem pRef_any (s : ByteArray) (w : World) (hs : s.size ≤ 100000) (hE : Env w) :
    Calls Tryz.prog 114 #[.string s] w fun e w' => e = .returned (.bool (Am.onD.iri s.data.toList false)) ∧ Below w.heap.size w w' := by
  have hq : Hid (Am.onD.iri s.data.toList false = (decide (Lc.parseE s.data.toList = 0) && decide (s.data.toList ≠ []))) := Lib.hid (by show (_ && _ && (_ || true)) = _; simp)
  generalize Am.onD.iri s.data.toList false = Q at *
  have hp := Lib.hid (pParse_any s w hs hE)
  generalize Lc.parseU s.data.toList = u at *
  generalize Lc.parseE s.data.toList = c at *
  have hpick : ((s.toList == []) = true ∧ (s.toList != []) = false ∧ s.data.toList = []) ∨ ((s.toList == []) = false ∧ (s.toList != []) = true ∧ ¬ s.data.toList = []) := am_empty s
  clear hE
  go_enter Tryz.func114, Tryz.ntmps114
  go_wp2_with fail
  (with_reducible refine hp.out.mono ?_); rintro e w1 ⟨rfl, b1⟩
  have bU := Lib.hid (b1.trans (((Below.refl w1.heap.size w1).alloc (Nat.le_refl _) (.cells (uArr u) 40)).mono b1.size))
  clear hp b1
  unfold uArr at bU ⊢
  go_upto_region 2 with fail
  generalize w1.alloc (.cells #[.string (Lc.str u.scheme), .string (Lc.str u.host), .string (Lc.str u.path), .string (Lc.str u.query), .string (Lc.str u.frag), .bool u.hasS, .bool u.hasH, .bool u.hasQ, .bool u.hasF] 40) = w2 at *
  by_cases h0 : c = 0
  · subst h0
    rcases hpick with ⟨e1, e2, e3⟩ | ⟨e1, e2, e3⟩
    · have hr : Hid (Q = false) := Lib.hid (by rw [hq.out, e3]; rfl)
      replace e3 := Lib.hid e3
      go_wp2_with fail
      go_ret
      exact ⟨ret_bool hr.out.symm, bU.out⟩
    · have hr : Hid (Q = true) := Lib.hid (by rw [hq.out, decide_eq_true (show s.data.toList ≠ [] from e3)]; rfl)
      replace e3 := Lib.hid e3
      go_wp2_with fail
      go_ret
      exact ⟨ret_bool hr.out.symm, bU.out⟩
  · have hr : Hid (Q = false) := Lib.hid (by rw [hq.out, decide_eq_false h0]; rfl)
    have e0 : (c == 0) = false := beq_false_of_ne h0
    clear hpick
    go_wp2_with fail
    go_ret
    exact ⟨ret_bool hr.out.symm, bU.out⟩

theorem md_some (s : ByteArray) : (Am.onD.type s.data.toList).isSome = decide (mpE s = 0) := by
  show ((Md.parse s.data.toList).map _).isSome = _
  unfold mpE
  cases Md.parse s.data.toList <;> simp
theorem md_ty {s : ByteArray} (h : mpE s = 0) : Am.onD.type s.data.toList = some (mpM s).ty.data.toList := by
  show (Md.parse s.data.toList).map _ = _
  unfold mpE at h
  unfold mpM
  cases hp : Md.parse s.data.toList with
  | none => rw [hp] at h; simp at h
  | some m => rfl
theorem md_no {s : ByteArray} (h : ¬ mpE s = 0) : Am.onD.type s.data.toList = none := by
  show (Md.parse s.data.toList).map _ = _
  unfold mpE at h
  cases hp : Md.parse s.data.toList with
  | none => rfl
  | some m => rw [hp] at h; simp at h

set_option maxRecDepth 100000 in
set_option maxHeartbeats 3200000 in
theorem pMedia_any (s : ByteArray) (w : World) (hs : s.size ≤ 100000) (hE : Env w) :
    Calls Tryz.prog 115 #[.string s] w fun e w' => e = .returned (.bool (Am.onD.type s.data.toList).isSome) ∧ Below w.heap.size w w' := by
  have hq := Lib.hid (md_some s)
  generalize (Am.onD.type s.data.toList).isSome = Q at *
  have hp := Lib.hid (mParse_any s w hs hE)
  generalize mpM s = m at *
  generalize mpE s = c at *
  clear hE
  go_enter Tryz.func115, Tryz.ntmps115
  go_wp2_with fail
  (with_reducible refine hp.out.mono ?_); rintro e w1 ⟨v, rfl, hv, b1⟩
  obtain ⟨vo, vc, rfl, -⟩ := pairs_of_owns hv
  generalize m.params.length = ml at *
  have bU := Lib.hid (b1.trans (((Below.refl w1.heap.size w1).alloc (Nat.le_refl _) (.cells #[.string m.ty, .string m.sub, .slice vo ml vc] 120)).mono b1.size))
  clear hp b1 hv
  go_upto_region 2 with fail
  generalize w1.alloc (.cells #[.string m.ty, .string m.sub, .slice vo ml vc] 120) = w2 at *
  by_cases h0 : c = 0
  · subst h0
    have hr : Hid (Q = true) := Lib.hid (by rw [hq.out]; rfl)
    go_wp2_with fail
    go_ret
    exact ⟨ret_bool hr.out.symm, bU.out⟩
  · have hr : Hid (Q = false) := Lib.hid (by rw [hq.out, decide_eq_false h0])
    have e0 : (c == 0) = false := beq_false_of_ne h0
    go_wp2_with fail
    go_ret
    exact ⟨ret_bool hr.out.symm, bU.out⟩

/-- A type whose contents have no heads of their own. -/
def Am.single (s : ByteArray) : Bool := match Am.onD.type s.data.toList with
  | none => false
  | some f => decide (f ≠ Am.lit "multipart" ∧ f ≠ Am.lit "message")
theorem am_litP_multipart : Am.lit "multipart" = [109, 117, 108, 116, 105, 112, 97, 114, 116] := by decide +kernel
theorem am_litP_message : Am.lit "message" = [109, 101, 115, 115, 97, 103, 101] := by decide +kernel

set_option maxRecDepth 100000 in
set_option maxHeartbeats 3200000 in
theorem pSingle_any (s : ByteArray) (w : World) (hs : s.size ≤ 100000) (hE : Env w) :
    Calls Tryz.prog 116 #[.string s] w fun e w' => e = .returned (.bool (Am.single s)) ∧ Below w.heap.size w w' := by
  have hy : Hid (mpE s = 0 → Am.single s = decide ((mpM s).ty.data.toList ≠ Am.lit "multipart" ∧ (mpM s).ty.data.toList ≠ Am.lit "message")) := Lib.hid (fun h => by unfold Am.single; rw [md_ty h])
  have hn : Hid (¬ mpE s = 0 → Am.single s = false) := Lib.hid (fun h => by unfold Am.single; rw [md_no h])
  generalize Am.single s = Q at *
  have hp := Lib.hid (mParse_any s w hs hE)
  generalize mpM s = m at *
  generalize mpE s = c at *
  rw [am_litP_multipart, am_litP_message] at hy
  clear hE
  go_enter Tryz.func116, Tryz.ntmps116
  go_wp2_with fail
  (with_reducible refine hp.out.mono ?_); rintro e w1 ⟨v, rfl, hv, b1⟩
  obtain ⟨vo, vc, rfl, -⟩ := pairs_of_owns hv
  generalize m.params.length = ml at *
  have bU := Lib.hid (b1.trans (((Below.refl w1.heap.size w1).alloc (Nat.le_refl _) (.cells #[.string m.ty, .string m.sub, .slice vo ml vc] 120)).mono b1.size))
  have q0 := (Cells.new w1 120 #[.string m.ty, .string m.sub, .slice vo ml vc]).cell (i := 0) rfl
  clear hp b1 hv
  go_upto_region 2 with fail
  generalize w1.alloc (.cells #[.string m.ty, .string m.sub, .slice vo ml vc] 120) = w2 at *
  by_cases h0 : c = 0
  · subst h0
    replace hy := Lib.hid (hy.out rfl)
    by_cases h1 : m.ty.data.toList = [109, 117, 108, 116, 105, 112, 97, 114, 116]
    · have hr : Hid (Q = false) := Lib.hid (by rw [hy.out]; exact decide_eq_false (fun e => e.1 h1))
      have y1 := lit_yes rfl h1
      have y2 : (m.ty.toList != [109, 117, 108, 116, 105, 112, 97, 114, 116]) = false := by rw [bne, y1]; rfl
      clear h1 hy hn
      go_wp2_with fail
      go_ret
      exact ⟨ret_bool hr.out.symm, bU.out⟩
    · have y1 := lit_no rfl h1
      have y2 : (m.ty.toList != [109, 117, 108, 116, 105, 112, 97, 114, 116]) = true := by rw [bne, y1]; rfl
      by_cases h2 : m.ty.data.toList = [109, 101, 115, 115, 97, 103, 101]
      · have hr : Hid (Q = false) := Lib.hid (by rw [hy.out]; exact decide_eq_false (fun e => e.2 h2))
        have y3 := lit_yes rfl h2
        have y4 : (m.ty.toList != [109, 101, 115, 115, 97, 103, 101]) = false := by rw [bne, y3]; rfl
        clear h1 h2 hy hn
        go_wp2_with fail
        go_ret
        exact ⟨ret_bool hr.out.symm, bU.out⟩
      · have hr : Hid (Q = true) := Lib.hid (by rw [hy.out]; exact decide_eq_true ⟨h1, h2⟩)
        have y3 := lit_no rfl h2
        have y4 : (m.ty.toList != [109, 101, 115, 115, 97, 103, 101]) = true := by rw [bne, y3]; rfl
        clear h1 h2 hy hn
        go_wp2_with fail
        go_ret
        exact ⟨ret_bool hr.out.symm, bU.out⟩
  · have hr : Hid (Q = false) := Lib.hid (hn.out h0)
    have e0 : (c == 0) = false := beq_false_of_ne h0
    clear hy hn
    go_wp2_with fail
    go_ret
    exact ⟨ret_bool hr.out.symm, bU.out⟩

set_option maxRecDepth 100000 in
set_option maxHeartbeats 6400000 in
theorem pName_any (n : Gv.Node) {A : Array Value} (w : World) (h : Nd w A n) (hz : Gv.wt n ≤ 100000) (hE : Env w) :
    Calls Tryz.prog 146 #[.agg A] w fun e w' => e = .returned (.bool (Am.plain n && decide (Am.trim (Am.text n) ≠ []))) ∧ Below w.heap.size w w' := by
  have hq : Hid ((Am.plain n && decide (Am.trim (Am.text n) ≠ [])) = (Am.plain n && decide ((trS (txS n)).data.toList ≠ []))) := Lib.hid (by rw [trS_list, txS_list])
  generalize (Am.plain n && decide (Am.trim (Am.text n) ≠ [])) = Q at *
  have kP := Lib.hid (fun W A (hW : Nd W A n) (_ : Env W) => pPlain_any n W hW)
  have kT := Lib.hid (fun W A (hW : Nd W A n) (_ : Env W) => pTrimmed_any n W hW (by omega))
  generalize trS (txS n) = y at *
  have hpick := am_empty y
  generalize Am.plain n = pl at *
  obtain ⟨S, k, sp, nm, d, as', kids, ao, bo, ca, cb, hn, rfl, ha, hK, h1, h2⟩ := h.form
  have bA := (Below.refl w.heap.size w).alloc (Nat.le_refl _) (.cells #[.int .i64 k, .string sp, .string nm, .slice ao as'.length ca, .slice bo kids.length cb, .string d] 27)
  have N0 := Lib.hid (h.on bA)
  have C0 := Lib.hid (Cells.new w 27 #[.int .i64 k, .string sp, .string nm, .slice ao as'.length ca, .slice bo kids.length cb, .string d])
  have E0 := Lib.hid (hE.on bA)
  have B0 := Lib.hid bA
  clear h ha hK h1 h2 hn bA hE hz
  go_enter Tryz.func146, Tryz.ntmps146
  go_upto_region 1 with fail
  generalize w.alloc (.cells #[.int .i64 k, .string sp, .string nm, .slice ao as'.length ca, .slice bo kids.length cb, .string d] 27) = wA at *
  obtain ⟨x0, x1, x2, x3, x4, x5⟩ := node_open (show Cells _ _ _ (nodeArr k sp nm (.slice ao as'.length ca) (.slice bo kids.length cb) d) from C0.out)
  have cc := Lib.hid (kP.out wA _ N0.out E0.out)
  go_wp2_with fail
  (with_reducible refine (cc.out).mono ?_); rintro e w1 ⟨rfl, b1⟩
  have C1 := Lib.hid (C0.out.on b1)
  have N1 := Lib.hid (N0.out.on b1)
  have E1 := Lib.hid (E0.out.on b1)
  have B1 := Lib.hid (B0.out.trans (b1.mono B0.out.size))
  clear cc b1
  clear x0 x1 x2 x3 x4 x5
  cases pl with
  | false =>
    have hr : Hid (Q = false) := Lib.hid (by rw [hq.out]; rfl)
    obtain ⟨x0, x1, x2, x3, x4, x5⟩ := node_open (show Cells _ _ _ (nodeArr k sp nm (.slice ao as'.length ca) (.slice bo kids.length cb) d) from C1.out)
    go_wp2_with fail
    go_ret
    exact ⟨ret_bool hr.out.symm, B1.out⟩
  | true =>
    obtain ⟨x0, x1, x2, x3, x4, x5⟩ := node_open (show Cells _ _ _ (nodeArr k sp nm (.slice ao as'.length ca) (.slice bo kids.length cb) d) from C1.out)
    have cc := Lib.hid (kT.out w1 _ N1.out E1.out)
    go_wp2_with fail
    (with_reducible refine (cc.out).mono ?_); rintro e w2 ⟨rfl, b2⟩
    have C2 := Lib.hid (C1.out.on b2)
    have N2 := Lib.hid (N1.out.on b2)
    have E2 := Lib.hid (E1.out.on b2)
    have B2 := Lib.hid (B1.out.trans (b2.mono B1.out.size))
    clear cc b2
    clear x0 x1 x2 x3 x4 x5
    rcases hpick with ⟨e1, e2, e3⟩ | ⟨e1, e2, e3⟩
    · have hr : Hid (Q = false) := Lib.hid (by rw [hq.out, e3]; rfl)
      replace e3 := Lib.hid e3
      go_wp2_with fail
      go_ret
      exact ⟨ret_bool hr.out.symm, B2.out⟩
    · have hr : Hid (Q = true) := Lib.hid (by rw [hq.out, decide_eq_true (show y.data.toList ≠ [] from e3)]; rfl)
      replace e3 := Lib.hid e3
      go_wp2_with fail
      go_ret
      exact ⟨ret_bool hr.out.symm, B2.out⟩

set_option maxRecDepth 100000 in
set_option maxHeartbeats 6400000 in
theorem pUri_any (n : Gv.Node) {A : Array Value} (w : World) (h : Nd w A n) (hz : Gv.wt n ≤ 100000) (hE : Env w) :
    Calls Tryz.prog 147 #[.agg A] w fun e w' => e = .returned (.bool (Am.plain n && Am.onD.iri (Am.trim (Am.text n)) false)) ∧ Below w.heap.size w w' := by
  have hq : Hid ((Am.plain n && Am.onD.iri (Am.trim (Am.text n)) false) = (Am.plain n && Am.onD.iri (trS (txS n)).data.toList false)) := Lib.hid (by rw [trS_list, txS_list])
  generalize (Am.plain n && Am.onD.iri (Am.trim (Am.text n)) false) = Q at *
  have s1 := txS_size n
  have s2 := trS_size (txS n)
  have kP := Lib.hid (fun W A (hW : Nd W A n) (_ : Env W) => pPlain_any n W hW)
  have kT := Lib.hid (fun W A (hW : Nd W A n) (_ : Env W) => pTrimmed_any n W hW (by omega))
  have kR := Lib.hid (fun W hW => pRef_any (trS (txS n)) W (by omega) hW)
  generalize trS (txS n) = y at *
  generalize Am.onD.iri y.data.toList false = ir at *
  generalize Am.plain n = pl at *
  clear s1 s2
  obtain ⟨S, k, sp, nm, d, as', kids, ao, bo, ca, cb, hn, rfl, ha, hK, h1, h2⟩ := h.form
  have bA := (Below.refl w.heap.size w).alloc (Nat.le_refl _) (.cells #[.int .i64 k, .string sp, .string nm, .slice ao as'.length ca, .slice bo kids.length cb, .string d] 27)
  have N0 := Lib.hid (h.on bA)
  have C0 := Lib.hid (Cells.new w 27 #[.int .i64 k, .string sp, .string nm, .slice ao as'.length ca, .slice bo kids.length cb, .string d])
  have E0 := Lib.hid (hE.on bA)
  have B0 := Lib.hid bA
  clear h ha hK h1 h2 hn bA hE hz
  go_enter Tryz.func147, Tryz.ntmps147
  go_upto_region 1 with fail
  generalize w.alloc (.cells #[.int .i64 k, .string sp, .string nm, .slice ao as'.length ca, .slice bo kids.length cb, .string d] 27) = wA at *
  obtain ⟨x0, x1, x2, x3, x4, x5⟩ := node_open (show Cells _ _ _ (nodeArr k sp nm (.slice ao as'.length ca) (.slice bo kids.length cb) d) from C0.out)
  have cc := Lib.hid (kP.out wA _ N0.out E0.out)
  go_wp2_with fail
  (with_reducible refine (cc.out).mono ?_); rintro e w1 ⟨rfl, b1⟩
  have C1 := Lib.hid (C0.out.on b1)
  have N1 := Lib.hid (N0.out.on b1)
  have E1 := Lib.hid (E0.out.on b1)
  have B1 := Lib.hid (B0.out.trans (b1.mono B0.out.size))
  clear cc b1
  clear x0 x1 x2 x3 x4 x5
  cases pl with
  | false =>
    have hr : Hid (Q = false) := Lib.hid (by rw [hq.out]; rfl)
    obtain ⟨x0, x1, x2, x3, x4, x5⟩ := node_open (show Cells _ _ _ (nodeArr k sp nm (.slice ao as'.length ca) (.slice bo kids.length cb) d) from C1.out)
    go_wp2_with fail
    go_ret
    exact ⟨ret_bool hr.out.symm, B1.out⟩
  | true =>
    obtain ⟨x0, x1, x2, x3, x4, x5⟩ := node_open (show Cells _ _ _ (nodeArr k sp nm (.slice ao as'.length ca) (.slice bo kids.length cb) d) from C1.out)
    have cc := Lib.hid (kT.out w1 _ N1.out E1.out)
    go_wp2_with fail
    (with_reducible refine (cc.out).mono ?_); rintro e w2 ⟨rfl, b2⟩
    have C2 := Lib.hid (C1.out.on b2)
    have N2 := Lib.hid (N1.out.on b2)
    have E2 := Lib.hid (E1.out.on b2)
    have B2 := Lib.hid (B1.out.trans (b2.mono B1.out.size))
    clear cc b2
    clear x0 x1 x2 x3 x4 x5
    obtain ⟨x0, x1, x2, x3, x4, x5⟩ := node_open (show Cells _ _ _ (nodeArr k sp nm (.slice ao as'.length ca) (.slice bo kids.length cb) d) from C2.out)
    have cc := Lib.hid (kR.out w2 E2.out)
    go_wp2_with fail
    (with_reducible refine (cc.out).mono ?_); rintro e w3 ⟨rfl, b3⟩
    have C3 := Lib.hid (C2.out.on b3)
    have N3 := Lib.hid (N2.out.on b3)
    have E3 := Lib.hid (E2.out.on b3)
    have B3 := Lib.hid (B2.out.trans (b3.mono B2.out.size))
    clear cc b3
    clear x0 x1 x2 x3 x4 x5
    have hr : Hid (Q = ir) := Lib.hid (by rw [hq.out]; rfl)
    go_wp2_with fail
    go_ret
    exact ⟨ret_bool hr.out.symm, B3.out⟩

set_option maxRecDepth 100000 in
set_option maxHeartbeats 6400000 in
theorem pTime_any (n : Gv.Node) {A : Array Value} (w : World) (h : Nd w A n) (hz : Gv.wt n ≤ 100000) (hE : Env w) :
    Calls Tryz.prog 88 #[.agg A] w fun e w' => e = .returned (.bool (Am.momentOk Am.onD n)) ∧ Below w.heap.size w w' := by
  have hq : Hid (Am.momentOk Am.onD n = (Am.plain n && decide (D.paE (trS (txS n)).data.toList = 0))) := Lib.hid (by rw [trS_list, txS_list]; rfl)
  generalize Am.momentOk Am.onD n = Q at *
  have s1 := txS_size n
  have s2 := trS_size (txS n)
  have kP := Lib.hid (fun W A (hW : Nd W A n) (_ : Env W) => pPlain_any n W hW)
  have kT := Lib.hid (fun W A (hW : Nd W A n) (_ : Env W) => pTrimmed_any n W hW (by omega))
  have kM := Lib.hid (fun W hW => dParse_any (trS (txS n)) W (by omega) hW)
  generalize trS (txS n) = y at *
  generalize Am.plain n = pl at *
  generalize D.paE y.data.toList = pe at *
  generalize D.paS y.data.toList = ps at *
  generalize D.paN y.data.toList = pn at *
  clear s1 s2
  obtain ⟨S, k, sp, nm, d, as', kids, ao, bo, ca, cb, hn, rfl, ha, hK, h1, h2⟩ := h.form
  have bA := (Below.refl w.heap.size w).alloc (Nat.le_refl _) (.cells #[.int .i64 k, .string sp, .string nm, .slice ao as'.length ca, .slice bo kids.length cb, .string d] 27)
  have N0 := Lib.hid (h.on bA)
  have C0 := Lib.hid (Cells.new w 27 #[.int .i64 k, .string sp, .string nm, .slice ao as'.length ca, .slice bo kids.length cb, .string d])
  have E0 := Lib.hid (hE.on bA)
  have B0 := Lib.hid bA
  clear h ha hK h1 h2 hn bA hE hz
  go_enter Tryz.func88, Tryz.ntmps88
  go_upto_region 1 with fail
  generalize w.alloc (.cells #[.int .i64 k, .string sp, .string nm, .slice ao as'.length ca, .slice bo kids.length cb, .string d] 27) = wA at *
  obtain ⟨x0, x1, x2, x3, x4, x5⟩ := node_open (show Cells _ _ _ (nodeArr k sp nm (.slice ao as'.length ca) (.slice bo kids.length cb) d) from C0.out)
  have cc := Lib.hid (kT.out wA _ N0.out E0.out)
  go_wp2_with fail
  (with_reducible refine (cc.out).mono ?_); rintro e w1 ⟨rfl, b1⟩
  have C1 := Lib.hid (C0.out.on b1)
  have N1 := Lib.hid (N0.out.on b1)
  have E1 := Lib.hid (E0.out.on b1)
  have B1 := Lib.hid (B0.out.trans (b1.mono B0.out.size))
  clear cc b1
  clear x0 x1 x2 x3 x4 x5
  have cc := Lib.hid (kM.out w1 E1.out)
  go_wp2_with fail
  (with_reducible refine (cc.out).mono ?_); rintro e w2 ⟨rfl, b2⟩
  have C2 := Lib.hid (C1.out.on b2)
  have N2 := Lib.hid (N1.out.on b2)
  have E2 := Lib.hid (E1.out.on b2)
  have B2 := Lib.hid (B1.out.trans (b2.mono B1.out.size))
  clear cc b2
  have K3 := Lib.hid (Cells.new w2 53 #[.int .i64 ps, .int .i64 pn])
  have b3 := (Below.refl w2.heap.size w2).alloc (Nat.le_refl _) (.cells #[.int .i64 ps, .int .i64 pn] 53)
  have C3 := Lib.hid (C2.out.on b3)
  have N3 := Lib.hid (N2.out.on b3)
  have E3 := Lib.hid (E2.out.on b3)
  have B3 := Lib.hid (B2.out.trans (b3.mono B2.out.size))
  clear b3
  go_upto_region 2 with fail
  generalize w2.alloc (.cells #[.int .i64 ps, .int .i64 pn] 53) = w3 at *
  obtain ⟨x0, x1, x2, x3, x4, x5⟩ := node_open (show Cells _ _ _ (nodeArr k sp nm (.slice ao as'.length ca) (.slice bo kids.length cb) d) from C3.out)
  have cc := Lib.hid (kP.out w3 _ N3.out E3.out)
  go_wp2_with fail
  (with_reducible refine (cc.out).mono ?_); rintro e w4 ⟨rfl, b4⟩
  have C4 := Lib.hid (C3.out.on b4)
  have N4 := Lib.hid (N3.out.on b4)
  have E4 := Lib.hid (E3.out.on b4)
  have B4 := Lib.hid (B3.out.trans (b4.mono B3.out.size))
  clear cc b4
  clear x0 x1 x2 x3 x4 x5
  cases pl with
  | false =>
    have hr : Hid (Q = false) := Lib.hid (by rw [hq.out]; rfl)
    go_wp2_with fail
    go_ret
    exact ⟨ret_bool hr.out.symm, B4.out⟩
  | true =>
    by_cases h0 : pe = 0
    · subst h0
      have hr : Hid (Q = true) := Lib.hid (by rw [hq.out]; rfl)
      go_wp2_with fail
      go_ret
      exact ⟨ret_bool hr.out.symm, B4.out⟩
    · have hr : Hid (Q = false) := Lib.hid (by rw [hq.out, decide_eq_false h0]; rfl)
      have e0 : (pe == 0) = false := beq_false_of_ne h0
      go_wp2_with fail
      go_ret
      exact ⟨ret_bool hr.out.symm, B4.out⟩

theorem lc_none : (Lc.parseU []).hasS = false := by decide +kernel
theorem iri_whole (s : ByteArray) : Am.onD.iri s.data.toList true = (decide (Lc.parseE s.data.toList = 0) && (Lc.parseU s.data.toList).hasS) := by
  show (_ && _ && (_ || false)) = _
  by_cases h : s.data.toList = []
  · rw [h, lc_none]; simp
  · rw [decide_eq_true (show s.data.toList ≠ [] from h)]; simp

set_option maxRecDepth 100000 in
set_option maxHeartbeats 6400000 in
theorem pId_any (n : Gv.Node) {A : Array Value} (w : World) (h : Nd w A n) (hz : Gv.wt n ≤ 100000) (hE : Env w) :
    Calls Tryz.prog 86 #[.agg A] w fun e w' => e = .returned (.bool (Am.plain n && Am.onD.iri (Am.trim (Am.text n)) true)) ∧ Below w.heap.size w w' := by
  have hq : Hid ((Am.plain n && Am.onD.iri (Am.trim (Am.text n)) true) = (Am.plain n && (decide (Lc.parseE (trS (txS n)).data.toList = 0) && (Lc.parseU (trS (txS n)).data.toList).hasS))) := Lib.hid (by rw [← iri_whole, trS_list, txS_list])
  generalize (Am.plain n && Am.onD.iri (Am.trim (Am.text n)) true) = Q at *
  have s1 := txS_size n
  have s2 := trS_size (txS n)
  have kP := Lib.hid (fun W A (hW : Nd W A n) (_ : Env W) => pPlain_any n W hW)
  have kT := Lib.hid (fun W A (hW : Nd W A n) (_ : Env W) => pTrimmed_any n W hW (by omega))
  have kM := Lib.hid (fun W hW => pParse_any (trS (txS n)) W (by omega) hW)
  generalize trS (txS n) = y at *
  generalize Am.plain n = pl at *
  generalize Lc.parseE y.data.toList = pe at *
  generalize Lc.parseU y.data.toList = u at *
  clear s1 s2
  unfold uArr at kM
  obtain ⟨S, k, sp, nm, d, as', kids, ao, bo, ca, cb, hn, rfl, ha, hK, h1, h2⟩ := h.form
  have bA := (Below.refl w.heap.size w).alloc (Nat.le_refl _) (.cells #[.int .i64 k, .string sp, .string nm, .slice ao as'.length ca, .slice bo kids.length cb, .string d] 27)
  have N0 := Lib.hid (h.on bA)
  have C0 := Lib.hid (Cells.new w 27 #[.int .i64 k, .string sp, .string nm, .slice ao as'.length ca, .slice bo kids.length cb, .string d])
  have E0 := Lib.hid (hE.on bA)
  have B0 := Lib.hid bA
  clear h ha hK h1 h2 hn bA hE hz
  go_enter Tryz.func86, Tryz.ntmps86
  go_upto_region 1 with fail
  generalize w.alloc (.cells #[.int .i64 k, .string sp, .string nm, .slice ao as'.length ca, .slice bo kids.length cb, .string d] 27) = wA at *
  obtain ⟨x0, x1, x2, x3, x4, x5⟩ := node_open (show Cells _ _ _ (nodeArr k sp nm (.slice ao as'.length ca) (.slice bo kids.length cb) d) from C0.out)
  have cc := Lib.hid (kT.out wA _ N0.out E0.out)
  go_wp2_with fail
  (with_reducible refine (cc.out).mono ?_); rintro e w1 ⟨rfl, b1⟩
  have C1 := Lib.hid (C0.out.on b1)
  have N1 := Lib.hid (N0.out.on b1)
  have E1 := Lib.hid (E0.out.on b1)
  have B1 := Lib.hid (B0.out.trans (b1.mono B0.out.size))
  clear cc b1
  clear x0 x1 x2 x3 x4 x5
  have cc := Lib.hid (kM.out w1 E1.out)
  go_wp2_with fail
  (with_reducible refine (cc.out).mono ?_); rintro e w2 ⟨rfl, b2⟩
  have C2 := Lib.hid (C1.out.on b2)
  have N2 := Lib.hid (N1.out.on b2)
  have E2 := Lib.hid (E1.out.on b2)
  have B2 := Lib.hid (B1.out.trans (b2.mono B1.out.size))
  clear cc b2
  have K3 := Lib.hid (Cells.new w2 40 #[.string (Lc.str u.scheme), .string (Lc.str u.host), .string (Lc.str u.path), .string (Lc.str u.query), .string (Lc.str u.frag), .bool u.hasS, .bool u.hasH, .bool u.hasQ, .bool u.hasF])
  have b3 := (Below.refl w2.heap.size w2).alloc (Nat.le_refl _) (.cells #[.string (Lc.str u.scheme), .string (Lc.str u.host), .string (Lc.str u.path), .string (Lc.str u.query), .string (Lc.str u.frag), .bool u.hasS, .bool u.hasH, .bool u.hasQ, .bool u.hasF] 40)
  have C3 := Lib.hid (C2.out.on b3)
  have N3 := Lib.hid (N2.out.on b3)
  have E3 := Lib.hid (E2.out.on b3)
  have B3 := Lib.hid (B2.out.trans (b3.mono B2.out.size))
  clear b3
  go_upto_region 2 with fail
  generalize w2.alloc (.cells #[.string (Lc.str u.scheme), .string (Lc.str u.host), .string (Lc.str u.path), .string (Lc.str u.query), .string (Lc.str u.frag), .bool u.hasS, .bool u.hasH, .bool u.hasQ, .bool u.hasF] 40) = w3 at *
  obtain ⟨x0, x1, x2, x3, x4, x5⟩ := node_open (show Cells _ _ _ (nodeArr k sp nm (.slice ao as'.length ca) (.slice bo kids.length cb) d) from C3.out)
  have cc := Lib.hid (kP.out w3 _ N3.out E3.out)
  go_wp2_with fail
  (with_reducible refine (cc.out).mono ?_); rintro e w4 ⟨rfl, b4⟩
  have K4 := Lib.hid (K3.out.on b4)
  have C4 := Lib.hid (C3.out.on b4)
  have N4 := Lib.hid (N3.out.on b4)
  have E4 := Lib.hid (E3.out.on b4)
  have B4 := Lib.hid (B3.out.trans (b4.mono B3.out.size))
  clear cc b4
  clear x0 x1 x2 x3 x4 x5
  have q5 := K4.out.cell (i := 5) rfl
  cases pl with
  | false =>
    have hr : Hid (Q = false) := Lib.hid (by rw [hq.out]; rfl)
    go_wp2_with fail
    go_ret
    exact ⟨ret_bool hr.out.symm, B4.out⟩
  | true =>
    by_cases h0 : pe = 0
    · subst h0
      generalize u.hasS = hs at *
      have hr : Hid (Q = hs) := Lib.hid (by rw [hq.out]; rfl)
      go_wp2_with fail
      go_ret
      exact ⟨ret_bool hr.out.symm, B4.out⟩
    · have hr : Hid (Q = false) := Lib.hid (by rw [hq.out, decide_eq_false h0]; rfl)
      have e0 : (pe == 0) = false := beq_false_of_ne h0
      go_wp2_with fail
      go_ret
      exact ⟨ret_bool hr.out.symm, B4.out⟩

set_option maxRecDepth 100000 in
set_option maxHeartbeats 6400000 in
theorem pCategory_any (n : Gv.Node) {A : Array Value} (w : World) (h : Nd w A n) (hz : Gv.wt n ≤ 100000) (hE : Env w) :
    Calls Tryz.prog 84 #[.agg A] w fun e w' => e = .returned (.bool (Am.attr n (Am.lit "term")).isSome) ∧ Below w.heap.size w w' := by
  have kA := Lib.hid (fun W A (hW : Nd W A n) (_ : Env W) => pAttr_any n ⟨#[116, 101, 114, 109]⟩ W hW)
  rw [show (⟨#[116, 101, 114, 109]⟩ : ByteArray).data.toList = [116, 101, 114, 109] from rfl] at kA
  rw [am_lit_term]
  generalize Am.attr n [116, 101, 114, 109] = at' at *
  have hq : Hid (at'.isSome = atB at') := Lib.hid rfl
  generalize at'.isSome = Q at *
  generalize atB at' = ab at *
  generalize atA at' = aa at *
  obtain ⟨S, k, sp, nm, d, as', kids, ao, bo, ca, cb, hn, rfl, ha, hK, h1, h2⟩ := h.form
  have bA := (Below.refl w.heap.size w).alloc (Nat.le_refl _) (.cells #[.int .i64 k, .string sp, .string nm, .slice ao as'.length ca, .slice bo kids.length cb, .string d] 27)
  have N0 := Lib.hid (h.on bA)
  have C0 := Lib.hid (Cells.new w 27 #[.int .i64 k, .string sp, .string nm, .slice ao as'.length ca, .slice bo kids.length cb, .string d])
  have E0 := Lib.hid (hE.on bA)
  have B0 := Lib.hid bA
  clear h ha hK h1 h2 hn bA hE hz
  go_enter Tryz.func84, Tryz.ntmps84
  go_upto_region 1 with fail
  generalize w.alloc (.cells #[.int .i64 k, .string sp, .string nm, .slice ao as'.length ca, .slice bo kids.length cb, .string d] 27) = wA at *
  obtain ⟨x0, x1, x2, x3, x4, x5⟩ := node_open (show Cells _ _ _ (nodeArr k sp nm (.slice ao as'.length ca) (.slice bo kids.length cb) d) from C0.out)
  have cc := Lib.hid (kA.out wA _ N0.out E0.out)
  go_wp2_with fail
  (with_reducible refine (cc.out).mono ?_); rintro e w1 ⟨rfl, b1⟩
  have C1 := Lib.hid (C0.out.on b1)
  have N1 := Lib.hid (N0.out.on b1)
  have E1 := Lib.hid (E0.out.on b1)
  have B1 := Lib.hid (B0.out.trans (b1.mono B0.out.size))
  clear cc b1
  clear x0 x1 x2 x3 x4 x5
  go_wp2_with fail
  go_ret
  exact ⟨ret_bool hq.out.symm, B1.out⟩

set_option maxRecDepth 100000 in
set_option maxHeartbeats 6400000 in
theorem pTextOk_any (n : Gv.Node) {A : Array Value} (w : World) (h : Nd w A n) (hz : Gv.wt n ≤ 100000) (hE : Env w) :
    Calls Tryz.prog 89 #[.agg A] w fun e w' => e = .returned (.bool (Am.textOk n)) ∧ Below w.heap.size w w' := by
  have hq : Hid (Am.textOk n = match Am.attr n (Am.lit "type") with | none => Am.plain n | some t => if t = Am.lit "text" ∨ t = Am.lit "html" then Am.plain n else decide (t = Am.lit "xhtml") && Am.div n) := Lib.hid rfl
  generalize Am.textOk n = Q at *
  have kA := Lib.hid (fun W A (hW : Nd W A n) (_ : Env W) => pAttr_any n ⟨#[116, 121, 112, 101]⟩ W hW)
  rw [show (⟨#[116, 121, 112, 101]⟩ : ByteArray).data.toList = [116, 121, 112, 101] from rfl] at kA
  have kP := Lib.hid (fun W A (hW : Nd W A n) (_ : Env W) => pPlain_any n W hW)
  have kD := Lib.hid (fun W a b c d e bo m cb (hW : Nd W #[a, b, c, d, .slice bo m cb, e] n) => pDiv_nd n W hW hz)
  rw [am_lit_type, am_lit_text, am_lit_html, am_lit_xhtml] at hq
  generalize Am.attr n [116, 121, 112, 101] = at' at *
  generalize Am.plain n = pl at *
  generalize Am.div n = dv at *
  obtain ⟨S, k, sp, nm, d, as', kids, ao, bo, ca, cb, hn, rfl, ha, hK, h1, h2⟩ := h.form
  have bA := (Below.refl w.heap.size w).alloc (Nat.le_refl _) (.cells #[.int .i64 k, .string sp, .string nm, .slice ao as'.length ca, .slice bo kids.length cb, .string d] 27)
  have N0 := Lib.hid (h.on bA)
  have C0 := Lib.hid (Cells.new w 27 #[.int .i64 k, .string sp, .string nm, .slice ao as'.length ca, .slice bo kids.length cb, .string d])
  have E0 := Lib.hid (hE.on bA)
  have B0 := Lib.hid bA
  clear h ha hK h1 h2 hn bA hE hz
  go_enter Tryz.func89, Tryz.ntmps89
  go_upto_region 1 with fail
  generalize w.alloc (.cells #[.int .i64 k, .string sp, .string nm, .slice ao as'.length ca, .slice bo kids.length cb, .string d] 27) = wA at *
  obtain ⟨x0, x1, x2, x3, x4, x5⟩ := node_open (show Cells _ _ _ (nodeArr k sp nm (.slice ao as'.length ca) (.slice bo kids.length cb) d) from C0.out)
  have cc := Lib.hid (kA.out wA _ N0.out E0.out)
  go_wp2_with fail
  (with_reducible refine (cc.out).mono ?_); rintro e w1 ⟨rfl, b1⟩
  have C1 := Lib.hid (C0.out.on b1)
  have N1 := Lib.hid (N0.out.on b1)
  have E1 := Lib.hid (E0.out.on b1)
  have B1 := Lib.hid (B0.out.trans (b1.mono B0.out.size))
  clear cc b1
  clear x0 x1 x2 x3 x4 x5
  cases at' with
  | none =>
    have hr : Hid (Q = pl) := Lib.hid hq.out
    rw [show atB none = false from rfl]
    obtain ⟨x0, x1, x2, x3, x4, x5⟩ := node_open (show Cells _ _ _ (nodeArr k sp nm (.slice ao as'.length ca) (.slice bo kids.length cb) d) from C1.out)
    have cc := Lib.hid (kP.out w1 _ N1.out E1.out)
    go_wp2_with fail
    (with_reducible refine (cc.out).mono ?_); rintro e w2 ⟨rfl, b2⟩
    have C2 := Lib.hid (C1.out.on b2)
    have N2 := Lib.hid (N1.out.on b2)
    have E2 := Lib.hid (E1.out.on b2)
    have B2 := Lib.hid (B1.out.trans (b2.mono B1.out.size))
    clear cc b2
    clear x0 x1 x2 x3 x4 x5
    go_wp2_with fail
    go_ret
    exact ⟨ret_bool hr.out.symm, B2.out⟩
  | some t =>
    have hT := atA_list t
    rw [show atB (some t) = true from rfl]
    generalize atA (some t) = T at *
    by_cases t1 : t = [116, 101, 120, 116]
    · have hr : Hid (Q = pl) := Lib.hid (by rw [hq.out]; exact if_pos (.inl t1))
      have s1 := lit_yes hT t1
      clear t1 hT hq
      obtain ⟨x0, x1, x2, x3, x4, x5⟩ := node_open (show Cells _ _ _ (nodeArr k sp nm (.slice ao as'.length ca) (.slice bo kids.length cb) d) from C1.out)
      have cc := Lib.hid (kP.out w1 _ N1.out E1.out)
      go_wp2_with fail
      (with_reducible refine (cc.out).mono ?_); rintro e w2 ⟨rfl, b2⟩
      have C2 := Lib.hid (C1.out.on b2)
      have N2 := Lib.hid (N1.out.on b2)
      have E2 := Lib.hid (E1.out.on b2)
      have B2 := Lib.hid (B1.out.trans (b2.mono B1.out.size))
      clear cc b2
      clear x0 x1 x2 x3 x4 x5
      go_wp2_with fail
      go_ret
      exact ⟨ret_bool hr.out.symm, B2.out⟩
    have s1 := lit_no hT t1
    by_cases t2 : t = [104, 116, 109, 108]
    · have hr : Hid (Q = pl) := Lib.hid (by rw [hq.out]; exact if_pos (.inr t2))
      have s2 := lit_yes hT t2
      clear t1 t2 hT hq
      obtain ⟨x0, x1, x2, x3, x4, x5⟩ := node_open (show Cells _ _ _ (nodeArr k sp nm (.slice ao as'.length ca) (.slice bo kids.length cb) d) from C1.out)
      have cc := Lib.hid (kP.out w1 _ N1.out E1.out)
      go_wp2_with fail
      (with_reducible refine (cc.out).mono ?_); rintro e w2 ⟨rfl, b2⟩
      have C2 := Lib.hid (C1.out.on b2)
      have N2 := Lib.hid (N1.out.on b2)
      have E2 := Lib.hid (E1.out.on b2)
      have B2 := Lib.hid (B1.out.trans (b2.mono B1.out.size))
      clear cc b2
      clear x0 x1 x2 x3 x4 x5
      go_wp2_with fail
      go_ret
      exact ⟨ret_bool hr.out.symm, B2.out⟩
    have s2 := lit_no hT t2
    have hq2 : Hid (Q = (decide (t = [120, 104, 116, 109, 108]) && dv)) := Lib.hid (by rw [hq.out]; exact if_neg (by rintro (e | e); exact t1 e; exact t2 e))
    clear hq t1 t2
    by_cases t3 : t = [120, 104, 116, 109, 108]
    · have hr : Hid (Q = dv) := Lib.hid (by rw [hq2.out, decide_eq_true t3, Bool.true_and])
      have s3 := lit_yes hT t3
      clear t3 hT hq2
      obtain ⟨x0, x1, x2, x3, x4, x5⟩ := node_open (show Cells _ _ _ (nodeArr k sp nm (.slice ao as'.length ca) (.slice bo kids.length cb) d) from C1.out)
      have cc := Lib.hid (kD.out w1 _ _ _ _ _ _ _ _ N1.out)
      go_wp2_with fail
      (with_reducible refine (cc.out).mono ?_); rintro e w2 ⟨rfl, b2⟩
      have C2 := Lib.hid (C1.out.on b2)
      have N2 := Lib.hid (N1.out.on b2)
      have E2 := Lib.hid (E1.out.on b2)
      have B2 := Lib.hid (B1.out.trans (b2.mono B1.out.size))
      clear cc b2
      clear x0 x1 x2 x3 x4 x5
      go_wp2_with fail
      go_ret
      exact ⟨ret_bool hr.out.symm, B2.out⟩
    · have hr : Hid (Q = false) := Lib.hid (by rw [hq2.out, decide_eq_false t3, Bool.false_and])
      have s3 := lit_no hT t3
      clear t3 hT hq2
      go_wp2_with fail
      go_ret
      exact ⟨ret_bool hr.out.symm, B1.out⟩
end Go.Proofs.YtdhondndidoniaaGreatDoor
