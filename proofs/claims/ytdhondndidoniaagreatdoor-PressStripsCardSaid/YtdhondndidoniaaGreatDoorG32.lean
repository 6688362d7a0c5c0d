/-
  The program's own look at links: no two for alternate are of one version: areUnlike.
  The program's two calls: Check, Text.
-/
import Derived.Test.YtdhondndidoniaaGreatDoorG30
import Derived.Test.YtdhondndidoniaaGreatDoorG31
import Derived.Test.YtdhondndidoniaaGreatDoorG09
import Derived.DeepKeys4
import Derived.Deep.RegionWith
namespace Go.Proofs.YtdhondndidoniaaGreatDoor
open Go.RowKit Go.Maps
set_option linter.unusedVariables false
set_option linter.unusedSimpArgs false

namespace Am
/-- Is a kid a link for alternate? -/
def alt (k : Gv.Node) : Bool := isEl k atomS (lit "link") && decide (rel k = lit "alternate")
def alts (l : List Gv.Node) : List Gv.Node := l.filter alt
end Am
theorem loA_inj {s t : ByteArray} : loA s = loA t ↔ Md.lower s.data.toList = Md.lower t.data.toList := by
  constructor
  · intro h
    have := congrArg (fun b : ByteArray => b.data.toList) h
    simpa [loA] using this
  · intro h
    unfold loA
    rw [h]
theorem ver_part (x y : Option (List UInt8)) : (x.map Am.onD.low = y.map Am.onD.low) ↔ (loA (atA x) = loA (atA y) ∧ atB x = atB y) := by
  rw [loA_inj]
  show (x.map Md.lower = y.map Md.lower) ↔ _
  cases x with
  | none =>
    cases y with
    | none => simp [atA, atB]
    | some t => simp [atA, atB]
  | some s =>
    cases y with
    | none => simp [atA, atB]
    | some t => simp [atA, atB]
theorem Am.pAlike_is {a b : Gv.Node} (ha : Am.rel a = Am.lit "alternate") (hb : Am.rel b = Am.lit "alternate") : Am.alike Am.onD a b = false ↔ verA a ≠ verA b := by
  unfold Am.alike verA
  rw [decide_eq_true ha, decide_eq_true hb, Bool.true_and, Bool.true_and]
  simp only [ver_part, ne_eq, Array.mk.injEq, List.cons.injEq, Value.string.injEq, Value.bool.injEq, and_true]
  rw [Bool.and_eq_false_iff, decide_eq_false_iff_not, decide_eq_false_iff_not]
  constructor
  · rintro (h | h) ⟨h1, h2, h3, h4⟩
    · exact h ⟨h1, h3⟩
    · exact h ⟨h2, h4⟩
  · intro h
    by_cases h1 : loA (atA (Am.attr a (Am.lit "type"))) = loA (atA (Am.attr b (Am.lit "type"))) ∧ atB (Am.attr a (Am.lit "type")) = atB (Am.attr b (Am.lit "type"))
    · exact .inr (fun h2 => h ⟨h1.1, h2.1, h1.2, h2.2⟩)
    · exact .inl h1
theorem Am.apart_is (l : List Gv.Node) : Am.apart Am.onD l = true ↔ (Am.alts l).Pairwise fun a b => verA a ≠ verA b := by
  unfold Am.apart Am.alts Am.allIn
  rw [decide_eq_true_eq, List.pairwise_filter, List.pairwise_filter]
  refine List.Pairwise.iff (fun {a b} => ?_)
  unfold Am.alt
  constructor
  · intro h ha hb
    rw [Bool.and_eq_true, decide_eq_true_eq] at ha hb
    exact (Am.pAlike_is ha.2 hb.2).1 (h ha.1 hb.1)
  · intro h ha hb
    by_cases ra : Am.rel a = Am.lit "alternate"
    · by_cases rb : Am.rel b = Am.lit "alternate"
      · exact (Am.pAlike_is ra rb).2 (h (by rw [Bool.and_eq_true, decide_eq_true_eq]; exact ⟨ha, ra⟩) (by rw [Bool.and_eq_true, decide_eq_true_eq]; exact ⟨hb, rb⟩))
      · unfold Am.alike; rw [decide_eq_false rb]; simp
    · unfold Am.alike; rw [decide_eq_false ra]; simp
theorem Am.alts_take {l : List Gv.Node} {j : Nat} (h : j < l.length) : Am.alts (l.take (j + 1)) = Am.alts (l.take j) ++ (if Am.alt l[j] = true then [l[j]] else []) := by
  unfold Am.alts
  rw [List.take_succ_eq_append_getElem h, List.filter_append, List.filter_cons, List.filter_nil]
theorem Am.alts_bad {l : List Gv.Node} {j : Nat} (h : ¬ (Am.alts (l.take j)).Pairwise fun a b => verA a ≠ verA b) : ¬ (Am.alts l).Pairwise fun a b => verA a ≠ verA b := fun hp => h (by
  refine List.Pairwise.sublist ?_ hp
  unfold Am.alts
  exact (List.take_sublist j l).filter _)

/-- The versions seen, as they lie in memory. -/
def verT (V : List Gv.Node) : List (Value × Value) := V.map fun n => (.agg (verA n), .agg #[])
theorem am_verK : Keyed Tryz.prog 101 := Keyed.of_law (deep_law_laid laidOut (m := 20) (by decide) (of_decide_eq_true (by kernel_rfl)) (by kernel_rfl) (by kernel_rfl))
set_option maxRecDepth 100000 in
theorem ver_key {s t : ByteArray} (x y : Bool) (hs : s.size ≤ maxLen) (ht : t.size ≤ maxLen) : ∃ l, keyOf Tryz.prog 101 (.agg #[.string s, .string t, .bool x, .bool y]) = some l := by
  have h1 : Tryz.prog.keyType 101 = true := by kernel_rfl
  have h2 : ∀ a b c d : Value, (Value.agg #[a, b, c, d]).formed Tryz.prog 101 = true := fun a b c d => by kernel_rfl
  have h3 : ∃ m, Tryz.prog.types.size = m + 1 := ⟨Tryz.prog.types.size - 1, by have : 0 < Tryz.prog.types.size := of_decide_eq_true (by kernel_rfl); omega⟩
  have c1 : Tryz.prog.cellsOf 101 = 4 := by kernel_rfl
  have c2 : Tryz.prog.cellsOf 9 = 1 := by kernel_rfl
  have c3 : Tryz.prog.cellsOf 4 = 1 := by kernel_rfl
  obtain ⟨m, hm⟩ := h3
  unfold keyOf
  rw [Tryz.underlying101]
  simp only []
  rw [h1, h2, hm]
  have key : ∃ ls, Tryz.prog.keyLits (m + 1 + 1) 101 [.string s, .string t, .bool x, .bool y] = some ls := by
    unfold Program.keyLits
    rw [Tryz.underlying101]
    simp [c1, c2, c3, Program.keyLits, Tryz.underlying9, Tryz.underlying4, hs, ht]
  obtain ⟨ls, hls⟩ := key
  exact ⟨.string (keyBytes ls), by
    show Option.map _ (Tryz.prog.keyLits (m + 1 + 1) 101 [.string s, .string t, .bool x, .bool y]) = _
    rw [hls]; rfl⟩
theorem ver_zero (w : World) : (zeroValue 103).run Tryz.prog w = .ok (.agg #[]) w := by kernel_rfl
theorem loA_small {n : Gv.Node} (h : Gv.wt n ≤ 1000000) (name : List UInt8) : (loA (atA (Am.attr n name))).size ≤ maxLen := by
  have h1 := atA_wt n name
  have h2 : (loA (atA (Am.attr n name))).size = (atA (Am.attr n name)).size := by
    rw [← list_len, ← list_len]
    simp [loA, Md.lower]
  unfold maxLen
  omega
theorem verT_keys {V : List Gv.Node} (h : ∀ n ∈ V, Gv.wt n ≤ 1000000) : TabKeys Tryz.prog 101 (verT V) := by
  intro p hp
  obtain ⟨n, hn, rfl⟩ := List.mem_map.1 hp
  exact ver_key _ _ (loA_small (h n hn) _) (loA_small (h n hn) _)
/-- The look-up of a version. -/
theorem ver_look {w : World} {b : Nat} {V : List Gv.Node} (hb : Tab w b (verT V)) (hV : ∀ n ∈ V, Gv.wt n ≤ 1000000) {n : Gv.Node} (hn : Gv.wt n ≤ 1000000) :
    ((Instr.lookup 99 (.map (some b)) (.agg (verA n)) true).run Tryz.prog w = .ok (.tuple #[.agg #[], .bool false]) w ∧
      (∀ m ∈ V, verA m ≠ verA n) ∧ ∃ w', (Instr.mapUpdate 99 (.map (some b)) (.agg (verA n)) (.agg #[])).run Tryz.prog w = .ok () w' ∧ w.grownBy w' (some b) ∧ w'.heap.size = w.heap.size ∧ Tab w' b (verT (V ++ [n]))) ∨
    ((Instr.lookup 99 (.map (some b)) (.agg (verA n)) true).run Tryz.prog w = .ok (.tuple #[.agg #[], .bool true]) w ∧ ∃ m ∈ V, verA m = verA n) := by
  obtain ⟨lx, hlx⟩ := ver_key (atB (Am.attr n (Am.lit "type"))) (atB (Am.attr n (Am.lit "hreflang"))) (loA_small hn (Am.lit "type")) (loA_small hn (Am.lit "hreflang"))
  have hkey : keyOf Tryz.prog 101 (.agg (verA n)) = some lx := hlx
  rcases Tab.look am_verK Tryz.underlying99 (ver_zero w) hb (verT_keys hV) hkey true with ⟨h1, h2⟩ | ⟨v, h1, h2⟩
  · refine .inl ⟨h1, fun m hm e => h2 _ (List.mem_map.2 ⟨m, hm, rfl⟩) (by rw [e]), ?_⟩
    obtain ⟨w', hrun, hg, hs, hc⟩ := Tab.put am_verK Tryz.underlying99 hb (verT_keys hV) hkey (.agg #[])
    refine ⟨w', hrun, hg, hs, ?_⟩
    rcases hc with ⟨-, hc⟩ | ⟨j, u, hc, -⟩
    · have : verT (V ++ [n]) = verT V ++ [(.agg (verA n), .agg #[])] := by simp [verT]
      rw [this]; exact hc
    · exact absurd rfl (h2 _ (List.mem_of_getElem? hc))
  · obtain ⟨m, hm, e⟩ := List.mem_map.1 h2
    simp only [Prod.mk.injEq, Value.agg.injEq] at e
    obtain ⟨e1, rfl⟩ := e
    exact .inr ⟨h1, m, hm, e1⟩

set_option maxRecDepth 100000 in
set_option maxHeartbeats 12800000 in
theorem pUnlike_any {S : Nat → Prop} {bo : Option Addr} {cb : Nat} (kids : List Gv.Node) (w : World) (hK : KidsAt S w (.slice bo kids.length cb) kids) (hkz : kids.length ≤ 1000000) (hwk0 : ∀ x, x ∈ kids → Gv.wt x ≤ 100000) (hE : Env w) :
    Calls Tryz.prog 44 #[.slice bo kids.length cb] w fun e w' => e = .returned (.bool (Am.apart Am.onD kids)) ∧ Below w.heap.size w w' := by
  have hyes := Lib.hid (Am.apart_is kids)
  generalize Am.apart Am.onD kids = Q at *
  have hmm := @run_makeMap Tryz.prog
  have hwk := Lib.hid hwk0
  replace hK := Lib.hid hK
  replace hE := Lib.hid hE
  clear hwk0
  have B0 := Lib.hid ((Below.refl w.heap.size w).alloc (Nat.le_refl _) (.map #[] 0))
  have T0 := Lib.hid (Tab.new w)
  go_enter Tryz.func44, Tryz.ntmps44
  go_upto_region 2 with fail
  clear hmm
  generalize w.alloc (.map #[] 0) = w0 at *
  obtain ⟨bs, hbs⟩ : ∃ bs, bs = w.heap.size := ⟨_, rfl⟩
  rw [← hbs] at T0 ⊢
  replace hbs := Lib.hid hbs
  go_wp2_with fail
  go_loopw [12] (fun i wr => ∃ j : Nat, j ≤ kids.length ∧ i = .int .i64 (j : Int) ∧ Hid (Tab wr bs (verT (Am.alts (kids.take j)))) ∧ Hid ((Am.alts (kids.take j)).Pairwise fun a b => verA a ≠ verA b) ∧ Hid (Below w.heap.size w wr)) (fun i _ => kids.length - (intOf i).toNat)
  case atStart => exact ⟨0, Nat.zero_le _, rfl, Lib.hid (by rw [List.take_zero]; exact T0.out), Lib.hid (by rw [List.take_zero]; exact List.Pairwise.nil), B0⟩
  case round =>
    obtain ⟨j, hj, rfl, hC, hP, bw⟩ := hrel
    by_cases hlt : j < kids.length
    · obtain ⟨b, off, k', sp', nm', d', x3, x4, rfl, d0, d1, d2, d3, d4, d5, hN, ⟨po, pn, pc, rfl⟩, ⟨qo, qn, qc, rfl⟩, -, -⟩ := (hK.out.on bw.out).nd hlt
      have hji : (j : Int) < (kids.length : Int) := by omega
      have hwt := hwk.out kids[j] (List.getElem_mem hlt)
      have htk := Am.alts_take hlt
      have hV : Hid (∀ n ∈ Am.alts (kids.take j), Gv.wt n ≤ 1000000) := Lib.hid (fun n hn => Nat.le_trans (hwk.out n (List.mem_of_mem_take (List.mem_filter.1 hn).1)) (by omega))
      have hbad := Lib.hid (fun (e : ¬ (Am.alts (kids.take (j + 1))).Pairwise fun a b => verA a ≠ verA b) => (show Q = false from by
        rw [Bool.eq_false_iff]; exact fun h => Am.alts_bad e (hyes.out.1 h)))
      have bx := (Below.refl wr.heap.size wr).alloc (Nat.le_refl _) (.cells #[.int .i64 k', .string sp', .string nm', .slice po pn pc, .slice qo qn qc, .string d'] 27)
      have hN1 := Lib.hid (hN.on bx)
      have C1 := Cells.new wr 27 (nodeArr k' sp' nm' (.slice po pn pc) (.slice qo qn qc) d')
      unfold nodeArr at C1
      replace C1 := Lib.hid C1
      have bw1 := Lib.hid (bw.out.trans (bx.mono bw.out.size))
      have hC1 := Lib.hid (hC.out.on bx)
      clear hN bx bw hC
      have kI := Lib.hid (fun W A (hW : Nd W A kids[j]) => pIs_any kids[j] ⟨#[104, 116, 116, 112, 58, 47, 47, 119, 119, 119, 46, 119, 51, 46, 111, 114, 103, 47, 50, 48, 48, 53, 47, 65, 116, 111, 109]⟩ ⟨#[108, 105, 110, 107]⟩ W hW)
      rw [am_atom, show (⟨#[108, 105, 110, 107]⟩ : ByteArray).data.toList = Am.lit "link" from am_lit_link.symm] at kI
      have kP := Lib.hid (fun W A (hW : Nd W A kids[j]) (hEW : Env W) => pPurpose_any kids[j] W hW hwt hEW)
      have kV := Lib.hid (fun W A (hW : Nd W A kids[j]) (hEW : Env W) => pVersion_any kids[j] W hW hwt hEW)
      have hal : Hid (Am.alt kids[j] = (Am.isEl kids[j] Am.atomS (Am.lit "link") && decide ((relS kids[j]).data.toList = [97, 108, 116, 101, 114, 110, 97, 116, 101]))) := Lib.hid (by unfold Am.alt; rw [relS_list, am_lit_alternate])
      obtain ⟨V, hVe⟩ : ∃ V, V = Am.alts (kids.take j) := ⟨_, rfl⟩
      rw [← hVe] at htk hV hC1 hP
      replace hVe := Lib.hid hVe
      generalize Am.alt kids[j] = al at *
      generalize kids[j] = nd at *
      generalize Am.isEl nd Am.atomS (Am.lit "link") = isl at *
      generalize relS nd = rs at *
      replace htk := Lib.hid htk
      go_upto_region 5 with fail
      clear d0 d1 d2 d3 d4 d5
      generalize wr.alloc (.cells #[.int .i64 k', .string sp', .string nm', .slice po pn pc, .slice qo qn qc, .string d'] 27) = w1 at *
      obtain ⟨x0, x1, x2, x3, x4, x5⟩ := node_open (show Cells w1 _ _ (nodeArr k' sp' nm' (.slice po pn pc) (.slice qo qn qc) d') from C1.out)
      have cc := Lib.hid (kI.out w1 _ hN1.out)
      go_wp2_with fail
      (with_reducible refine (cc.out).mono ?_); rintro e w2 ⟨rfl, b2⟩
      have C2 := Lib.hid (C1.out.on b2)
      have N2 := Lib.hid (hN1.out.on b2)
      have T2 := Lib.hid (hC1.out.on b2)
      have B2 := Lib.hid (bw1.out.trans (b2.mono bw1.out.size))
      clear x0 x1 x2 x3 x4 x5 cc b2 C1 hN1 hC1 bw1 kI
      obtain ⟨x0, x1, x2, x3, x4, x5⟩ := node_open (show Cells w2 _ _ (nodeArr k' sp' nm' (.slice po pn pc) (.slice qo qn qc) d') from C2.out)
      cases isl with
      | false =>
        obtain rfl : al = false := by rw [hal.out]; rfl
        have T3 : Hid (Tab w2 bs (verT (Am.alts (kids.take (j + 1))))) := Lib.hid (by rw [htk.out, if_neg (by decide), List.append_nil]; exact T2.out)
        have P3 : Hid ((Am.alts (kids.take (j + 1))).Pairwise fun a b => verA a ≠ verA b) := Lib.hid (by rw [htk.out, if_neg (by decide), List.append_nil]; exact hP.out)
        clear T2 hbad
        go_wp2_with fail
        go_roundw
        case rel => exact ⟨j + 1, by omega, by go_num, T3, P3, B2⟩
        case measure => simp [intOf]; omega
      | true =>
        have cc := Lib.hid (kP.out w2 _ N2.out (hE.out.on B2.out))
        go_wp2_with fail
        (with_reducible refine (cc.out).mono ?_); rintro e w3 ⟨rfl, b3⟩
        have C3 := Lib.hid (C2.out.on b3)
        have N3 := Lib.hid (N2.out.on b3)
        have T3 := Lib.hid (T2.out.on b3)
        have B3 := Lib.hid (B2.out.trans (b3.mono B2.out.size))
        clear x0 x1 x2 x3 x4 x5 cc b3 C2 N2 T2 B2 kP
        by_cases hrs : rs.data.toList = [97, 108, 116, 101, 114, 110, 97, 116, 101]
        case neg =>
          have y1 : (rs.toList == [97, 108, 116, 101, 114, 110, 97, 116, 101]) = false := lit_no rfl hrs
          have y2 : (rs.toList != [97, 108, 116, 101, 114, 110, 97, 116, 101]) = true := by rw [bne, y1]; rfl
          obtain rfl : al = false := by rw [hal.out, decide_eq_false hrs]; rfl
          have T4 : Hid (Tab w3 bs (verT (Am.alts (kids.take (j + 1))))) := Lib.hid (by rw [htk.out, if_neg (by decide), List.append_nil]; exact T3.out)
          have P4 : Hid ((Am.alts (kids.take (j + 1))).Pairwise fun a b => verA a ≠ verA b) := Lib.hid (by rw [htk.out, if_neg (by decide), List.append_nil]; exact hP.out)
          replace hrs := Lib.hid hrs
          clear T3 hbad
          go_wp2_with fail
          go_roundw
          case rel => exact ⟨j + 1, by omega, by go_num, T4, P4, B3⟩
          case measure => simp [intOf]; omega
        have y1 : (rs.toList == [97, 108, 116, 101, 114, 110, 97, 116, 101]) = true := lit_yes rfl hrs
        have y2 : (rs.toList != [97, 108, 116, 101, 114, 110, 97, 116, 101]) = false := by rw [bne, y1]; rfl
        obtain rfl : al = true := by rw [hal.out, decide_eq_true hrs]; rfl
        have htk2 : Hid (Am.alts (kids.take (j + 1)) = V ++ [nd]) := Lib.hid (htk.out.trans (by rw [if_pos rfl]))
        clear htk
        replace hrs := Lib.hid hrs
        obtain ⟨x0, x1, x2, x3, x4, x5⟩ := node_open (show Cells w3 _ _ (nodeArr k' sp' nm' (.slice po pn pc) (.slice qo qn qc) d') from C3.out)
        have cc := Lib.hid (kV.out w3 _ N3.out (hE.out.on B3.out))
        obtain ⟨s1, s2, f1, f2, hva⟩ : ∃ s1 s2 f1 f2, verA nd = #[.string s1, .string s2, .bool f1, .bool f2] := ⟨_, _, _, _, rfl⟩
        rw [hva] at cc
        go_wp2_with fail
        (with_reducible refine (cc.out).mono ?_); rintro e w4 ⟨rfl, b4⟩
        have b5 := b4.trans (((Below.refl w4.heap.size w4).alloc (Nat.le_refl _) (.cells #[.string s1, .string s2, .bool f1, .bool f2] 101)).mono b4.size)
        have K5 := Cells.new w4 101 #[.string s1, .string s2, .bool f1, .bool f2]
        have T5 := Lib.hid (T3.out.on b5)
        have B5 := Lib.hid (B3.out.trans (b5.mono B3.out.size))
        clear x0 x1 x2 x3 x4 x5 cc b4 b5 C3 N3 T3 B3 kV
        go_upto_region 7 with fail
        generalize w4.alloc (.cells #[.string s1, .string s2, .bool f1, .bool f2] 101) = w5 at *
        obtain ⟨z0, z1, z2, z3⟩ : w5.cell? ⟨w4.heap.size, 0, none⟩ = some (.string s1) ∧ w5.cell? ⟨w4.heap.size, 1, none⟩ = some (.string s2) ∧ w5.cell? ⟨w4.heap.size, 2, none⟩ = some (.bool f1) ∧ w5.cell? ⟨w4.heap.size, 3, none⟩ = some (.bool f2) := ⟨K5.cell rfl, K5.cell rfl, K5.cell rfl, K5.cell rfl⟩
        have b6 := (Below.refl w5.heap.size w5).alloc (Nat.le_refl _) (.cells #[] 103)
        have K6 := Lib.hid (K5.on b6)
        have T6 := Lib.hid (T5.out.on b6)
        have B6 := Lib.hid (B5.out.trans (b6.mono B5.out.size))
        rcases ver_look T5.out hV.out (n := nd) (by omega) with ⟨hl1, hne, -⟩ | ⟨hl1, m, hm, hme⟩
        · rw [hva] at hl1
          clear b6 K5
          have hne2 := Lib.hid hne
          clear hne
          go_upto_region 8 with fail
          clear hl1 z0 z1 z2 z3
          generalize w5.alloc (.cells #[] 103) = w6 at *
          rcases ver_look T6.out hV.out (n := nd) (by omega) with ⟨-, -, wu, hup, hg, hs, hT'⟩ | ⟨-, m, hm, hme⟩
          · rw [hva] at hup
            obtain ⟨z0, z1, z2, z3⟩ : w6.cell? ⟨w4.heap.size, 0, none⟩ = some (.string s1) ∧ w6.cell? ⟨w4.heap.size, 1, none⟩ = some (.string s2) ∧ w6.cell? ⟨w4.heap.size, 2, none⟩ = some (.bool f1) ∧ w6.cell? ⟨w4.heap.size, 3, none⟩ = some (.bool f2) := ⟨K6.out.cell rfl, K6.out.cell rfl, K6.out.cell rfl, K6.out.cell rfl⟩
            have BF := Lib.hid (B6.out.grown hg B6.out.size (fun k hk => by cases hk; rw [hbs.out]; exact Nat.le_refl _))
            have TF : Hid (Tab wu bs (verT (Am.alts (kids.take (j + 1))))) := Lib.hid (by rw [htk2.out]; exact hT')
            have PF : Hid ((Am.alts (kids.take (j + 1))).Pairwise fun a b => verA a ≠ verA b) := Lib.hid (by
              rw [htk2.out, List.pairwise_append]
              exact ⟨hP.out, by simp, fun a ha c hc => by simp at hc; subst hc; exact hne2.out a ha⟩)
            replace hg := Lib.hid hg
            replace hs := Lib.hid hs
            replace hva := Lib.hid hva
            clear hT' hbad K6 T6 B6 T5 B5
            go_wp2_with fail
            go_roundw
            case rel => exact ⟨j + 1, by omega, by go_num, TF, PF, BF⟩
            case measure => simp [intOf]; omega
          · exact absurd hme (hne2.out m hm)
        · rw [hva] at hl1
          have hr : Hid (Q = false) := Lib.hid (hbad.out (by
            rw [htk2.out, List.pairwise_append]
            exact fun h => h.2.2 m hm nd (by simp) hme))
          clear b6 K5
          replace hm := Lib.hid hm
          replace hme := Lib.hid hme
          replace hva := Lib.hid hva
          go_upto_region 8 with fail
          clear hl1 z0 z1 z2 z3
          generalize w5.alloc (.cells #[] 103) = w6 at *
          go_wp2_with fail
          go_ret
          exact ⟨ret_bool hr.out.symm, B6.out⟩
    · obtain rfl : j = kids.length := by omega
      rw [List.take_length] at hP
      have hki : ¬ (kids.length : Int) < (kids.length : Int) := by omega
      have hr : Hid (Q = true) := Lib.hid (hyes.out.2 hP.out)
      clear hP hC
      go_wp2_with fail
      go_ret
      exact ⟨ret_bool hr.out.symm, bw.out⟩
end Go.Proofs.YtdhondndidoniaaGreatDoor
namespace Go.Proofs.YtdhondndidoniaaGreatDoor
open Go.RowKit Go.Maps
set_option linter.unusedVariables false
set_option linter.unusedSimpArgs false

theorem entry_sizes (s : Bool) : ∀ r ∈ pEntryT s, r.name.size ≤ maxLen := by
  intro r hr
  simp only [pEntryT, Am.entryT, List.mem_cons, List.not_mem_nil, or_false] at hr
  rcases hr with rfl | rfl | rfl | rfl | rfl | rfl | rfl | rfl | rfl | rfl | rfl <;> (dsimp only; decide +kernel)
theorem entry_enters (s : Bool) : ∀ r ∈ pEntryT s, enters r.fn := by
  intro r hr
  simp only [pEntryT, Am.entryT, List.mem_cons, List.not_mem_nil, or_false] at hr
  have h1 : enters 83 := enters_of Tryz.func83 (by kernel_rfl) (by kernel_rfl)
  have h2 : enters 88 := enters_of Tryz.func88 (by kernel_rfl) (by kernel_rfl)
  have h3 : enters 89 := enters_of Tryz.func89 (by kernel_rfl) (by kernel_rfl)
  rcases hr with rfl | rfl | rfl | rfl | rfl | rfl | rfl | rfl | rfl | rfl | rfl
  · exact h1
  · exact enters_of Tryz.func84 (by kernel_rfl) (by kernel_rfl)
  · exact enters_of Tryz.func85 (by kernel_rfl) (by kernel_rfl)
  · exact h1
  · exact enters_of Tryz.func86 (by kernel_rfl) (by kernel_rfl)
  · exact enters_of Tryz.func87 (by kernel_rfl) (by kernel_rfl)
  · exact h2
  · exact h3
  · exact h3
  · exact h3
  · exact h2
theorem entry_fits (s : Bool) : ∀ r ∈ pEntryT s, ∀ (n : Gv.Node) (A : Array Value) (W : World), Nd W A n → Gv.wt n ≤ 100000 → Env W → Calls Tryz.prog r.fn #[.agg A] W fun e w' => e = .returned (.bool (r.fit n)) ∧ Below W.heap.size W w' := by
  intro r hr n A W hN hz hE
  simp only [pEntryT, Am.entryT, List.mem_cons, List.not_mem_nil, or_false] at hr
  rcases hr with rfl | rfl | rfl | rfl | rfl | rfl | rfl | rfl | rfl | rfl | rfl
  · exact pPerson_any n W hN hz hE
  · exact pCategory_any n W hN hz hE
  · exact pContent_any n W hN hz hE
  · exact pPerson_any n W hN hz hE
  · exact pId_any n W hN hz hE
  · exact pLink_any n W hN hz hE
  · exact pTime_any n W hN hz hE
  · exact pTextOk_any n W hN hz hE
  · exact pTextOk_any n W hN hz hE
  · exact pTextOk_any n W hN hz hE
  · exact pTime_any n W hN hz hE
theorem pUnlike_nd (n : Gv.Node) (W : World) {a b c d e : Value} {bo : Option Addr} {m cb : Nat} (h : Nd W #[a, b, c, d, .slice bo m cb, e] n) (hn : Gv.wt n ≤ 100000) (hE : Env W) :
    Calls Tryz.prog 44 #[.slice bo m cb] W fun e w' => e = .returned (.bool (Am.apart Am.onD (Am.kidsOf n))) ∧ Below W.heap.size W w' := by
  obtain ⟨S, rfl, hK⟩ := nd_slice h
  exact pUnlike_any _ W hK (by have := Am.kids_wt n; omega) (fun x hx => Nat.le_trans (Am.mem_kids hx) hn) hE
theorem ck_form (n : Gv.Node) (stored : Bool) : ckE n stored = if (Am.isEl n Am.atomS (Am.lit "entry") && (Am.fitIn (pEntryT stored) (Am.kidsOf n) && Am.apart Am.onD (Am.kidsOf n))) = true then 0 else 150 := by
  unfold ckE Am.check
  rw [show (Am.fitIn (pEntryT stored) (Am.kidsOf n) && Am.apart Am.onD (Am.kidsOf n)) = Am.checkIn Am.onD (Am.kidsOf n) stored from Am.pEntry_is Am.onD _ _ _ _ _ _ _ _ stored]

set_option maxRecDepth 100000 in
set_option maxHeartbeats 12800000 in
theorem aCheck_any (n : Gv.Node) {A : Array Value} (stored : Bool) (w : World) (h : Nd w A n) (hz : Gv.wt n ≤ 100000) (hE : Env w) :
    Calls Tryz.prog 20 #[.agg A, .bool stored] w fun e w' => e = .returned (.int .i64 (ckE n stored)) ∧ Below w.heap.size w w' := by
  have hq := Lib.hid (ck_form n stored)
  have kI := Lib.hid (fun W A (hW : Nd W A n) => pIs_any n ⟨#[104, 116, 116, 112, 58, 47, 47, 119, 119, 119, 46, 119, 51, 46, 111, 114, 103, 47, 50, 48, 48, 53, 47, 65, 116, 111, 109]⟩ ⟨#[101, 110, 116, 114, 121]⟩ W hW)
  rw [am_atom, show (⟨#[101, 110, 116, 114, 121]⟩ : ByteArray).data.toList = Am.lit "entry" from am_lit_entry.symm] at kI
  have kR := Lib.hid (pEntryRules_any stored)
  have kF := Lib.hid (fun W a b c d e bo m cb bm (hW : Nd W #[a, b, c, d, .slice bo m cb, e] n) hM hE => pFit_nd (bo := bo) (m := m) (cb := cb) (bm := bm) (pEntryT stored) (Am.entryT_apart _ _ _ _ _ _ _ _ _) (entry_sizes stored) (entry_enters stored) (entry_fits stored) n W hW hz hM hE)
  have kU := Lib.hid (fun W a b c d e bo m cb (hW : Nd W #[a, b, c, d, .slice bo m cb, e] n) hE => pUnlike_nd (bo := bo) (m := m) (cb := cb) n W hW hz hE)
  generalize ckE n stored = Q at *
  generalize Am.isEl n Am.atomS (Am.lit "entry") = en at *
  generalize Am.fitIn (pEntryT stored) (Am.kidsOf n) = ft at *
  generalize Am.apart Am.onD (Am.kidsOf n) = ap at *
  generalize ruleT (pEntryT stored) = TT at *
  obtain ⟨S, k, sp, nm, d, as', kids, ao, bo, ca, cb, hn, rfl, ha, hK, h1, h2⟩ := h.form
  have bA := (Below.refl w.heap.size w).alloc (Nat.le_refl _) (.cells #[.int .i64 k, .string sp, .string nm, .slice ao as'.length ca, .slice bo kids.length cb, .string d] 27)
  have N0 := Lib.hid (h.on bA)
  have C0 := Lib.hid (Cells.new w 27 #[.int .i64 k, .string sp, .string nm, .slice ao as'.length ca, .slice bo kids.length cb, .string d])
  have E0 := Lib.hid (hE.on bA)
  have B0 := Lib.hid bA
  clear h ha hK h1 h2 hn bA hE hz
  go_enter Tryz.func20, Tryz.ntmps20
  go_upto_region 1 with fail
  generalize w.alloc (.cells #[.int .i64 k, .string sp, .string nm, .slice ao as'.length ca, .slice bo kids.length cb, .string d] 27) = wA at *
  obtain ⟨x0, x1, x2, x3, x4, x5⟩ := node_open (show Cells _ _ _ (nodeArr k sp nm (.slice ao as'.length ca) (.slice bo kids.length cb) d) from C0.out)
  have yD := C0.out.drew
  have r0 := fun {v : World} (b : Below wA.drew.heap.size wA.drew v) => (Below.refl wA.heap.size wA).drew.trans b
  cases en with
  | false =>
    have hr : Hid (Q = 150) := Lib.hid (by rw [hq.out]; rfl)
    first
    | go_region_with (first
        | (go_at_call 41; refine (kI.out _ _ (N0.out.on (Below.refl _ _).drew)).mono ?_; rintro e wX ⟨rfl, bX⟩))
    | fail "region one"
    all_goals go_wp2_with fail
    all_goals go_ret
    all_goals exact ⟨em_ret hr.out.symm, B0.out.trans ((r0 bX).mono B0.out.size)⟩
  | true =>
  cases ft with
  | false =>
    have hr : Hid (Q = 150) := Lib.hid (by rw [hq.out]; rfl)
    first
    | go_region_with (first
        | (go_at_call 41; refine (kI.out _ _ (N0.out.on (Below.refl _ _).drew)).mono ?_; rintro e wX ⟨rfl, bX⟩; have x4X := (yD.on bX).cell (i := 4) rfl)
        | (go_at_call 43; refine (kR.out _).mono ?_; rintro e wY ⟨rfl, hTY, bY⟩; have x4Y := ((yD.on bX).on bY).cell (i := 4) rfl)
        | (go_at_call 42; refine (kF.out _ _ _ _ _ _ _ _ _ _ ((N0.out.on (r0 bX)).on bY) hTY ((E0.out.on (r0 bX)).on bY)).mono ?_; rintro e wZ ⟨rfl, bZ⟩))
    | fail "region two"
    all_goals go_wp2_with fail
    all_goals go_ret
    all_goals exact ⟨em_ret hr.out.symm, B0.out.trans (((r0 bX).trans ((bY.trans (bZ.mono bY.size)).mono (r0 bX).size)).mono B0.out.size)⟩
  | true =>
  have hq2 : Hid (Q = if ap = true then 0 else 150) := Lib.hid hq.out
  clear hq
  have hr : Hid ((ap = true ∧ Q = 0) ∨ (ap = false ∧ Q = 150)) := Lib.hid (by
    cases ap
    · exact .inr ⟨rfl, hq2.out⟩
    · exact .inl ⟨rfl, hq2.out⟩)
  first
  | go_region_with (first
      | (go_at_call 41; refine (kI.out _ _ (N0.out.on (Below.refl _ _).drew)).mono ?_; rintro e wX ⟨rfl, bX⟩; have x4X := (yD.on bX).cell (i := 4) rfl)
      | (go_at_call 43; refine (kR.out _).mono ?_; rintro e wY ⟨rfl, hTY, bY⟩; have x4Y := ((yD.on bX).on bY).cell (i := 4) rfl)
      | (go_at_call 42; refine (kF.out _ _ _ _ _ _ _ _ _ _ ((N0.out.on (r0 bX)).on bY) hTY ((E0.out.on (r0 bX)).on bY)).mono ?_; rintro e wZ ⟨rfl, bZ⟩; have x4Z := (((yD.on bX).on bY).on bZ).cell (i := 4) rfl)
      | (go_at_call 44; refine (kU.out _ _ _ _ _ _ _ _ _ (((N0.out.on (r0 bX)).on bY).on bZ) (((E0.out.on (r0 bX)).on bY).on bZ)).mono ?_; rintro e wU ⟨rfl, bU⟩))
  | fail "region three"
  all_goals
    have bF := Lib.hid (B0.out.trans (((r0 bX).trans (((bY.trans (bZ.mono bY.size)).trans (bU.mono (bY.trans (bZ.mono bY.size)).size)).mono (r0 bX).size)).mono B0.out.size))
    rcases hr.out with ⟨h1, hQ⟩ | ⟨h1, hQ⟩
    all_goals
      clear hr
      subst h1
      replace hQ := Lib.hid hQ
      clear hq2
      go_wp2_with fail
      go_ret
      exact ⟨em_ret hQ.out.symm, bF.out⟩

end Go.Proofs.YtdhondndidoniaaGreatDoor
