/-
  The program's own words of links and contents: what a link is for, its version, isLink, isContent. (Printed by gen_akinds.py.)
  The program's maps of rules and of counts: what look-ups and stores come to.
-/
import Derived.Test.YtdhondndidoniaaGreatDoorG28
import Derived.Test.YtdhondndidoniaaGreatDoorG24
import Derived.Test.YtdhondndidoniaaGreatDoorG09
import Derived.Test.YtdhondndidoniaaGreatDoorG15
namespace Go.Proofs.YtdhondndidoniaaGreatDoor
open Go.RowKit
set_option linter.unusedVariables false
set_option linter.unusedSimpArgs false

set_option maxRecDepth 100000 in
set_option maxHeartbeats 3200000 in
theorem pSmall_any (s : ByteArray) (w : World) (hs : s.size ≤ 70368744177664) :
    Calls Tryz.prog 122 #[.string s] w fun e w' => e = .returned (.string (loA s)) ∧ Below w.heap.size w w' := by
  obtain ⟨cap, W, hcv, bW, hL, hlt0⟩ := bytes_laid s w
  go_enter Tryz.func122, Tryz.ntmps122
  replace bW := Lib.hid bW
  replace hL := Lib.hid hL
  go_wp2_with fail
  clear hcv
  obtain ⟨g, hg⟩ : ∃ g, g = w.heap.size := ⟨_, rfl⟩
  rw [← hg] at hL hlt0 bW ⊢
  replace hg := Lib.hid hg
  go_loopw [4, 5, 10] (fun _ _ i wr => ∃ k : Nat, k ≤ s.size ∧ i = .int .i64 (k : Int) ∧ Hid (LowAt wr g s k) ∧ Hid (Below g w wr)) (fun _ _ i _ => s.size - (intOf i).toNat)
  case atStart => exact ⟨0, Nat.zero_le _, rfl, hL, bW⟩
  case round =>
    obtain ⟨k, hk, rfl, hA, bw⟩ := hrel
    by_cases hlt : k < s.size
    · obtain ⟨c0, f0⟩ := hA.out.here hlt
      have hb := (s[k]).toNat_lt
      obtain ⟨d, hd⟩ : ∃ d, Md.lowB s[k] = d := ⟨_, rfl⟩
      by_cases hq : 65 ≤ (s[k]).toNat ∧ (s[k]).toNat ≤ 90
      · have hn : ((s[k]).toNat : Int) - 65 + 97 = (d.toNat : Int) := by rw [← hd, Md.low_small hq]; omega
        obtain ⟨q1, q2⟩ := hq
        have hdl := d.toNat_lt
        have hP := Lib.hid (hA.out.put hlt hd)
        have bP := Lib.hid (bw.out.setCell (p := ⟨g, k, none⟩) (Nat.le_refl g) (.int .u8 (d.toNat : Int)))
        clear hd hA bw
        go_wp2_with fail
        go_roundw
        case rel => exact ⟨k + 1, by omega, by go_num, hP, bP⟩
        case measure => simp [intOf]; omega
      · have hP := Lib.hid (hA.out.same hlt (Md.low_same hq))
        have hq' : (s[k]).toNat < 65 ∨ (65 ≤ (s[k]).toNat ∧ 90 < (s[k]).toNat) := by omega
        clear hd hA hq
        rcases hq' with q1 | ⟨q1, q2⟩
        all_goals
          go_wp2_with fail
          go_roundw
          case rel => exact ⟨k + 1, by omega, by go_num, hP, bw⟩
          case measure => simp [intOf]; omega
    · obtain rfl : k = s.size := by omega
      have hcv := low_text (cap := cap) hA.out
      clear hA
      go_wp2_with fail
      go_ret
      exact ⟨rfl, by rw [← hg.out]; exact bw.out⟩

theorem am_none_type : Am.onD.type [] = none := by decide +kernel
theorem am_named_type {t : List UInt8} (h : t = Am.lit "text" ∨ t = Am.lit "html" ∨ t = Am.lit "xhtml") : Am.onD.type t = none := by
  rcases h with rfl | rfl | rfl <;> decide +kernel
/-- The content with src: its type may be none, or a media type. -/
def Am.typed (n : Gv.Node) : Bool := !atB (Am.attr n (Am.lit "type")) || (Am.onD.type (atA (Am.attr n (Am.lit "type"))).data.toList).isSome
theorem Am.pLink_is (n : Gv.Node) : Am.link Am.onD n = (atB (Am.attr n (Am.lit "href")) && Am.onD.iri (atA (Am.attr n (Am.lit "href"))).data.toList false && Am.typed n) := by
  unfold Am.link Am.typed
  cases Am.attr n (Am.lit "href") with
  | none => rfl
  | some h =>
    rw [atA_list]
    cases Am.attr n (Am.lit "type") with
    | none => rfl
    | some t => rw [atA_list]; rfl
theorem Am.pContent_src (n : Gv.Node) {s : List UInt8} (h : Am.attr n (Am.lit "src") = some s) : Am.content Am.onD n = (Am.onD.iri s false && decide ((Am.kidsOf n).length = 0) && Am.typed n) := by
  unfold Am.content Am.typed
  rw [h]
  cases Am.attr n (Am.lit "type") with
  | none => rfl
  | some t =>
    rw [atA_list]
    show (_ && (!Am.named (some t) && _)) = (_ && (!true || _))
    congr 1
    unfold Am.named
    by_cases e : t = Am.lit "text" ∨ t = Am.lit "html" ∨ t = Am.lit "xhtml"
    · rw [am_named_type e]; simp
    · simp [e]
theorem Am.pContent_none (n : Gv.Node) (h : Am.attr n (Am.lit "src") = none) : Am.content Am.onD n = (Am.textOk n || Am.single (atA (Am.attr n (Am.lit "type")))) := by
  unfold Am.content Am.single
  rw [h]
  cases ha : Am.attr n (Am.lit "type") with
  | none =>
    show (if Am.named none = true then _ else _) = _
    rw [if_pos (show Am.named none = true from rfl)]
    show _ = (_ || match Am.onD.type [] with | none => false | some f => decide (f ≠ Am.lit "multipart" ∧ f ≠ Am.lit "message"))
    rw [am_none_type]; simp
  | some t =>
    rw [atA_list]
    show (if Am.named (some t) = true then _ else _) = _
    by_cases e : t = Am.lit "text" ∨ t = Am.lit "html" ∨ t = Am.lit "xhtml"
    · rw [if_pos (show Am.named (some t) = true from decide_eq_true e), am_named_type e]; simp
    · rw [if_neg (show ¬ Am.named (some t) = true from fun h => e (of_decide_eq_true h))]
      have : Am.textOk n = false := by
        unfold Am.textOk
        rw [ha]
        show (if _ then _ else _) = _
        rw [if_neg (fun e2 => e (by rcases e2 with e2 | e2; exact .inl e2; exact .inr (.inl e2))), decide_eq_false (fun e2 => e (.inr (.inr e2)))]
        rfl
      rw [this, Bool.false_or]
      rfl
/-- What a link is for, as a text. -/
def relS (n : Gv.Node) : ByteArray := ⟨(Am.rel n).toArray⟩
theorem relS_list (n : Gv.Node) : (relS n).data.toList = Am.rel n := by simp [relS]
/-- A link's version, as it lies in memory. -/
def verA (n : Gv.Node) : Array Value := #[.string (loA (atA (Am.attr n (Am.lit "type")))), .string (loA (atA (Am.attr n (Am.lit "hreflang")))), .bool (atB (Am.attr n (Am.lit "type"))), .bool (atB (Am.attr n (Am.lit "hreflang")))]

set_option maxRecDepth 100000 in
set_option maxHeartbeats 6400000 in
theorem pPurpose_any (n : Gv.Node) {A : Array Value} (w : World) (h : Nd w A n) (hz : Gv.wt n ≤ 100000) (hE : Env w) :
    Calls Tryz.prog 90 #[.agg A] w fun e w' => e = .returned (.string (relS n)) ∧ Below w.heap.size w w' := by
  have kA := Lib.hid (fun W A (hW : Nd W A n) (_ : Env W) => pAttr_any n ⟨#[114, 101, 108]⟩ W hW)
  rw [show (⟨#[114, 101, 108]⟩ : ByteArray).data.toList = [114, 101, 108] from rfl] at kA
  have hq : Hid (relS n = ⟨((Am.attr n [114, 101, 108]).getD [97, 108, 116, 101, 114, 110, 97, 116, 101]).toArray⟩) := Lib.hid (by unfold relS Am.rel; rw [am_lit_rel, am_lit_alternate])
  generalize relS n = Q at *
  generalize Am.attr n [114, 101, 108] = at' at *
  obtain ⟨S, k, sp, nm, d, as', kids, ao, bo, ca, cb, hn, rfl, ha, hK, h1, h2⟩ := h.form
  have bA := (Below.refl w.heap.size w).alloc (Nat.le_refl _) (.cells #[.int .i64 k, .string sp, .string nm, .slice ao as'.length ca, .slice bo kids.length cb, .string d] 27)
  have N0 := Lib.hid (h.on bA)
  have C0 := Lib.hid (Cells.new w 27 #[.int .i64 k, .string sp, .string nm, .slice ao as'.length ca, .slice bo kids.length cb, .string d])
  have E0 := Lib.hid (hE.on bA)
  have B0 := Lib.hid bA
  clear h ha hK h1 h2 hn bA hE hz
  go_enter Tryz.func90, Tryz.ntmps90
  go_upto_region 1 with fail
  generalize w.alloc (.cells #[.int .i64 k, .string sp, .string nm, .slice ao as'.length ca, .slice bo kids.length cb, .string d] 27) = wA at *
  obtain ⟨x0, x1, x2, x3, x4, x5⟩ := node_open (show Cells _ _ _ (nodeArr k sp nm (.slice ao as'.length ca) (.slice bo kids.length cb) d) from C0.out)
  have cc := Lib.hid (kA.out wA _ N0.out E0.out)
  go_wp2_with fail
  (with_reducible refine (cc.out).mono ?_); rintro e w1 ⟨rfl, b1⟩
  have C1 := Lib.hid (C0.out.on b1)
  have N1 := Lib.hid (N0.out.on b1)
  have E1 := Lib.hid (E0.out.on b1)
  have B1 := Lib.hid (B0.out.trans (b1.mono B0.out.size))
  clear cc b1
  clear x0 x1 x2 x3 x4 x5
  cases at' with
  | none =>
    have hr : Hid (Q = ⟨#[97, 108, 116, 101, 114, 110, 97, 116, 101]⟩) := Lib.hid hq.out
    rw [show atB none = false from rfl]
    go_wp2_with fail
    go_ret
    exact ⟨by rw [hr.out]; rfl, B1.out⟩
  | some t =>
    have hr : Hid (Q = atA (some t)) := Lib.hid hq.out
    rw [show atB (some t) = true from rfl]
    generalize atA (some t) = T at *
    go_wp2_with fail
    go_ret
    exact ⟨by rw [hr.out]; rfl, B1.out⟩

theorem ver_end {R : Ending → World → Prop} {tmps : Array Value} {w : World} {rb : Nat} {x y z u : Value} (h2 : tmps[2]? = some (.pointer (some ⟨rb, 0, none⟩)))
    (c0 : w.cell? ⟨rb, 0, none⟩ = some x) (c1 : w.cell? ⟨rb, 1, none⟩ = some y) (c2 : w.cell? ⟨rb, 2, none⟩ = some z) (c3 : w.cell? ⟨rb, 3, none⟩ = some u)
    (hR : R (.returned (.agg #[x, y, z, u])) w) : bodyPost Tryz.prog Tryz.f91 R .ret { tmps := tmps, defers := [] } w := by
  refine ⟨rfl, _, ?_, hR⟩
  have l2 : 2 < tmps.size := (Array.getElem?_eq_some_iff.1 h2).1
  have g2 : tmps[2] = .pointer (some ⟨rb, 0, none⟩) := (Array.getElem?_eq_some_iff.1 h2).2
  simp [results, Tryz.results91, go_sem, l2, g2, c0, c1, c2, c3]

set_option maxRecDepth 100000 in
set_option maxHeartbeats 6400000 in
theorem pVersion_any (n : Gv.Node) {A : Array Value} (w : World) (h : Nd w A n) (hz : Gv.wt n ≤ 100000) (hE : Env w) :
    Calls Tryz.prog 91 #[.agg A] w fun e w' => e = .returned (.agg (verA n)) ∧ Below w.heap.size w w' := by
  have z1 := atA_wt n (Am.lit "type")
  have z2 := atA_wt n (Am.lit "hreflang")
  have kA := Lib.hid (fun W A (hW : Nd W A n) (_ : Env W) => pAttr_any n ⟨#[116, 121, 112, 101]⟩ W hW)
  rw [show (⟨#[116, 121, 112, 101]⟩ : ByteArray).data.toList = [116, 121, 112, 101] from rfl] at kA
  have kB := Lib.hid (fun W A (hW : Nd W A n) (_ : Env W) => pAttr_any n ⟨#[104, 114, 101, 102, 108, 97, 110, 103]⟩ W hW)
  rw [show (⟨#[104, 114, 101, 102, 108, 97, 110, 103]⟩ : ByteArray).data.toList = [104, 114, 101, 102, 108, 97, 110, 103] from rfl] at kB
  have hq : Hid (verA n = #[.string (loA (atA (Am.attr n [116, 121, 112, 101]))), .string (loA (atA (Am.attr n [104, 114, 101, 102, 108, 97, 110, 103]))), .bool (atB (Am.attr n [116, 121, 112, 101])), .bool (atB (Am.attr n [104, 114, 101, 102, 108, 97, 110, 103]))]) := Lib.hid (by unfold verA; rw [am_lit_type, am_lit_hreflang])
  rw [am_lit_type] at z1
  rw [am_lit_hreflang] at z2
  generalize verA n = Q at *
  generalize Am.attr n [116, 121, 112, 101] = at1 at *
  generalize Am.attr n [104, 114, 101, 102, 108, 97, 110, 103] = at2 at *
  have kS := Lib.hid (fun W (_ : Env W) => pSmall_any (atA at1) W (by omega))
  have kU := Lib.hid (fun W (_ : Env W) => pSmall_any (atA at2) W (by omega))
  generalize loA (atA at1) = s1 at *
  generalize loA (atA at2) = s2 at *
  generalize atA at1 = t1 at *
  generalize atA at2 = t2 at *
  generalize atB at1 = f1 at *
  generalize atB at2 = f2 at *
  clear z1 z2
  obtain ⟨S, k, sp, nm, d, as', kids, ao, bo, ca, cb, hn, rfl, ha, hK, h1, h2⟩ := h.form
  have bA := (Below.refl w.heap.size w).alloc (Nat.le_refl _) (.cells #[.int .i64 k, .string sp, .string nm, .slice ao as'.length ca, .slice bo kids.length cb, .string d] 27)
  have N0 := Lib.hid (h.on bA)
  have C0 := Lib.hid (Cells.new w 27 #[.int .i64 k, .string sp, .string nm, .slice ao as'.length ca, .slice bo kids.length cb, .string d])
  have E0 := Lib.hid (hE.on bA)
  have B0 := Lib.hid bA
  clear h ha hK h1 h2 hn bA hE hz
  go_enter Tryz.func91, Tryz.ntmps91
  go_upto_region 1 with fail
  have R0 := Cells.new (w.alloc (.cells #[.int .i64 k, .string sp, .string nm, .slice ao as'.length ca, .slice bo kids.length cb, .string d] 27)) 101 #[.string ⟨#[]⟩, .string ⟨#[]⟩, .bool false, .bool false]
  have bR := (Below.refl (w.alloc (.cells #[.int .i64 k, .string sp, .string nm, .slice ao as'.length ca, .slice bo kids.length cb, .string d] 27)).heap.size (w.alloc (.cells #[.int .i64 k, .string sp, .string nm, .slice ao as'.length ca, .slice bo kids.length cb, .string d] 27))).alloc (Nat.le_refl _) (.cells #[.string ⟨#[]⟩, .string ⟨#[]⟩, .bool false, .bool false] 101)
  rw [show (w.alloc (.cells #[.int .i64 k, .string sp, .string nm, .slice ao as'.length ca, .slice bo kids.length cb, .string d] 27)).heap.size = w.heap.size + 1 by simp] at R0
  have C1 := Lib.hid (C0.out.on bR)
  have N1 := Lib.hid (N0.out.on bR)
  have E1 := Lib.hid (E0.out.on bR)
  have B1 := Lib.hid (B0.out.trans (bR.mono B0.out.size))
  replace R0 := Lib.hid R0
  clear bR
  generalize (w.alloc (.cells #[.int .i64 k, .string sp, .string nm, .slice ao as'.length ca, .slice bo kids.length cb, .string d] 27)).alloc (.cells #[.string ⟨#[]⟩, .string ⟨#[]⟩, .bool false, .bool false] 101) = w1 at *
  obtain ⟨rb, hrb⟩ : ∃ rb, rb = w.heap.size + 1 := ⟨_, rfl⟩
  rw [← hrb] at R0 ⊢
  replace hrb := Lib.hid hrb
  have R1 := R0
  clear R0
  obtain ⟨x0, x1, x2, x3, x4, x5⟩ := node_open (show Cells _ _ _ (nodeArr k sp nm (.slice ao as'.length ca) (.slice bo kids.length cb) d) from C1.out)
  have cc := Lib.hid (kA.out w1 _ N1.out E1.out)
  go_wp2_with fail
  (with_reducible refine (cc.out).mono ?_); rintro e w2 ⟨rfl, b2⟩
  have R2 := Lib.hid (R1.out.on b2)
  have C2 := Lib.hid (C1.out.on b2)
  have N2 := Lib.hid (N1.out.on b2)
  have E2 := Lib.hid (E1.out.on b2)
  have B2 := Lib.hid (B1.out.trans (b2.mono B1.out.size))
  clear cc b2
  clear x0 x1 x2 x3 x4 x5
  obtain ⟨x0, x1, x2, x3, x4, x5⟩ := node_open (show Cells _ _ _ (nodeArr k sp nm (.slice ao as'.length ca) (.slice bo kids.length cb) d) from C2.out)
  have cc := Lib.hid (kB.out w2 _ N2.out E2.out)
  go_wp2_with fail
  (with_reducible refine (cc.out).mono ?_); rintro e w3 ⟨rfl, b3⟩
  have R3 := Lib.hid (R2.out.on b3)
  have C3 := Lib.hid (C2.out.on b3)
  have N3 := Lib.hid (N2.out.on b3)
  have E3 := Lib.hid (E2.out.on b3)
  have B3 := Lib.hid (B2.out.trans (b3.mono B2.out.size))
  clear cc b3
  clear x0 x1 x2 x3 x4 x5
  have cc := Lib.hid (kS.out w3 E3.out)
  go_wp2_with fail
  (with_reducible refine (cc.out).mono ?_); rintro e w4 ⟨rfl, b4⟩
  have R4 := Lib.hid (R3.out.on b4)
  have C4 := Lib.hid (C3.out.on b4)
  have N4 := Lib.hid (N3.out.on b4)
  have E4 := Lib.hid (E3.out.on b4)
  have B4 := Lib.hid (B3.out.trans (b4.mono B3.out.size))
  clear cc b4
  have cc := Lib.hid (kU.out w4 E4.out)
  go_wp2_with fail
  (with_reducible refine (cc.out).mono ?_); rintro e w5 ⟨rfl, b5⟩
  have R5 := Lib.hid (R4.out.on b5)
  have C5 := Lib.hid (C4.out.on b5)
  have N5 := Lib.hid (N4.out.on b5)
  have E5 := Lib.hid (E4.out.on b5)
  have B5 := Lib.hid (B4.out.trans (b5.mono B4.out.size))
  clear cc b5
  obtain ⟨y0, y1, y2, y3⟩ : w5.cell? ⟨rb, 0, none⟩ = some _ ∧ w5.cell? ⟨rb, 1, none⟩ = some _ ∧ w5.cell? ⟨rb, 2, none⟩ = some _ ∧ w5.cell? ⟨rb, 3, none⟩ = some _ := ⟨R5.out.cell rfl, R5.out.cell rfl, R5.out.cell rfl, R5.out.cell rfl⟩
  have u0 := R5.out.free 0
  have u1 := R5.out.free 1
  have u2 := R5.out.free 2
  have u3 := R5.out.free 3
  go_wp2_with fail
  have F := (((R5.out.set 0 (.string s1)).set 1 (.string s2)).set 2 (.bool f1)).set 3 (.bool f2)
  refine ver_end (rb := rb) (x := .string s1) (y := .string s2) (z := .bool f1) (u := .bool f2) rfl (F.cell rfl) (F.cell rfl) (F.cell rfl) (F.cell rfl) ⟨by rw [hq.out], ?_⟩
  have hle : w.heap.size ≤ rb := by rw [hrb.out]; omega
  exact (((B5.out.setCell (p := ⟨rb, 0, none⟩) hle _).setCell (p := ⟨rb, 1, none⟩) hle _).setCell (p := ⟨rb, 2, none⟩) hle _).setCell (p := ⟨rb, 3, none⟩) hle _

set_option maxRecDepth 100000 in
set_option maxHeartbeats 6400000 in
theorem pLink_any (n : Gv.Node) {A : Array Value} (w : World) (h : Nd w A n) (hz : Gv.wt n ≤ 100000) (hE : Env w) :
    Calls Tryz.prog 87 #[.agg A] w fun e w' => e = .returned (.bool (Am.link Am.onD n)) ∧ Below w.heap.size w w' := by
  have hq := Am.pLink_is n
  have z1 := atA_wt n (Am.lit "href")
  have z2 := atA_wt n (Am.lit "type")
  unfold Am.typed at hq
  have kA := Lib.hid (fun W A (hW : Nd W A n) (_ : Env W) => pAttr_any n ⟨#[104, 114, 101, 102]⟩ W hW)
  rw [show (⟨#[104, 114, 101, 102]⟩ : ByteArray).data.toList = [104, 114, 101, 102] from rfl] at kA
  have kB := Lib.hid (fun W A (hW : Nd W A n) (_ : Env W) => pAttr_any n ⟨#[116, 121, 112, 101]⟩ W hW)
  rw [show (⟨#[116, 121, 112, 101]⟩ : ByteArray).data.toList = [116, 121, 112, 101] from rfl] at kB
  rw [am_lit_type] at z2 hq
  rw [am_lit_href] at z1 hq
  replace hq := Lib.hid hq
  generalize Am.link Am.onD n = Q at *
  generalize Am.attr n [104, 114, 101, 102] = at1 at *
  generalize Am.attr n [116, 121, 112, 101] = at2 at *
  have kR := Lib.hid (fun W hW => pRef_any (atA at1) W (by omega) hW)
  have kM := Lib.hid (fun W hW => pMedia_any (atA at2) W (by omega) hW)
  generalize Am.onD.iri (atA at1).data.toList false = ir at *
  generalize (Am.onD.type (atA at2).data.toList).isSome = ms at *
  generalize atA at1 = t1 at *
  generalize atA at2 = t2 at *
  generalize atB at1 = f1 at *
  generalize atB at2 = f2 at *
  clear z1 z2
  obtain ⟨S, k, sp, nm, d, as', kids, ao, bo, ca, cb, hn, rfl, ha, hK, h1, h2⟩ := h.form
  have bA := (Below.refl w.heap.size w).alloc (Nat.le_refl _) (.cells #[.int .i64 k, .string sp, .string nm, .slice ao as'.length ca, .slice bo kids.length cb, .string d] 27)
  have N0 := Lib.hid (h.on bA)
  have C0 := Lib.hid (Cells.new w 27 #[.int .i64 k, .string sp, .string nm, .slice ao as'.length ca, .slice bo kids.length cb, .string d])
  have E0 := Lib.hid (hE.on bA)
  have B0 := Lib.hid bA
  clear h ha hK h1 h2 hn bA hE hz
  go_enter Tryz.func87, Tryz.ntmps87
  go_upto_region 1 with fail
  generalize w.alloc (.cells #[.int .i64 k, .string sp, .string nm, .slice ao as'.length ca, .slice bo kids.length cb, .string d] 27) = wA at *
  obtain ⟨x0, x1, x2, x3, x4, x5⟩ := node_open (show Cells _ _ _ (nodeArr k sp nm (.slice ao as'.length ca) (.slice bo kids.length cb) d) from C0.out)
  have cc := Lib.hid (kA.out wA _ N0.out E0.out)
  go_wp2_with fail
  (with_reducible refine (cc.out).mono ?_); rintro e w1 ⟨rfl, b1⟩
  have C1 := Lib.hid (C0.out.on b1)
  have N1 := Lib.hid (N0.out.on b1)
  have E1 := Lib.hid (E0.out.on b1)
  have B1 := Lib.hid (B0.out.trans (b1.mono B0.out.size))
  clear cc b1
  clear x0 x1 x2 x3 x4 x5
  obtain ⟨x0, x1, x2, x3, x4, x5⟩ := node_open (show Cells _ _ _ (nodeArr k sp nm (.slice ao as'.length ca) (.slice bo kids.length cb) d) from C1.out)
  have cc := Lib.hid (kB.out w1 _ N1.out E1.out)
  go_wp2_with fail
  (with_reducible refine (cc.out).mono ?_); rintro e w2 ⟨rfl, b2⟩
  have C2 := Lib.hid (C1.out.on b2)
  have N2 := Lib.hid (N1.out.on b2)
  have E2 := Lib.hid (E1.out.on b2)
  have B2 := Lib.hid (B1.out.trans (b2.mono B1.out.size))
  clear cc b2
  clear x0 x1 x2 x3 x4 x5
  cases f1 with
  | false =>
    have hr : Hid (Q = false) := Lib.hid (by rw [hq.out]; rfl)
    go_wp2_with fail
    go_ret
    exact ⟨ret_bool hr.out.symm, B2.out⟩
  | true =>
    have cc := Lib.hid (kR.out w2 E2.out)
    go_wp2_with fail
    (with_reducible refine (cc.out).mono ?_); rintro e w3 ⟨rfl, b3⟩
    have C3 := Lib.hid (C2.out.on b3)
    have N3 := Lib.hid (N2.out.on b3)
    have E3 := Lib.hid (E2.out.on b3)
    have B3 := Lib.hid (B2.out.trans (b3.mono B2.out.size))
    clear cc b3
    cases ir with
    | false =>
      have hr : Hid (Q = false) := Lib.hid (by rw [hq.out]; rfl)
      go_wp2_with fail
      go_ret
      exact ⟨ret_bool hr.out.symm, B3.out⟩
    | true =>
      cases f2 with
      | false =>
        have hr : Hid (Q = true) := Lib.hid (by rw [hq.out]; rfl)
        go_wp2_with fail
        go_ret
        exact ⟨ret_bool hr.out.symm, B3.out⟩
      | true =>
        have cc := Lib.hid (kM.out w3 E3.out)
        go_wp2_with fail
        (with_reducible refine (cc.out).mono ?_); rintro e w4 ⟨rfl, b4⟩
        have C4 := Lib.hid (C3.out.on b4)
        have N4 := Lib.hid (N3.out.on b4)
        have E4 := Lib.hid (E3.out.on b4)
        have B4 := Lib.hid (B3.out.trans (b4.mono B3.out.size))
        clear cc b4
        have hr : Hid (Q = ms) := Lib.hid (by rw [hq.out]; rfl)
        go_wp2_with fail
        go_ret
        exact ⟨ret_bool hr.out.symm, B4.out⟩

set_option maxRecDepth 100000 in
set_option maxHeartbeats 6400000 in
theorem pContent_any (n : Gv.Node) {A : Array Value} (w : World) (h : Nd w A n) (hz : Gv.wt n ≤ 100000) (hE : Env w) :
    Calls Tryz.prog 85 #[.agg A] w fun e w' => e = .returned (.bool (Am.content Am.onD n)) ∧ Below w.heap.size w w' := by
  have hq1 := Lib.hid (fun s (h : Am.attr n (Am.lit "src") = some s) => Am.pContent_src n h)
  have hq2 := Lib.hid (Am.pContent_none n)
  have z1 := atA_wt n (Am.lit "src")
  have z2 := atA_wt n (Am.lit "type")
  unfold Am.typed at hq1
  obtain ⟨kl, hkl⟩ : ∃ kl, kl = (Am.kidsOf n).length := ⟨_, rfl⟩
  rw [← hkl] at hq1
  have kA := Lib.hid (fun W A (hW : Nd W A n) (_ : Env W) => pAttr_any n ⟨#[116, 121, 112, 101]⟩ W hW)
  rw [show (⟨#[116, 121, 112, 101]⟩ : ByteArray).data.toList = [116, 121, 112, 101] from rfl] at kA
  have kB := Lib.hid (fun W A (hW : Nd W A n) (_ : Env W) => pAttr_any n ⟨#[115, 114, 99]⟩ W hW)
  rw [show (⟨#[115, 114, 99]⟩ : ByteArray).data.toList = [115, 114, 99] from rfl] at kB
  have kX := Lib.hid (fun W A (hW : Nd W A n) (hEW : Env W) => pTextOk_any n W hW hz hEW)
  rw [am_lit_type] at z2 hq1 hq2
  rw [am_lit_src] at z1 hq1 hq2
  generalize Am.content Am.onD n = Q at *
  generalize Am.attr n [115, 114, 99] = at1 at *
  generalize Am.attr n [116, 121, 112, 101] = at2 at *
  generalize Am.textOk n = tx at *
  have kR := Lib.hid (fun W hW => pRef_any (atA at1) W (by omega) hW)
  have kM := Lib.hid (fun W hW => pMedia_any (atA at2) W (by omega) hW)
  have kG := Lib.hid (fun W hW => pSingle_any (atA at2) W (by omega) hW)
  generalize (Am.onD.type (atA at2).data.toList).isSome = ms at *
  generalize Am.single (atA at2) = sg at *
  generalize atA at2 = t2 at *
  generalize atB at2 = f2 at *
  clear z1 z2
  have hkl2 : ∀ k sp nm d as' kids, n = .mk k sp nm as' kids d → kl = kids.length := fun k sp nm d as' kids e => by rw [hkl, e]; rfl
  clear hkl
  obtain ⟨S, k, sp, nm, d, as', kids, ao, bo, ca, cb, hn, rfl, ha, hK, h1, h2⟩ := h.form
  obtain rfl := hkl2 _ _ _ _ _ _ hn
  clear hkl2
  have bA := (Below.refl w.heap.size w).alloc (Nat.le_refl _) (.cells #[.int .i64 k, .string sp, .string nm, .slice ao as'.length ca, .slice bo kids.length cb, .string d] 27)
  have N0 := Lib.hid (h.on bA)
  have C0 := Lib.hid (Cells.new w 27 #[.int .i64 k, .string sp, .string nm, .slice ao as'.length ca, .slice bo kids.length cb, .string d])
  have E0 := Lib.hid (hE.on bA)
  have B0 := Lib.hid bA
  clear h ha hK h1 h2 hn bA hE hz
  go_enter Tryz.func85, Tryz.ntmps85
  go_upto_region 1 with fail
  generalize w.alloc (.cells #[.int .i64 k, .string sp, .string nm, .slice ao as'.length ca, .slice bo kids.length cb, .string d] 27) = wA at *

  obtain ⟨x0, x1, x2, x3, x4, x5⟩ := node_open (show Cells _ _ _ (nodeArr k sp nm (.slice ao as'.length ca) (.slice bo kids.length cb) d) from C0.out)
  have cc := Lib.hid (kA.out wA _ N0.out E0.out)
  go_wp2_with fail
  (with_reducible refine (cc.out).mono ?_); rintro e w1 ⟨rfl, b1⟩
  have C1 := Lib.hid (C0.out.on b1)
  have N1 := Lib.hid (N0.out.on b1)
  have E1 := Lib.hid (E0.out.on b1)
  have B1 := Lib.hid (B0.out.trans (b1.mono B0.out.size))
  clear cc b1
  clear x0 x1 x2 x3 x4 x5
  obtain ⟨x0, x1, x2, x3, x4, x5⟩ := node_open (show Cells _ _ _ (nodeArr k sp nm (.slice ao as'.length ca) (.slice bo kids.length cb) d) from C1.out)
  have cc := Lib.hid (kB.out w1 _ N1.out E1.out)
  go_wp2_with fail
  (with_reducible refine (cc.out).mono ?_); rintro e w2 ⟨rfl, b2⟩
  have C2 := Lib.hid (C1.out.on b2)
  have N2 := Lib.hid (N1.out.on b2)
  have E2 := Lib.hid (E1.out.on b2)
  have B2 := Lib.hid (B1.out.trans (b2.mono B1.out.size))
  clear cc b2
  clear x0 x1 x2 x3 x4 x5
  cases at1 with
  | none =>
    replace hq2 := Lib.hid (hq2.out rfl)
    clear hq1
    rw [show atB none = false from rfl]
    obtain ⟨x0, x1, x2, x3, x4, x5⟩ := node_open (show Cells _ _ _ (nodeArr k sp nm (.slice ao as'.length ca) (.slice bo kids.length cb) d) from C2.out)
    have cc := Lib.hid (kX.out w2 _ N2.out E2.out)
    go_wp2_with fail
    (with_reducible refine (cc.out).mono ?_); rintro e w3 ⟨rfl, b3⟩
    have C3 := Lib.hid (C2.out.on b3)
    have N3 := Lib.hid (N2.out.on b3)
    have E3 := Lib.hid (E2.out.on b3)
    have B3 := Lib.hid (B2.out.trans (b3.mono B2.out.size))
    clear cc b3
    clear x0 x1 x2 x3 x4 x5
    cases tx with
    | true =>
      have hr : Hid (Q = true) := Lib.hid (by rw [hq2.out]; rfl)
      go_wp2_with fail
      go_ret
      exact ⟨ret_bool hr.out.symm, B3.out⟩
    | false =>
      have cc := Lib.hid (kG.out w3 E3.out)
      go_wp2_with fail
      (with_reducible refine (cc.out).mono ?_); rintro e w4 ⟨rfl, b4⟩
      have C4 := Lib.hid (C3.out.on b4)
      have N4 := Lib.hid (N3.out.on b4)
      have E4 := Lib.hid (E3.out.on b4)
      have B4 := Lib.hid (B3.out.trans (b4.mono B3.out.size))
      clear cc b4
      have hr : Hid (Q = sg) := Lib.hid (by rw [hq2.out]; rfl)
      go_wp2_with fail
      go_ret
      exact ⟨ret_bool hr.out.symm, B4.out⟩
  | some t =>
    replace hq1 := Lib.hid (hq1.out t rfl)
    clear hq2
    have hT := atA_list t
    rw [show atB (some t) = true from rfl]
    rw [← hT] at hq1
    generalize atA (some t) = T at *
    generalize Am.onD.iri T.data.toList false = ir at *
    clear hT
    obtain ⟨x0, x1, x2, x3, x4, x5⟩ := node_open (show Cells _ _ _ (nodeArr k sp nm (.slice ao as'.length ca) (.slice bo kids.length cb) d) from C2.out)
    have cc := Lib.hid (kR.out w2 E2.out)
    go_wp2_with fail
    (with_reducible refine (cc.out).mono ?_); rintro e w3 ⟨rfl, b3⟩
    have C3 := Lib.hid (C2.out.on b3)
    have N3 := Lib.hid (N2.out.on b3)
    have E3 := Lib.hid (E2.out.on b3)
    have B3 := Lib.hid (B2.out.trans (b3.mono B2.out.size))
    clear cc b3
    clear x0 x1 x2 x3 x4 x5
    cases ir with
    | false =>
      have hr : Hid (Q = false) := Lib.hid (by rw [hq1.out]; rfl)
      go_wp2_with fail
      go_ret
      exact ⟨ret_bool hr.out.symm, B3.out⟩
    | true =>
      obtain ⟨x0, x1, x2, x3, x4, x5⟩ := node_open (show Cells _ _ _ (nodeArr k sp nm (.slice ao as'.length ca) (.slice bo kids.length cb) d) from C3.out)
      by_cases hl0 : kids.length = 0
      · have hl1 : ((kids.length : Int) == 0) = true := by rw [hl0]; rfl
        replace hq1 := Lib.hid (show Q = (!f2 || ms) by rw [hq1.out, decide_eq_true hl0]; rfl)
        replace hl0 := Lib.hid hl0
        cases f2 with
        | false =>
          have hr : Hid (Q = true) := Lib.hid (by rw [hq1.out]; rfl)
          go_wp2_with fail
          go_ret
          exact ⟨ret_bool hr.out.symm, B3.out⟩
        | true =>
          have cc := Lib.hid (kM.out w3 E3.out)
          go_wp2_with fail
          (with_reducible refine (cc.out).mono ?_); rintro e w4 ⟨rfl, b4⟩
          have C4 := Lib.hid (C3.out.on b4)
          have N4 := Lib.hid (N3.out.on b4)
          have E4 := Lib.hid (E3.out.on b4)
          have B4 := Lib.hid (B3.out.trans (b4.mono B3.out.size))
          clear cc b4
          have hr : Hid (Q = ms) := Lib.hid (by rw [hq1.out]; rfl)
          go_wp2_with fail
          go_ret
          exact ⟨ret_bool hr.out.symm, B4.out⟩
      · have hl1 : ((kids.length : Int) == 0) = false := beq_false_of_ne (by omega)
        have hr : Hid (Q = false) := Lib.hid (by rw [hq1.out, decide_eq_false hl0]; rfl)
        replace hl0 := Lib.hid hl0
        go_wp2_with fail
        go_ret
        exact ⟨ret_bool hr.out.symm, B3.out⟩
end Go.Proofs.YtdhondndidoniaaGreatDoor
namespace Go.Proofs.YtdhondndidoniaaGreatDoor
open Go.RowKit Go.Maps
set_option linter.unusedVariables false
set_option linter.unusedSimpArgs false

theorem am_strK : Keyed Tryz.prog 9 := string_keyed Tryz.underlying9
theorem am_key {s : ByteArray} (h : s.size ≤ maxLen) : keyOf Tryz.prog 9 (.string s) = some (.string s.data.toList) := Go.WideMaps.keyOf_string_mk Tryz.underlying9 h

/-- A rule, as it lies in memory. -/
def ruleV (r : Am.Rl) : Value := .agg #[.func (.func r.fn) #[] #[], .bool r.one, .bool r.need]
def ruleT (T : List Am.Rl) : List (Value × Value) := T.map fun r => (.string r.name, ruleV r)
theorem ruleT_keys {T : List Am.Rl} (h : ∀ r ∈ T, r.name.size ≤ maxLen) : TabKeys Tryz.prog 9 (ruleT T) := by
  intro p hp
  obtain ⟨r, hr, rfl⟩ := List.mem_map.1 hp
  exact ⟨_, am_key (h r hr)⟩
def ruleZ : Value := .agg #[.nilFunc, .bool false, .bool false]

/-- Counts, as they lie in memory. -/
def cntT (l : List (ByteArray × Nat)) : List (Value × Value) := l.map fun p => (.string p.1, .int .i64 (p.2 : Int))
/-- The counts are those of these kids. -/
structure CntOk (l : List (ByteArray × Nat)) (ks : List Gv.Node) : Prop where
  nd : (l.map (·.1)).Nodup
  val : ∀ p ∈ l, p.2 = Am.rcnt ks p.1
  sz : ∀ p ∈ l, p.1.size ≤ maxLen
  has : ∀ nm, Am.rcnt ks nm ≠ 0 → ∃ p ∈ l, p.1 = nm
theorem CntOk.nil : CntOk [] [] := ⟨by simp, by simp, by simp, fun nm h => absurd rfl h⟩
theorem cntT_keys {l : List (ByteArray × Nat)} {ks : List Gv.Node} (h : CntOk l ks) : TabKeys Tryz.prog 9 (cntT l) := by
  intro p hp
  obtain ⟨q, hq, rfl⟩ := List.mem_map.1 hp
  exact ⟨_, am_key (h.sz q hq)⟩
theorem cnt_zero (w : World) : (zeroValue 3).run Tryz.prog w = .ok (.int .i64 0) w := by kernel_rfl
theorem cnt_look {w : World} {b : Nat} {l : List (ByteArray × Nat)} {ks : List Gv.Node} (hb : Tab w b (cntT l)) (h : CntOk l ks) {nm : ByteArray} (hn : nm.size ≤ maxLen) :
    (Instr.lookup 95 (.map (some b)) (.string nm) false).run Tryz.prog w = .ok (.int .i64 (Am.rcnt ks nm : Int)) w := by
  rcases Tab.look am_strK Tryz.underlying95 (cnt_zero w) hb (cntT_keys h) (am_key hn) false with ⟨h1, h2⟩ | ⟨v, h1, h2⟩
  · rw [h1]
    have : Am.rcnt ks nm = 0 := by
      refine Classical.byContradiction fun hc => ?_
      obtain ⟨p, hp, rfl⟩ := h.has nm hc
      exact h2 _ (List.mem_map.2 ⟨p, hp, rfl⟩) rfl
    rw [this]; rfl
  · rw [h1]
    obtain ⟨q, hq, e⟩ := List.mem_map.1 h2
    cases e
    rw [h.val q hq]; rfl
theorem CntOk.skip {l : List (ByteArray × Nat)} {ks : List Gv.Node} (h : CntOk l ks) {k : Gv.Node} (hk : Am.isA k = false) : CntOk l (ks ++ [k]) := by
  have e : ∀ nm, Am.rcnt (ks ++ [k]) nm = Am.rcnt ks nm := fun nm => by
    rw [Am.rcnt_snoc]
    have : Am.inN nm k = false := by unfold Am.inN; rw [hk]; rfl
    rw [this]; rfl
  exact ⟨h.nd, fun p hp => by rw [e]; exact h.val p hp, h.sz, fun nm hn => h.has nm (by rwa [e] at hn)⟩
theorem cnt_put {w : World} {b : Nat} {l : List (ByteArray × Nat)} {ks : List Gv.Node} (hb : Tab w b (cntT l)) (h : CntOk l ks) {k : Gv.Node} (hk : Am.isA k = true) (hn : (Am.nameOf k).size ≤ maxLen) :
    ∃ w' l', (Instr.mapUpdate 95 (.map (some b)) (.string (Am.nameOf k)) (.int .i64 ((Am.rcnt ks (Am.nameOf k) : Int) + 1))).run Tryz.prog w = .ok () w' ∧ w.grownBy w' (some b) ∧ w'.heap.size = w.heap.size ∧ Tab w' b (cntT l') ∧ CntOk l' (ks ++ [k]) := by
  have hin : ∀ nm, Am.inN nm k = decide (Am.nameOf k = nm) := fun nm => by unfold Am.inN; rw [hk, Bool.true_and]
  have same : Am.rcnt (ks ++ [k]) (Am.nameOf k) = Am.rcnt ks (Am.nameOf k) + 1 := by rw [Am.rcnt_snoc, hin, decide_eq_true rfl]; rfl
  have other : ∀ nm, nm ≠ Am.nameOf k → Am.rcnt (ks ++ [k]) nm = Am.rcnt ks nm := fun nm e => by rw [Am.rcnt_snoc, hin, decide_eq_false (Ne.symm e)]; rfl
  generalize Am.nameOf k = nm at *
  obtain ⟨w', hrun, hg, hs, hc⟩ := Tab.put am_strK Tryz.underlying95 hb (cntT_keys h) (am_key hn) (.int .i64 ((Am.rcnt ks nm : Int) + 1))
  rcases hc with ⟨h1, h2⟩ | ⟨j, u, h1, h2⟩
  · refine ⟨w', l ++ [(nm, Am.rcnt ks nm + 1)], hrun, hg, hs, ?_, ?_, ?_, ?_, ?_⟩
    · have : cntT (l ++ [(nm, Am.rcnt ks nm + 1)]) = cntT l ++ [(.string nm, .int .i64 ((Am.rcnt ks nm : Int) + 1))] := by simp [cntT]
      rw [this]; exact h2
    · have hne : ∀ p ∈ l, p.1 ≠ nm := fun p hp e => h1 _ (List.mem_map.2 ⟨p, hp, rfl⟩) (by rw [e])
      rw [List.map_append, List.nodup_append]
      refine ⟨h.nd, by simp, ?_⟩
      intro a ha c hc e
      obtain ⟨p, hp, rfl⟩ := List.mem_map.1 ha
      simp at hc
      exact hne p hp (e.trans hc)
    · intro p hp
      rcases List.mem_append.1 hp with hp | hp
      · rw [other p.1 (fun e => h1 _ (List.mem_map.2 ⟨p, hp, rfl⟩) (by rw [e]))]
        exact h.val p hp
      · simp at hp; subst hp; exact same.symm
    · intro p hp
      rcases List.mem_append.1 hp with hp | hp
      · exact h.sz p hp
      · simp at hp; subst hp; exact hn
    · intro m hm
      by_cases e : m = nm
      · exact ⟨(nm, Am.rcnt ks nm + 1), List.mem_append_right _ (by simp), e.symm⟩
      · rw [other m e] at hm
        obtain ⟨p, hp, e⟩ := h.has m hm
        exact ⟨p, List.mem_append_left _ hp, e⟩
  · have hjl : j < l.length := by
      have := (List.getElem?_eq_some_iff.1 h1).1
      simpa [cntT] using this
    have hj1 : l[j].1 = nm := by
      have : (cntT l)[j]? = some (.string l[j].1, .int .i64 (l[j].2 : Int)) := by unfold cntT; rw [List.getElem?_map, List.getElem?_eq_getElem hjl]; rfl
      rw [this] at h1
      simp at h1
      exact h1.1
    have far : ∀ i (hi : i < l.length), i ≠ j → l[i].1 ≠ nm := fun i hi hne e => by
      have := (List.nodup_iff_pairwise_ne.1 h.nd)
      rw [List.pairwise_map] at this
      rcases Nat.lt_or_gt_of_ne hne with a | a
      · exact List.pairwise_iff_getElem.1 this i j hi hjl a (e.trans hj1.symm)
      · exact List.pairwise_iff_getElem.1 this j i hjl hi a (hj1.trans e.symm)
    have hfst : (l.set j (nm, Am.rcnt ks nm + 1)).map (·.1) = l.map (·.1) := by
      rw [List.map_set]
      show (l.map (·.1)).set j nm = _
      rw [← hj1]
      have e : l[j].1 = (l.map (·.1))[j]'(by simpa using hjl) := by simp
      rw [e, List.set_getElem_self]
    have who : ∀ p ∈ l.set j (nm, Am.rcnt ks nm + 1), p = (nm, Am.rcnt ks nm + 1) ∨ (p ∈ l ∧ p.1 ≠ nm) := by
      intro p hp
      obtain ⟨i, hi, rfl⟩ := List.getElem_of_mem hp
      have hi' : i < l.length := by simpa using hi
      rw [List.getElem_set]
      split
      · exact .inl rfl
      · rename_i hne
        exact .inr ⟨List.getElem_mem hi', far i hi' (Ne.symm hne)⟩
    refine ⟨w', l.set j (nm, Am.rcnt ks nm + 1), hrun, hg, hs, ?_, ?_, ?_, ?_, ?_⟩
    · have : cntT (l.set j (nm, Am.rcnt ks nm + 1)) = (cntT l).set j (.string nm, .int .i64 ((Am.rcnt ks nm : Int) + 1)) := by simp [cntT, List.map_set]
      rw [this]; exact h2
    · rw [hfst]; exact h.nd
    · intro p hp
      rcases who p hp with rfl | ⟨hp, hne⟩
      · exact same.symm
      · rw [other p.1 hne]; exact h.val p hp
    · intro p hp
      rcases who p hp with rfl | ⟨hp, -⟩
      · exact hn
      · exact h.sz p hp
    · intro m hm
      have : m ∈ (l.set j (nm, Am.rcnt ks nm + 1)).map (·.1) := by
        rw [hfst]
        by_cases e : m = nm
        · rw [e, ← hj1]; exact List.mem_map.2 ⟨_, List.getElem_mem hjl, rfl⟩
        · rw [other m e] at hm
          obtain ⟨p, hp, rfl⟩ := h.has m hm
          exact List.mem_map.2 ⟨p, hp, rfl⟩
      obtain ⟨p, hp, e⟩ := List.mem_map.1 this
      exact ⟨p, hp, e⟩
theorem rule_zero (w : World) : (zeroValue 97).run Tryz.prog w = .ok ruleZ w := by kernel_rfl
/-- The rule of a name. -/
theorem rule_look {w : World} {b : Nat} {T : List Am.Rl} (hb : Tab w b (ruleT T)) (hT : (T.map (·.name)).Nodup) (hz : ∀ r ∈ T, r.name.size ≤ maxLen) {nm : ByteArray} (hn : nm.size ≤ maxLen) :
    ((Instr.lookup 70 (.map (some b)) (.string nm) true).run Tryz.prog w = .ok (.tuple #[ruleZ, .bool false]) w ∧ T.find? (fun r => decide (r.name = nm)) = none) ∨
    ∃ r ∈ T, (Instr.lookup 70 (.map (some b)) (.string nm) true).run Tryz.prog w = .ok (.tuple #[ruleV r, .bool true]) w ∧ T.find? (fun r => decide (r.name = nm)) = some r := by
  rcases Tab.look am_strK Tryz.underlying70 (rule_zero w) hb (ruleT_keys hz) (am_key hn) true with ⟨h1, h2⟩ | ⟨v, h1, h2⟩
  · refine .inl ⟨h1, ?_⟩
    rw [List.find?_eq_none]
    intro r hr
    simp only [decide_eq_true_eq]
    intro e
    exact h2 _ (List.mem_map.2 ⟨r, hr, rfl⟩) (by rw [e])
  · obtain ⟨r, hr, e⟩ := List.mem_map.1 h2
    simp only [Prod.mk.injEq, Value.string.injEq] at e
    obtain ⟨rfl, rfl⟩ := e
    refine .inr ⟨r, hr, h1, ?_⟩
    induction T with
    | nil => cases hr
    | cons q T ih =>
      rw [List.map_cons, List.nodup_cons] at hT
      rw [List.find?_cons]
      rcases List.mem_cons.1 hr with rfl | hr
      · rw [decide_eq_true rfl]
      · have : q.name ≠ r.name := fun e => hT.1 (by rw [e]; exact List.mem_map.2 ⟨r, hr, rfl⟩)
        rw [decide_eq_false this]
        clear ih
        have key : ∀ L : List Am.Rl, (L.map (·.name)).Nodup → r ∈ L → L.find? (fun x => decide (x.name = r.name)) = some r := by
          intro L
          induction L with
          | nil => intro _ h; cases h
          | cons q L ih =>
            intro hL hr
            rw [List.map_cons, List.nodup_cons] at hL
            rw [List.find?_cons]
            rcases List.mem_cons.1 hr with rfl | hr
            · rw [decide_eq_true rfl]
            · have : q.name ≠ r.name := fun e => hL.1 (by rw [e]; exact List.mem_map.2 ⟨r, hr, rfl⟩)
              rw [decide_eq_false this]
              exact ih hL.2 hr
        exact key T hT.2 hr
end Go.Proofs.YtdhondndidoniaaGreatDoor
