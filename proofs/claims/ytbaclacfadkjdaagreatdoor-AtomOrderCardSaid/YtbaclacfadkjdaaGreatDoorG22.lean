/-
  What the document's own words of text constructs, points of time, what a link is for, and links come to.
  What the document's own word of links that are alike comes to.
-/
import Derived.Test.YtbaclacfadkjdaaGreatDoorG21
namespace Go.Proofs.YtbaclacfadkjdaaGreatDoor
open Go.RowKit
theorem am_lit_type : Am.lit "type" = [116, 121, 112, 101] := by decide +kernel
theorem am_lit_text : Am.lit "text" = [116, 101, 120, 116] := by decide +kernel
theorem am_lit_html : Am.lit "html" = [104, 116, 109, 108] := by decide +kernel
theorem am_lit_xhtml : Am.lit "xhtml" = [120, 104, 116, 109, 108] := by decide +kernel
theorem am_lit_rel : Am.lit "rel" = [114, 101, 108] := by decide +kernel
theorem am_lit_href : Am.lit "href" = [104, 114, 101, 102] := by decide +kernel
theorem am_lit_hreflang : Am.lit "hreflang" = [104, 114, 101, 102, 108, 97, 110, 103] := by decide +kernel
theorem am_lit_src : Am.lit "src" = [115, 114, 99] := by decide +kernel
theorem am_lit_alternate : Am.lit "alternate" = [97, 108, 116, 101, 114, 110, 97, 116, 101] := by decide +kernel
theorem am_lit_term : Am.lit "term" = [116, 101, 114, 109] := by decide +kernel
theorem atA_list (t : List UInt8) : (atA (some t)).data.toList = t := by simp [atA]
theorem lit_yes {s : ByteArray} {t l : List UInt8} (hs : s.data.toList = t) (h : t = l) : (s.toList == l) = true := str_is (hs.trans h)
theorem lit_no {s : ByteArray} {t l : List UInt8} (hs : s.data.toList = t) (h : ¬ t = l) : (s.toList == l) = false := str_ne (by rw [hs]; exact h)
theorem atA_wt (n : Gv.Node) (name : List UInt8) : (atA (Am.attr n name)).size ≤ Gv.wt n := atA_size
set_option maxRecDepth 100000 in
set_option maxHeartbeats 6400000 in
theorem nd_textOk (n : Gv.Node) {A : Array Value} (w : World) (h : Nd w A n) (hz : Gv.wt n ≤ 1000000) :
    Calls Tryz.prog 39 #[.agg A] w fun e w' => e = .returned (.bool (Am.textOk n)) ∧ Below w.heap.size w w' := by
  have hq : Hid (Am.textOk n = match Am.attr n (Am.lit "type") with
    | none => Am.plain n
    | some t => if t = Am.lit "text" ∨ t = Am.lit "html" then Am.plain n else decide (t = Am.lit "xhtml") && Am.div n) := Lib.hid rfl
  generalize Am.textOk n = Q at *
  have kA := Lib.hid (fun W A (hW : Nd W A n) => nd_attr n ⟨#[116, 121, 112, 101]⟩ W hW)
  rw [show (⟨#[116, 121, 112, 101]⟩ : ByteArray).data.toList = [116, 121, 112, 101] from rfl] at kA
  have kP := Lib.hid (fun W A (hW : Nd W A n) => nd_plain n W hW)
  have kD := Lib.hid (fun W A (hW : Nd W A n) => nd_div n W hW hz)
  rw [am_lit_type, am_lit_text, am_lit_html, am_lit_xhtml] at hq
  generalize Am.attr n [116, 121, 112, 101] = at' at *
  generalize Am.plain n = pl at *
  generalize Am.div n = dv at *
  obtain ⟨S, k, sp, nm, d, as', kids, ao, bo, ca, cb, hn, rfl, ha, hK, h1, h2⟩ := h.form
  have bA := (Below.refl w.heap.size w).alloc (Nat.le_refl _) (.cells #[.int .i64 k, .string sp, .string nm, .slice ao as'.length ca, .slice bo kids.length cb, .string d] 25)
  have hN := Lib.hid (h.on bA)
  have C0 := Lib.hid (Cells.new w 25 #[.int .i64 k, .string sp, .string nm, .slice ao as'.length ca, .slice bo kids.length cb, .string d])
  replace bA := Lib.hid bA
  clear h ha hK h1 h2 hn
  go_enter Tryz.func39, Tryz.ntmps39
  go_upto_region 1 with fail
  generalize w.alloc (.cells #[.int .i64 k, .string sp, .string nm, .slice ao as'.length ca, .slice bo kids.length cb, .string d] 25) = wA at *
  obtain ⟨x0, x1, x2, x3, x4, x5⟩ := node_open (show Cells _ _ _ (nodeArr k sp nm (.slice ao as'.length ca) (.slice bo kids.length cb) d) from C0.out)
  have cc := Lib.hid (kA.out wA _ hN.out)
  go_wp2_with fail
  (with_reducible refine (cc.out).mono ?_); rintro e w1 ⟨rfl, b1⟩
  have C1 := Lib.hid (C0.out.on b1)
  have N1 := Lib.hid (hN.out.on b1)
  have B1 := Lib.hid (bA.out.trans (b1.mono bA.out.size))
  clear x0 x1 x2 x3 x4 x5 cc b1
  cases at' with
  | none =>
    have hr : Hid (Q = pl) := Lib.hid hq.out
    rw [show atB none = false from rfl]
    obtain ⟨x0, x1, x2, x3, x4, x5⟩ := node_open (show Cells _ _ _ (nodeArr k sp nm (.slice ao as'.length ca) (.slice bo kids.length cb) d) from C1.out)
    have cc := Lib.hid (kP.out w1 _ N1.out)
    go_wp2_with fail
    (with_reducible refine (cc.out).mono ?_); rintro e w2 ⟨rfl, b2⟩
    have C2 := Lib.hid (C1.out.on b2)
    have N2 := Lib.hid (N1.out.on b2)
    have B2 := Lib.hid (B1.out.trans (b2.mono B1.out.size))
    clear x0 x1 x2 x3 x4 x5 cc b2
    go_wp2_with fail
    go_ret
    exact ⟨ret_bool hr.out.symm, B2.out⟩
  | some t =>
    have hT := atA_list t
    rw [show atB (some t) = true from rfl]
    generalize atA (some t) = T at *
    by_cases t1 : t = [116, 101, 120, 116]
    · have hr : Hid (Q = pl) := Lib.hid (by rw [hq.out]; exact if_pos (.inl t1))
      have s1 := lit_yes hT t1
      clear t1 hT hq
      obtain ⟨x0, x1, x2, x3, x4, x5⟩ := node_open (show Cells _ _ _ (nodeArr k sp nm (.slice ao as'.length ca) (.slice bo kids.length cb) d) from C1.out)
      have cc := Lib.hid (kP.out w1 _ N1.out)
      go_wp2_with fail
      (with_reducible refine (cc.out).mono ?_); rintro e w2 ⟨rfl, b2⟩
      have C2 := Lib.hid (C1.out.on b2)
      have N2 := Lib.hid (N1.out.on b2)
      have B2 := Lib.hid (B1.out.trans (b2.mono B1.out.size))
      clear x0 x1 x2 x3 x4 x5 cc b2
      go_wp2_with fail
      go_ret
      exact ⟨ret_bool hr.out.symm, B2.out⟩
    have s1 := lit_no hT t1
    by_cases t2 : t = [104, 116, 109, 108]
    · have hr : Hid (Q = pl) := Lib.hid (by rw [hq.out]; exact if_pos (.inr t2))
      have s2 := lit_yes hT t2
      clear t1 t2 hT hq
      obtain ⟨x0, x1, x2, x3, x4, x5⟩ := node_open (show Cells _ _ _ (nodeArr k sp nm (.slice ao as'.length ca) (.slice bo kids.length cb) d) from C1.out)
      have cc := Lib.hid (kP.out w1 _ N1.out)
      go_wp2_with fail
      (with_reducible refine (cc.out).mono ?_); rintro e w2 ⟨rfl, b2⟩
      have C2 := Lib.hid (C1.out.on b2)
      have N2 := Lib.hid (N1.out.on b2)
      have B2 := Lib.hid (B1.out.trans (b2.mono B1.out.size))
      clear x0 x1 x2 x3 x4 x5 cc b2
      go_wp2_with fail
      go_ret
      exact ⟨ret_bool hr.out.symm, B2.out⟩
    have s2 := lit_no hT t2
    have hq2 : Hid (Q = (decide (t = [120, 104, 116, 109, 108]) && dv)) := Lib.hid (by rw [hq.out]; exact if_neg (by rintro (e | e); exact t1 e; exact t2 e))
    clear hq t1 t2
    by_cases t3 : t = [120, 104, 116, 109, 108]
    · have hr : Hid (Q = dv) := Lib.hid (by rw [hq2.out, decide_eq_true t3, Bool.true_and])
      have s3 := lit_yes hT t3
      clear t3 hT hq2
      obtain ⟨x0, x1, x2, x3, x4, x5⟩ := node_open (show Cells _ _ _ (nodeArr k sp nm (.slice ao as'.length ca) (.slice bo kids.length cb) d) from C1.out)
      have cc := Lib.hid (kD.out w1 _ N1.out)
      go_wp2_with fail
      (with_reducible refine (cc.out).mono ?_); rintro e w2 ⟨rfl, b2⟩
      have C2 := Lib.hid (C1.out.on b2)
      have N2 := Lib.hid (N1.out.on b2)
      have B2 := Lib.hid (B1.out.trans (b2.mono B1.out.size))
      clear x0 x1 x2 x3 x4 x5 cc b2
      go_wp2_with fail
      go_ret
      exact ⟨ret_bool hr.out.symm, B2.out⟩
    · have hr : Hid (Q = false) := Lib.hid (by rw [hq2.out, decide_eq_false t3, Bool.false_and])
      have s3 := lit_no hT t3
      clear t3 hT hq2
      go_wp2_with fail
      go_ret
      exact ⟨ret_bool hr.out.symm, B1.out⟩
set_option maxRecDepth 100000 in
set_option maxHeartbeats 6400000 in
theorem nd_moment (n : Gv.Node) {A : Array Value} (w : World) (h : Nd w A n) (hz : Gv.wt n ≤ 1000000) :
    Calls Tryz.prog 38 #[.agg A] w fun e w' => e = .returned (.bool (Am.momentOk Am.onD n)) ∧ Below w.heap.size w w' := by
  have hq : Hid (Am.momentOk Am.onD n = (Am.plain n && decide (D.paE (trS (txS n)).data.toList = 0))) := Lib.hid (by rw [trS_list, txS_list]; rfl)
  generalize Am.momentOk Am.onD n = Q at *
  have s1 := txS_size n
  have s2 := trS_size (txS n)
  have kT := Lib.hid (fun W A (hW : Nd W A n) => nd_text n W hW hz)
  have kR := Lib.hid (fun W => refTrim_any (txS n) W (by unfold maxLen; omega))
  have kM := Lib.hid (fun W => refParse_any (trS (txS n)) W (by omega))
  have kP := Lib.hid (fun W A (hW : Nd W A n) => nd_plain n W hW)
  generalize trS (txS n) = y at *
  generalize txS n = x at *
  generalize Am.plain n = pl at *
  generalize D.paE y.data.toList = pe at *
  generalize D.paS y.data.toList = ps at *
  generalize D.paN y.data.toList = pn at *
  clear s1 s2
  obtain ⟨S, k, sp, nm, d, as', kids, ao, bo, ca, cb, hn, rfl, ha, hK, h1, h2⟩ := h.form
  have bA := (Below.refl w.heap.size w).alloc (Nat.le_refl _) (.cells #[.int .i64 k, .string sp, .string nm, .slice ao as'.length ca, .slice bo kids.length cb, .string d] 25)
  have hN := Lib.hid (h.on bA)
  have C0 := Lib.hid (Cells.new w 25 #[.int .i64 k, .string sp, .string nm, .slice ao as'.length ca, .slice bo kids.length cb, .string d])
  replace bA := Lib.hid bA
  clear h ha hK h1 h2 hn
  go_enter Tryz.func38, Tryz.ntmps38
  go_upto_region 1 with fail
  generalize w.alloc (.cells #[.int .i64 k, .string sp, .string nm, .slice ao as'.length ca, .slice bo kids.length cb, .string d] 25) = wA at *
  obtain ⟨x0, x1, x2, x3, x4, x5⟩ := node_open (show Cells _ _ _ (nodeArr k sp nm (.slice ao as'.length ca) (.slice bo kids.length cb) d) from C0.out)
  have cc := Lib.hid (kT.out wA _ hN.out)
  go_wp2_with fail
  (with_reducible refine (cc.out).mono ?_); rintro e w1 ⟨rfl, b1⟩
  have C1 := Lib.hid (C0.out.on b1)
  have N1 := Lib.hid (hN.out.on b1)
  have B1 := Lib.hid (bA.out.trans (b1.mono bA.out.size))
  clear x0 x1 x2 x3 x4 x5 cc b1
  go_wp2_with fail
  (with_reducible refine (kR.out _).mono ?_); rintro e w2 ⟨rfl, rfl⟩
  go_wp2_with fail
  (with_reducible refine (kM.out _).mono ?_); rintro e w3 ⟨rfl, b3⟩
  have bx := (b3.trans (((Below.refl w3.heap.size w3).alloc (Nat.le_refl _) (.cells #[.int .i64 ps, .int .i64 pn] 87)).mono b3.size))
  have C3 := Lib.hid (C1.out.on bx)
  have N3 := Lib.hid (N1.out.on bx)
  have B3 := Lib.hid (B1.out.trans (bx.mono B1.out.size))
  clear b3 bx
  go_upto_region 2 with fail
  generalize w3.alloc (.cells #[.int .i64 ps, .int .i64 pn] 87) = w4 at *
  obtain ⟨x0, x1, x2, x3, x4, x5⟩ := node_open (show Cells _ _ _ (nodeArr k sp nm (.slice ao as'.length ca) (.slice bo kids.length cb) d) from C3.out)
  have cc := Lib.hid (kP.out w4 _ N3.out)
  go_wp2_with fail
  (with_reducible refine (cc.out).mono ?_); rintro e w5 ⟨rfl, b5⟩
  have C5 := Lib.hid (C3.out.on b5)
  have N5 := Lib.hid (N3.out.on b5)
  have B5 := Lib.hid (B3.out.trans (b5.mono B3.out.size))
  clear x0 x1 x2 x3 x4 x5 cc b5
  cases pl with
  | false =>
    have hr : Hid (Q = false) := Lib.hid (by rw [hq.out]; rfl)
    go_wp2_with fail
    go_ret
    exact ⟨ret_bool hr.out.symm, B5.out⟩
  | true =>
    by_cases h0 : pe = 0
    · have hr : Hid (Q = true) := Lib.hid (by rw [hq.out, decide_eq_true h0]; rfl)
      subst h0
      go_wp2_with fail
      go_ret
      exact ⟨ret_bool hr.out.symm, B5.out⟩
    · have hr : Hid (Q = false) := Lib.hid (by rw [hq.out, decide_eq_false h0]; rfl)
      have e0 : (pe == 0) = false := beq_false_of_ne h0
      go_wp2_with fail
      go_ret
      exact ⟨ret_bool hr.out.symm, B5.out⟩
def rlS (n : Gv.Node) : ByteArray := ⟨(Am.rel n).toArray⟩
theorem rlS_list (n : Gv.Node) : (rlS n).data.toList = Am.rel n := by simp [rlS]
set_option maxRecDepth 100000 in
set_option maxHeartbeats 6400000 in
theorem nd_rel (n : Gv.Node) {A : Array Value} (w : World) (h : Nd w A n) :
    Calls Tryz.prog 46 #[.agg A] w fun e w' => e = .returned (.string (rlS n)) ∧ Below w.heap.size w w' := by
  have hq : Hid ((rlS n).data.toList = (Am.attr n (Am.lit "rel")).getD (Am.lit "alternate")) := Lib.hid (rlS_list n)
  generalize rlS n = Q at *
  have kA := Lib.hid (fun W A (hW : Nd W A n) => nd_attr n ⟨#[114, 101, 108]⟩ W hW)
  rw [show (⟨#[114, 101, 108]⟩ : ByteArray).data.toList = [114, 101, 108] from rfl] at kA
  rw [am_lit_rel, am_lit_alternate] at hq
  generalize Am.attr n [114, 101, 108] = at' at *
  obtain ⟨S, k, sp, nm, d, as', kids, ao, bo, ca, cb, hn, rfl, ha, hK, h1, h2⟩ := h.form
  have bA := (Below.refl w.heap.size w).alloc (Nat.le_refl _) (.cells #[.int .i64 k, .string sp, .string nm, .slice ao as'.length ca, .slice bo kids.length cb, .string d] 25)
  have hN := Lib.hid (h.on bA)
  have C0 := Lib.hid (Cells.new w 25 #[.int .i64 k, .string sp, .string nm, .slice ao as'.length ca, .slice bo kids.length cb, .string d])
  replace bA := Lib.hid bA
  clear h ha hK h1 h2 hn
  go_enter Tryz.func46, Tryz.ntmps46
  go_upto_region 1 with fail
  generalize w.alloc (.cells #[.int .i64 k, .string sp, .string nm, .slice ao as'.length ca, .slice bo kids.length cb, .string d] 25) = wA at *
  obtain ⟨x0, x1, x2, x3, x4, x5⟩ := node_open (show Cells _ _ _ (nodeArr k sp nm (.slice ao as'.length ca) (.slice bo kids.length cb) d) from C0.out)
  have cc := Lib.hid (kA.out wA _ hN.out)
  go_wp2_with fail
  (with_reducible refine (cc.out).mono ?_); rintro e w1 ⟨rfl, b1⟩
  have C1 := Lib.hid (C0.out.on b1)
  have N1 := Lib.hid (hN.out.on b1)
  have B1 := Lib.hid (bA.out.trans (b1.mono bA.out.size))
  clear x0 x1 x2 x3 x4 x5 cc b1
  cases at' with
  | none =>
    have hr : Hid (Q = ⟨#[97, 108, 116, 101, 114, 110, 97, 116, 101]⟩) := Lib.hid (bytes_eq hq.out)
    rw [show atB none = false from rfl]
    go_wp2_with fail
    go_ret
    exact ⟨ret_str hr.out.symm, B1.out⟩
  | some t =>
    have hr : Hid (Q = atA (some t)) := Lib.hid (bytes_eq (by rw [hq.out, atA_list]; rfl))
    rw [show atB (some t) = true from rfl]
    go_wp2_with fail
    go_ret
    exact ⟨ret_str hr.out.symm, B1.out⟩
theorem mpE_type (t : List UInt8) (s : ByteArray) (hs : s.data.toList = t) : (mpE s = 0 ↔ (Am.onD.type t).isSome = true) := by
  unfold mpE
  rw [hs]
  show _ ↔ ((Md.parse t).map _).isSome = true
  rw [Option.isSome_map]
  cases (Md.parse t).isSome <;> simp
def Am.tyOk (a : Option (List UInt8)) : Bool := match a with
  | none => true
  | some t => (Am.onD.type t).isSome
def Am.hrefOk (a : Option (List UInt8)) : Bool := match a with
  | none => false
  | some h => Am.onD.iri h false
theorem Am.link_is (n : Gv.Node) : Am.link Am.onD n = (Am.hrefOk (Am.attr n (Am.lit "href")) && Am.tyOk (Am.attr n (Am.lit "type"))) := rfl
theorem Am.tyOk_some (t : List UInt8) : Am.tyOk (some t) = (Am.onD.type t).isSome := rfl
theorem Am.hrefOk_some (t : List UInt8) : Am.hrefOk (some t) = Am.onD.iri t false := rfl
set_option maxRecDepth 100000 in
set_option maxHeartbeats 6400000 in
theorem nd_link (n : Gv.Node) {A : Array Value} (w : World) (h : Nd w A n) (hz : Gv.wt n ≤ 100000) :
    Calls Tryz.prog 43 #[.agg A] w fun e w' => e = .returned (.bool (Am.link Am.onD n)) ∧ Below w.heap.size w w' := by
  have hq := Am.link_is n
  rw [am_lit_href, am_lit_type] at hq
  generalize Am.link Am.onD n = Q at *
  replace hq := Lib.hid hq
  have kA := Lib.hid (fun W A (hW : Nd W A n) => nd_attr n ⟨#[104, 114, 101, 102]⟩ W hW)
  have kB := Lib.hid (fun W A (hW : Nd W A n) => nd_attr n ⟨#[116, 121, 112, 101]⟩ W hW)
  rw [show (⟨#[104, 114, 101, 102]⟩ : ByteArray).data.toList = [104, 114, 101, 102] from rfl] at kA
  rw [show (⟨#[116, 121, 112, 101]⟩ : ByteArray).data.toList = [116, 121, 112, 101] from rfl] at kB
  have z1 := atA_wt n [104, 114, 101, 102]
  have z2 := atA_wt n [116, 121, 112, 101]
  generalize Am.attr n [104, 114, 101, 102] = at1 at *
  generalize Am.attr n [116, 121, 112, 101] = at2 at *
  have kI := Lib.hid (fun W => nd_iri (atA at1) false W (by omega))
  have kM := Lib.hid (fun W => refMParse_any (atA at2) W (by omega))
  have hi2 : Hid (∀ h, at1 = some h → Am.hrefOk at1 = Am.onD.iri (atA at1).data.toList false) := Lib.hid (fun h e => by rw [e, Am.hrefOk_some, atA_list])
  have hi1 : Hid (at1 = none → Am.hrefOk at1 = false) := Lib.hid (fun e => by rw [e]; rfl)
  have hm2 : Hid (∀ t, at2 = some t → (mpE (atA at2) = 0 ↔ Am.tyOk at2 = true)) := Lib.hid (fun t e => by rw [e, Am.tyOk_some]; exact mpE_type t (atA (some t)) (atA_list t))
  have hm1 : Hid (at2 = none → Am.tyOk at2 = true) := Lib.hid (fun e => by rw [e]; rfl)
  clear z1 z2
  generalize Am.onD.iri (atA at1).data.toList false = ii at *
  generalize Am.hrefOk at1 = ho at *
  generalize Am.tyOk at2 = ty at *
  generalize atA at1 = hA1 at *
  generalize mpM (atA at2) = mm at *
  generalize mpE (atA at2) = me at *
  generalize atA at2 = hA2 at *
  obtain ⟨S, k, sp, nm, d, as', kids, ao, bo, ca, cb, hn, rfl, ha, hK, h1, h2⟩ := h.form
  have bA := (Below.refl w.heap.size w).alloc (Nat.le_refl _) (.cells #[.int .i64 k, .string sp, .string nm, .slice ao as'.length ca, .slice bo kids.length cb, .string d] 25)
  have hN := Lib.hid (h.on bA)
  have C0 := Lib.hid (Cells.new w 25 #[.int .i64 k, .string sp, .string nm, .slice ao as'.length ca, .slice bo kids.length cb, .string d])
  replace bA := Lib.hid bA
  clear h ha hK h1 h2 hn
  go_enter Tryz.func43, Tryz.ntmps43
  go_upto_region 1 with fail
  generalize w.alloc (.cells #[.int .i64 k, .string sp, .string nm, .slice ao as'.length ca, .slice bo kids.length cb, .string d] 25) = wA at *
  obtain ⟨x0, x1, x2, x3, x4, x5⟩ := node_open (show Cells _ _ _ (nodeArr k sp nm (.slice ao as'.length ca) (.slice bo kids.length cb) d) from C0.out)
  have cc := Lib.hid (kA.out wA _ hN.out)
  go_wp2_with fail
  (with_reducible refine (cc.out).mono ?_); rintro e w1 ⟨rfl, b1⟩
  have C1 := Lib.hid (C0.out.on b1)
  have N1 := Lib.hid (hN.out.on b1)
  have B1 := Lib.hid (bA.out.trans (b1.mono bA.out.size))
  clear x0 x1 x2 x3 x4 x5 cc b1
  obtain ⟨x0, x1, x2, x3, x4, x5⟩ := node_open (show Cells _ _ _ (nodeArr k sp nm (.slice ao as'.length ca) (.slice bo kids.length cb) d) from C1.out)
  have cc := Lib.hid (kB.out w1 _ N1.out)
  go_wp2_with fail
  (with_reducible refine (cc.out).mono ?_); rintro e w2 ⟨rfl, b2⟩
  have C2 := Lib.hid (C1.out.on b2)
  have N2 := Lib.hid (N1.out.on b2)
  have B2 := Lib.hid (B1.out.trans (b2.mono B1.out.size))
  clear x0 x1 x2 x3 x4 x5 cc b2
  go_wp2_with fail
  (with_reducible refine (kM.out _).mono ?_); rintro e w3 ⟨v, rfl, hv, b3⟩
  obtain ⟨vo, vc, rfl, -⟩ := pairs_of_owns hv
  have bx := (b3.trans (((Below.refl w3.heap.size w3).alloc (Nat.le_refl _) (.cells #[.string mm.ty, .string mm.sub, .slice vo mm.params.length vc] 93)).mono b3.size))
  have B3 := Lib.hid (B2.out.trans (bx.mono B2.out.size))
  clear b3 bx hv
  go_upto_region 4 with fail
  generalize w3.alloc (.cells #[.string mm.ty, .string mm.sub, .slice vo mm.params.length vc] 93) = w4 at *
  cases at1 with
  | none =>
    have hr : Hid (Q = false) := Lib.hid (by rw [hq.out, hi1.out rfl]; rfl)
    rw [show atB none = false from rfl]
    go_wp2_with fail
    go_ret
    exact ⟨ret_bool hr.out.symm, B3.out⟩
  | some h =>
    have hq2 : Hid (Q = (ii && ty)) := Lib.hid (by rw [hq.out, hi2.out h rfl])
    clear hq hi1 hi2
    rw [show atB (some h) = true from rfl]
    go_wp2_with fail
    (with_reducible refine (kI.out _).mono ?_); rintro e w5 ⟨rfl, b5⟩
    have B5 := Lib.hid (B3.out.trans (b5.mono B3.out.size))
    clear b5
    cases ii with
    | false =>
      have hr : Hid (Q = false) := Lib.hid (by rw [hq2.out]; rfl)
      go_wp2_with fail
      go_ret
      exact ⟨ret_bool hr.out.symm, B5.out⟩
    | true =>
      rw [Bool.true_and] at hq2
      cases at2 with
      | none =>
        have hr : Hid (Q = true) := Lib.hid (by rw [hq2.out, hm1.out rfl])
        rw [show atB none = false from rfl]
        go_wp2_with fail
        go_ret
        exact ⟨ret_bool hr.out.symm, B5.out⟩
      | some t =>
        have hm := hm2.out t rfl
        rw [show atB (some t) = true from rfl]
        clear hm1 hm2
        by_cases h0 : me = 0
        · have hr : Hid (Q = true) := Lib.hid (by rw [hq2.out, hm.1 h0])
          subst h0
          clear hm
          go_wp2_with fail
          go_ret
          exact ⟨ret_bool hr.out.symm, B5.out⟩
        · have hr : Hid (Q = false) := Lib.hid (by rw [hq2.out, ← Bool.not_eq_true]; exact fun e => h0 (hm.2 e))
          have e0 : (me == 0) = false := beq_false_of_ne h0
          clear hm
          go_wp2_with fail
          go_ret
          exact ⟨ret_bool hr.out.symm, B5.out⟩
end Go.Proofs.YtbaclacfadkjdaaGreatDoor
namespace Go.Proofs.YtbaclacfadkjdaaGreatDoor
open Go.RowKit
theorem same_strA {a b : ByteArray} (h : a = b) : (a.toList == b.toList) = true := by subst h; exact beq_self_eq_true _
theorem not_strA {a b : ByteArray} (h : ¬ a = b) : (a.toList == b.toList) = false := by
  rw [ByteArray.toList_eq, ByteArray.toList_eq]; exact beq_false_of_ne (fun e => h (bytes_eq e))
theorem loA_iff {a b : ByteArray} : loA a = loA b ↔ Md.lower a.data.toList = Md.lower b.data.toList := by
  constructor
  · intro h; rw [← loA_list, ← loA_list, h]
  · intro h; apply bytes_eq; rw [loA_list, loA_list, h]
theorem low_pair (x y : Option (List UInt8)) : decide (x.map Am.onD.low = y.map Am.onD.low) = ((atB x == atB y) && decide (loA (atA x) = loA (atA y))) := by
  have key : ∀ a b : List UInt8, loA (atA (some a)) = loA (atA (some b)) ↔ Md.lower a = Md.lower b := fun a b => by
    rw [loA_iff, atA_list, atA_list]
  cases x with
  | none =>
    cases y with
    | none => rfl
    | some b => rfl
  | some a =>
    cases y with
    | none => rfl
    | some b =>
      show decide (some (Md.lower a) = some (Md.lower b)) = (true && decide (loA (atA (some a)) = loA (atA (some b))))
      rw [Bool.true_and, Bool.eq_iff_iff, decide_eq_true_eq, decide_eq_true_eq, key, Option.some.injEq]
theorem Am.alike_is (a b : Gv.Node) : Am.alike Am.onD a b = (decide (Am.rel a = Am.lit "alternate") && decide (Am.rel b = Am.lit "alternate") && decide ((Am.attr a (Am.lit "type")).map Am.onD.low = (Am.attr b (Am.lit "type")).map Am.onD.low) && decide ((Am.attr a (Am.lit "hreflang")).map Am.onD.low = (Am.attr b (Am.lit "hreflang")).map Am.onD.low)) := rfl
set_option maxRecDepth 100000 in
set_option maxHeartbeats 6400000 in
theorem nd_alike (n m : Gv.Node) {A A' : Array Value} (w : World) (h : Nd w A n) (h' : Nd w A' m) (hz : Gv.wt n ≤ 100000) (hz' : Gv.wt m ≤ 100000) :
    Calls Tryz.prog 24 #[.agg A, .agg A'] w fun e w' => e = .returned (.bool (Am.alike Am.onD n m)) ∧ Below w.heap.size w w' := by
  have hq := Am.alike_is n m
  rw [low_pair, low_pair, ← rlS_list, ← rlS_list, am_lit_alternate, am_lit_type, am_lit_hreflang] at hq
  generalize Am.alike Am.onD n m = Q at *
  replace hq := Lib.hid hq
  have kA := Lib.hid (fun W A (hW : Nd W A n) => nd_attr n ⟨#[116, 121, 112, 101]⟩ W hW)
  rw [show (⟨#[116, 121, 112, 101]⟩ : ByteArray).data.toList = [116, 121, 112, 101] from rfl] at kA
  have kB := Lib.hid (fun W A (hW : Nd W A m) => nd_attr m ⟨#[116, 121, 112, 101]⟩ W hW)
  rw [show (⟨#[116, 121, 112, 101]⟩ : ByteArray).data.toList = [116, 121, 112, 101] from rfl] at kB
  have kC := Lib.hid (fun W A (hW : Nd W A n) => nd_attr n ⟨#[104, 114, 101, 102, 108, 97, 110, 103]⟩ W hW)
  rw [show (⟨#[104, 114, 101, 102, 108, 97, 110, 103]⟩ : ByteArray).data.toList = [104, 114, 101, 102, 108, 97, 110, 103] from rfl] at kC
  have kD := Lib.hid (fun W A (hW : Nd W A m) => nd_attr m ⟨#[104, 114, 101, 102, 108, 97, 110, 103]⟩ W hW)
  rw [show (⟨#[104, 114, 101, 102, 108, 97, 110, 103]⟩ : ByteArray).data.toList = [104, 114, 101, 102, 108, 97, 110, 103] from rfl] at kD
  have kE := Lib.hid (fun W A (hW : Nd W A n) => nd_rel n W hW)
  have kF := Lib.hid (fun W A (hW : Nd W A m) => nd_rel m W hW)
  have z1 := atA_wt n [116, 121, 112, 101]
  have z2 := atA_wt m [116, 121, 112, 101]
  have z3 := atA_wt n [104, 114, 101, 102, 108, 97, 110, 103]
  have z4 := atA_wt m [104, 114, 101, 102, 108, 97, 110, 103]
  generalize Am.attr n [116, 121, 112, 101] = at1 at *
  generalize Am.attr m [116, 121, 112, 101] = at2 at *
  generalize Am.attr n [104, 114, 101, 102, 108, 97, 110, 103] = at3 at *
  generalize Am.attr m [104, 114, 101, 102, 108, 97, 110, 103] = at4 at *
  have l1 := Lib.hid (fun W => refLower_any (atA at1) W (by omega))
  have l2 := Lib.hid (fun W => refLower_any (atA at2) W (by omega))
  have l3 := Lib.hid (fun W => refLower_any (atA at3) W (by omega))
  have l4 := Lib.hid (fun W => refLower_any (atA at4) W (by omega))
  generalize rlS n = r1 at *
  generalize rlS m = r2 at *
  obtain ⟨S, k, sp, nm, d, as', kids, ao, bo, ca, cb, hn, rfl, -, -, -, -⟩ := h.form
  obtain ⟨S2, k2, sp2, nm2, d2, as2, kids2, ao2, bo2, ca2, cb2, hn2, rfl, -, -, -, -⟩ := h'.form
  have b1 := (Below.refl w.heap.size w).alloc (Nat.le_refl _) (.cells #[.int .i64 k, .string sp, .string nm, .slice ao as'.length ca, .slice bo kids.length cb, .string d] 25)
  have b2 := (Below.refl (w.alloc (.cells #[.int .i64 k, .string sp, .string nm, .slice ao as'.length ca, .slice bo kids.length cb, .string d] 25)).heap.size (w.alloc (.cells #[.int .i64 k, .string sp, .string nm, .slice ao as'.length ca, .slice bo kids.length cb, .string d] 25))).alloc (Nat.le_refl _) (.cells #[.int .i64 k2, .string sp2, .string nm2, .slice ao2 as2.length ca2, .slice bo2 kids2.length cb2, .string d2] 25)
  have B0 := Lib.hid (b1.trans (b2.mono b1.size))
  have N0 := Lib.hid ((h.on b1).on b2)
  have M0 := Lib.hid ((h'.on b1).on b2)
  have C0 := Lib.hid ((Cells.new w 25 #[.int .i64 k, .string sp, .string nm, .slice ao as'.length ca, .slice bo kids.length cb, .string d]).on b2)
  have D0 := Cells.new (w.alloc (.cells #[.int .i64 k, .string sp, .string nm, .slice ao as'.length ca, .slice bo kids.length cb, .string d] 25)) 25 #[.int .i64 k2, .string sp2, .string nm2, .slice ao2 as2.length ca2, .slice bo2 kids2.length cb2, .string d2]
  rw [World.size_alloc] at D0
  replace D0 := Lib.hid D0
  clear b1 b2 h h' hn hn2 z1 z2 z3 z4
  go_enter Tryz.func24, Tryz.ntmps24
  go_upto_region 1 with fail
  generalize (w.alloc (.cells #[.int .i64 k, .string sp, .string nm, .slice ao as'.length ca, .slice bo kids.length cb, .string d] 25)).alloc (.cells #[.int .i64 k2, .string sp2, .string nm2, .slice ao2 as2.length ca2, .slice bo2 kids2.length cb2, .string d2] 25) = w0 at *
  obtain ⟨x0, x1, x2, x3, x4, x5⟩ := node_open (show Cells _ _ _ (nodeArr k sp nm (.slice ao as'.length ca) (.slice bo kids.length cb) d) from C0.out)
  have cc := Lib.hid (kA.out w0 _ N0.out)
  go_wp2_with fail
  (with_reducible refine (cc.out).mono ?_); rintro e w1 ⟨rfl, b1⟩
  have C1 := Lib.hid (C0.out.on b1)
  have D1 := Lib.hid (D0.out.on b1)
  have N1 := Lib.hid (N0.out.on b1)
  have M1 := Lib.hid (M0.out.on b1)
  have B1 := Lib.hid (B0.out.trans (b1.mono B0.out.size))
  clear C0 D0 N0 M0 B0
  clear x0 x1 x2 x3 x4 x5 cc b1
  obtain ⟨x0, x1, x2, x3, x4, x5⟩ := node_open (show Cells _ _ _ (nodeArr k2 sp2 nm2 (.slice ao2 as2.length ca2) (.slice bo2 kids2.length cb2) d2) from D1.out)
  have cc := Lib.hid (kB.out w1 _ M1.out)
  go_wp2_with fail
  (with_reducible refine (cc.out).mono ?_); rintro e w2 ⟨rfl, b2⟩
  have C2 := Lib.hid (C1.out.on b2)
  have D2 := Lib.hid (D1.out.on b2)
  have N2 := Lib.hid (N1.out.on b2)
  have M2 := Lib.hid (M1.out.on b2)
  have B2 := Lib.hid (B1.out.trans (b2.mono B1.out.size))
  clear C1 D1 N1 M1 B1
  clear x0 x1 x2 x3 x4 x5 cc b2
  obtain ⟨x0, x1, x2, x3, x4, x5⟩ := node_open (show Cells _ _ _ (nodeArr k sp nm (.slice ao as'.length ca) (.slice bo kids.length cb) d) from C2.out)
  have cc := Lib.hid (kC.out w2 _ N2.out)
  go_wp2_with fail
  (with_reducible refine (cc.out).mono ?_); rintro e w3 ⟨rfl, b3⟩
  have C3 := Lib.hid (C2.out.on b3)
  have D3 := Lib.hid (D2.out.on b3)
  have N3 := Lib.hid (N2.out.on b3)
  have M3 := Lib.hid (M2.out.on b3)
  have B3 := Lib.hid (B2.out.trans (b3.mono B2.out.size))
  clear C2 D2 N2 M2 B2
  clear x0 x1 x2 x3 x4 x5 cc b3
  obtain ⟨x0, x1, x2, x3, x4, x5⟩ := node_open (show Cells _ _ _ (nodeArr k2 sp2 nm2 (.slice ao2 as2.length ca2) (.slice bo2 kids2.length cb2) d2) from D3.out)
  have cc := Lib.hid (kD.out w3 _ M3.out)
  go_wp2_with fail
  (with_reducible refine (cc.out).mono ?_); rintro e w4 ⟨rfl, b4⟩
  have C4 := Lib.hid (C3.out.on b4)
  have D4 := Lib.hid (D3.out.on b4)
  have N4 := Lib.hid (N3.out.on b4)
  have M4 := Lib.hid (M3.out.on b4)
  have B4 := Lib.hid (B3.out.trans (b4.mono B3.out.size))
  clear C3 D3 N3 M3 B3
  clear x0 x1 x2 x3 x4 x5 cc b4
  clear kA kB kC kD
  obtain ⟨x0, x1, x2, x3, x4, x5⟩ := node_open (show Cells _ _ _ (nodeArr k sp nm (.slice ao as'.length ca) (.slice bo kids.length cb) d) from C4.out)
  have cc := Lib.hid (kE.out w4 _ N4.out)
  go_wp2_with fail
  (with_reducible refine (cc.out).mono ?_); rintro e w5 ⟨rfl, b5⟩
  have C5 := Lib.hid (C4.out.on b5)
  have D5 := Lib.hid (D4.out.on b5)
  have N5 := Lib.hid (N4.out.on b5)
  have M5 := Lib.hid (M4.out.on b5)
  have B5 := Lib.hid (B4.out.trans (b5.mono B4.out.size))
  clear C4 D4 N4 M4 B4
  clear x0 x1 x2 x3 x4 x5 cc b5
  by_cases e1 : r1.data.toList = [97, 108, 116, 101, 114, 110, 97, 116, 101]
  case neg =>
    have s1 := str_ne e1
    have hr : Hid (Q = false) := Lib.hid (by rw [hq.out, decide_eq_false e1]; rfl)
    go_wp2_with fail
    go_ret
    exact ⟨ret_bool hr.out.symm, B5.out⟩
  have s1 := str_is e1
  replace hq : Hid (Q = _) := Lib.hid (hq.out.trans (by rw [decide_eq_true e1, Bool.true_and]))
  replace e1 := Lib.hid e1
  obtain ⟨x0, x1, x2, x3, x4, x5⟩ := node_open (show Cells _ _ _ (nodeArr k2 sp2 nm2 (.slice ao2 as2.length ca2) (.slice bo2 kids2.length cb2) d2) from D5.out)
  have cc := Lib.hid (kF.out w5 _ M5.out)
  go_wp2_with fail
  (with_reducible refine (cc.out).mono ?_); rintro e w6 ⟨rfl, b6⟩
  have C6 := Lib.hid (C5.out.on b6)
  have D6 := Lib.hid (D5.out.on b6)
  have N6 := Lib.hid (N5.out.on b6)
  have M6 := Lib.hid (M5.out.on b6)
  have B6 := Lib.hid (B5.out.trans (b6.mono B5.out.size))
  clear C5 D5 N5 M5 B5
  clear x0 x1 x2 x3 x4 x5 cc b6
  by_cases e2 : r2.data.toList = [97, 108, 116, 101, 114, 110, 97, 116, 101]
  case neg =>
    have s2 := str_ne e2
    have hr : Hid (Q = false) := Lib.hid (by rw [hq.out, decide_eq_false e2]; rfl)
    go_wp2_with fail
    go_ret
    exact ⟨ret_bool hr.out.symm, B6.out⟩
  have s2 := str_is e2
  replace hq : Hid (Q = _) := Lib.hid (hq.out.trans (by rw [decide_eq_true e2, Bool.true_and]))
  replace e2 := Lib.hid e2
  clear kE kF
  generalize atB at1 = p1 at *
  generalize atB at2 = p2 at *
  generalize atB at3 = p3 at *
  generalize atB at4 = p4 at *
  generalize loA (atA at1) = q1 at *
  generalize loA (atA at2) = q2 at *
  generalize loA (atA at3) = q3 at *
  generalize loA (atA at4) = q4 at *
  generalize atA at1 = u1 at *
  generalize atA at2 = u2 at *
  generalize atA at3 = u3 at *
  generalize atA at4 = u4 at *
  have c12 : ∀ x y : Bool, (x == y) = true → x = y := by decide
  cases e3 : (p1 == p2)
  case false =>
    have hr : Hid (Q = false) := Lib.hid (by rw [hq.out, e3]; rfl)
    clear l1 l2 l3 l4 c12
    cases p1 <;> cases p2 <;> first | (exact absurd e3 (by decide)) | skip
    all_goals
      clear e3 hq
      go_wp2_with fail
      go_ret
      exact ⟨ret_bool hr.out.symm, B6.out⟩
  obtain rfl := c12 _ _ e3
  replace hq : Hid (Q = _) := Lib.hid (hq.out.trans (by rw [e3, Bool.true_and]))
  cases e4 : (p3 == p4)
  case false =>
    have hr : Hid (Q = false) := Lib.hid (by rw [hq.out, e4, Bool.false_and, Bool.and_false])
    clear l1 l2 l3 l4 c12 e3
    cases p1 <;> cases p3 <;> cases p4 <;> first | (exact absurd e4 (by decide)) | skip
    all_goals
      clear e4 hq
      go_wp2_with fail
      go_ret
      exact ⟨ret_bool hr.out.symm, B6.out⟩
  obtain rfl := c12 _ _ e4
  replace hq : Hid (Q = (decide (q1 = q2) && decide (q3 = q4))) := Lib.hid (hq.out.trans (by rw [e4, Bool.true_and]))
  replace e3 := Lib.hid e3
  replace e4 := Lib.hid e4
  cases p1 <;> cases p3
  all_goals
    go_wp2_with fail
    (with_reducible refine (l1.out _).mono ?_); rintro e w7 ⟨rfl, b7⟩
    have B7 := Lib.hid (B6.out.trans (b7.mono B6.out.size))
    go_wp2_with fail
    (with_reducible refine (l2.out _).mono ?_); rintro e w8 ⟨rfl, b8⟩
    have B8 := Lib.hid (B7.out.trans (b8.mono B7.out.size))
    clear b7 b8
    by_cases e5 : q1 = q2
    · have s5 := same_strA e5
      have hq3 : Hid (Q = decide (q3 = q4)) := Lib.hid (by rw [hq.out, decide_eq_true e5, Bool.true_and])
      replace e5 := Lib.hid e5
      go_wp2_with fail
      (with_reducible refine (l3.out _).mono ?_); rintro e w9 ⟨rfl, b9⟩
      have B9 := Lib.hid (B8.out.trans (b9.mono B8.out.size))
      go_wp2_with fail
      (with_reducible refine (l4.out _).mono ?_); rintro e w10 ⟨rfl, b10⟩
      have B10 := Lib.hid (B9.out.trans (b10.mono B9.out.size))
      clear b9 b10
      by_cases e6 : q3 = q4
      · have s6 := same_strA e6
        have hr : Hid (Q = true) := Lib.hid (by rw [hq3.out]; exact decide_eq_true e6)
        replace e6 := Lib.hid e6
        go_wp2_with fail
        go_ret
        exact ⟨ret_bool hr.out.symm, B10.out⟩
      · have s6 := not_strA e6
        have hr : Hid (Q = false) := Lib.hid (by rw [hq3.out]; exact decide_eq_false e6)
        replace e6 := Lib.hid e6
        go_wp2_with fail
        go_ret
        exact ⟨ret_bool hr.out.symm, B10.out⟩
    · have s5 := not_strA e5
      have hr : Hid (Q = false) := Lib.hid (by rw [hq.out, decide_eq_false e5]; rfl)
      replace e5 := Lib.hid e5
      go_wp2_with fail
      go_ret
      exact ⟨ret_bool hr.out.symm, B8.out⟩
end Go.Proofs.YtbaclacfadkjdaaGreatDoor
