/-
  What the document's own word of contents comes to.
-/
import Derived.Test.YtbaclacfadkjdaaGreatDoorG22
namespace Go.Proofs.YtbaclacfadkjdaaGreatDoor
open Go.RowKit
theorem am_lit_multipart : Am.lit "multipart" = [109, 117, 108, 116, 105, 112, 97, 114, 116] := by decide +kernel
theorem am_lit_message : Am.lit "message" = [109, 101, 115, 115, 97, 103, 101] := by decide +kernel
def Am.srcTail (a : Option (List UInt8)) : Bool := match a with
  | none => true
  | some t => !Am.named (some t) && (Am.onD.type t).isSome
def Am.typeTail (a : Option (List UInt8)) : Bool := match a.bind Am.onD.type with
  | none => false
  | some f => decide (f ≠ Am.lit "multipart" ∧ f ≠ Am.lit "message")
theorem Am.content_none {n : Gv.Node} (h : Am.attr n (Am.lit "src") = none) : Am.content Am.onD n = if Am.named (Am.attr n (Am.lit "type")) = true then Am.textOk n else Am.typeTail (Am.attr n (Am.lit "type")) := by
  unfold Am.content
  rw [h]
  rfl
theorem Am.content_some {n : Gv.Node} {s : List UInt8} (h : Am.attr n (Am.lit "src") = some s) : Am.content Am.onD n = (Am.onD.iri s false && decide ((Am.kidsOf n).length = 0) && Am.srcTail (Am.attr n (Am.lit "type"))) := by
  unfold Am.content
  rw [h]
  rfl
theorem named_yes {t : List UInt8} (h : t = [116, 101, 120, 116] ∨ t = [104, 116, 109, 108] ∨ t = [120, 104, 116, 109, 108]) : Am.named (some t) = true := by
  unfold Am.named
  rw [am_lit_text, am_lit_html, am_lit_xhtml]
  exact decide_eq_true h
theorem named_no {t : List UInt8} (h1 : ¬ t = [116, 101, 120, 116]) (h2 : ¬ t = [104, 116, 109, 108]) (h3 : ¬ t = [120, 104, 116, 109, 108]) : Am.named (some t) = false := by
  unfold Am.named
  rw [am_lit_text, am_lit_html, am_lit_xhtml]
  exact decide_eq_false (by rintro (e | e | e); exact h1 e; exact h2 e; exact h3 e)
theorem srcTail_yes {t : List UInt8} (h : Am.named (some t) = true) : Am.srcTail (some t) = false := by
  show (!Am.named (some t) && _) = false
  rw [h]; rfl
theorem srcTail_no {t : List UInt8} (h : Am.named (some t) = false) : Am.srcTail (some t) = (Am.onD.type t).isSome := by
  show (!Am.named (some t) && _) = _
  rw [h]; rfl
theorem typeTail_bad {t : List UInt8} {s : ByteArray} (hs : s.data.toList = t) (h : ¬ mpE s = 0) : Am.typeTail (some t) = false := by
  have : Am.onD.type t = none := by
    cases hc : Am.onD.type t with
    | none => rfl
    | some f => exact absurd ((mpE_type t s hs).2 (by rw [hc]; rfl)) h
  unfold Am.typeTail
  rw [Option.bind_some, this]
theorem typeTail_good {t : List UInt8} {s : ByteArray} (hs : s.data.toList = t) (h : mpE s = 0) : Am.typeTail (some t) = decide ((mpM s).ty.data.toList ≠ [109, 117, 108, 116, 105, 112, 97, 114, 116] ∧ (mpM s).ty.data.toList ≠ [109, 101, 115, 115, 97, 103, 101]) := by
  have h1 := (mpE_type t s hs).1 h
  have h2 : Am.onD.type t = some (mpM s).ty.data.toList := by
    cases hc : Md.parse t with
    | none =>
      have : (Am.onD.type t).isSome = false := by
        show ((Md.parse t).map _).isSome = false
        rw [hc]; rfl
      rw [this] at h1; cases h1
    | some m =>
      have e := (mp_some (s := s) (by rw [hs]; exact hc)).1
      rw [e]
      show (Md.parse t).map _ = _
      rw [hc]; rfl
  unfold Am.typeTail
  rw [Option.bind_some, h2, am_lit_multipart, am_lit_message]
set_option maxRecDepth 100000 in
set_option maxHeartbeats 6400000 in
theorem nd_content (n : Gv.Node) {A : Array Value} (w : World) (h : Nd w A n) (hz : Gv.wt n ≤ 100000) :
    Calls Tryz.prog 45 #[.agg A] w fun e w' => e = .returned (.bool (Am.content Am.onD n)) ∧ Below w.heap.size w w' := by
  have hn1 := @Am.content_none n
  have hn2 := @Am.content_some n
  rw [am_lit_src, am_lit_type] at hn1 hn2
  generalize Am.content Am.onD n = Q at *
  have kA := Lib.hid (fun W A (hW : Nd W A n) => nd_attr n ⟨#[116, 121, 112, 101]⟩ W hW)
  have kB := Lib.hid (fun W A (hW : Nd W A n) => nd_attr n ⟨#[115, 114, 99]⟩ W hW)
  have kX := Lib.hid (fun W A (hW : Nd W A n) => nd_textOk n W hW (by omega))
  rw [show (⟨#[116, 121, 112, 101]⟩ : ByteArray).data.toList = [116, 121, 112, 101] from rfl] at kA
  rw [show (⟨#[115, 114, 99]⟩ : ByteArray).data.toList = [115, 114, 99] from rfl] at kB
  have z1 := atA_wt n [116, 121, 112, 101]
  have z2 := atA_wt n [115, 114, 99]
  generalize Am.attr n [116, 121, 112, 101] = at1 at *
  generalize Am.attr n [115, 114, 99] = at2 at *
  have kI := Lib.hid (fun W => nd_iri (atA at2) false W (by omega))
  have kM := Lib.hid (fun W => refMParse_any (atA at1) W (by omega))
  have hi2 : Hid (∀ s, at2 = some s → Q = (Am.onD.iri (atA at2).data.toList false && decide ((Am.kidsOf n).length = 0) && Am.srcTail at1)) := Lib.hid (fun s e => by rw [hn2 e, e, atA_list])
  replace hn1 := Lib.hid hn1
  have ht1 : Hid (∀ t, at1 = some t → Am.named at1 = false → (mpE (atA at1) = 0 ↔ Am.srcTail at1 = true)) := Lib.hid (fun t e h => by rw [e] at h ⊢; rw [srcTail_no h]; exact mpE_type t (atA (some t)) (atA_list t))
  have ht2 : Hid (∀ t, at1 = some t → ¬ mpE (atA at1) = 0 → Am.typeTail at1 = false) := Lib.hid (fun t e h => by rw [e] at h ⊢; exact typeTail_bad (atA_list t) h)
  have ht3 : Hid (∀ t, at1 = some t → mpE (atA at1) = 0 → Am.typeTail at1 = decide ((mpM (atA at1)).ty.data.toList ≠ [109, 117, 108, 116, 105, 112, 97, 114, 116] ∧ (mpM (atA at1)).ty.data.toList ≠ [109, 101, 115, 115, 97, 103, 101])) := Lib.hid (fun t e h => by rw [e] at h ⊢; exact typeTail_good (atA_list t) h)
  clear hn2 z1 z2
  generalize Am.onD.iri (atA at2).data.toList false = ii at *
  generalize Am.textOk n = tk at *
  have hat : Hid (∀ t, at1 = some t → (atA at1).data.toList = t) := Lib.hid (fun t e => by rw [e, atA_list])
  generalize mpM (atA at1) = mm at *
  generalize mpE (atA at1) = me at *
  generalize atA at1 = T at *
  generalize atA at2 = U at *
  obtain ⟨S, k, sp, nm, d, as', kids, ao, bo, ca, cb, hn, rfl, ha, hK, h1, h2⟩ := h.form
  have bA := (Below.refl w.heap.size w).alloc (Nat.le_refl _) (.cells #[.int .i64 k, .string sp, .string nm, .slice ao as'.length ca, .slice bo kids.length cb, .string d] 25)
  have hN := Lib.hid (h.on bA)
  have C0 := Lib.hid (Cells.new w 25 #[.int .i64 k, .string sp, .string nm, .slice ao as'.length ca, .slice bo kids.length cb, .string d])
  replace bA := Lib.hid bA
  have hkl : (Am.kidsOf n).length = kids.length := by rw [hn]; rfl
  rw [hkl] at hi2
  clear hkl
  clear h ha hK h1 h2 hn
  go_enter Tryz.func45, Tryz.ntmps45
  go_upto_region 1 with fail
  generalize w.alloc (.cells #[.int .i64 k, .string sp, .string nm, .slice ao as'.length ca, .slice bo kids.length cb, .string d] 25) = wA at *
  obtain ⟨x0, x1, x2, x3, x4, x5⟩ := node_open (show Cells _ _ _ (nodeArr k sp nm (.slice ao as'.length ca) (.slice bo kids.length cb) d) from C0.out)
  have cc := Lib.hid (kA.out wA _ hN.out)
  go_wp2_with fail
  (with_reducible refine (cc.out).mono ?_); rintro e w1 ⟨rfl, b1⟩
  have C1 := Lib.hid (C0.out.on b1)
  have N1 := Lib.hid (hN.out.on b1)
  have B1 := Lib.hid (bA.out.trans (b1.mono bA.out.size))
  clear x0 x1 x2 x3 x4 x5 cc b1
  obtain ⟨x0, x1, x2, x3, x4, x5⟩ := node_open (show Cells _ _ _ (nodeArr k sp nm (.slice ao as'.length ca) (.slice bo kids.length cb) d) from C1.out)
  have cc := Lib.hid (kB.out w1 _ N1.out)
  go_wp2_with fail
  (with_reducible refine (cc.out).mono ?_); rintro e w2 ⟨rfl, b2⟩
  have C2 := Lib.hid (C1.out.on b2)
  have N2 := Lib.hid (N1.out.on b2)
  have B2 := Lib.hid (B1.out.trans (b2.mono B1.out.size))
  clear x0 x1 x2 x3 x4 x5 cc b2
  clear kA kB C0 C1 hN N1 bA B1
  go_wp2_with fail
  (with_reducible refine (kM.out _).mono ?_); rintro e w3 ⟨v, rfl, hv, b3⟩
  obtain ⟨vo, vc, rfl, -⟩ := pairs_of_owns hv
  have bx := (b3.trans (((Below.refl w3.heap.size w3).alloc (Nat.le_refl _) (.cells #[.string mm.ty, .string mm.sub, .slice vo mm.params.length vc] 93)).mono b3.size))
  have C3 := Lib.hid (C2.out.on bx)
  have N3 := Lib.hid (N2.out.on bx)
  have B3 := Lib.hid (B2.out.trans (bx.mono B2.out.size))
  have X3 := (Cells.new w3 93 #[.string mm.ty, .string mm.sub, .slice vo mm.params.length vc])
  clear b3 bx hv C2 N2 B2 kM
  go_upto_region 4 with fail
  generalize w3.alloc (.cells #[.string mm.ty, .string mm.sub, .slice vo mm.params.length vc] 93) = w4 at *
  have y0 := X3.cell (i := 0) rfl
  clear X3
  have hways : (at1 = none) ∨ (∃ t, at1 = some t ∧ T.data.toList = t ∧ t = [116, 101, 120, 116]) ∨ (∃ t, at1 = some t ∧ T.data.toList = t ∧ ¬ t = [116, 101, 120, 116] ∧ t = [104, 116, 109, 108]) ∨ (∃ t, at1 = some t ∧ T.data.toList = t ∧ ¬ t = [116, 101, 120, 116] ∧ ¬ t = [104, 116, 109, 108] ∧ t = [120, 104, 116, 109, 108]) ∨ (∃ t, at1 = some t ∧ T.data.toList = t ∧ ¬ t = [116, 101, 120, 116] ∧ ¬ t = [104, 116, 109, 108] ∧ ¬ t = [120, 104, 116, 109, 108]) := by
    cases at1 with
    | none => exact .inl rfl
    | some t =>
      have hT := hat.out t rfl
      by_cases t1 : t = [116, 101, 120, 116]
      · exact .inr (.inl ⟨t, rfl, hT, t1⟩)
      by_cases t2 : t = [104, 116, 109, 108]
      · exact .inr (.inr (.inl ⟨t, rfl, hT, t1, t2⟩))
      by_cases t3 : t = [120, 104, 116, 109, 108]
      · exact .inr (.inr (.inr (.inl ⟨t, rfl, hT, t1, t2, t3⟩)))
      exact .inr (.inr (.inr (.inr ⟨t, rfl, hT, t1, t2, t3⟩)))
  clear hat
  rcases hways with rfl | ⟨t, rfl, hT, t1⟩ | ⟨t, rfl, hT, t1, t2⟩ | ⟨t, rfl, hT, t1, t2, t3⟩ | ⟨t, rfl, hT, t1, t2, t3⟩
  · have hnm : Hid (Am.named none = true) := Lib.hid rfl
    have htl : Hid (Am.srcTail none = true) := Lib.hid rfl
    rw [show atB none = false from rfl]
    cases at2 with
    | none =>
      have hr : Hid (Q = tk) := Lib.hid ((hn1.out rfl).trans (if_pos hnm.out))
      rw [show atB none = false from rfl]
      clear y0
      obtain ⟨x0, x1, x2, x3, x4, x5⟩ := node_open (show Cells _ _ _ (nodeArr k sp nm (.slice ao as'.length ca) (.slice bo kids.length cb) d) from C3.out)
      have cc := Lib.hid (kX.out w4 _ N3.out)
      go_wp2_with fail
      (with_reducible refine (cc.out).mono ?_); rintro e w5 ⟨rfl, b5⟩
      have C5 := Lib.hid (C3.out.on b5)
      have N5 := Lib.hid (N3.out.on b5)
      have B5 := Lib.hid (B3.out.trans (b5.mono B3.out.size))
      clear x0 x1 x2 x3 x4 x5 cc b5
      go_wp2_with fail
      go_ret
      exact ⟨ret_bool hr.out.symm, B5.out⟩
    | some s =>
      have hq : Hid (Q = (ii && decide (kids.length = 0) && Am.srcTail none)) := Lib.hid (hi2.out s rfl)
      rw [show atB (some s) = true from rfl]
      clear y0
      obtain ⟨x0, x1, x2, x3, x4, x5⟩ := node_open (show Cells _ _ _ (nodeArr k sp nm (.slice ao as'.length ca) (.slice bo kids.length cb) d) from C3.out)
      clear x0 x1 x2 x3 x5
      go_wp2_with fail
      (with_reducible refine (kI.out _).mono ?_); rintro e w5 ⟨rfl, b5⟩
      have B5 := Lib.hid (B3.out.trans (b5.mono B3.out.size))
      have x4 := (b5.cell (World.block_lt_of_cell? w4 _ x4)).trans x4
      clear b5
      cases ii with
      | false =>
        have hr : Hid (Q = false) := Lib.hid (by rw [hq.out]; rfl)
        go_wp2_with fail
        go_ret
        exact ⟨ret_bool hr.out.symm, B5.out⟩
      | true =>
        by_cases hl0 : kids.length = 0
        case neg =>
          have hr : Hid (Q = false) := Lib.hid (by rw [hq.out, decide_eq_false hl0]; rfl)
          have e0 : ((kids.length : Int) == 0) = false := beq_false_of_ne (by omega)
          go_wp2_with fail
          go_ret
          exact ⟨ret_bool hr.out.symm, B5.out⟩
        have e0 : ((kids.length : Int) == 0) = true := by rw [beq_iff_eq]; omega
        have e0' : (kids.length : Int) = 0 := by omega
        have hr : Hid (Q = true) := Lib.hid (by rw [hq.out, decide_eq_true hl0, htl.out]; rfl)
        clear hl0
        go_wp2_with fail
        go_ret
        exact ⟨ret_bool hr.out.symm, B5.out⟩
  · have hnm : Hid (Am.named (some t) = true) := Lib.hid (named_yes (.inl t1))
    have htl : Hid (Am.srcTail (some t) = false) := Lib.hid (srcTail_yes hnm.out)
    rw [show atB (some t) = true from rfl]
    have s1 := lit_yes hT t1
    clear hT t1
    cases at2 with
    | none =>
      have hr : Hid (Q = tk) := Lib.hid ((hn1.out rfl).trans (if_pos hnm.out))
      rw [show atB none = false from rfl]
      clear y0
      obtain ⟨x0, x1, x2, x3, x4, x5⟩ := node_open (show Cells _ _ _ (nodeArr k sp nm (.slice ao as'.length ca) (.slice bo kids.length cb) d) from C3.out)
      have cc := Lib.hid (kX.out w4 _ N3.out)
      go_wp2_with fail
      (with_reducible refine (cc.out).mono ?_); rintro e w5 ⟨rfl, b5⟩
      have C5 := Lib.hid (C3.out.on b5)
      have N5 := Lib.hid (N3.out.on b5)
      have B5 := Lib.hid (B3.out.trans (b5.mono B3.out.size))
      clear x0 x1 x2 x3 x4 x5 cc b5
      go_wp2_with fail
      go_ret
      exact ⟨ret_bool hr.out.symm, B5.out⟩
    | some s =>
      have hq : Hid (Q = (ii && decide (kids.length = 0) && Am.srcTail (some t))) := Lib.hid (hi2.out s rfl)
      rw [show atB (some s) = true from rfl]
      clear y0
      obtain ⟨x0, x1, x2, x3, x4, x5⟩ := node_open (show Cells _ _ _ (nodeArr k sp nm (.slice ao as'.length ca) (.slice bo kids.length cb) d) from C3.out)
      clear x0 x1 x2 x3 x5
      go_wp2_with fail
      (with_reducible refine (kI.out _).mono ?_); rintro e w5 ⟨rfl, b5⟩
      have B5 := Lib.hid (B3.out.trans (b5.mono B3.out.size))
      have x4 := (b5.cell (World.block_lt_of_cell? w4 _ x4)).trans x4
      clear b5
      cases ii with
      | false =>
        have hr : Hid (Q = false) := Lib.hid (by rw [hq.out]; rfl)
        go_wp2_with fail
        go_ret
        exact ⟨ret_bool hr.out.symm, B5.out⟩
      | true =>
        by_cases hl0 : kids.length = 0
        case neg =>
          have hr : Hid (Q = false) := Lib.hid (by rw [hq.out, decide_eq_false hl0]; rfl)
          have e0 : ((kids.length : Int) == 0) = false := beq_false_of_ne (by omega)
          go_wp2_with fail
          go_ret
          exact ⟨ret_bool hr.out.symm, B5.out⟩
        have e0 : ((kids.length : Int) == 0) = true := by rw [beq_iff_eq]; omega
        have e0' : (kids.length : Int) = 0 := by omega
        have hr : Hid (Q = false) := Lib.hid (by rw [hq.out, decide_eq_true hl0, htl.out]; rfl)
        clear hl0
        go_wp2_with fail
        go_ret
        exact ⟨ret_bool hr.out.symm, B5.out⟩
  · have hnm : Hid (Am.named (some t) = true) := Lib.hid (named_yes (.inr (.inl t2)))
    have htl : Hid (Am.srcTail (some t) = false) := Lib.hid (srcTail_yes hnm.out)
    rw [show atB (some t) = true from rfl]
    have s1 := lit_no hT t1
    have s2 := lit_yes hT t2
    clear hT t1 t2
    cases at2 with
    | none =>
      have hr : Hid (Q = tk) := Lib.hid ((hn1.out rfl).trans (if_pos hnm.out))
      rw [show atB none = false from rfl]
      clear y0
      obtain ⟨x0, x1, x2, x3, x4, x5⟩ := node_open (show Cells _ _ _ (nodeArr k sp nm (.slice ao as'.length ca) (.slice bo kids.length cb) d) from C3.out)
      have cc := Lib.hid (kX.out w4 _ N3.out)
      go_wp2_with fail
      (with_reducible refine (cc.out).mono ?_); rintro e w5 ⟨rfl, b5⟩
      have C5 := Lib.hid (C3.out.on b5)
      have N5 := Lib.hid (N3.out.on b5)
      have B5 := Lib.hid (B3.out.trans (b5.mono B3.out.size))
      clear x0 x1 x2 x3 x4 x5 cc b5
      go_wp2_with fail
      go_ret
      exact ⟨ret_bool hr.out.symm, B5.out⟩
    | some s =>
      have hq : Hid (Q = (ii && decide (kids.length = 0) && Am.srcTail (some t))) := Lib.hid (hi2.out s rfl)
      rw [show atB (some s) = true from rfl]
      clear y0
      obtain ⟨x0, x1, x2, x3, x4, x5⟩ := node_open (show Cells _ _ _ (nodeArr k sp nm (.slice ao as'.length ca) (.slice bo kids.length cb) d) from C3.out)
      clear x0 x1 x2 x3 x5
      go_wp2_with fail
      (with_reducible refine (kI.out _).mono ?_); rintro e w5 ⟨rfl, b5⟩
      have B5 := Lib.hid (B3.out.trans (b5.mono B3.out.size))
      have x4 := (b5.cell (World.block_lt_of_cell? w4 _ x4)).trans x4
      clear b5
      cases ii with
      | false =>
        have hr : Hid (Q = false) := Lib.hid (by rw [hq.out]; rfl)
        go_wp2_with fail
        go_ret
        exact ⟨ret_bool hr.out.symm, B5.out⟩
      | true =>
        by_cases hl0 : kids.length = 0
        case neg =>
          have hr : Hid (Q = false) := Lib.hid (by rw [hq.out, decide_eq_false hl0]; rfl)
          have e0 : ((kids.length : Int) == 0) = false := beq_false_of_ne (by omega)
          go_wp2_with fail
          go_ret
          exact ⟨ret_bool hr.out.symm, B5.out⟩
        have e0 : ((kids.length : Int) == 0) = true := by rw [beq_iff_eq]; omega
        have e0' : (kids.length : Int) = 0 := by omega
        have hr : Hid (Q = false) := Lib.hid (by rw [hq.out, decide_eq_true hl0, htl.out]; rfl)
        clear hl0
        go_wp2_with fail
        go_ret
        exact ⟨ret_bool hr.out.symm, B5.out⟩
  · have hnm : Hid (Am.named (some t) = true) := Lib.hid (named_yes (.inr (.inr t3)))
    have htl : Hid (Am.srcTail (some t) = false) := Lib.hid (srcTail_yes hnm.out)
    rw [show atB (some t) = true from rfl]
    have s1 := lit_no hT t1
    have s2 := lit_no hT t2
    have s3 := lit_yes hT t3
    clear hT t1 t2 t3
    cases at2 with
    | none =>
      have hr : Hid (Q = tk) := Lib.hid ((hn1.out rfl).trans (if_pos hnm.out))
      rw [show atB none = false from rfl]
      clear y0
      obtain ⟨x0, x1, x2, x3, x4, x5⟩ := node_open (show Cells _ _ _ (nodeArr k sp nm (.slice ao as'.length ca) (.slice bo kids.length cb) d) from C3.out)
      have cc := Lib.hid (kX.out w4 _ N3.out)
      go_wp2_with fail
      (with_reducible refine (cc.out).mono ?_); rintro e w5 ⟨rfl, b5⟩
      have C5 := Lib.hid (C3.out.on b5)
      have N5 := Lib.hid (N3.out.on b5)
      have B5 := Lib.hid (B3.out.trans (b5.mono B3.out.size))
      clear x0 x1 x2 x3 x4 x5 cc b5
      go_wp2_with fail
      go_ret
      exact ⟨ret_bool hr.out.symm, B5.out⟩
    | some s =>
      have hq : Hid (Q = (ii && decide (kids.length = 0) && Am.srcTail (some t))) := Lib.hid (hi2.out s rfl)
      rw [show atB (some s) = true from rfl]
      clear y0
      obtain ⟨x0, x1, x2, x3, x4, x5⟩ := node_open (show Cells _ _ _ (nodeArr k sp nm (.slice ao as'.length ca) (.slice bo kids.length cb) d) from C3.out)
      clear x0 x1 x2 x3 x5
      go_wp2_with fail
      (with_reducible refine (kI.out _).mono ?_); rintro e w5 ⟨rfl, b5⟩
      have B5 := Lib.hid (B3.out.trans (b5.mono B3.out.size))
      have x4 := (b5.cell (World.block_lt_of_cell? w4 _ x4)).trans x4
      clear b5
      cases ii with
      | false =>
        have hr : Hid (Q = false) := Lib.hid (by rw [hq.out]; rfl)
        go_wp2_with fail
        go_ret
        exact ⟨ret_bool hr.out.symm, B5.out⟩
      | true =>
        by_cases hl0 : kids.length = 0
        case neg =>
          have hr : Hid (Q = false) := Lib.hid (by rw [hq.out, decide_eq_false hl0]; rfl)
          have e0 : ((kids.length : Int) == 0) = false := beq_false_of_ne (by omega)
          go_wp2_with fail
          go_ret
          exact ⟨ret_bool hr.out.symm, B5.out⟩
        have e0 : ((kids.length : Int) == 0) = true := by rw [beq_iff_eq]; omega
        have e0' : (kids.length : Int) = 0 := by omega
        have hr : Hid (Q = false) := Lib.hid (by rw [hq.out, decide_eq_true hl0, htl.out]; rfl)
        clear hl0
        go_wp2_with fail
        go_ret
        exact ⟨ret_bool hr.out.symm, B5.out⟩
  · have hnm : Hid (Am.named (some t) = false) := Lib.hid (named_no t1 t2 t3)
    have htl := Lib.hid (ht1.out t rfl hnm.out)
    rw [show atB (some t) = true from rfl]
    have s1 := lit_no hT t1
    have s2 := lit_no hT t2
    have s3 := lit_no hT t3
    clear hT t1 t2 t3
    cases at2 with
    | none =>
      have hr0 : Hid (Q = Am.typeTail (some t)) := Lib.hid ((hn1.out rfl).trans (if_neg (by rw [hnm.out]; exact Bool.false_ne_true)))
      rw [show atB none = false from rfl]
      by_cases h0 : me = 0
      · have hr1 : Hid (Q = decide (mm.ty.data.toList ≠ [109, 117, 108, 116, 105, 112, 97, 114, 116] ∧ mm.ty.data.toList ≠ [109, 101, 115, 115, 97, 103, 101])) := Lib.hid (hr0.out.trans (ht3.out t rfl h0))
        subst h0
        by_cases m1 : mm.ty.data.toList = [109, 117, 108, 116, 105, 112, 97, 114, 116]
        · have hr : Hid (Q = false) := Lib.hid (by rw [hr1.out]; exact decide_eq_false (fun e => e.1 m1))
          have e1 := str_is m1
          clear m1
          go_wp2_with fail
          go_ret
          exact ⟨ret_bool hr.out.symm, B3.out⟩
        · have e1 := str_ne m1
          by_cases m2 : mm.ty.data.toList = [109, 101, 115, 115, 97, 103, 101]
          · have hr : Hid (Q = false) := Lib.hid (by rw [hr1.out]; exact decide_eq_false (fun e => e.2 m2))
            have e2 := str_is m2
            clear m1 m2
            go_wp2_with fail
            go_ret
            exact ⟨ret_bool hr.out.symm, B3.out⟩
          · have hr : Hid (Q = true) := Lib.hid (by rw [hr1.out]; exact decide_eq_true ⟨m1, m2⟩)
            have e2 := str_ne m2
            clear m1 m2
            go_wp2_with fail
            go_ret
            exact ⟨ret_bool hr.out.symm, B3.out⟩
      · have hr : Hid (Q = false) := Lib.hid (hr0.out.trans (ht2.out t rfl h0))
        have e0 : (me == 0) = false := beq_false_of_ne h0
        have e1 : (me != 0) = true := by rw [bne_iff_ne]; exact h0
        clear y0
        go_wp2_with fail
        go_ret
        exact ⟨ret_bool hr.out.symm, B3.out⟩
    | some s =>
      have hq : Hid (Q = (ii && decide (kids.length = 0) && Am.srcTail (some t))) := Lib.hid (hi2.out s rfl)
      rw [show atB (some s) = true from rfl]
      clear y0
      obtain ⟨x0, x1, x2, x3, x4, x5⟩ := node_open (show Cells _ _ _ (nodeArr k sp nm (.slice ao as'.length ca) (.slice bo kids.length cb) d) from C3.out)
      clear x0 x1 x2 x3 x5
      go_wp2_with fail
      (with_reducible refine (kI.out _).mono ?_); rintro e w5 ⟨rfl, b5⟩
      have B5 := Lib.hid (B3.out.trans (b5.mono B3.out.size))
      have x4 := (b5.cell (World.block_lt_of_cell? w4 _ x4)).trans x4
      clear b5
      cases ii with
      | false =>
        have hr : Hid (Q = false) := Lib.hid (by rw [hq.out]; rfl)
        go_wp2_with fail
        go_ret
        exact ⟨ret_bool hr.out.symm, B5.out⟩
      | true =>
        by_cases hl0 : kids.length = 0
        case neg =>
          have hr : Hid (Q = false) := Lib.hid (by rw [hq.out, decide_eq_false hl0]; rfl)
          have e0 : ((kids.length : Int) == 0) = false := beq_false_of_ne (by omega)
          go_wp2_with fail
          go_ret
          exact ⟨ret_bool hr.out.symm, B5.out⟩
        have e0 : ((kids.length : Int) == 0) = true := by rw [beq_iff_eq]; omega
        have e0' : (kids.length : Int) = 0 := by omega
        have hq2 : Hid (Q = Am.srcTail (some t)) := Lib.hid (by rw [hq.out, decide_eq_true hl0]; simp)
        clear hl0
        by_cases h0 : me = 0
        · have hr : Hid (Q = true) := Lib.hid (hq2.out.trans (htl.out.1 h0))
          subst h0
          go_wp2_with fail
          go_ret
          exact ⟨ret_bool hr.out.symm, B5.out⟩
        · have hr : Hid (Q = false) := Lib.hid (by rw [hq2.out, ← Bool.not_eq_true]; exact fun e => h0 (htl.out.2 e))
          have e1 : (me == 0) = false := beq_false_of_ne h0
          go_wp2_with fail
          go_ret
          exact ⟨ret_bool hr.out.symm, B5.out⟩
end Go.Proofs.YtbaclacfadkjdaaGreatDoor
