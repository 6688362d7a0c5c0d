/-
  What the document's own word of each kid of a name comes to.
-/
import Derived.Test.YtbaclacfadkjdaaGreatDoorG24
namespace Go.Proofs.YtbaclacfadkjdaaGreatDoor
open Go.RowKit
theorem am_lit_author : Am.lit "author" = [97, 117, 116, 104, 111, 114] := by decide +kernel
theorem am_lit_contributor : Am.lit "contributor" = [99, 111, 110, 116, 114, 105, 98, 117, 116, 111, 114] := by decide +kernel
theorem am_lit_updated : Am.lit "updated" = [117, 112, 100, 97, 116, 101, 100] := by decide +kernel
theorem am_lit_published : Am.lit "published" = [112, 117, 98, 108, 105, 115, 104, 101, 100] := by decide +kernel
theorem am_lit_title : Am.lit "title" = [116, 105, 116, 108, 101] := by decide +kernel
theorem am_lit_summary : Am.lit "summary" = [115, 117, 109, 109, 97, 114, 121] := by decide +kernel
theorem am_lit_rights : Am.lit "rights" = [114, 105, 103, 104, 116, 115] := by decide +kernel
theorem am_lit_id : Am.lit "id" = [105, 100] := by decide +kernel
theorem am_lit_link : Am.lit "link" = [108, 105, 110, 107] := by decide +kernel
theorem am_lit_category : Am.lit "category" = [99, 97, 116, 101, 103, 111, 114, 121] := by decide +kernel
theorem am_lit_content : Am.lit "content" = [99, 111, 110, 116, 101, 110, 116] := by decide +kernel
def Am.idOk (n : Gv.Node) : Bool := Am.plain n && Am.onD.iri (Am.trim (Am.text n)) true
def Am.catOk (n : Gv.Node) : Bool := (Am.attr n (Am.lit "term")).isSome
theorem Am.all_wt {n : Gv.Node} {name : List UInt8} (hz : Gv.wt n ≤ 100000) : ∀ x, x ∈ Am.all n name → Gv.wt x ≤ 100000 := fun _ hx => Nat.le_trans (Am.mem_all hx) hz
set_option maxRecDepth 100000 in
set_option maxHeartbeats 6400000 in
theorem nd_each0 (n : Gv.Node) {A : Array Value} (name : ByteArray) (w : World) (h : Nd w A n) (hz : Gv.wt n ≤ 100000) (q0 : (name.toList == [97, 117, 116, 104, 111, 114]) = true) :
    Calls Tryz.prog 23 #[.agg A, .string name] w fun e w' => e = .returned (.bool ((Am.all n name.data.toList).all (Am.person Am.onD))) ∧ Below w.heap.size w w' := by
  have hl0 := Am.kids_wt n
  have hl1 : (Am.all n name.data.toList).length ≤ 100000 := Nat.le_trans (List.length_filter_le _ _) (Nat.le_trans hl0 hz)
  have kL := Lib.hid (fun W A (hW : Nd W A n) => nd_all n name W hW (by omega))
  have hm := Lib.hid (Am.all_wt (n := n) (name := name.data.toList) hz)
  generalize Am.all n name.data.toList = L at *
  obtain ⟨Q, hQ⟩ : ∃ Q, Q = L.all (Am.person Am.onD) := ⟨_, rfl⟩
  rw [← hQ]
  replace hQ := Lib.hid hQ
  generalize hL : L.length = n1 at *
  replace hL := Lib.hid hL
  clear hl0 hz
  obtain ⟨S, k, sp, nm, d, as', kids, ao, bo, ca, cb, hn, rfl, ha, hK, h1, h2⟩ := h.form
  have bA := (Below.refl w.heap.size w).alloc (Nat.le_refl _) (.cells #[.int .i64 k, .string sp, .string nm, .slice ao as'.length ca, .slice bo kids.length cb, .string d] 25)
  have hN := Lib.hid (h.on bA)
  have C0 := Lib.hid (Cells.new w 25 #[.int .i64 k, .string sp, .string nm, .slice ao as'.length ca, .slice bo kids.length cb, .string d])
  replace bA := Lib.hid bA
  clear h ha hK h1 h2 hn
  go_enter Tryz.func23, Tryz.ntmps23
  go_upto_region 1 with fail
  generalize w.alloc (.cells #[.int .i64 k, .string sp, .string nm, .slice ao as'.length ca, .slice bo kids.length cb, .string d] 25) = wA at *
  obtain ⟨x0, x1, x2, x3, x4, x5⟩ := node_open (show Cells _ _ _ (nodeArr k sp nm (.slice ao as'.length ca) (.slice bo kids.length cb) d) from C0.out)
  have cc := Lib.hid (kL.out wA _ hN.out)
  go_wp2_with fail
  (with_reducible refine (cc.out).mono ?_); rintro e w1 ⟨o1, q1', rfl, K1, b1⟩
  have B1 := Lib.hid (bA.out.trans (b1.mono bA.out.size))
  replace K1 := Lib.hid K1
  clear x0 x1 x2 x3 x4 x5 cc b1 C0 hN bA kL
  go_wp2_with fail
  go_loopw [6, 7] (fun i _ wr => ∃ j : Nat, j ≤ n1 ∧ i = .int .i64 (j : Int) ∧ Hid ((L.take j).all (Am.person Am.onD) = true) ∧ Hid (KidsAt (fun _ => True) wr (.slice o1 n1 q1') L) ∧ Hid (Below w.heap.size w wr)) (fun i _ _ => n1 - (intOf i).toNat)
  case atStart => exact ⟨0, Nat.zero_le _, rfl, Lib.hid (by simp), K1, B1⟩
  case round =>
    obtain ⟨j, hj, rfl, hall, K, B⟩ := hrel
    clear K1 B1
    by_cases hlt : j < n1
    · have hjl : j < L.length := by rw [hL.out]; exact hlt
      have hx := hm.out L[j] (List.getElem_mem hjl)
      have hbad := Lib.hid (fun e => hQ.out.trans (am_all_bad (Am.person Am.onD) L j hjl e))
      have hgood := Lib.hid (fun e => am_all_more (Am.person Am.onD) L j hjl hall.out e)
      obtain ⟨pb, po, k', sp', nm', d', x3, x4, rfl, d0, d1, d2, d3, d4, d5, hE, ⟨ro, rn, rc, rfl⟩, ⟨so, sn, sc, rfl⟩, -, -⟩ := KidsAt.nd K.out hjl
      have kR := (fun x (hx : Gv.wt x ≤ 100000) W A (hW : Nd W A x) => (nd_person x W hW hx))
      have cc := kR L[j] hx _ _ hE
      clear kR
      have hval : Hid ((Am.person Am.onD) L[j] = (Am.person Am.onD) L[j]) := Lib.hid rfl
      obtain ⟨y, hy⟩ : ∃ y, y = (Am.person Am.onD) L[j] := ⟨_, rfl⟩
      rw [← hy] at cc hbad hgood
      replace hy := Lib.hid hy
      replace cc := Lib.hid cc
      clear hE
      go_wp2_with fail
      (with_reducible refine (cc.out).mono ?_); rintro e w2 ⟨rfl, b⟩
      replace K := Lib.hid (K.out.on b)
      replace B := Lib.hid (B.out.trans (b.mono B.out.size))
      clear b cc d0 d1 d2 d3 d4 d5
      cases y with
      | true =>
        have hok := Lib.hid (hgood.out rfl)
        go_wp2_with fail
        go_roundw
        case rel => exact ⟨j + 1, by omega, by go_num, hok, K, B⟩
        case measure => simp [intOf]; omega
      | false =>
        have hno := Lib.hid (hbad.out rfl)
        go_wp2_with fail
        go_ret
        exact ⟨ret_bool hno.out.symm, B.out⟩
    · have hr : Hid (Q = true) := Lib.hid (by
        have h2 := hall.out
        rw [List.take_of_length_le (by rw [hL.out]; omega)] at h2
        rw [hQ.out, h2])
      go_wp2_with fail
      go_ret
      exact ⟨ret_bool hr.out.symm, B.out⟩
set_option maxRecDepth 100000 in
set_option maxHeartbeats 6400000 in
theorem nd_each1 (n : Gv.Node) {A : Array Value} (name : ByteArray) (w : World) (h : Nd w A n) (hz : Gv.wt n ≤ 100000) (q0 : (name.toList == [97, 117, 116, 104, 111, 114]) = false) (q1 : (name.toList == [99, 111, 110, 116, 114, 105, 98, 117, 116, 111, 114]) = true) :
    Calls Tryz.prog 23 #[.agg A, .string name] w fun e w' => e = .returned (.bool ((Am.all n name.data.toList).all (Am.person Am.onD))) ∧ Below w.heap.size w w' := by
  have hl0 := Am.kids_wt n
  have hl1 : (Am.all n name.data.toList).length ≤ 100000 := Nat.le_trans (List.length_filter_le _ _) (Nat.le_trans hl0 hz)
  have kL := Lib.hid (fun W A (hW : Nd W A n) => nd_all n name W hW (by omega))
  have hm := Lib.hid (Am.all_wt (n := n) (name := name.data.toList) hz)
  generalize Am.all n name.data.toList = L at *
  obtain ⟨Q, hQ⟩ : ∃ Q, Q = L.all (Am.person Am.onD) := ⟨_, rfl⟩
  rw [← hQ]
  replace hQ := Lib.hid hQ
  generalize hL : L.length = n1 at *
  replace hL := Lib.hid hL
  clear hl0 hz
  obtain ⟨S, k, sp, nm, d, as', kids, ao, bo, ca, cb, hn, rfl, ha, hK, h1, h2⟩ := h.form
  have bA := (Below.refl w.heap.size w).alloc (Nat.le_refl _) (.cells #[.int .i64 k, .string sp, .string nm, .slice ao as'.length ca, .slice bo kids.length cb, .string d] 25)
  have hN := Lib.hid (h.on bA)
  have C0 := Lib.hid (Cells.new w 25 #[.int .i64 k, .string sp, .string nm, .slice ao as'.length ca, .slice bo kids.length cb, .string d])
  replace bA := Lib.hid bA
  clear h ha hK h1 h2 hn
  go_enter Tryz.func23, Tryz.ntmps23
  go_upto_region 1 with fail
  generalize w.alloc (.cells #[.int .i64 k, .string sp, .string nm, .slice ao as'.length ca, .slice bo kids.length cb, .string d] 25) = wA at *
  obtain ⟨x0, x1, x2, x3, x4, x5⟩ := node_open (show Cells _ _ _ (nodeArr k sp nm (.slice ao as'.length ca) (.slice bo kids.length cb) d) from C0.out)
  have cc := Lib.hid (kL.out wA _ hN.out)
  go_wp2_with fail
  (with_reducible refine (cc.out).mono ?_); rintro e w1 ⟨o1, q1', rfl, K1, b1⟩
  have B1 := Lib.hid (bA.out.trans (b1.mono bA.out.size))
  replace K1 := Lib.hid K1
  clear x0 x1 x2 x3 x4 x5 cc b1 C0 hN bA kL
  go_wp2_with fail
  go_loopw [6, 7] (fun i _ wr => ∃ j : Nat, j ≤ n1 ∧ i = .int .i64 (j : Int) ∧ Hid ((L.take j).all (Am.person Am.onD) = true) ∧ Hid (KidsAt (fun _ => True) wr (.slice o1 n1 q1') L) ∧ Hid (Below w.heap.size w wr)) (fun i _ _ => n1 - (intOf i).toNat)
  case atStart => exact ⟨0, Nat.zero_le _, rfl, Lib.hid (by simp), K1, B1⟩
  case round =>
    obtain ⟨j, hj, rfl, hall, K, B⟩ := hrel
    clear K1 B1
    by_cases hlt : j < n1
    · have hjl : j < L.length := by rw [hL.out]; exact hlt
      have hx := hm.out L[j] (List.getElem_mem hjl)
      have hbad := Lib.hid (fun e => hQ.out.trans (am_all_bad (Am.person Am.onD) L j hjl e))
      have hgood := Lib.hid (fun e => am_all_more (Am.person Am.onD) L j hjl hall.out e)
      obtain ⟨pb, po, k', sp', nm', d', x3, x4, rfl, d0, d1, d2, d3, d4, d5, hE, ⟨ro, rn, rc, rfl⟩, ⟨so, sn, sc, rfl⟩, -, -⟩ := KidsAt.nd K.out hjl
      have kR := (fun x (hx : Gv.wt x ≤ 100000) W A (hW : Nd W A x) => (nd_person x W hW hx))
      have cc := kR L[j] hx _ _ hE
      clear kR
      have hval : Hid ((Am.person Am.onD) L[j] = (Am.person Am.onD) L[j]) := Lib.hid rfl
      obtain ⟨y, hy⟩ : ∃ y, y = (Am.person Am.onD) L[j] := ⟨_, rfl⟩
      rw [← hy] at cc hbad hgood
      replace hy := Lib.hid hy
      replace cc := Lib.hid cc
      clear hE
      go_wp2_with fail
      (with_reducible refine (cc.out).mono ?_); rintro e w2 ⟨rfl, b⟩
      replace K := Lib.hid (K.out.on b)
      replace B := Lib.hid (B.out.trans (b.mono B.out.size))
      clear b cc d0 d1 d2 d3 d4 d5
      cases y with
      | true =>
        have hok := Lib.hid (hgood.out rfl)
        go_wp2_with fail
        go_roundw
        case rel => exact ⟨j + 1, by omega, by go_num, hok, K, B⟩
        case measure => simp [intOf]; omega
      | false =>
        have hno := Lib.hid (hbad.out rfl)
        go_wp2_with fail
        go_ret
        exact ⟨ret_bool hno.out.symm, B.out⟩
    · have hr : Hid (Q = true) := Lib.hid (by
        have h2 := hall.out
        rw [List.take_of_length_le (by rw [hL.out]; omega)] at h2
        rw [hQ.out, h2])
      go_wp2_with fail
      go_ret
      exact ⟨ret_bool hr.out.symm, B.out⟩
set_option maxRecDepth 100000 in
set_option maxHeartbeats 6400000 in
theorem nd_each2 (n : Gv.Node) {A : Array Value} (name : ByteArray) (w : World) (h : Nd w A n) (hz : Gv.wt n ≤ 100000) (q0 : (name.toList == [97, 117, 116, 104, 111, 114]) = false) (q1 : (name.toList == [99, 111, 110, 116, 114, 105, 98, 117, 116, 111, 114]) = false) (q2 : (name.toList == [117, 112, 100, 97, 116, 101, 100]) = true) :
    Calls Tryz.prog 23 #[.agg A, .string name] w fun e w' => e = .returned (.bool ((Am.all n name.data.toList).all (Am.momentOk Am.onD))) ∧ Below w.heap.size w w' := by
  have hl0 := Am.kids_wt n
  have hl1 : (Am.all n name.data.toList).length ≤ 100000 := Nat.le_trans (List.length_filter_le _ _) (Nat.le_trans hl0 hz)
  have kL := Lib.hid (fun W A (hW : Nd W A n) => nd_all n name W hW (by omega))
  have hm := Lib.hid (Am.all_wt (n := n) (name := name.data.toList) hz)
  generalize Am.all n name.data.toList = L at *
  obtain ⟨Q, hQ⟩ : ∃ Q, Q = L.all (Am.momentOk Am.onD) := ⟨_, rfl⟩
  rw [← hQ]
  replace hQ := Lib.hid hQ
  generalize hL : L.length = n1 at *
  replace hL := Lib.hid hL
  clear hl0 hz
  obtain ⟨S, k, sp, nm, d, as', kids, ao, bo, ca, cb, hn, rfl, ha, hK, h1, h2⟩ := h.form
  have bA := (Below.refl w.heap.size w).alloc (Nat.le_refl _) (.cells #[.int .i64 k, .string sp, .string nm, .slice ao as'.length ca, .slice bo kids.length cb, .string d] 25)
  have hN := Lib.hid (h.on bA)
  have C0 := Lib.hid (Cells.new w 25 #[.int .i64 k, .string sp, .string nm, .slice ao as'.length ca, .slice bo kids.length cb, .string d])
  replace bA := Lib.hid bA
  clear h ha hK h1 h2 hn
  go_enter Tryz.func23, Tryz.ntmps23
  go_upto_region 1 with fail
  generalize w.alloc (.cells #[.int .i64 k, .string sp, .string nm, .slice ao as'.length ca, .slice bo kids.length cb, .string d] 25) = wA at *
  obtain ⟨x0, x1, x2, x3, x4, x5⟩ := node_open (show Cells _ _ _ (nodeArr k sp nm (.slice ao as'.length ca) (.slice bo kids.length cb) d) from C0.out)
  have cc := Lib.hid (kL.out wA _ hN.out)
  go_wp2_with fail
  (with_reducible refine (cc.out).mono ?_); rintro e w1 ⟨o1, q1', rfl, K1, b1⟩
  have B1 := Lib.hid (bA.out.trans (b1.mono bA.out.size))
  replace K1 := Lib.hid K1
  clear x0 x1 x2 x3 x4 x5 cc b1 C0 hN bA kL
  go_wp2_with fail
  go_loopw [6, 7] (fun i _ wr => ∃ j : Nat, j ≤ n1 ∧ i = .int .i64 (j : Int) ∧ Hid ((L.take j).all (Am.momentOk Am.onD) = true) ∧ Hid (KidsAt (fun _ => True) wr (.slice o1 n1 q1') L) ∧ Hid (Below w.heap.size w wr)) (fun i _ _ => n1 - (intOf i).toNat)
  case atStart => exact ⟨0, Nat.zero_le _, rfl, Lib.hid (by simp), K1, B1⟩
  case round =>
    obtain ⟨j, hj, rfl, hall, K, B⟩ := hrel
    clear K1 B1
    by_cases hlt : j < n1
    · have hjl : j < L.length := by rw [hL.out]; exact hlt
      have hx := hm.out L[j] (List.getElem_mem hjl)
      have hbad := Lib.hid (fun e => hQ.out.trans (am_all_bad (Am.momentOk Am.onD) L j hjl e))
      have hgood := Lib.hid (fun e => am_all_more (Am.momentOk Am.onD) L j hjl hall.out e)
      obtain ⟨pb, po, k', sp', nm', d', x3, x4, rfl, d0, d1, d2, d3, d4, d5, hE, ⟨ro, rn, rc, rfl⟩, ⟨so, sn, sc, rfl⟩, -, -⟩ := KidsAt.nd K.out hjl
      have kR := (fun x (hx : Gv.wt x ≤ 100000) W A (hW : Nd W A x) => (nd_moment x W hW (by omega)))
      have cc := kR L[j] hx _ _ hE
      clear kR
      have hval : Hid ((Am.momentOk Am.onD) L[j] = (Am.momentOk Am.onD) L[j]) := Lib.hid rfl
      obtain ⟨y, hy⟩ : ∃ y, y = (Am.momentOk Am.onD) L[j] := ⟨_, rfl⟩
      rw [← hy] at cc hbad hgood
      replace hy := Lib.hid hy
      replace cc := Lib.hid cc
      clear hE
      go_wp2_with fail
      (with_reducible refine (cc.out).mono ?_); rintro e w2 ⟨rfl, b⟩
      replace K := Lib.hid (K.out.on b)
      replace B := Lib.hid (B.out.trans (b.mono B.out.size))
      clear b cc d0 d1 d2 d3 d4 d5
      cases y with
      | true =>
        have hok := Lib.hid (hgood.out rfl)
        go_wp2_with fail
        go_roundw
        case rel => exact ⟨j + 1, by omega, by go_num, hok, K, B⟩
        case measure => simp [intOf]; omega
      | false =>
        have hno := Lib.hid (hbad.out rfl)
        go_wp2_with fail
        go_ret
        exact ⟨ret_bool hno.out.symm, B.out⟩
    · have hr : Hid (Q = true) := Lib.hid (by
        have h2 := hall.out
        rw [List.take_of_length_le (by rw [hL.out]; omega)] at h2
        rw [hQ.out, h2])
      go_wp2_with fail
      go_ret
      exact ⟨ret_bool hr.out.symm, B.out⟩
set_option maxRecDepth 100000 in
set_option maxHeartbeats 6400000 in
theorem nd_each3 (n : Gv.Node) {A : Array Value} (name : ByteArray) (w : World) (h : Nd w A n) (hz : Gv.wt n ≤ 100000) (q0 : (name.toList == [97, 117, 116, 104, 111, 114]) = false) (q1 : (name.toList == [99, 111, 110, 116, 114, 105, 98, 117, 116, 111, 114]) = false) (q2 : (name.toList == [117, 112, 100, 97, 116, 101, 100]) = false) (q3 : (name.toList == [112, 117, 98, 108, 105, 115, 104, 101, 100]) = true) :
    Calls Tryz.prog 23 #[.agg A, .string name] w fun e w' => e = .returned (.bool ((Am.all n name.data.toList).all (Am.momentOk Am.onD))) ∧ Below w.heap.size w w' := by
  have hl0 := Am.kids_wt n
  have hl1 : (Am.all n name.data.toList).length ≤ 100000 := Nat.le_trans (List.length_filter_le _ _) (Nat.le_trans hl0 hz)
  have kL := Lib.hid (fun W A (hW : Nd W A n) => nd_all n name W hW (by omega))
  have hm := Lib.hid (Am.all_wt (n := n) (name := name.data.toList) hz)
  generalize Am.all n name.data.toList = L at *
  obtain ⟨Q, hQ⟩ : ∃ Q, Q = L.all (Am.momentOk Am.onD) := ⟨_, rfl⟩
  rw [← hQ]
  replace hQ := Lib.hid hQ
  generalize hL : L.length = n1 at *
  replace hL := Lib.hid hL
  clear hl0 hz
  obtain ⟨S, k, sp, nm, d, as', kids, ao, bo, ca, cb, hn, rfl, ha, hK, h1, h2⟩ := h.form
  have bA := (Below.refl w.heap.size w).alloc (Nat.le_refl _) (.cells #[.int .i64 k, .string sp, .string nm, .slice ao as'.length ca, .slice bo kids.length cb, .string d] 25)
  have hN := Lib.hid (h.on bA)
  have C0 := Lib.hid (Cells.new w 25 #[.int .i64 k, .string sp, .string nm, .slice ao as'.length ca, .slice bo kids.length cb, .string d])
  replace bA := Lib.hid bA
  clear h ha hK h1 h2 hn
  go_enter Tryz.func23, Tryz.ntmps23
  go_upto_region 1 with fail
  generalize w.alloc (.cells #[.int .i64 k, .string sp, .string nm, .slice ao as'.length ca, .slice bo kids.length cb, .string d] 25) = wA at *
  obtain ⟨x0, x1, x2, x3, x4, x5⟩ := node_open (show Cells _ _ _ (nodeArr k sp nm (.slice ao as'.length ca) (.slice bo kids.length cb) d) from C0.out)
  have cc := Lib.hid (kL.out wA _ hN.out)
  go_wp2_with fail
  (with_reducible refine (cc.out).mono ?_); rintro e w1 ⟨o1, q1', rfl, K1, b1⟩
  have B1 := Lib.hid (bA.out.trans (b1.mono bA.out.size))
  replace K1 := Lib.hid K1
  clear x0 x1 x2 x3 x4 x5 cc b1 C0 hN bA kL
  go_wp2_with fail
  go_loopw [6, 7] (fun i _ wr => ∃ j : Nat, j ≤ n1 ∧ i = .int .i64 (j : Int) ∧ Hid ((L.take j).all (Am.momentOk Am.onD) = true) ∧ Hid (KidsAt (fun _ => True) wr (.slice o1 n1 q1') L) ∧ Hid (Below w.heap.size w wr)) (fun i _ _ => n1 - (intOf i).toNat)
  case atStart => exact ⟨0, Nat.zero_le _, rfl, Lib.hid (by simp), K1, B1⟩
  case round =>
    obtain ⟨j, hj, rfl, hall, K, B⟩ := hrel
    clear K1 B1
    by_cases hlt : j < n1
    · have hjl : j < L.length := by rw [hL.out]; exact hlt
      have hx := hm.out L[j] (List.getElem_mem hjl)
      have hbad := Lib.hid (fun e => hQ.out.trans (am_all_bad (Am.momentOk Am.onD) L j hjl e))
      have hgood := Lib.hid (fun e => am_all_more (Am.momentOk Am.onD) L j hjl hall.out e)
      obtain ⟨pb, po, k', sp', nm', d', x3, x4, rfl, d0, d1, d2, d3, d4, d5, hE, ⟨ro, rn, rc, rfl⟩, ⟨so, sn, sc, rfl⟩, -, -⟩ := KidsAt.nd K.out hjl
      have kR := (fun x (hx : Gv.wt x ≤ 100000) W A (hW : Nd W A x) => (nd_moment x W hW (by omega)))
      have cc := kR L[j] hx _ _ hE
      clear kR
      have hval : Hid ((Am.momentOk Am.onD) L[j] = (Am.momentOk Am.onD) L[j]) := Lib.hid rfl
      obtain ⟨y, hy⟩ : ∃ y, y = (Am.momentOk Am.onD) L[j] := ⟨_, rfl⟩
      rw [← hy] at cc hbad hgood
      replace hy := Lib.hid hy
      replace cc := Lib.hid cc
      clear hE
      go_wp2_with fail
      (with_reducible refine (cc.out).mono ?_); rintro e w2 ⟨rfl, b⟩
      replace K := Lib.hid (K.out.on b)
      replace B := Lib.hid (B.out.trans (b.mono B.out.size))
      clear b cc d0 d1 d2 d3 d4 d5
      cases y with
      | true =>
        have hok := Lib.hid (hgood.out rfl)
        go_wp2_with fail
        go_roundw
        case rel => exact ⟨j + 1, by omega, by go_num, hok, K, B⟩
        case measure => simp [intOf]; omega
      | false =>
        have hno := Lib.hid (hbad.out rfl)
        go_wp2_with fail
        go_ret
        exact ⟨ret_bool hno.out.symm, B.out⟩
    · have hr : Hid (Q = true) := Lib.hid (by
        have h2 := hall.out
        rw [List.take_of_length_le (by rw [hL.out]; omega)] at h2
        rw [hQ.out, h2])
      go_wp2_with fail
      go_ret
      exact ⟨ret_bool hr.out.symm, B.out⟩
set_option maxRecDepth 100000 in
set_option maxHeartbeats 6400000 in
theorem nd_each4 (n : Gv.Node) {A : Array Value} (name : ByteArray) (w : World) (h : Nd w A n) (hz : Gv.wt n ≤ 100000) (q0 : (name.toList == [97, 117, 116, 104, 111, 114]) = false) (q1 : (name.toList == [99, 111, 110, 116, 114, 105, 98, 117, 116, 111, 114]) = false) (q2 : (name.toList == [117, 112, 100, 97, 116, 101, 100]) = false) (q3 : (name.toList == [112, 117, 98, 108, 105, 115, 104, 101, 100]) = false) (q4 : (name.toList == [116, 105, 116, 108, 101]) = true) :
    Calls Tryz.prog 23 #[.agg A, .string name] w fun e w' => e = .returned (.bool ((Am.all n name.data.toList).all Am.textOk)) ∧ Below w.heap.size w w' := by
  have hl0 := Am.kids_wt n
  have hl1 : (Am.all n name.data.toList).length ≤ 100000 := Nat.le_trans (List.length_filter_le _ _) (Nat.le_trans hl0 hz)
  have kL := Lib.hid (fun W A (hW : Nd W A n) => nd_all n name W hW (by omega))
  have hm := Lib.hid (Am.all_wt (n := n) (name := name.data.toList) hz)
  generalize Am.all n name.data.toList = L at *
  obtain ⟨Q, hQ⟩ : ∃ Q, Q = L.all Am.textOk := ⟨_, rfl⟩
  rw [← hQ]
  replace hQ := Lib.hid hQ
  generalize hL : L.length = n1 at *
  replace hL := Lib.hid hL
  clear hl0 hz
  obtain ⟨S, k, sp, nm, d, as', kids, ao, bo, ca, cb, hn, rfl, ha, hK, h1, h2⟩ := h.form
  have bA := (Below.refl w.heap.size w).alloc (Nat.le_refl _) (.cells #[.int .i64 k, .string sp, .string nm, .slice ao as'.length ca, .slice bo kids.length cb, .string d] 25)
  have hN := Lib.hid (h.on bA)
  have C0 := Lib.hid (Cells.new w 25 #[.int .i64 k, .string sp, .string nm, .slice ao as'.length ca, .slice bo kids.length cb, .string d])
  replace bA := Lib.hid bA
  clear h ha hK h1 h2 hn
  go_enter Tryz.func23, Tryz.ntmps23
  go_upto_region 1 with fail
  generalize w.alloc (.cells #[.int .i64 k, .string sp, .string nm, .slice ao as'.length ca, .slice bo kids.length cb, .string d] 25) = wA at *
  obtain ⟨x0, x1, x2, x3, x4, x5⟩ := node_open (show Cells _ _ _ (nodeArr k sp nm (.slice ao as'.length ca) (.slice bo kids.length cb) d) from C0.out)
  have cc := Lib.hid (kL.out wA _ hN.out)
  go_wp2_with fail
  (with_reducible refine (cc.out).mono ?_); rintro e w1 ⟨o1, q1', rfl, K1, b1⟩
  have B1 := Lib.hid (bA.out.trans (b1.mono bA.out.size))
  replace K1 := Lib.hid K1
  clear x0 x1 x2 x3 x4 x5 cc b1 C0 hN bA kL
  go_wp2_with fail
  go_loopw [6, 7] (fun i _ wr => ∃ j : Nat, j ≤ n1 ∧ i = .int .i64 (j : Int) ∧ Hid ((L.take j).all Am.textOk = true) ∧ Hid (KidsAt (fun _ => True) wr (.slice o1 n1 q1') L) ∧ Hid (Below w.heap.size w wr)) (fun i _ _ => n1 - (intOf i).toNat)
  case atStart => exact ⟨0, Nat.zero_le _, rfl, Lib.hid (by simp), K1, B1⟩
  case round =>
    obtain ⟨j, hj, rfl, hall, K, B⟩ := hrel
    clear K1 B1
    by_cases hlt : j < n1
    · have hjl : j < L.length := by rw [hL.out]; exact hlt
      have hx := hm.out L[j] (List.getElem_mem hjl)
      have hbad := Lib.hid (fun e => hQ.out.trans (am_all_bad Am.textOk L j hjl e))
      have hgood := Lib.hid (fun e => am_all_more Am.textOk L j hjl hall.out e)
      obtain ⟨pb, po, k', sp', nm', d', x3, x4, rfl, d0, d1, d2, d3, d4, d5, hE, ⟨ro, rn, rc, rfl⟩, ⟨so, sn, sc, rfl⟩, -, -⟩ := KidsAt.nd K.out hjl
      have kR := (fun x (hx : Gv.wt x ≤ 100000) W A (hW : Nd W A x) => (nd_textOk x W hW (by omega)))
      have cc := kR L[j] hx _ _ hE
      clear kR
      have hval : Hid (Am.textOk L[j] = Am.textOk L[j]) := Lib.hid rfl
      obtain ⟨y, hy⟩ : ∃ y, y = Am.textOk L[j] := ⟨_, rfl⟩
      rw [← hy] at cc hbad hgood
      replace hy := Lib.hid hy
      replace cc := Lib.hid cc
      clear hE
      go_wp2_with fail
      (with_reducible refine (cc.out).mono ?_); rintro e w2 ⟨rfl, b⟩
      replace K := Lib.hid (K.out.on b)
      replace B := Lib.hid (B.out.trans (b.mono B.out.size))
      clear b cc d0 d1 d2 d3 d4 d5
      cases y with
      | true =>
        have hok := Lib.hid (hgood.out rfl)
        go_wp2_with fail
        go_roundw
        case rel => exact ⟨j + 1, by omega, by go_num, hok, K, B⟩
        case measure => simp [intOf]; omega
      | false =>
        have hno := Lib.hid (hbad.out rfl)
        go_wp2_with fail
        go_ret
        exact ⟨ret_bool hno.out.symm, B.out⟩
    · have hr : Hid (Q = true) := Lib.hid (by
        have h2 := hall.out
        rw [List.take_of_length_le (by rw [hL.out]; omega)] at h2
        rw [hQ.out, h2])
      go_wp2_with fail
      go_ret
      exact ⟨ret_bool hr.out.symm, B.out⟩
set_option maxRecDepth 100000 in
set_option maxHeartbeats 6400000 in
theorem nd_each5 (n : Gv.Node) {A : Array Value} (name : ByteArray) (w : World) (h : Nd w A n) (hz : Gv.wt n ≤ 100000) (q0 : (name.toList == [97, 117, 116, 104, 111, 114]) = false) (q1 : (name.toList == [99, 111, 110, 116, 114, 105, 98, 117, 116, 111, 114]) = false) (q2 : (name.toList == [117, 112, 100, 97, 116, 101, 100]) = false) (q3 : (name.toList == [112, 117, 98, 108, 105, 115, 104, 101, 100]) = false) (q4 : (name.toList == [116, 105, 116, 108, 101]) = false) (q5 : (name.toList == [115, 117, 109, 109, 97, 114, 121]) = true) :
    Calls Tryz.prog 23 #[.agg A, .string name] w fun e w' => e = .returned (.bool ((Am.all n name.data.toList).all Am.textOk)) ∧ Below w.heap.size w w' := by
  have hl0 := Am.kids_wt n
  have hl1 : (Am.all n name.data.toList).length ≤ 100000 := Nat.le_trans (List.length_filter_le _ _) (Nat.le_trans hl0 hz)
  have kL := Lib.hid (fun W A (hW : Nd W A n) => nd_all n name W hW (by omega))
  have hm := Lib.hid (Am.all_wt (n := n) (name := name.data.toList) hz)
  generalize Am.all n name.data.toList = L at *
  obtain ⟨Q, hQ⟩ : ∃ Q, Q = L.all Am.textOk := ⟨_, rfl⟩
  rw [← hQ]
  replace hQ := Lib.hid hQ
  generalize hL : L.length = n1 at *
  replace hL := Lib.hid hL
  clear hl0 hz
  obtain ⟨S, k, sp, nm, d, as', kids, ao, bo, ca, cb, hn, rfl, ha, hK, h1, h2⟩ := h.form
  have bA := (Below.refl w.heap.size w).alloc (Nat.le_refl _) (.cells #[.int .i64 k, .string sp, .string nm, .slice ao as'.length ca, .slice bo kids.length cb, .string d] 25)
  have hN := Lib.hid (h.on bA)
  have C0 := Lib.hid (Cells.new w 25 #[.int .i64 k, .string sp, .string nm, .slice ao as'.length ca, .slice bo kids.length cb, .string d])
  replace bA := Lib.hid bA
  clear h ha hK h1 h2 hn
  go_enter Tryz.func23, Tryz.ntmps23
  go_upto_region 1 with fail
  generalize w.alloc (.cells #[.int .i64 k, .string sp, .string nm, .slice ao as'.length ca, .slice bo kids.length cb, .string d] 25) = wA at *
  obtain ⟨x0, x1, x2, x3, x4, x5⟩ := node_open (show Cells _ _ _ (nodeArr k sp nm (.slice ao as'.length ca) (.slice bo kids.length cb) d) from C0.out)
  have cc := Lib.hid (kL.out wA _ hN.out)
  go_wp2_with fail
  (with_reducible refine (cc.out).mono ?_); rintro e w1 ⟨o1, q1', rfl, K1, b1⟩
  have B1 := Lib.hid (bA.out.trans (b1.mono bA.out.size))
  replace K1 := Lib.hid K1
  clear x0 x1 x2 x3 x4 x5 cc b1 C0 hN bA kL
  go_wp2_with fail
  go_loopw [6, 7] (fun i _ wr => ∃ j : Nat, j ≤ n1 ∧ i = .int .i64 (j : Int) ∧ Hid ((L.take j).all Am.textOk = true) ∧ Hid (KidsAt (fun _ => True) wr (.slice o1 n1 q1') L) ∧ Hid (Below w.heap.size w wr)) (fun i _ _ => n1 - (intOf i).toNat)
  case atStart => exact ⟨0, Nat.zero_le _, rfl, Lib.hid (by simp), K1, B1⟩
  case round =>
    obtain ⟨j, hj, rfl, hall, K, B⟩ := hrel
    clear K1 B1
    by_cases hlt : j < n1
    · have hjl : j < L.length := by rw [hL.out]; exact hlt
      have hx := hm.out L[j] (List.getElem_mem hjl)
      have hbad := Lib.hid (fun e => hQ.out.trans (am_all_bad Am.textOk L j hjl e))
      have hgood := Lib.hid (fun e => am_all_more Am.textOk L j hjl hall.out e)
      obtain ⟨pb, po, k', sp', nm', d', x3, x4, rfl, d0, d1, d2, d3, d4, d5, hE, ⟨ro, rn, rc, rfl⟩, ⟨so, sn, sc, rfl⟩, -, -⟩ := KidsAt.nd K.out hjl
      have kR := (fun x (hx : Gv.wt x ≤ 100000) W A (hW : Nd W A x) => (nd_textOk x W hW (by omega)))
      have cc := kR L[j] hx _ _ hE
      clear kR
      have hval : Hid (Am.textOk L[j] = Am.textOk L[j]) := Lib.hid rfl
      obtain ⟨y, hy⟩ : ∃ y, y = Am.textOk L[j] := ⟨_, rfl⟩
      rw [← hy] at cc hbad hgood
      replace hy := Lib.hid hy
      replace cc := Lib.hid cc
      clear hE
      go_wp2_with fail
      (with_reducible refine (cc.out).mono ?_); rintro e w2 ⟨rfl, b⟩
      replace K := Lib.hid (K.out.on b)
      replace B := Lib.hid (B.out.trans (b.mono B.out.size))
      clear b cc d0 d1 d2 d3 d4 d5
      cases y with
      | true =>
        have hok := Lib.hid (hgood.out rfl)
        go_wp2_with fail
        go_roundw
        case rel => exact ⟨j + 1, by omega, by go_num, hok, K, B⟩
        case measure => simp [intOf]; omega
      | false =>
        have hno := Lib.hid (hbad.out rfl)
        go_wp2_with fail
        go_ret
        exact ⟨ret_bool hno.out.symm, B.out⟩
    · have hr : Hid (Q = true) := Lib.hid (by
        have h2 := hall.out
        rw [List.take_of_length_le (by rw [hL.out]; omega)] at h2
        rw [hQ.out, h2])
      go_wp2_with fail
      go_ret
      exact ⟨ret_bool hr.out.symm, B.out⟩
set_option maxRecDepth 100000 in
set_option maxHeartbeats 6400000 in
theorem nd_each6 (n : Gv.Node) {A : Array Value} (name : ByteArray) (w : World) (h : Nd w A n) (hz : Gv.wt n ≤ 100000) (q0 : (name.toList == [97, 117, 116, 104, 111, 114]) = false) (q1 : (name.toList == [99, 111, 110, 116, 114, 105, 98, 117, 116, 111, 114]) = false) (q2 : (name.toList == [117, 112, 100, 97, 116, 101, 100]) = false) (q3 : (name.toList == [112, 117, 98, 108, 105, 115, 104, 101, 100]) = false) (q4 : (name.toList == [116, 105, 116, 108, 101]) = false) (q5 : (name.toList == [115, 117, 109, 109, 97, 114, 121]) = false) (q6 : (name.toList == [114, 105, 103, 104, 116, 115]) = true) :
    Calls Tryz.prog 23 #[.agg A, .string name] w fun e w' => e = .returned (.bool ((Am.all n name.data.toList).all Am.textOk)) ∧ Below w.heap.size w w' := by
  have hl0 := Am.kids_wt n
  have hl1 : (Am.all n name.data.toList).length ≤ 100000 := Nat.le_trans (List.length_filter_le _ _) (Nat.le_trans hl0 hz)
  have kL := Lib.hid (fun W A (hW : Nd W A n) => nd_all n name W hW (by omega))
  have hm := Lib.hid (Am.all_wt (n := n) (name := name.data.toList) hz)
  generalize Am.all n name.data.toList = L at *
  obtain ⟨Q, hQ⟩ : ∃ Q, Q = L.all Am.textOk := ⟨_, rfl⟩
  rw [← hQ]
  replace hQ := Lib.hid hQ
  generalize hL : L.length = n1 at *
  replace hL := Lib.hid hL
  clear hl0 hz
  obtain ⟨S, k, sp, nm, d, as', kids, ao, bo, ca, cb, hn, rfl, ha, hK, h1, h2⟩ := h.form
  have bA := (Below.refl w.heap.size w).alloc (Nat.le_refl _) (.cells #[.int .i64 k, .string sp, .string nm, .slice ao as'.length ca, .slice bo kids.length cb, .string d] 25)
  have hN := Lib.hid (h.on bA)
  have C0 := Lib.hid (Cells.new w 25 #[.int .i64 k, .string sp, .string nm, .slice ao as'.length ca, .slice bo kids.length cb, .string d])
  replace bA := Lib.hid bA
  clear h ha hK h1 h2 hn
  go_enter Tryz.func23, Tryz.ntmps23
  go_upto_region 1 with fail
  generalize w.alloc (.cells #[.int .i64 k, .string sp, .string nm, .slice ao as'.length ca, .slice bo kids.length cb, .string d] 25) = wA at *
  obtain ⟨x0, x1, x2, x3, x4, x5⟩ := node_open (show Cells _ _ _ (nodeArr k sp nm (.slice ao as'.length ca) (.slice bo kids.length cb) d) from C0.out)
  have cc := Lib.hid (kL.out wA _ hN.out)
  go_wp2_with fail
  (with_reducible refine (cc.out).mono ?_); rintro e w1 ⟨o1, q1', rfl, K1, b1⟩
  have B1 := Lib.hid (bA.out.trans (b1.mono bA.out.size))
  replace K1 := Lib.hid K1
  clear x0 x1 x2 x3 x4 x5 cc b1 C0 hN bA kL
  go_wp2_with fail
  go_loopw [6, 7] (fun i _ wr => ∃ j : Nat, j ≤ n1 ∧ i = .int .i64 (j : Int) ∧ Hid ((L.take j).all Am.textOk = true) ∧ Hid (KidsAt (fun _ => True) wr (.slice o1 n1 q1') L) ∧ Hid (Below w.heap.size w wr)) (fun i _ _ => n1 - (intOf i).toNat)
  case atStart => exact ⟨0, Nat.zero_le _, rfl, Lib.hid (by simp), K1, B1⟩
  case round =>
    obtain ⟨j, hj, rfl, hall, K, B⟩ := hrel
    clear K1 B1
    by_cases hlt : j < n1
    · have hjl : j < L.length := by rw [hL.out]; exact hlt
      have hx := hm.out L[j] (List.getElem_mem hjl)
      have hbad := Lib.hid (fun e => hQ.out.trans (am_all_bad Am.textOk L j hjl e))
      have hgood := Lib.hid (fun e => am_all_more Am.textOk L j hjl hall.out e)
      obtain ⟨pb, po, k', sp', nm', d', x3, x4, rfl, d0, d1, d2, d3, d4, d5, hE, ⟨ro, rn, rc, rfl⟩, ⟨so, sn, sc, rfl⟩, -, -⟩ := KidsAt.nd K.out hjl
      have kR := (fun x (hx : Gv.wt x ≤ 100000) W A (hW : Nd W A x) => (nd_textOk x W hW (by omega)))
      have cc := kR L[j] hx _ _ hE
      clear kR
      have hval : Hid (Am.textOk L[j] = Am.textOk L[j]) := Lib.hid rfl
      obtain ⟨y, hy⟩ : ∃ y, y = Am.textOk L[j] := ⟨_, rfl⟩
      rw [← hy] at cc hbad hgood
      replace hy := Lib.hid hy
      replace cc := Lib.hid cc
      clear hE
      go_wp2_with fail
      (with_reducible refine (cc.out).mono ?_); rintro e w2 ⟨rfl, b⟩
      replace K := Lib.hid (K.out.on b)
      replace B := Lib.hid (B.out.trans (b.mono B.out.size))
      clear b cc d0 d1 d2 d3 d4 d5
      cases y with
      | true =>
        have hok := Lib.hid (hgood.out rfl)
        go_wp2_with fail
        go_roundw
        case rel => exact ⟨j + 1, by omega, by go_num, hok, K, B⟩
        case measure => simp [intOf]; omega
      | false =>
        have hno := Lib.hid (hbad.out rfl)
        go_wp2_with fail
        go_ret
        exact ⟨ret_bool hno.out.symm, B.out⟩
    · have hr : Hid (Q = true) := Lib.hid (by
        have h2 := hall.out
        rw [List.take_of_length_le (by rw [hL.out]; omega)] at h2
        rw [hQ.out, h2])
      go_wp2_with fail
      go_ret
      exact ⟨ret_bool hr.out.symm, B.out⟩
set_option maxRecDepth 100000 in
set_option maxHeartbeats 6400000 in
theorem nd_each7 (n : Gv.Node) {A : Array Value} (name : ByteArray) (w : World) (h : Nd w A n) (hz : Gv.wt n ≤ 100000) (q0 : (name.toList == [97, 117, 116, 104, 111, 114]) = false) (q1 : (name.toList == [99, 111, 110, 116, 114, 105, 98, 117, 116, 111, 114]) = false) (q2 : (name.toList == [117, 112, 100, 97, 116, 101, 100]) = false) (q3 : (name.toList == [112, 117, 98, 108, 105, 115, 104, 101, 100]) = false) (q4 : (name.toList == [116, 105, 116, 108, 101]) = false) (q5 : (name.toList == [115, 117, 109, 109, 97, 114, 121]) = false) (q6 : (name.toList == [114, 105, 103, 104, 116, 115]) = false) (q7 : (name.toList == [105, 100]) = true) :
    Calls Tryz.prog 23 #[.agg A, .string name] w fun e w' => e = .returned (.bool ((Am.all n name.data.toList).all Am.idOk)) ∧ Below w.heap.size w w' := by
  have hl0 := Am.kids_wt n
  have hl1 : (Am.all n name.data.toList).length ≤ 100000 := Nat.le_trans (List.length_filter_le _ _) (Nat.le_trans hl0 hz)
  have kL := Lib.hid (fun W A (hW : Nd W A n) => nd_all n name W hW (by omega))
  have hm := Lib.hid (Am.all_wt (n := n) (name := name.data.toList) hz)
  generalize Am.all n name.data.toList = L at *
  obtain ⟨Q, hQ⟩ : ∃ Q, Q = L.all Am.idOk := ⟨_, rfl⟩
  rw [← hQ]
  replace hQ := Lib.hid hQ
  generalize hL : L.length = n1 at *
  replace hL := Lib.hid hL
  clear hl0 hz
  obtain ⟨S, k, sp, nm, d, as', kids, ao, bo, ca, cb, hn, rfl, ha, hK, h1, h2⟩ := h.form
  have bA := (Below.refl w.heap.size w).alloc (Nat.le_refl _) (.cells #[.int .i64 k, .string sp, .string nm, .slice ao as'.length ca, .slice bo kids.length cb, .string d] 25)
  have hN := Lib.hid (h.on bA)
  have C0 := Lib.hid (Cells.new w 25 #[.int .i64 k, .string sp, .string nm, .slice ao as'.length ca, .slice bo kids.length cb, .string d])
  replace bA := Lib.hid bA
  clear h ha hK h1 h2 hn
  go_enter Tryz.func23, Tryz.ntmps23
  go_upto_region 1 with fail
  generalize w.alloc (.cells #[.int .i64 k, .string sp, .string nm, .slice ao as'.length ca, .slice bo kids.length cb, .string d] 25) = wA at *
  obtain ⟨x0, x1, x2, x3, x4, x5⟩ := node_open (show Cells _ _ _ (nodeArr k sp nm (.slice ao as'.length ca) (.slice bo kids.length cb) d) from C0.out)
  have cc := Lib.hid (kL.out wA _ hN.out)
  go_wp2_with fail
  (with_reducible refine (cc.out).mono ?_); rintro e w1 ⟨o1, q1', rfl, K1, b1⟩
  have B1 := Lib.hid (bA.out.trans (b1.mono bA.out.size))
  replace K1 := Lib.hid K1
  clear x0 x1 x2 x3 x4 x5 cc b1 C0 hN bA kL
  go_wp2_with fail
  go_loopw [6, 7] (fun i _ wr => ∃ j : Nat, j ≤ n1 ∧ i = .int .i64 (j : Int) ∧ Hid ((L.take j).all Am.idOk = true) ∧ Hid (KidsAt (fun _ => True) wr (.slice o1 n1 q1') L) ∧ Hid (Below w.heap.size w wr)) (fun i _ _ => n1 - (intOf i).toNat)
  case atStart => exact ⟨0, Nat.zero_le _, rfl, Lib.hid (by simp), K1, B1⟩
  case round =>
    obtain ⟨j, hj, rfl, hall, K, B⟩ := hrel
    clear K1 B1
    by_cases hlt : j < n1
    · have hjl : j < L.length := by rw [hL.out]; exact hlt
      have hx := hm.out L[j] (List.getElem_mem hjl)
      have hbad := Lib.hid (fun e => hQ.out.trans (am_all_bad Am.idOk L j hjl e))
      have hgood := Lib.hid (fun e => am_all_more Am.idOk L j hjl hall.out e)
      obtain ⟨pb, po, k', sp', nm', d', x3, x4, rfl, d0, d1, d2, d3, d4, d5, hE, ⟨ro, rn, rc, rfl⟩, ⟨so, sn, sc, rfl⟩, -, -⟩ := KidsAt.nd K.out hjl
      have kP := Lib.hid (fun W A (hW : Nd W A L[j]) => nd_plain L[j] W hW)
      have kT := Lib.hid (fun W A (hW : Nd W A L[j]) => nd_text L[j] W hW (by omega))
      have zt := txS_size L[j]
      have zy := trS_size (txS L[j])
      have kR := Lib.hid (fun W => refTrim_any (txS L[j]) W (by unfold maxLen; omega))
      have kI := Lib.hid (fun W => nd_iri (trS (txS L[j])) true W (by omega))
      have hval : Hid (Am.idOk L[j] = (Am.plain L[j] && Am.onD.iri (trS (txS L[j])).data.toList true)) := Lib.hid (by rw [trS_list, txS_list]; rfl)
      clear zt zy
      generalize Am.onD.iri (trS (txS L[j])).data.toList true = ii at *
      generalize trS (txS L[j]) = y2 at *
      generalize txS L[j] = tx2 at *
      generalize Am.plain L[j] = pl at *
      have cc := Lib.hid (kP.out _ _ hE)
      clear hE
      go_wp2_with fail
      (with_reducible refine (cc.out).mono ?_); rintro e w2 ⟨rfl, b⟩
      replace K := Lib.hid (K.out.on b)
      replace B := Lib.hid (B.out.trans (b.mono B.out.size))
      clear b cc d0 d1 d2 d3 d4 d5
      cases pl with
      | false =>
        have hno := Lib.hid (hbad.out (by rw [hval.out]; rfl))
        go_wp2_with fail
        go_ret
        exact ⟨ret_bool hno.out.symm, B.out⟩
      | true =>
        obtain ⟨k', sp', nm', d', x3, x4, d0, d1, d2, d3, d4, d5, hE, ⟨ro, rn, rc, rfl⟩, ⟨so, sn, sc, rfl⟩⟩ := KidsAt.nd1 K.out hjl
        have cc := Lib.hid (kT.out _ _ hE)
        clear hE
        go_wp2_with fail
        (with_reducible refine (cc.out).mono ?_); rintro e w3 ⟨rfl, b⟩
        replace K := Lib.hid (K.out.on b)
        replace B := Lib.hid (B.out.trans (b.mono B.out.size))
        clear b cc d0 d1 d2 d3 d4 d5
        go_wp2_with fail
        (with_reducible refine (kR.out _).mono ?_); rintro e w4 ⟨rfl, rfl⟩
        go_wp2_with fail
        (with_reducible refine (kI.out _).mono ?_); rintro e w5 ⟨rfl, b⟩
        replace K := Lib.hid (K.out.on b)
        replace B := Lib.hid (B.out.trans (b.mono B.out.size))
        clear b
        cases ii with
        | true =>
          have hok := Lib.hid (hgood.out (by rw [hval.out]; rfl))
          go_wp2_with fail
          go_roundw
          case rel => exact ⟨j + 1, by omega, by go_num, hok, K, B⟩
          case measure => simp [intOf]; omega
        | false =>
          have hno := Lib.hid (hbad.out (by rw [hval.out]; rfl))
          go_wp2_with fail
          go_ret
          exact ⟨ret_bool hno.out.symm, B.out⟩
    · have hr : Hid (Q = true) := Lib.hid (by
        have h2 := hall.out
        rw [List.take_of_length_le (by rw [hL.out]; omega)] at h2
        rw [hQ.out, h2])
      go_wp2_with fail
      go_ret
      exact ⟨ret_bool hr.out.symm, B.out⟩
set_option maxRecDepth 100000 in
set_option maxHeartbeats 6400000 in
theorem nd_each8 (n : Gv.Node) {A : Array Value} (name : ByteArray) (w : World) (h : Nd w A n) (hz : Gv.wt n ≤ 100000) (q0 : (name.toList == [97, 117, 116, 104, 111, 114]) = false) (q1 : (name.toList == [99, 111, 110, 116, 114, 105, 98, 117, 116, 111, 114]) = false) (q2 : (name.toList == [117, 112, 100, 97, 116, 101, 100]) = false) (q3 : (name.toList == [112, 117, 98, 108, 105, 115, 104, 101, 100]) = false) (q4 : (name.toList == [116, 105, 116, 108, 101]) = false) (q5 : (name.toList == [115, 117, 109, 109, 97, 114, 121]) = false) (q6 : (name.toList == [114, 105, 103, 104, 116, 115]) = false) (q7 : (name.toList == [105, 100]) = false) (q8 : (name.toList == [108, 105, 110, 107]) = true) :
    Calls Tryz.prog 23 #[.agg A, .string name] w fun e w' => e = .returned (.bool ((Am.all n name.data.toList).all (Am.link Am.onD))) ∧ Below w.heap.size w w' := by
  have hl0 := Am.kids_wt n
  have hl1 : (Am.all n name.data.toList).length ≤ 100000 := Nat.le_trans (List.length_filter_le _ _) (Nat.le_trans hl0 hz)
  have kL := Lib.hid (fun W A (hW : Nd W A n) => nd_all n name W hW (by omega))
  have hm := Lib.hid (Am.all_wt (n := n) (name := name.data.toList) hz)
  generalize Am.all n name.data.toList = L at *
  obtain ⟨Q, hQ⟩ : ∃ Q, Q = L.all (Am.link Am.onD) := ⟨_, rfl⟩
  rw [← hQ]
  replace hQ := Lib.hid hQ
  generalize hL : L.length = n1 at *
  replace hL := Lib.hid hL
  clear hl0 hz
  obtain ⟨S, k, sp, nm, d, as', kids, ao, bo, ca, cb, hn, rfl, ha, hK, h1, h2⟩ := h.form
  have bA := (Below.refl w.heap.size w).alloc (Nat.le_refl _) (.cells #[.int .i64 k, .string sp, .string nm, .slice ao as'.length ca, .slice bo kids.length cb, .string d] 25)
  have hN := Lib.hid (h.on bA)
  have C0 := Lib.hid (Cells.new w 25 #[.int .i64 k, .string sp, .string nm, .slice ao as'.length ca, .slice bo kids.length cb, .string d])
  replace bA := Lib.hid bA
  clear h ha hK h1 h2 hn
  go_enter Tryz.func23, Tryz.ntmps23
  go_upto_region 1 with fail
  generalize w.alloc (.cells #[.int .i64 k, .string sp, .string nm, .slice ao as'.length ca, .slice bo kids.length cb, .string d] 25) = wA at *
  obtain ⟨x0, x1, x2, x3, x4, x5⟩ := node_open (show Cells _ _ _ (nodeArr k sp nm (.slice ao as'.length ca) (.slice bo kids.length cb) d) from C0.out)
  have cc := Lib.hid (kL.out wA _ hN.out)
  go_wp2_with fail
  (with_reducible refine (cc.out).mono ?_); rintro e w1 ⟨o1, q1', rfl, K1, b1⟩
  have B1 := Lib.hid (bA.out.trans (b1.mono bA.out.size))
  replace K1 := Lib.hid K1
  clear x0 x1 x2 x3 x4 x5 cc b1 C0 hN bA kL
  go_wp2_with fail
  go_loopw [6, 7] (fun i _ wr => ∃ j : Nat, j ≤ n1 ∧ i = .int .i64 (j : Int) ∧ Hid ((L.take j).all (Am.link Am.onD) = true) ∧ Hid (KidsAt (fun _ => True) wr (.slice o1 n1 q1') L) ∧ Hid (Below w.heap.size w wr)) (fun i _ _ => n1 - (intOf i).toNat)
  case atStart => exact ⟨0, Nat.zero_le _, rfl, Lib.hid (by simp), K1, B1⟩
  case round =>
    obtain ⟨j, hj, rfl, hall, K, B⟩ := hrel
    clear K1 B1
    by_cases hlt : j < n1
    · have hjl : j < L.length := by rw [hL.out]; exact hlt
      have hx := hm.out L[j] (List.getElem_mem hjl)
      have hbad := Lib.hid (fun e => hQ.out.trans (am_all_bad (Am.link Am.onD) L j hjl e))
      have hgood := Lib.hid (fun e => am_all_more (Am.link Am.onD) L j hjl hall.out e)
      obtain ⟨pb, po, k', sp', nm', d', x3, x4, rfl, d0, d1, d2, d3, d4, d5, hE, ⟨ro, rn, rc, rfl⟩, ⟨so, sn, sc, rfl⟩, -, -⟩ := KidsAt.nd K.out hjl
      have kR := (fun x (hx : Gv.wt x ≤ 100000) W A (hW : Nd W A x) => (nd_link x W hW hx))
      have cc := kR L[j] hx _ _ hE
      clear kR
      have hval : Hid ((Am.link Am.onD) L[j] = (Am.link Am.onD) L[j]) := Lib.hid rfl
      obtain ⟨y, hy⟩ : ∃ y, y = (Am.link Am.onD) L[j] := ⟨_, rfl⟩
      rw [← hy] at cc hbad hgood
      replace hy := Lib.hid hy
      replace cc := Lib.hid cc
      clear hE
      go_wp2_with fail
      (with_reducible refine (cc.out).mono ?_); rintro e w2 ⟨rfl, b⟩
      replace K := Lib.hid (K.out.on b)
      replace B := Lib.hid (B.out.trans (b.mono B.out.size))
      clear b cc d0 d1 d2 d3 d4 d5
      cases y with
      | true =>
        have hok := Lib.hid (hgood.out rfl)
        go_wp2_with fail
        go_roundw
        case rel => exact ⟨j + 1, by omega, by go_num, hok, K, B⟩
        case measure => simp [intOf]; omega
      | false =>
        have hno := Lib.hid (hbad.out rfl)
        go_wp2_with fail
        go_ret
        exact ⟨ret_bool hno.out.symm, B.out⟩
    · have hr : Hid (Q = true) := Lib.hid (by
        have h2 := hall.out
        rw [List.take_of_length_le (by rw [hL.out]; omega)] at h2
        rw [hQ.out, h2])
      go_wp2_with fail
      go_ret
      exact ⟨ret_bool hr.out.symm, B.out⟩
set_option maxRecDepth 100000 in
set_option maxHeartbeats 6400000 in
theorem nd_each9 (n : Gv.Node) {A : Array Value} (name : ByteArray) (w : World) (h : Nd w A n) (hz : Gv.wt n ≤ 100000) (q0 : (name.toList == [97, 117, 116, 104, 111, 114]) = false) (q1 : (name.toList == [99, 111, 110, 116, 114, 105, 98, 117, 116, 111, 114]) = false) (q2 : (name.toList == [117, 112, 100, 97, 116, 101, 100]) = false) (q3 : (name.toList == [112, 117, 98, 108, 105, 115, 104, 101, 100]) = false) (q4 : (name.toList == [116, 105, 116, 108, 101]) = false) (q5 : (name.toList == [115, 117, 109, 109, 97, 114, 121]) = false) (q6 : (name.toList == [114, 105, 103, 104, 116, 115]) = false) (q7 : (name.toList == [105, 100]) = false) (q8 : (name.toList == [108, 105, 110, 107]) = false) (q9 : (name.toList == [99, 97, 116, 101, 103, 111, 114, 121]) = true) :
    Calls Tryz.prog 23 #[.agg A, .string name] w fun e w' => e = .returned (.bool ((Am.all n name.data.toList).all Am.catOk)) ∧ Below w.heap.size w w' := by
  have hl0 := Am.kids_wt n
  have hl1 : (Am.all n name.data.toList).length ≤ 100000 := Nat.le_trans (List.length_filter_le _ _) (Nat.le_trans hl0 hz)
  have kL := Lib.hid (fun W A (hW : Nd W A n) => nd_all n name W hW (by omega))
  have hm := Lib.hid (Am.all_wt (n := n) (name := name.data.toList) hz)
  generalize Am.all n name.data.toList = L at *
  obtain ⟨Q, hQ⟩ : ∃ Q, Q = L.all Am.catOk := ⟨_, rfl⟩
  rw [← hQ]
  replace hQ := Lib.hid hQ
  generalize hL : L.length = n1 at *
  replace hL := Lib.hid hL
  clear hl0 hz
  obtain ⟨S, k, sp, nm, d, as', kids, ao, bo, ca, cb, hn, rfl, ha, hK, h1, h2⟩ := h.form
  have bA := (Below.refl w.heap.size w).alloc (Nat.le_refl _) (.cells #[.int .i64 k, .string sp, .string nm, .slice ao as'.length ca, .slice bo kids.length cb, .string d] 25)
  have hN := Lib.hid (h.on bA)
  have C0 := Lib.hid (Cells.new w 25 #[.int .i64 k, .string sp, .string nm, .slice ao as'.length ca, .slice bo kids.length cb, .string d])
  replace bA := Lib.hid bA
  clear h ha hK h1 h2 hn
  go_enter Tryz.func23, Tryz.ntmps23
  go_upto_region 1 with fail
  generalize w.alloc (.cells #[.int .i64 k, .string sp, .string nm, .slice ao as'.length ca, .slice bo kids.length cb, .string d] 25) = wA at *
  obtain ⟨x0, x1, x2, x3, x4, x5⟩ := node_open (show Cells _ _ _ (nodeArr k sp nm (.slice ao as'.length ca) (.slice bo kids.length cb) d) from C0.out)
  have cc := Lib.hid (kL.out wA _ hN.out)
  go_wp2_with fail
  (with_reducible refine (cc.out).mono ?_); rintro e w1 ⟨o1, q1', rfl, K1, b1⟩
  have B1 := Lib.hid (bA.out.trans (b1.mono bA.out.size))
  replace K1 := Lib.hid K1
  clear x0 x1 x2 x3 x4 x5 cc b1 C0 hN bA kL
  go_wp2_with fail
  go_loopw [6, 7] (fun i _ wr => ∃ j : Nat, j ≤ n1 ∧ i = .int .i64 (j : Int) ∧ Hid ((L.take j).all Am.catOk = true) ∧ Hid (KidsAt (fun _ => True) wr (.slice o1 n1 q1') L) ∧ Hid (Below w.heap.size w wr)) (fun i _ _ => n1 - (intOf i).toNat)
  case atStart => exact ⟨0, Nat.zero_le _, rfl, Lib.hid (by simp), K1, B1⟩
  case round =>
    obtain ⟨j, hj, rfl, hall, K, B⟩ := hrel
    clear K1 B1
    by_cases hlt : j < n1
    · have hjl : j < L.length := by rw [hL.out]; exact hlt
      have hx := hm.out L[j] (List.getElem_mem hjl)
      have hbad := Lib.hid (fun e => hQ.out.trans (am_all_bad Am.catOk L j hjl e))
      have hgood := Lib.hid (fun e => am_all_more Am.catOk L j hjl hall.out e)
      obtain ⟨pb, po, k', sp', nm', d', x3, x4, rfl, d0, d1, d2, d3, d4, d5, hE, ⟨ro, rn, rc, rfl⟩, ⟨so, sn, sc, rfl⟩, -, -⟩ := KidsAt.nd K.out hjl
      have kR := Lib.hid (fun x W A (hW : Nd W A x) => (nd_attr x ⟨#[116, 101, 114, 109]⟩ W hW))
      have cc := kR.out L[j] _ _ hE
      rw [show (⟨#[116, 101, 114, 109]⟩ : ByteArray).data.toList = Am.lit "term" from am_lit_term.symm] at cc
      have hval : Hid (Am.catOk L[j] = atB (Am.attr L[j] (Am.lit "term"))) := Lib.hid rfl
      generalize Am.attr L[j] (Am.lit "term") = at1 at *
      generalize atB at1 = y at *
      replace cc := Lib.hid cc
      clear hE
      go_wp2_with fail
      (with_reducible refine (cc.out).mono ?_); rintro e w2 ⟨rfl, b⟩
      replace K := Lib.hid (K.out.on b)
      replace B := Lib.hid (B.out.trans (b.mono B.out.size))
      clear b cc d0 d1 d2 d3 d4 d5
      cases y with
      | true =>
        have hok := Lib.hid (hgood.out hval.out)
        go_wp2_with fail
        go_roundw
        case rel => exact ⟨j + 1, by omega, by go_num, hok, K, B⟩
        case measure => simp [intOf]; omega
      | false =>
        have hno := Lib.hid (hbad.out hval.out)
        go_wp2_with fail
        go_ret
        exact ⟨ret_bool hno.out.symm, B.out⟩
    · have hr : Hid (Q = true) := Lib.hid (by
        have h2 := hall.out
        rw [List.take_of_length_le (by rw [hL.out]; omega)] at h2
        rw [hQ.out, h2])
      go_wp2_with fail
      go_ret
      exact ⟨ret_bool hr.out.symm, B.out⟩
set_option maxRecDepth 100000 in
set_option maxHeartbeats 6400000 in
theorem nd_each10 (n : Gv.Node) {A : Array Value} (name : ByteArray) (w : World) (h : Nd w A n) (hz : Gv.wt n ≤ 100000) (q0 : (name.toList == [97, 117, 116, 104, 111, 114]) = false) (q1 : (name.toList == [99, 111, 110, 116, 114, 105, 98, 117, 116, 111, 114]) = false) (q2 : (name.toList == [117, 112, 100, 97, 116, 101, 100]) = false) (q3 : (name.toList == [112, 117, 98, 108, 105, 115, 104, 101, 100]) = false) (q4 : (name.toList == [116, 105, 116, 108, 101]) = false) (q5 : (name.toList == [115, 117, 109, 109, 97, 114, 121]) = false) (q6 : (name.toList == [114, 105, 103, 104, 116, 115]) = false) (q7 : (name.toList == [105, 100]) = false) (q8 : (name.toList == [108, 105, 110, 107]) = false) (q9 : (name.toList == [99, 97, 116, 101, 103, 111, 114, 121]) = false) (q10 : (name.toList == [99, 111, 110, 116, 101, 110, 116]) = true) :
    Calls Tryz.prog 23 #[.agg A, .string name] w fun e w' => e = .returned (.bool ((Am.all n name.data.toList).all (Am.content Am.onD))) ∧ Below w.heap.size w w' := by
  have hl0 := Am.kids_wt n
  have hl1 : (Am.all n name.data.toList).length ≤ 100000 := Nat.le_trans (List.length_filter_le _ _) (Nat.le_trans hl0 hz)
  have kL := Lib.hid (fun W A (hW : Nd W A n) => nd_all n name W hW (by omega))
  have hm := Lib.hid (Am.all_wt (n := n) (name := name.data.toList) hz)
  generalize Am.all n name.data.toList = L at *
  obtain ⟨Q, hQ⟩ : ∃ Q, Q = L.all (Am.content Am.onD) := ⟨_, rfl⟩
  rw [← hQ]
  replace hQ := Lib.hid hQ
  generalize hL : L.length = n1 at *
  replace hL := Lib.hid hL
  clear hl0 hz
  obtain ⟨S, k, sp, nm, d, as', kids, ao, bo, ca, cb, hn, rfl, ha, hK, h1, h2⟩ := h.form
  have bA := (Below.refl w.heap.size w).alloc (Nat.le_refl _) (.cells #[.int .i64 k, .string sp, .string nm, .slice ao as'.length ca, .slice bo kids.length cb, .string d] 25)
  have hN := Lib.hid (h.on bA)
  have C0 := Lib.hid (Cells.new w 25 #[.int .i64 k, .string sp, .string nm, .slice ao as'.length ca, .slice bo kids.length cb, .string d])
  replace bA := Lib.hid bA
  clear h ha hK h1 h2 hn
  go_enter Tryz.func23, Tryz.ntmps23
  go_upto_region 1 with fail
  generalize w.alloc (.cells #[.int .i64 k, .string sp, .string nm, .slice ao as'.length ca, .slice bo kids.length cb, .string d] 25) = wA at *
  obtain ⟨x0, x1, x2, x3, x4, x5⟩ := node_open (show Cells _ _ _ (nodeArr k sp nm (.slice ao as'.length ca) (.slice bo kids.length cb) d) from C0.out)
  have cc := Lib.hid (kL.out wA _ hN.out)
  go_wp2_with fail
  (with_reducible refine (cc.out).mono ?_); rintro e w1 ⟨o1, q1', rfl, K1, b1⟩
  have B1 := Lib.hid (bA.out.trans (b1.mono bA.out.size))
  replace K1 := Lib.hid K1
  clear x0 x1 x2 x3 x4 x5 cc b1 C0 hN bA kL
  go_wp2_with fail
  go_loopw [6, 7] (fun i _ wr => ∃ j : Nat, j ≤ n1 ∧ i = .int .i64 (j : Int) ∧ Hid ((L.take j).all (Am.content Am.onD) = true) ∧ Hid (KidsAt (fun _ => True) wr (.slice o1 n1 q1') L) ∧ Hid (Below w.heap.size w wr)) (fun i _ _ => n1 - (intOf i).toNat)
  case atStart => exact ⟨0, Nat.zero_le _, rfl, Lib.hid (by simp), K1, B1⟩
  case round =>
    obtain ⟨j, hj, rfl, hall, K, B⟩ := hrel
    clear K1 B1
    by_cases hlt : j < n1
    · have hjl : j < L.length := by rw [hL.out]; exact hlt
      have hx := hm.out L[j] (List.getElem_mem hjl)
      have hbad := Lib.hid (fun e => hQ.out.trans (am_all_bad (Am.content Am.onD) L j hjl e))
      have hgood := Lib.hid (fun e => am_all_more (Am.content Am.onD) L j hjl hall.out e)
      obtain ⟨pb, po, k', sp', nm', d', x3, x4, rfl, d0, d1, d2, d3, d4, d5, hE, ⟨ro, rn, rc, rfl⟩, ⟨so, sn, sc, rfl⟩, -, -⟩ := KidsAt.nd K.out hjl
      have kR := (fun x (hx : Gv.wt x ≤ 100000) W A (hW : Nd W A x) => (nd_content x W hW hx))
      have cc := kR L[j] hx _ _ hE
      clear kR
      have hval : Hid ((Am.content Am.onD) L[j] = (Am.content Am.onD) L[j]) := Lib.hid rfl
      obtain ⟨y, hy⟩ : ∃ y, y = (Am.content Am.onD) L[j] := ⟨_, rfl⟩
      rw [← hy] at cc hbad hgood
      replace hy := Lib.hid hy
      replace cc := Lib.hid cc
      clear hE
      go_wp2_with fail
      (with_reducible refine (cc.out).mono ?_); rintro e w2 ⟨rfl, b⟩
      replace K := Lib.hid (K.out.on b)
      replace B := Lib.hid (B.out.trans (b.mono B.out.size))
      clear b cc d0 d1 d2 d3 d4 d5
      cases y with
      | true =>
        have hok := Lib.hid (hgood.out rfl)
        go_wp2_with fail
        go_roundw
        case rel => exact ⟨j + 1, by omega, by go_num, hok, K, B⟩
        case measure => simp [intOf]; omega
      | false =>
        have hno := Lib.hid (hbad.out rfl)
        go_wp2_with fail
        go_ret
        exact ⟨ret_bool hno.out.symm, B.out⟩
    · have hr : Hid (Q = true) := Lib.hid (by
        have h2 := hall.out
        rw [List.take_of_length_le (by rw [hL.out]; omega)] at h2
        rw [hQ.out, h2])
      go_wp2_with fail
      go_ret
      exact ⟨ret_bool hr.out.symm, B.out⟩
end Go.Proofs.YtbaclacfadkjdaaGreatDoor
