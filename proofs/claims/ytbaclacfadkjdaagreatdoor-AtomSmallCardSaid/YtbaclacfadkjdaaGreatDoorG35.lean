/-
  The program's own words of a node's text: Text, withoutSpace, trimmed.
  The program's own word of one div alone among kids: isDivAlone.
-/
import Derived.Test.YtbaclacfadkjdaaGreatDoorG34
import Derived.Test.YtbaclacfadkjdaaGreatDoorG12
import Derived.Test.YtbaclacfadkjdaaGreatDoorShelf2
import Derived.Lib.SlTrimSet
import Derived.Shelf.Strings.SlTrimAscii
import Derived.Test.YtbaclacfadkjdaaGreatDoorG21
namespace Go.Proofs.YtbaclacfadkjdaaGreatDoor
open Go.RowKit
set_option linter.unusedVariables false
set_option linter.unusedSimpArgs false
theorem Am.trimR_cons (b : UInt8) (t : List UInt8) : Am.trimR (b :: t) = if Am.trimR t = [] ∧ Am.space b = true then [] else b :: Am.trimR t := by
  unfold Am.trimR
  rw [List.reverse_cons, List.dropWhile_append]
  cases h : List.dropWhile Am.space t.reverse with
  | nil =>
    rw [if_pos (by rfl)]
    cases hb : Am.space b
    · rw [if_neg (by simp)]
      simp [hb]
    · rw [if_pos (by simp)]
      simp [hb]
  | cons x l =>
    rw [if_neg (by simp), if_neg (by simp)]
    simp
theorem Am.trim_turn : ∀ l : List UInt8, (Am.trimR l).dropWhile Am.space = Am.trimR (l.dropWhile Am.space)
  | [] => rfl
  | b :: t => by
    rw [Am.trimR_cons, List.dropWhile_cons]
    cases hb : Am.space b
    · rw [if_neg (by simp), if_neg (by simp), Am.trimR_cons, hb, if_neg (by simp), List.dropWhile_cons, hb]
      rfl
    · rw [if_pos rfl, ← Am.trim_turn t]
      by_cases h : Am.trimR t = []
      · rw [if_pos ⟨h, rfl⟩, h]
      · rw [if_neg (fun e => h e.1), List.dropWhile_cons, hb, if_pos rfl]
theorem Am.trim_lib (l : List UInt8) : Lib.trimS l [32, 9, 10, 13] = Am.trim l := by
  have e : (fun b : UInt8 => ([32, 9, 10, 13] : List UInt8).contains b) = Am.space := by
    funext b
    have : ∀ n, n < 256 → ([32, 9, 10, 13] : List UInt8).contains (UInt8.ofNat n) = Am.space (UInt8.ofNat n) := by decide +kernel
    have := this b.toNat b.toNat_lt
    rwa [UInt8.ofNat_toNat] at this
  unfold Lib.trimS Lib.trimLeftS Lib.trimRightS
  rw [e, Am.trim_is]
  exact Am.trim_turn l
theorem infoSpaces : (Tryz.prog.info? 144).map (fun i => (i.zero, i.size)) = some (some (.agg (Array.replicate 256 (.bool false))), 256) := by kernel_rfl
theorem trimSpaces_at (s : ByteArray) (w : World) (hs : s.size ≤ 1000000000) :
    Calls Tryz.prog 107 #[.string s, .string ⟨#[32, 9, 10, 13]⟩] w fun e w' => e = .returned (.string (trS s)) ∧ Below w.heap.size w w' := by
  refine (Any.strings_Trim_laid Tryz.lays160 infoSpaces s ⟨#[32, 9, 10, 13]⟩ w (by omega) (by decide) (Go.Proofs.ascii_of_all (by decide))).mono ?_
  rintro e w' ⟨rfl, b⟩
  rw [show (⟨#[32, 9, 10, 13]⟩ : ByteArray).data.toList = [32, 9, 10, 13] from rfl, Am.trim_lib]
  exact ⟨rfl, b⟩
set_option maxRecDepth 100000 in
set_option maxHeartbeats 1600000 in
theorem pWithout_any (s : ByteArray) (w : World) (hs : s.size ≤ 1000000000) :
    Calls Tryz.prog 75 #[.string s] w fun e w' => e = .returned (.string (trS s)) ∧ Below w.heap.size w w' := by
  have hc := trimSpaces_at s w hs
  generalize trS s = u at *
  go_enter Tryz.func75, Tryz.ntmps75
  go_wp2_with fail
  (with_reducible refine hc.mono ?_); rintro e w1 ⟨rfl, b1⟩
  go_wp2_with fail
  go_ret
  exact ⟨rfl, b1⟩
set_option maxRecDepth 100000 in
set_option maxHeartbeats 6400000 in
theorem pText_any (n : Gv.Node) {A : Array Value} (w : World) (h : Nd w A n) (hz : Gv.wt n ≤ 1000000) :
    Calls Tryz.prog 12 #[.agg A] w fun e w' => e = .returned (.string (txS n)) ∧ Below w.heap.size w w' := by
  have ht := Am.text_wt n
  have hq0 : Hid (txS n = ⟨(Am.text n).toArray⟩) := Lib.hid rfl
  generalize txS n = QS at *
  obtain ⟨S, k, sp, nm, d, as', kids, ao, bo, ca, cb, rfl, rfl, hA, hK, h1, hl⟩ := h.form
  unfold maxLen at hl
  have hq : Hid (Am.text (.mk k sp nm as' kids d) = kids.flatMap Am.bit) := Lib.hid (Am.text_is _)
  have hz2 : (Am.text (.mk k sp nm as' kids d)).length ≤ 1000000 := Nat.le_trans ht hz
  generalize Am.text (.mk k sp nm as' kids d) = Q at *
  have b1 := (Below.refl w.heap.size w).alloc (Nat.le_refl _) (.cells #[.int .i64 k, .string sp, .string nm, .slice ao as'.length ca, .slice bo kids.length cb, .string d] 25)
  have C0 := Lib.hid (Cells.new w 25 #[.int .i64 k, .string sp, .string nm, .slice ao as'.length ca, .slice bo kids.length cb, .string d])
  have hsA : (w.alloc (.cells #[.int .i64 k, .string sp, .string nm, .slice ao as'.length ca, .slice bo kids.length cb, .string d] 25)).heap.size = w.heap.size + 1 := by simp
  have hK0 := Lib.hid hK
  clear hA hK h ht hz
  go_enter Tryz.func12, Tryz.ntmps12
  go_upto_region 1 with fail
  generalize w.alloc (.cells #[.int .i64 k, .string sp, .string nm, .slice ao as'.length ca, .slice bo kids.length cb, .string d] 25) = wA at *
  have hb0 := builds_new wA
  have b2 := b1.trans (((Below.refl wA.heap.size wA).alloc (Nat.le_refl _) (.cells #[.pointer none, .slice none 0 0] 56)).mono b1.size)
  have C1 := Lib.hid (C0.out.on ((Below.refl wA.heap.size wA).alloc (Nat.le_refl _) (.cells #[.pointer none, .slice none 0 0] 56)))
  go_upto_region 2 with fail
  generalize wA.alloc (.cells #[.pointer none, .slice none 0 0] 56) = wB at *
  obtain ⟨-, -, -, -, c4, -⟩ := node_open (show Cells _ _ _ (nodeArr k sp nm (.slice ao as'.length ca) (.slice bo kids.length cb) d) from C1.out)
  obtain ⟨B, hB⟩ : ∃ B, B = w.heap.size + 1 := ⟨_, rfl⟩
  rw [hsA, ← hB] at hb0
  rw [← hB]
  replace hB := Lib.hid hB
  have hBw : Hid (w.heap.size ≤ B) := Lib.hid (by rw [hB.out]; omega)
  replace hsA := Lib.hid hsA
  replace hb0 := Lib.hid hb0
  replace b1 := Lib.hid b1
  replace b2 := Lib.hid b2
  go_wp2_with fail
  clear c4
  go_loopw [9] (fun i wr => ∃ j : Nat, j ≤ kids.length ∧ i = .int .i64 (j : Int) ∧ Hid (Builds B B ((kids.take j).flatMap Am.bit) wr) ∧ Hid (Below w.heap.size w wr) ∧ Hid (B ≤ wr.heap.size)) (fun i _ => kids.length - (intOf i).toNat)
  case atStart => exact ⟨0, Nat.zero_le _, rfl, Lib.hid hb0.out, b2, Lib.hid (Nat.le_of_lt (builds_lt hb0.out))⟩
  case round =>
    obtain ⟨j, hj, rfl, hD, bw, hs⟩ := hrel
    by_cases hlt : j < kids.length
    · obtain ⟨b, off, k', sp', nm', d', as2, kids2, po, qo, pc, qc, rfl, ek, d0, d1, d2, d3, d4, d5, -⟩ := (hK0.out.on bw.out).kid hlt
      have hji : (j : Int) < (kids.length : Int) := by omega
      have hm := Am.bits_more hlt
      have hle := Am.bits_le kids (j + 1)
      rw [← hq.out] at hle
      rw [ek] at hm
      have R := Cells.new wr 25 #[.int .i64 k', .string sp', .string nm', .slice po as2.length pc, .slice qo kids2.length qc, .string d']
      have q0 := R.cell (i := 0) rfl
      have q5 := R.cell (i := 5) rfl
      have bP := Lib.hid (bw.out.alloc (by have := bw.out.size; omega) (.cells #[.int .i64 k', .string sp', .string nm', .slice po as2.length pc, .slice qo kids2.length qc, .string d'] 25))
      have hD1 := Lib.hid (builds_below hD.out ((Below.refl wr.heap.size wr).alloc (Nat.le_refl _) (.cells #[.int .i64 k', .string sp', .string nm', .slice po as2.length pc, .slice qo kids2.length qc, .string d'] 25)))
      have hsP : Hid (B ≤ (wr.alloc (.cells #[.int .i64 k', .string sp', .string nm', .slice po as2.length pc, .slice qo kids2.length qc, .string d'] 25)).heap.size) := Lib.hid (by have := hs.out; simp; omega)
      by_cases h1 : k' = 1
      · subst h1
        have hm' : (kids.take (j + 1)).flatMap Am.bit = (kids.take j).flatMap Am.bit ++ d'.data.toList := hm
        have hsz : ((kids.take j).flatMap Am.bit).length + d'.size ≤ 140737488355328 := by
          have h2 := list_len d'
          have h3 := congrArg List.length hm'
          rw [List.length_append] at h3
          omega
        have hws := Lib.hid (builder_writeString B B _ d' _ hD1.out hsz hsP.out)
        rw [← hm'] at hws
        replace hm' := Lib.hid hm'
        clear hD ek hm hle hsz R
        go_wp2_with fail
        (with_reducible refine hws.out.mono ?_); rintro e w1 ⟨rfl, hD', b3⟩
        replace hD' := Lib.hid hD'
        have bF := Lib.hid (bP.out.trans (b3.mono hBw.out))
        have hs' : Hid (B ≤ w1.heap.size) := Lib.hid (Nat.le_trans hsP.out b3.size)
        clear hws b3 bP d0 d1 d2 d3 d4 d5 q0 q5
        go_wp2_with fail
        go_roundw
        case rel => exact ⟨j + 1, by omega, by go_num, hD', bF, hs'⟩
        case measure => simp [intOf]; omega
      · have e0 : (k' == 1) = false := beq_false_of_ne h1
        have hD' : Hid (Builds B B ((kids.take (j + 1)).flatMap Am.bit) (wr.alloc (.cells #[.int .i64 k', .string sp', .string nm', .slice po as2.length pc, .slice qo kids2.length qc, .string d'] 25))) := Lib.hid (by
          rw [hm]
          show Builds B B (_ ++ (if k' = 1 then _ else _)) _
          rw [if_neg h1, List.append_nil]
          exact hD1.out)
        clear hD hD1 ek hm hle h1 R
        go_wp2_with fail
        go_roundw
        case rel => exact ⟨j + 1, by omega, by go_num, hD', bP, hsP⟩
        case measure => simp [intOf]; omega
    · have hki : ¬ (j : Int) < (kids.length : Int) := by omega
      have hD' : Hid (Builds B B Q wr) := Lib.hid (by rw [hq.out]; have := hD.out; rwa [List.take_of_length_le (by omega)] at this)
      have hst := Lib.hid (builder_string B B Q wr hD'.out hs.out)
      clear hD
      go_wp2_with fail
      (with_reducible refine hst.out.mono ?_); rintro e w1 ⟨rfl, -, b3⟩
      have bF := Lib.hid (bw.out.trans (b3.mono hBw.out))
      clear hst b3
      go_wp2_with fail
      go_ret
      exact ⟨by rw [hq0.out]; rfl, bF.out⟩
set_option maxRecDepth 100000 in
set_option maxHeartbeats 1600000 in
theorem pTrimmed_any (n : Gv.Node) {A : Array Value} (w : World) (h : Nd w A n) (hz : Gv.wt n ≤ 1000000) :
    Calls Tryz.prog 56 #[.agg A] w fun e w' => e = .returned (.string (trS (txS n))) ∧ Below w.heap.size w w' := by
  have s1 := txS_size n
  have kT := Lib.hid (fun W A (hW : Nd W A n) => pText_any n W hW hz)
  have kR := Lib.hid (fun W => pWithout_any (txS n) W (by omega))
  generalize trS (txS n) = y at *
  generalize txS n = x at *
  clear s1
  obtain ⟨S, k, sp, nm, d, as', kids, ao, bo, ca, cb, hn, rfl, ha, hK, h1, h2⟩ := h.form
  have bA := (Below.refl w.heap.size w).alloc (Nat.le_refl _) (.cells #[.int .i64 k, .string sp, .string nm, .slice ao as'.length ca, .slice bo kids.length cb, .string d] 25)
  have hN := Lib.hid (h.on bA)
  have C0 := Lib.hid (Cells.new w 25 #[.int .i64 k, .string sp, .string nm, .slice ao as'.length ca, .slice bo kids.length cb, .string d])
  replace bA := Lib.hid bA
  clear h ha hK h1 h2 hn
  go_enter Tryz.func56, Tryz.ntmps56
  go_upto_region 1 with fail
  generalize w.alloc (.cells #[.int .i64 k, .string sp, .string nm, .slice ao as'.length ca, .slice bo kids.length cb, .string d] 25) = wA at *
  obtain ⟨x0, x1, x2, x3, x4, x5⟩ := node_open (show Cells _ _ _ (nodeArr k sp nm (.slice ao as'.length ca) (.slice bo kids.length cb) d) from C0.out)
  have cc := Lib.hid (kT.out wA _ hN.out)
  go_wp2_with fail
  (with_reducible refine (cc.out).mono ?_); rintro e w1 ⟨rfl, b1⟩
  have B1 := Lib.hid (bA.out.trans (b1.mono bA.out.size))
  clear x0 x1 x2 x3 x4 x5 cc b1
  go_wp2_with fail
  (with_reducible refine (kR.out _).mono ?_); rintro e w2 ⟨rfl, b2⟩
  have B2 := Lib.hid (B1.out.trans (b2.mono B1.out.size))
  clear b2
  go_wp2_with fail
  go_ret
  exact ⟨rfl, B2.out⟩
end Go.Proofs.YtbaclacfadkjdaaGreatDoor
namespace Go.Proofs.YtbaclacfadkjdaaGreatDoor
open Go.RowKit
set_option linter.unusedVariables false
set_option linter.unusedSimpArgs false
theorem am_empty (s : ByteArray) : ((s.toList == []) = true ∧ (s.toList != []) = false ∧ s.data.toList = []) ∨ ((s.toList == []) = false ∧ (s.toList != []) = true ∧ ¬ s.data.toList = []) := by
  rw [ByteArray.toList_eq]
  cases s.data.toList with
  | nil => exact .inl ⟨rfl, rfl, rfl⟩
  | cons b l => exact .inr ⟨rfl, rfl, by simp⟩
theorem Am.drop_nil (p : UInt8 → Bool) : ∀ l : List UInt8, l.dropWhile p = [] ↔ l.all p = true
  | [] => by simp
  | b :: l => by
    rw [List.dropWhile_cons, List.all_cons]
    cases h : p b
    · simp
    · rw [if_pos rfl, Am.drop_nil p l, Bool.true_and]
theorem Am.trim_nil (l : List UInt8) : Am.trim l = [] ↔ l.all Am.space = true := by
  rw [Am.trim_is]
  unfold Am.trimR
  rw [List.reverse_eq_nil_iff, Am.drop_nil, List.all_reverse]
  have h := List.takeWhile_append_dropWhile (p := Am.space) (l := l)
  have h2 := congrArg (List.all · Am.space) h
  simp only [List.all_append] at h2
  rw [← h2, List.all_takeWhile, Bool.true_and]
theorem trS_pick (s : ByteArray) : (((trS s).toList == []) = true ∧ ((trS s).toList != []) = false ∧ s.data.toList.all Am.space = true) ∨ (((trS s).toList == []) = false ∧ ((trS s).toList != []) = true ∧ s.data.toList.all Am.space = false) := by
  rcases am_empty (trS s) with ⟨h1, h2, h3⟩ | ⟨h1, h2, h3⟩
  · exact .inl ⟨h1, h2, (Am.trim_nil _).1 (by rw [← trS_list]; exact h3)⟩
  · refine .inr ⟨h1, h2, ?_⟩
    rw [← Bool.not_eq_true]
    exact fun e => h3 (by rw [trS_list]; exact (Am.trim_nil _).2 e)
set_option maxRecDepth 100000 in
set_option maxHeartbeats 6400000 in
theorem pDivs_any {S : Nat → Prop} {bo : Option Addr} {cb : Nat} (kids : List Gv.Node) (w : World) (hK : KidsAt S w (.slice bo kids.length cb) kids) (hkz : kids.length ≤ 1000000) (hwk0 : ∀ x, x ∈ kids → Gv.wt x ≤ 1000000) :
    Calls Tryz.prog 59 #[.slice bo kids.length cb] w fun e w' => e = .returned (.bool (decide ((kids.filter Am.isDiv).length = 1) && kids.all Am.divOk)) ∧ Below w.heap.size w w' := by
  obtain ⟨Q, hq⟩ : ∃ Q, Q = (decide ((kids.filter Am.isDiv).length = 1) && kids.all Am.divOk) := ⟨_, rfl⟩
  rw [← hq]
  replace hq := Lib.hid hq
  have hwk := Lib.hid hwk0
  replace hK := Lib.hid hK
  clear hwk0
  go_enter Tryz.func59, Tryz.ntmps59
  go_wp2_with fail
  go_loopw [3, 8] (fun c i wr => ∃ j m : Nat, j ≤ kids.length ∧ i = .int .i64 (j : Int) ∧ c = .int .i64 (m : Int) ∧ m ≤ j ∧ Hid (m = ((kids.take j).filter Am.isDiv).length) ∧ Hid ((kids.take j).all Am.divOk = true) ∧ Hid (Below w.heap.size w wr)) (fun _ i _ => kids.length - (intOf i).toNat)
  case atStart => exact ⟨0, 0, Nat.zero_le _, rfl, rfl, Nat.le_refl _, Lib.hid (by simp), Lib.hid (by simp), Lib.hid (Below.refl _ _)⟩
  case round =>
    obtain ⟨j, m, hj, rfl, rfl, hmj, hm, hall, bw⟩ := hrel
    by_cases hlt : j < kids.length
    · obtain ⟨b, off, k', sp', nm', d', x3, x4, rfl, d0, d1, d2, d3, d4, d5, hN, ⟨po, pn, pc, rfl⟩, ⟨qo, qn, qc, rfl⟩, hkd, hdd⟩ := (hK.out.on bw.out).nd hlt
      have hwt := hwk.out kids[j] (List.getElem_mem hlt)
      have hdw := Am.data_wt kids[j]
      have hmr := Am.divs_more hlt
      have hbad := Lib.hid (fun e => am_all_bad Am.divOk kids j hlt e)
      have hgood := Lib.hid (fun e => am_all_more Am.divOk kids j hlt hall.out e)
      have hok : Hid (Am.divOk kids[j] = (Am.isDiv kids[j] || !(decide (k' = 0) || (decide (k' = 1) && !(d'.data.toList.all Am.space))))) := Lib.hid (by unfold Am.divOk; rw [hkd, hdd])
      rw [hdd] at hdw
      have bx := (Below.refl wr.heap.size wr).alloc (Nat.le_refl _) (.cells #[.int .i64 k', .string sp', .string nm', .slice po pn pc, .slice qo qn qc, .string d'] 25)
      have hN1 := Lib.hid (hN.on bx)
      have C1 := Cells.new wr 25 (nodeArr k' sp' nm' (.slice po pn pc) (.slice qo qn qc) d')
      unfold nodeArr at C1
      replace C1 := Lib.hid C1
      have bw1 := Lib.hid (bw.out.trans (bx.mono bw.out.size))
      have hbl := Lib.hid (fun W => pWithout_any d' W (by omega))
      have hpick := trS_pick d'
      generalize trS d' = td at *
      clear hN bx bw hkd hdd hdw hwt
      have hji : (j : Int) < (kids.length : Int) := by omega
      go_upto_region 5 with fail
      clear d0 d1 d2 d3 d4 d5
      generalize wr.alloc (.cells #[.int .i64 k', .string sp', .string nm', .slice po pn pc, .slice qo qn qc, .string d'] 25) = w1 at *
      obtain ⟨x0, x1, x2, x3, x4, x5⟩ := node_open (show Cells w1 _ _ (nodeArr k' sp' nm' (.slice po pn pc) (.slice qo qn qc) d') from C1.out)
      have his := pIs_any kids[j] ⟨#[104, 116, 116, 112, 58, 47, 47, 119, 119, 119, 46, 119, 51, 46, 111, 114, 103, 47, 49, 57, 57, 57, 47, 120, 104, 116, 109, 108]⟩ ⟨#[100, 105, 118]⟩ w1 hN1.out
      rw [am_xhtml, am_div] at his
      change Calls _ _ _ _ fun e w' => e = .returned (.bool (Am.isDiv kids[j])) ∧ _ at his
      replace his := Lib.hid his
      generalize Am.divOk kids[j] = dk at *
      generalize Am.isDiv kids[j] = y at *
      generalize kids[j] = nd at *
      generalize d'.data.toList.all Am.space = bl at *
      go_wp2_with fail
      (with_reducible refine (his.out).mono ?_); rintro e w2 ⟨rfl, b2⟩
      have C2 := C1.out.on b2
      obtain ⟨z0, z1, z2, z3, z4, z5⟩ := node_open (show Cells w2 _ _ (nodeArr k' sp' nm' (.slice po pn pc) (.slice qo qn qc) d') from C2)
      have bw2 := Lib.hid (bw1.out.trans (b2.mono bw1.out.size))
      clear x0 x1 x2 x3 x4 x5 C1 bw1 b2 his C2 z1 z2 z3 z4
      cases y with
      | true =>
        have hok2 := Lib.hid (hgood.out (by rw [hok.out]; rfl))
        have hm2 : Hid (m + 1 = ((kids.take (j + 1)).filter Am.isDiv).length) := Lib.hid (by rw [hmr, ← hm.out]; rfl)
        clear hmr hgood hbad hok hpick
        go_wp2_with fail
        go_roundw
        case rel => exact ⟨j + 1, m + 1, by omega, by go_num, by go_num, by omega, hm2, hok2, bw2⟩
        case measure => simp [intOf]; omega
      | false =>
        have hm2 : Hid (m = ((kids.take (j + 1)).filter Am.isDiv).length) := Lib.hid (by rw [hmr, ← hm.out]; rfl)
        rw [Bool.false_or] at hok
        clear hmr
        by_cases k0 : k' = 0
        · subst k0
          have hr : Hid (Q = false) := Lib.hid (by rw [hq.out, hbad.out (by rw [hok.out]; rfl), Bool.and_false])
          clear hpick
          go_wp2_with fail
          go_ret
          exact ⟨ret_bool hr.out.symm, bw2.out⟩
        · have e0 : (k' == 0) = false := beq_false_of_ne k0
          by_cases k1 : k' = 1
          · subst k1
            have cc := Lib.hid (hbl.out w2)
            rcases hpick with ⟨e1, e2, rfl⟩ | ⟨e1, e2, rfl⟩
            · have hok2 := Lib.hid (hgood.out (by rw [hok.out]; rfl))
              clear hgood hbad hok hbl
              go_wp2_with fail
              (with_reducible refine (cc.out).mono ?_); rintro e w3 ⟨rfl, b3⟩
              have bw3 := Lib.hid (bw2.out.trans (b3.mono bw2.out.size))
              clear cc b3
              go_wp2_with fail
              go_roundw
              case rel => exact ⟨j + 1, m, by omega, by go_num, rfl, by omega, hm2, hok2, bw3⟩
              case measure => simp [intOf]; omega
            · have hr : Hid (Q = false) := Lib.hid (by rw [hq.out, hbad.out (by rw [hok.out]; rfl), Bool.and_false])
              clear hgood hbad hok hbl
              go_wp2_with fail
              (with_reducible refine (cc.out).mono ?_); rintro e w3 ⟨rfl, b3⟩
              have bw3 := Lib.hid (bw2.out.trans (b3.mono bw2.out.size))
              clear cc b3
              go_wp2_with fail
              go_ret
              exact ⟨ret_bool hr.out.symm, bw3.out⟩
          · have e1 : (k' == 1) = false := beq_false_of_ne k1
            have hok2 := Lib.hid (hgood.out (by rw [hok.out, decide_eq_false k0, decide_eq_false k1]; rfl))
            clear hgood hbad hok hpick
            go_wp2_with fail
            go_roundw
            case rel => exact ⟨j + 1, m, by omega, by go_num, rfl, by omega, hm2, hok2, bw2⟩
            case measure => simp [intOf]; omega
    · have hfull : kids.take j = kids := List.take_of_length_le (by omega)
      have hki : ¬ (j : Int) < (kids.length : Int) := by omega
      have hr : Hid (Q = decide (m = 1)) := Lib.hid (by
        have h1 := hm.out
        have h2 := hall.out
        rw [hfull] at h1 h2
        rw [hq.out, h2, ← h1, Bool.and_true])
      clear hfull
      by_cases hm1 : m = 1
      · subst hm1
        go_wp2_with fail
        go_ret
        exact ⟨ret_bool (by rw [hr.out]; rfl), bw.out⟩
      · have hmi : ((m : Int) == 1) = false := beq_false_of_ne (by omega)
        have hr2 : Hid (Q = false) := Lib.hid (by rw [hr.out]; exact decide_eq_false hm1)
        go_wp2_with fail
        go_ret
        exact ⟨ret_bool hr2.out.symm, bw.out⟩
theorem nd_slice {W : World} {n : Gv.Node} {a b c d e : Value} {bo : Option Addr} {m cb : Nat} (h : Nd W #[a, b, c, d, .slice bo m cb, e] n) : ∃ S, m = (Am.kidsOf n).length ∧ KidsAt S W (.slice bo m cb) (Am.kidsOf n) := by
  obtain ⟨S, k, sp, nm, d', as', kids, ao, bo', ca, cb', rfl, hA, ha, hK, h1, h2⟩ := h.form
  simp only [Array.mk.injEq, List.cons.injEq, Value.slice.injEq] at hA
  obtain ⟨-, -, -, -, ⟨rfl, rfl, rfl⟩, -⟩ := hA
  exact ⟨S, rfl, hK⟩
theorem pDiv_nd (n : Gv.Node) (W : World) {a b c d e : Value} {bo : Option Addr} {m cb : Nat} (h : Nd W #[a, b, c, d, .slice bo m cb, e] n) (hz : Gv.wt n ≤ 100000) :
    Calls Tryz.prog 59 #[.slice bo m cb] W fun e w' => e = .returned (.bool (Am.div n)) ∧ Below W.heap.size W w' := by
  obtain ⟨S, rfl, hK⟩ := nd_slice h
  rw [Am.div_is]
  exact pDivs_any _ W hK (by have := Am.kids_wt n; omega) (fun x hx => Nat.le_trans (Am.mem_kids hx) (by omega))
end Go.Proofs.YtbaclacfadkjdaaGreatDoor
