/-
  The program's own words of lists: tag, commas, isStar.
-/
import Derived.Test.YtojbhokneemeaaaDoorProgTag
import Derived.Deep.RegionLaw
namespace Go.Proofs.YtojbhokneemeaaaDoor
open Go.RowKit

theorem At.cells {b : Nat} {s : ByteArray} {w : World} (h : At b s w) : Cells w b 42 #[.string s] := h.box
theorem Cells.atT {b : Nat} {s : ByteArray} {w : World} (h : Cells w b 42 #[.string s]) (hs : s.size ≤ 100000) : At b s w := ⟨h, hs⟩
theorem At.drewT {b : Nat} {s : ByteArray} {w : World} (h : At b s w) : At b s w.drew := ⟨h.box.drew, h.small⟩
theorem grown_drew {a w : World} {row : Option Nat} (h : a.grownBy w row) : a.grownBy w.drew row := ⟨h.os, h.tape, h.output, h.size, h.block⟩

theorem grown_new {a w : World} {b rb : Nat} (h : a.grownBy w (some b)) (hr : a.heap.size ≤ rb) (i : Nat) (v : Value) : a.grownBy (w.setCell ⟨rb, i, none⟩ v) (some b) :=
  ⟨h.os, h.tape, h.output, by rw [World.size_setCell]; exact h.size, fun k hk hne => (RowKit.Below.heap_setCell w ⟨rb, i, none⟩ v k (fun e => by have e : k = rb := e; omega)).trans (h.block k hk hne)⟩
theorem etag_end {R : Ending → World → Prop} {tmps : Array Value} {w : World} {rb : Nat} {x y c : Value} (h2 : tmps[2]? = some (.pointer (some ⟨rb, 0, none⟩))) (h3 : tmps[3]? = some c)
    (c0 : w.cell? ⟨rb, 0, none⟩ = some x) (c1 : w.cell? ⟨rb, 1, none⟩ = some y)
    (hR : R (.returned (.tuple #[.agg #[x, y], c])) w) : bodyPost Tryd.prog Tryd.f21 R .ret { tmps := tmps, defers := [] } w := by
  refine ⟨rfl, _, ?_, hR⟩
  have l3 : 3 < tmps.size := (Array.getElem?_eq_some_iff.1 h3).1
  have g2 : tmps[2] = .pointer (some ⟨rb, 0, none⟩) := (Array.getElem?_eq_some_iff.1 h2).2
  have g3 : tmps[3] = c := (Array.getElem?_eq_some_iff.1 h3).2
  have l2 : 2 < tmps.size := by omega
  simp [results, Tryd.results21, go_sem, l2, l3, g2, g3, c0, c1]

/-- How a tag is taken once its head is: it begins, or it does not. -/
structure Begun (s u : ByteArray) (wk bg : Bool) : Prop where
  size : u.size ≤ s.size
  no : bg = false → Et.take s.data.toList = none
  bad : bg = true → (Et.valR u.data.toList).head? ≠ some 34 → Et.take s.data.toList = none
  yes : bg = true → (Et.valR u.data.toList).head? = some 34 → Et.take s.data.toList = some (⟨wk, ⟨(Et.val u.data.toList).toArray⟩⟩, (Et.valR u.data.toList).drop 1)
theorem begun_of {s q : ByteArray} {wk : Bool} (hq : Et.take s.data.toList = Et.qtag wk q.data.toList) (hz : q.size ≤ s.size) : Begun s (hdR 34 q) wk (hdB 34 q) := by
  have h0 := hdR_size 34 q
  refine ⟨by omega, fun h => ?_, fun h h2 => ?_, fun h h2 => ?_⟩
  · rw [hq, Et.qt_head]
    intro e; rw [hdB_iff.2 e] at h; cases h
  · rw [hq, Et.qt_end (hdB_iff.1 h)]
    rwa [hdR_list h] at h2
  · rw [hq, Et.qt_yes (hdB_iff.1 h), hdR_list h]
    rwa [hdR_list h] at h2
theorem begun_strong {s : ByteArray} (h : hdB 87 s = false) : Begun s (hdR 34 s) false (hdB 34 s) := begun_of (by
  unfold Et.take
  rw [if_neg]
  intro e
  cases hl : s.data.toList with
  | nil => rw [hl] at e; cases e
  | cons a m =>
    rw [hl] at e
    have : a = 87 := by cases m <;> simp at e; exact e.1
    rw [hdB_iff.2 (by rw [hl, this]; rfl)] at h
    cases h) (Nat.le_refl _)
theorem begun_weak {s : ByteArray} (h : hdB 87 s = true) (h2 : hdB 47 (hdR 87 s) = true) : Begun s (hdR 34 (hdR 47 (hdR 87 s))) true (hdB 34 (hdR 47 (hdR 87 s))) := begun_of (by
  have e1 := hdB_iff.1 h
  have e2 := hdB_iff.1 h2
  rw [hdR_list h] at e2
  unfold Et.take
  rw [if_pos, hdR_list h2, hdR_list h, List.drop_drop]
  cases hl : s.data.toList with
  | nil => rw [hl] at e1; cases e1
  | cons a m =>
    rw [hl] at e1 e2
    cases m with
    | nil => cases e2
    | cons c r =>
      simp at e1 e2
      rw [e1, e2]; rfl) (Nat.le_trans (hdR_size 47 _) (hdR_size 87 _))
theorem begun_none {s : ByteArray} (h : hdB 87 s = true) (h2 : hdB 47 (hdR 87 s) = false) : Begun s (hdR 87 s) true false := by
  have e1 := hdB_iff.1 h
  refine ⟨hdR_size 87 s, fun _ => ?_, fun e => (by cases e), fun e => (by cases e)⟩
  unfold Et.take
  rw [if_neg, Et.qt_head]
  · rw [e1]; simp
  · intro e
    cases hl : s.data.toList with
    | nil => rw [hl] at e; cases e
    | cons a m =>
      rw [hl] at e
      have : hdB 47 (hdR 87 s) = true := by
        rw [hdB_iff, hdR_list h, hl]
        cases m with
        | nil => simp at e
        | cons c r => simp at e; simp [e.2]
      rw [this] at h2; cases h2

set_option maxRecDepth 100000 in
set_option maxHeartbeats 12800000 in
theorem eTag_any (b : Nat) (s : ByteArray) (w : World) (h : At b s w) :
    Calls Tryd.prog 21 #[.pointer (some ⟨b, 0, none⟩)] w fun e w' => ∃ (T : Tag) (c : Bool) (t : ByteArray), e = .returned (.tuple #[.agg #[.bool T.weak, .string T.value], .bool c]) ∧ At b t w' ∧ w.grownBy w' (some b) ∧
      (c = false → Et.take s.data.toList = none) ∧ (c = true → Et.take s.data.toList = some (T, t.data.toList)) := by
  have hbl := h.lt
  have bA := (Below.refl w.heap.size w).alloc (Nat.le_refl _) (.cells #[.bool false, .string ⟨#[]⟩] 23)
  have gA := Lib.hid (grown_of_below bA (some b))
  have hA := Lib.hid (h.below bA)
  have kA := Lib.hid (Cells.new w 23 #[.bool false, .string ⟨#[]⟩])
  clear h bA
  go_enter Tryd.func21, Tryd.ntmps21
  go_upto_region 1 with fail
  generalize w.alloc (.cells #[.bool false, .string ⟨#[]⟩] 23) = W at *
  have c87 := Lib.hid (takes_any b s 87 87 W hA.out rfl)
  go_wp2_with fail
  (with_reducible refine (c87.out).mono ?_); rintro e w1 ⟨rfl, hA1, hg1⟩
  clear c87
  have gB := Lib.hid (gA.out.trans hg1)
  have kB := Cells.grown kA.out hg1 (by omega)
  have d0 := kB.cell (i := 0) (v := .bool false) rfl
  have f0 := kB.free 0
  have eR := Lib.hid (show ∀ x, hdR 87 s = x → At b x w1 from fun x e => e ▸ hA1)
  have q1 := Lib.hid (fun (e : hdB 87 s = false) => (⟨begun_strong e, hdR_same e⟩ : _ ∧ _))
  have q2 := Lib.hid (fun (e : hdB 87 s = true) => @begun_weak s e)
  have q3 := Lib.hid (fun (e : hdB 87 s = true) => @begun_none s e)
  generalize hdR 87 s = s1 at *
  generalize hdB 87 s = wk at *
  clear eR
  have gC := Lib.hid (grown_new gB.out (Nat.le_refl _) 0 (.bool wk))
  have kC := Lib.hid (kB.set 0 (.bool wk))
  have hC := Lib.hid (hA1.other (c := w.heap.size) (by omega) 0 (.bool wk))
  have hlw : w.heap.size < w1.heap.size := kB.lt
  clear hA1 hg1 gB kB gA hA kA
  go_upto_region 2 with fail
  have hsz : (w1.setCell ⟨w.heap.size, 0, none⟩ (.bool wk)).heap.size = w1.heap.size := World.size_setCell _ _ _
  generalize w1.setCell ⟨w.heap.size, 0, none⟩ (.bool wk) = W2 at *
  replace hlw : w.heap.size < W2.heap.size := by omega
  clear hsz d0 f0
  have hk := Lib.hid (fun (u : ByteArray) (w' : World) (bg : Bool) (hg : W2.grownBy w' (some b)) (hu : At b u w') (hbe : Begun s u wk bg) =>
    (⟨u, bg, rfl, Lib.hid hu, Lib.hid (Cells.grown kC.out hg (by omega)), Lib.hid (gC.out.trans hg), Lib.hid hbe⟩ : ∃ (u' : ByteArray) (bg' : Bool), Value.bool bg = .bool bg' ∧ Hid (At b u' w') ∧ Hid (Cells w' w.heap.size 23 #[.bool wk, .string ⟨#[]⟩]) ∧ Hid (w.grownBy w' (some b)) ∧ Hid (Begun s u' wk bg')))
  have d0 := kC.out.cell (i := 0) (v := .bool wk) rfl
  clear kC gC
  go_cut [4] (fun v wx => ∃ (u' : ByteArray) (bg' : Bool), v = .bool bg' ∧ Hid (At b u' wx) ∧ Hid (Cells wx w.heap.size 23 #[.bool wk, .string ⟨#[]⟩]) ∧ Hid (w.grownBy wx (some b)) ∧ Hid (Begun s u' wk bg'))
  case first =>
    cases wk
    case false =>
      obtain ⟨hbe, rfl⟩ := q1.out rfl
      replace hbe := Lib.hid hbe
      clear q1 q2 q3
      have c34 := Lib.hid (takes_any b s1 34 34 W2 hC.out rfl)
      go_wp2_with fail
      (with_reducible refine (c34.out).mono ?_); rintro e w3 ⟨rfl, hA3, hg3⟩
      have hr := Lib.hid (hk.out _ _ _ hg3 hA3 hbe.out)
      clear hA3 hg3 c34 hk hbe
      go_wp2_with fail
      go_meet
      exact hr.out
    case true =>
      have c47 := Lib.hid (takes_any b s1 47 47 W2 hC.out rfl)
      replace q2 := Lib.hid (q2.out rfl)
      replace q3 := Lib.hid (q3.out rfl)
      clear q1 hC
      go_wp2_with fail
      (with_reducible refine (c47.out).mono ?_); rintro e w3 ⟨rfl, hA3, hg3⟩
      cases h47 : hdB 47 s1
      case false =>
        have hbe := q3.out h47
        rw [hdR_same h47] at hA3
        have hr := Lib.hid (hk.out _ _ _ hg3 hA3 hbe)
        replace h47 := Lib.hid h47
        clear q2 q3 hA3 hg3 c47 hk hbe
        go_wp2_with fail
        go_meet
        exact hr.out
      case true =>
        have hbe := Lib.hid (q2.out h47)
        replace h47 := Lib.hid h47
        generalize hdR 47 s1 = s2 at *
        have c34 := Lib.hid (takes_any b s2 34 34 w3 hA3 rfl)
        replace hg3 := Lib.hid hg3
        clear q2 q3 c47 hA3
        go_wp2_with fail
        (with_reducible refine (c34.out).mono ?_); rintro e w4 ⟨rfl, hA4, hg4⟩
        have hr := Lib.hid (hk.out _ _ _ (hg3.out.trans hg4) hA4 hbe.out)
        clear hA4 hg4 c34 hk hbe hg3
        go_wp2_with fail
        go_meet
        exact hr.out
  case rest =>
  obtain ⟨u, bg, rfl, hu, hk5, hg5, hbe⟩ := hcut
  clear q1 q2 q3 hk hC d0
  have hlw5 := hk5.out.lt
  have husz := hu.out.small
  have cv := Lib.hid (eValue_any b u wc hu.out.cells (by unfold maxLen; omega))
  have hvz := vlB_size u
  have hV := Lib.hid (And.intro (vlA_list u) (vlB_list u))
  go_wp2_with fail
  (with_reducible refine (cv.out).mono ?_); rintro e w6 ⟨rfl, hk6, hg6⟩
  have hVA := Lib.hid (show (⟨(Et.val u.data.toList).toArray⟩ : ByteArray) = vlA u from rfl)
  generalize vlA u = A at *
  generalize vlB u = B at *
  have hu6 := Cells.atT hk6 (by omega)
  have k6 := Cells.grown hk5.out hg6 (by omega)
  have g6 := hg5.out.trans hg6
  have d1 := k6.cell (i := 1) (v := .string ⟨#[]⟩) rfl
  have f1 := k6.free 1
  have k7 := Lib.hid (k6.set 1 (.string A))
  have hu7 := Lib.hid (hu6.other (c := w.heap.size) (by omega) 1 (.string A))
  have g7 := Lib.hid (grown_new g6 (Nat.le_refl _) 1 (.string A))
  clear cv hk6 hg6 hk5 hg5 hu hu6 k6 g6 hlw5
  go_upto_region 4 with fail
  clear d1 f1
  generalize w6.setCell ⟨w.heap.size, 1, none⟩ (.string A) = W7 at *
  cases bg
  case false =>
    have hno := Lib.hid (hbe.out.no rfl)
    have x0 := k7.out.cell (i := 0) (v := .bool wk) rfl
    have x1 := k7.out.cell (i := 1) (v := .string A) rfl
    have y0 := k7.out.free 0
    have y1 := k7.out.free 1
    have k8 := ((k7.out.set 0 (.bool wk)).set 1 (.string A)).drew
    have hu8 := Lib.hid ((((hu7.out.other (c := w.heap.size) (by omega) 0 (.bool wk)).other (c := w.heap.size) (by omega) 1 (.string A))).drewT)
    have g8 := Lib.hid (grown_drew (grown_new (grown_new g7.out (Nat.le_refl _) 0 (.bool wk)) (Nat.le_refl _) 1 (.string A)))
    have z0 := Lib.hid (k8.cell (i := 0) (v := .bool wk) rfl)
    have z1 := Lib.hid (k8.cell (i := 1) (v := .string A) rfl)
    clear k8 k7 hu7 g7
    go_region
    go_wp2_with fail
    exact etag_end (rb := w.heap.size) rfl rfl z0.out z1.out ⟨⟨wk, A⟩, false, B, rfl, hu8.out, g8.out, fun _ => hno.out, fun e => by cases e⟩
  case true =>
    have hbad := Lib.hid (hbe.out.bad rfl)
    have hyes := Lib.hid (hbe.out.yes rfl)
    have x0 := k7.out.drew.cell (i := 0) (v := .bool wk) rfl
    have x1 := k7.out.drew.cell (i := 1) (v := .string A) rfl
    have y0 := k7.out.drew.free 0
    have y1 := k7.out.drew.free 1
    have cT := Lib.hid (takes_any b B 34 34 W7.drew hu7.out.drewT rfl)
    have hlw7 := k7.out.lt
    go_region_law (go_simp; go_at_call 31; refine (cT.out).mono ?_; rintro e w8 ⟨rfl, hA8, hg8⟩; have k8 := Cells.grown k7.out.drew hg8 (by omega); have v0 := k8.cell (i := 0) (v := .bool wk) rfl; have v1 := k8.cell (i := 1) (v := .string A) rfl; have t0 := k8.free 0; have t1 := k8.free 1)
    all_goals
      have k9 := (k8.set 0 (.bool wk)).set 1 (.string A)
      have hu9 := Lib.hid ((hA8.other (c := w.heap.size) (by omega) 0 (.bool wk)).other (c := w.heap.size) (by omega) 1 (.string A))
      have g9 := Lib.hid (grown_new (grown_new ((grown_drew g7.out).trans hg8) (Nat.le_refl _) 0 (.bool wk)) (Nat.le_refl _) 1 (.string A))
      have z0 := Lib.hid (k9.cell (i := 0) (v := .bool wk) rfl)
      have z1 := Lib.hid (k9.cell (i := 1) (v := .string A) rfl)
      have hans : Hid ((hdB 34 B = false → Et.take s.data.toList = none) ∧ (hdB 34 B = true → Et.take s.data.toList = some (⟨wk, A⟩, (hdR 34 B).data.toList))) := Lib.hid ⟨fun h => hbad.out (by
        rw [← hV.out.2]
        intro e
        rw [hdB_iff.2 e] at h; cases h), fun h => by
        rw [hyes.out (by rw [← hV.out.2]; exact hdB_iff.1 h), hVA.out, hdR_list h, hV.out.2]⟩
      clear k9 k8 hA8 hg8 v0 v1 t0 t1 x0 x1 y0 y1 cT hbad hyes hbe hVA hV k7 hu7 g7
      go_wp2_with fail
      exact etag_end (rb := w.heap.size) rfl rfl z0.out z1.out ⟨⟨wk, A⟩, hdB 34 B, hdR 34 B, rfl, hu9.out, g9.out, hans.out.1, hans.out.2⟩

/-- What is behind commas and space, and whether there was a comma. -/
def spA (s : ByteArray) : ByteArray := ⟨(Et.seps s.data.toList).toArray⟩
def cmB (s : ByteArray) : Bool := decide ((Md.skip s.data.toList).head? = some 44)
theorem spA_list (s : ByteArray) : (spA s).data.toList = Et.seps s.data.toList := mk_list _
theorem spA_size (s : ByteArray) : (spA s).size ≤ s.size := size_le (by rw [spA_list]; exact Et.seps_length _)
/-- How much is left in a text's box. -/
def txLen (b : Nat) (w : World) : Nat := match w.cell? ⟨b, 0, none⟩ with | some (.string t) => t.size | _ => 0
theorem txLen_at {b : Nat} {s : ByteArray} {w : World} (h : At b s w) : txLen b w = s.size := by unfold txLen; rw [h.cell]
theorem seps_skipped {l : List UInt8} (h : Md.skip l = l) (h2 : l.head? ≠ some 44) : Et.seps l = l := by
  cases l with
  | nil => rfl
  | cons b m => exact Et.sep_stop (fun e => h2 (by rw [byte_is (c := 44) e]; rfl)) h

set_option maxRecDepth 100000 in
set_option maxHeartbeats 6400000 in
theorem eCommas_any (b : Nat) (s : ByteArray) (w : World) (h : At b s w) :
    Calls Tryd.prog 20 #[.pointer (some ⟨b, 0, none⟩)] w fun e w' => e = .returned (.bool (cmB s)) ∧ At b (spA s) w' ∧ w.grownBy w' (some b) := by
  have hsk := Lib.hid (skip_twice s)
  have hss := Lib.hid (show Et.seps s.data.toList = Et.seps (skA s).data.toList by rw [skA_list, Et.sep_skip])
  have hcm := Lib.hid (show cmB s = decide ((skA s).data.toList.head? = some 44) by rw [skA_list]; rfl)
  have cS := Lib.hid (space_any b s w h)
  have hsp := Lib.hid (spA_list s)
  clear h
  generalize spA s = R at *
  generalize cmB s = C at *
  go_enter Tryd.func20, Tryd.ntmps20
  go_wp2_with fail
  (with_reducible refine (cS.out).mono ?_); rintro e w1 ⟨rfl, hA1, hg1⟩
  generalize skA s = x at *
  clear cS
  replace hg1 := Lib.hid hg1
  replace hA1 := Lib.hid hA1
  go_wp2_with fail
  go_loopw [2] (fun v wr => ∃ (t : ByteArray) (r : Bool), v = .bool r ∧ Hid (At b t wr) ∧ Hid (Et.seps s.data.toList = Et.seps t.data.toList) ∧ Hid (Md.skip t.data.toList = t.data.toList) ∧ Hid ((r = true → C = true) ∧ (r = false → C = decide (t.data.toList.head? = some 44))) ∧ Hid (w.grownBy wr (some b))) (fun _ wr => txLen b wr)
  case atStart => exact ⟨x, false, rfl, hA1, hss, hsk, Lib.hid ⟨(fun e => by cases e), fun _ => hcm.out⟩, hg1⟩
  case round =>
    obtain ⟨t, r, rfl, hA, hse, hst, hC, hg⟩ := hrel
    have hm0 := Lib.hid (txLen_at hA.out)
    have c44 := Lib.hid (takes_any b t 44 44 wr hA.out rfl)
    clear hsk hss hcm hA1 hg1
    go_wp2_with fail
    (with_reducible refine (c44.out).mono ?_); rintro e w2 ⟨rfl, hA2, hg2⟩
    clear c44 hA
    cases h44 : hdB 44 t
    case false =>
      have e1 := hdR_same h44
      rw [e1] at hA2
      have hne : t.data.toList.head? ≠ some 44 := fun e => by rw [hdB_iff.2 e] at h44; cases h44
      have htR : t = R := bytes_eq (by rw [hsp.out, hse.out, seps_skipped hst.out hne])
      subst htR
      have hCr : C = r := by
        cases r with
        | true => exact hC.out.1 rfl
        | false => rw [hC.out.2 rfl]; exact decide_eq_false hne
      subst hCr
      have hgf := Lib.hid (hg.out.trans hg2)
      replace hA2 := Lib.hid hA2
      replace h44 := Lib.hid h44
      clear e1 hne hg hg2 hC hsp hse hst
      go_wp2_with fail
      go_ret
      exact ⟨rfl, hA2.out, hgf.out⟩
    case true =>
      have h1 := hdB_iff.1 h44
      have hl := hdR_list h44
      have hcons : t.data.toList = 44 :: (hdR 44 t).data.toList := by
        rw [hl]
        cases hx : t.data.toList with
        | nil => rw [hx] at h1; cases h1
        | cons a m => rw [hx] at h1; cases h1; rfl
      have hlt : (hdR 44 t).size < t.size := by
        have := congrArg List.length hcons
        rw [List.length_cons, list_len, list_len] at this
        omega
      have hse2 := Lib.hid (show Et.seps s.data.toList = Et.seps (skA (hdR 44 t)).data.toList by rw [hse.out, hcons, Et.sep_comma, skA_list, Et.sep_skip])
      have hst2 := Lib.hid (skip_twice (hdR 44 t))
      have hCt : C = true := by
        cases r with
        | true => exact hC.out.1 rfl
        | false => rw [hC.out.2 rfl]; exact decide_eq_true h1
      subst hCt
      have hz := skA_size (hdR 44 t)
      have cS := Lib.hid (space_any b (hdR 44 t) w2 hA2)
      have hgf := Lib.hid (hg.out.trans hg2)
      generalize skA (hdR 44 t) = y at *
      replace h44 := Lib.hid h44
      replace hlt := Lib.hid (show y.size < t.size by omega)
      clear h1 hl hcons hg hg2 hC hse hst hA2 hz
      go_wp2_with fail
      (with_reducible refine (cS.out).mono ?_); rintro e w3 ⟨rfl, hA3, hg3⟩
      have hm3 := Lib.hid (txLen_at hA3)
      replace hgf := Lib.hid (hgf.out.trans hg3)
      replace hA3 := Lib.hid hA3
      clear cS hg3
      go_wp2_with fail
      go_roundw
      case rel => exact ⟨y, true, rfl, hA3, hse2, hst2, Lib.hid (by simp), hgf⟩
      case measure => rw [hm3.out, hm0.out]; exact hlt.out

set_option maxRecDepth 100000 in
set_option maxHeartbeats 6400000 in
theorem eStar_any (s : ByteArray) (w : World) (hs : s.size ≤ 100000) :
    Calls Tryd.prog 19 #[.string s] w fun e w' => e = .returned (.bool (Et.star s.data.toList)) ∧ Below w.heap.size w w' := by
  have bA := (Below.refl w.heap.size w).alloc (Nat.le_refl _) (.cells #[.string s] 42)
  have hA := Cells.atT (Cells.new w 42 #[.string s]) hs
  have hst : Hid (Et.star s.data.toList = (decide ((skA s).data.toList.head? = some 42) && decide (Md.skip ((skA s).data.toList.drop 1) = []))) := Lib.hid (by rw [skA_list]; rfl)
  generalize Et.star s.data.toList = Q at *
  go_enter Tryd.func19, Tryd.ntmps19
  go_upto_region 1 with fail
  generalize w.alloc (.cells #[.string s] 42) = W at *
  have cS := Lib.hid (space_any w.heap.size s W hA)
  replace bA := Lib.hid bA
  clear hA
  go_wp2_with fail
  (with_reducible refine (cS.out).mono ?_); rintro e w1 ⟨rfl, hA1, hg1⟩
  have hlw1 := hA1.lt
  have g1 := Lib.hid (bA.out.grown hg1 bA.out.size (fun j e => by cases e; exact Nat.le_refl _))
  clear cS hg1 bA
  generalize skA s = x at *
  have c42 := Lib.hid (takes_any w.heap.size x 42 42 w1 hA1 rfl)
  clear hA1
  go_wp2_with fail
  (with_reducible refine (c42.out).mono ?_); rintro e w2 ⟨rfl, hA2, hg2⟩
  have g2 := Lib.hid (g1.out.grown hg2 g1.out.size (fun j e => by cases e; exact Nat.le_refl _))
  clear c42 hg2 g1
  have hq : Hid (Q = (hdB 42 x && decide (skA (hdR 42 x) = ByteArray.empty))) := Lib.hid (by
    rw [hst.out]
    cases h : hdB 42 x with
    | false =>
      have : ¬ x.data.toList.head? = some 42 := fun e => by rw [hdB_iff.2 e] at h; cases h
      rw [decide_eq_false this]; rfl
    | true =>
      rw [decide_eq_true (hdB_iff.1 h), ← hdR_list h, ← skA_list]
      simp only [Bool.true_and]
      congr 1
      apply propext
      constructor
      · intro e; exact bytes_eq e
      · intro e; rw [e]; rfl)
  clear hst
  generalize hdB 42 x = hb at *
  generalize hdR 42 x = y at *
  have cS := Lib.hid (space_any w.heap.size y w2 hA2)
  clear hA2
  go_wp2_with fail
  (with_reducible refine (cS.out).mono ?_); rintro e w3 ⟨rfl, hA3, hg3⟩
  have g3 := Lib.hid (g2.out.grown hg3 g2.out.size (fun j e => by cases e; exact Nat.le_refl _))
  clear cS hg3 g2
  generalize skA y = z at *
  have d0 := hA3.cell
  clear hA3
  cases hb
  · obtain rfl : Q = false := by rw [hq.out]; rfl
    go_wp2_with fail
    go_ret
    exact ⟨rfl, g3.out⟩
  · by_cases hz : z.size = 0
    · obtain rfl : z = ByteArray.empty := ByteArray.size_eq_zero_iff.1 hz
      obtain rfl : Q = true := by rw [hq.out]; simp
      have he3 : (ByteArray.empty.toList == []) = true := by rw [ByteArray.toList_eq]; rfl
      go_wp2_with fail
      go_ret
      exact ⟨rfl, g3.out⟩
    · have hz1 : 0 < z.size := by omega
      obtain rfl : Q = false := by
        rw [hq.out, decide_eq_false]
        · rfl
        · intro e; rw [e] at hz1; exact absurd hz1 (by decide)
      have hv3 : ¬ z.toList = [] := by rw [ByteArray.toList_eq]; exact lst_ne hz1
      have hv2 : (z.toList == []) = false := beq_false_of_ne hv3
      have hv4 := ne_empty hz1
      go_wp2_with fail
      go_ret
      exact ⟨rfl, g3.out⟩
end Go.Proofs.YtojbhokneemeaaaDoor
