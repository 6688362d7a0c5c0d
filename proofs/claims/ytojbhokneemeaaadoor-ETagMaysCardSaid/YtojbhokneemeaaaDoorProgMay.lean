/-
  The program's own List, Has and May.
-/
import Derived.Test.YtojbhokneemeaaaDoorProgList
import Derived.Deep.LoopGhost
import Derived.Shelf.Abstract
namespace Go.Proofs.YtojbhokneemeaaaDoor
open Go.RowKit

theorem seps_take {s : ByteArray} (h : 0 < s.size) {acc : List Tag} {T : Tag} {r : List UInt8} (hs : Et.seps s.data.toList = s.data.toList) (ht : Et.take s.data.toList = some (T, r)) (hr : Md.skip r = [] ∨ (Md.skip r).head? = some 44) : Et.tagsG acc s.data.toList = Et.tagsG (acc ++ [T]) r :=
  Et.tg_step (by rw [hs]; exact lst_ne h) (by rw [hs]; exact ht) hr
theorem seps_fix (s : ByteArray) : Et.seps (spA s).data.toList = (spA s).data.toList := by
  rw [spA_list]
  unfold Et.seps
  generalize s.data.toList = l
  induction l with
  | nil => rfl
  | cons b m ih =>
    by_cases hb : Et.sepB b = true
    · rw [List.dropWhile_cons_of_pos hb, ih]
    · rw [List.dropWhile_cons_of_neg hb, List.dropWhile_cons_of_neg hb]
theorem spA_empty {s : ByteArray} (h : spA s = ByteArray.empty) : Et.seps s.data.toList = [] := by rw [← spA_list, h]; rfl
/-- No comma stood there, and something is left: the next tag was not parted. -/
theorem cm_parted {s : ByteArray} (h : cmB s = false) (h2 : 0 < (spA s).size) : Md.skip s.data.toList ≠ [] ∧ (Md.skip s.data.toList).head? ≠ some 44 := by
  refine ⟨fun e => ?_, of_decide_eq_false h⟩
  have : Et.seps s.data.toList = [] := by rw [← Et.sep_skip, e]; rfl
  rw [← spA_list] at this
  have := congrArg List.length this
  rw [list_len, List.length_nil] at this
  omega
theorem cm_here {s : ByteArray} (h : cmB s = true) : (Md.skip s.data.toList).head? = some 44 := of_decide_eq_true h
theorem sep_out {s : ByteArray} (h : Et.seps s.data.toList = []) : Md.skip s.data.toList = [] ∨ (Md.skip s.data.toList).head? = some 44 := by
  cases hx : Md.skip s.data.toList with
  | nil => exact .inl rfl
  | cons b m =>
    right
    by_cases hb : b.toNat = 44
    · rw [byte_is (c := 44) hb]; rfl
    · exfalso
      have h2 : Md.skip (b :: m) = b :: m := by
        rw [← hx]
        unfold Md.skip
        generalize s.data.toList = l
        induction l with
        | nil => rfl
        | cons b m ih =>
          by_cases hb : Md.blankB b = true
          · rw [List.dropWhile_cons_of_pos hb, ih]
          · rw [List.dropWhile_cons_of_neg hb, List.dropWhile_cons_of_neg hb]
      rw [← Et.sep_skip, hx, Et.sep_stop hb h2] at h
      cases h

theorem At.keepE {b : Nat} {s : ByteArray} {w w' : World} {row : Option Nat} (h : At b s w) (hg : w.grownBy w' row) (hne : some b ≠ row) : At b s w' :=
  ⟨(hg.block b h.lt hne).trans h.box, h.small⟩
theorem ownsTags_grown {B b : Nat} {v : Value} {l : List Tag} {w w' : World} (h : OwnsTags B v l w) (hg : w.grownBy w' (some b)) (hb : b < B) : OwnsTags B v l w' := World.ownsRow.kept h hg (by
  obtain ⟨_, ⟨rfl, _⟩ | ⟨g, cap, cur, rfl, hB, _⟩⟩ := h
  · exact .inl rfl
  · right
    simp only [Value.ownBlock, ne_eq, Option.some.injEq]
    omega)
theorem ownsTags_low {B : Nat} {v : Value} {l : List Tag} {w : World} (h : OwnsTags B v l w) : ∀ k, v.ownBlock = some k → B ≤ k := by
  obtain ⟨_, ⟨rfl, _⟩ | ⟨g, cap, cur, rfl, hB, _⟩⟩ := h
  · intro k e; cases e
  · intro k e; cases e; exact hB

/-- Where the program's List stands. -/
structure Listed (s t : ByteArray) (acc : List Tag) (pt : Bool) : Prop where
  fix : Et.seps t.data.toList = t.data.toList
  on : (t.size = 0 ∨ pt = true) → Et.tagsG [] s.data.toList = Et.tagsG acc t.data.toList
  off : pt = false → 0 < t.size → Et.tagsG [] s.data.toList = none
theorem Listed.next {s t r : ByteArray} {acc : List Tag} {T : Tag} (h : Listed s t acc true) (h0 : 0 < t.size) (ht : Et.take t.data.toList = some (T, r.data.toList)) : Listed s (spA r) (acc ++ [T]) (cmB r) := by
  have h1 := h.on (.inr rfl)
  have hsep : Et.tagsG (acc ++ [T]) r.data.toList = Et.tagsG (acc ++ [T]) (spA r).data.toList := Et.tg_sep _ _ _ (by rw [seps_fix, spA_list])
  refine ⟨seps_fix r, fun hh => ?_, fun hc h2 => ?_⟩
  · rw [h1, seps_take h0 h.fix ht ?_, hsep]
    rcases hh with hh | hh
    · exact sep_out (spA_empty (ByteArray.size_eq_zero_iff.1 hh))
    · exact .inr (cm_here hh)
  · obtain ⟨a, b⟩ := cm_parted hc h2
    rw [h1]
    exact Et.tg_apart (by rw [h.fix]; exact lst_ne h0) (by rw [h.fix]; exact ht) a b
theorem Listed.none {s t : ByteArray} {acc : List Tag} {pt : Bool} (h : Listed s t acc pt) (h0 : 0 < t.size) (ht : pt = true → Et.take t.data.toList = none) : Et.tagsG [] s.data.toList = none := by
  cases pt with
  | false => exact h.off rfl h0
  | true => rw [h.on (.inr rfl)]; exact Et.tg_none (by rw [h.fix]; exact lst_ne h0) (by rw [h.fix]; exact ht rfl)
theorem Listed.fin {s t : ByteArray} {acc : List Tag} {pt : Bool} (h : Listed s t acc pt) (h0 : t.size = 0) : Et.tagsG [] s.data.toList = some acc := by
  rw [h.on (.inl h0), Et.tg_end]
  rw [h.fix]; exact nil_of_size h0

set_option maxRecDepth 100000 in
set_option maxHeartbeats 12800000 in
theorem eList_any (s : ByteArray) (w : World) (hs : s.size ≤ 100000) :
    Calls Tryd.prog 9 #[.string s] w fun e w' => ∃ v, e = .returned (.tuple #[v, .bool (liS s), .int .i64 (liE s)]) ∧ OwnsTags w.heap.size v (liT s) w' ∧ Below w.heap.size w w' := by
  obtain ⟨i0, hi, hz0, hz1, hz2⟩ := info_parts infoTag
  have hnone := Lib.hid (@li_none s)
  have hsome := Lib.hid (fun l b => @li_some s l b)
  generalize liT s = T at *
  generalize liS s = B at *
  generalize liE s = E at *
  obtain ⟨st, hse⟩ : ∃ x, x = Et.star s.data.toList := ⟨_, rfl⟩
  have hstar := Lib.hid (fun (h : st = true) => hsome.out _ _ (Et.list_star (by rw [← hse]; exact h)))
  have hno := Lib.hid (fun (h : st = false) (h2 : Et.tagsG [] s.data.toList = none) => hnone.out (Et.list_no (by rw [← hse]; exact h) h2))
  have hnil := Lib.hid (fun (h : st = false) (h2 : Et.tagsG [] s.data.toList = some []) => hnone.out (Et.list_nil (by rw [← hse]; exact h) h2))
  have hyes := Lib.hid (fun (h : st = false) ts (h2 : Et.tagsG [] s.data.toList = some ts) (h3 : ts ≠ []) => hsome.out _ _ (Et.list_yes (by rw [← hse]; exact h) h2 h3))
  clear hnone hsome
  have bA := (Below.refl w.heap.size w).alloc (Nat.le_refl _) (.cells #[.string s] 42)
  have hA := Cells.atT (Cells.new w 42 #[.string s]) hs
  have d0 := hA.cell
  go_enter Tryd.func9, Tryd.ntmps9
  go_upto_region 2 with fail
  generalize w.alloc (.cells #[.string s] 42) = W at *
  have cS := eStar_any s W hs
  rw [← hse] at cS
  replace cS := Lib.hid cS
  replace bA := Lib.hid bA
  replace hA := Lib.hid hA
  go_wp2_with fail
  (with_reducible refine (cS.out).mono ?_); rintro e w1 ⟨rfl, b1⟩
  have hA1 := hA.out.below b1
  have b2 := Lib.hid (bA.out.trans (b1.mono bA.out.size))
  clear cS b1 bA hA d0
  replace hse := Lib.hid hse
  cases st
  case true =>
    obtain ⟨rfl, rfl, rfl⟩ := hstar.out rfl
    clear hno hnil hyes hA1
    go_wp2_with fail
    go_ret3
    exact ⟨_, rfl, ownsTags_nil _ _, b2.out⟩
  case false =>
    replace hno := Lib.hid (hno.out rfl)
    replace hnil := Lib.hid (hnil.out rfl)
    replace hyes := Lib.hid (hyes.out rfl)
    clear hstar hse
    have cC := Lib.hid (eCommas_any w.heap.size s w1 hA1)
    have hlw := hA1.lt
    clear hA1
    go_wp2_with fail
    (with_reducible refine (cC.out).mono ?_); rintro e w2 ⟨rfl, hA2, hg2⟩
    have b3 := Lib.hid (b2.out.grown hg2 b2.out.size (fun j e => by cases e; exact Nat.le_refl _))
    have hA2' := Lib.hid hA2
    have hL0 := Lib.hid (show Listed s (spA s) [] true from ⟨seps_fix s, fun _ => Et.tg_sep [] _ _ (by rw [seps_fix, spA_list]), fun e => by cases e⟩)
    have hxz := spA_size s
    have hlw2 : w.heap.size < w2.heap.size := hA2.lt
    generalize spA s = x at *
    generalize cmB s = c0 at *
    clear cC hA2 hg2 b2
    go_upto_region 6 with fail
    go_loopw [2, 6, 7, 8] (fun v2 v6 _ _ wr => ∃ (t : ByteArray) (acc : List Tag) (pt : Bool), v6 = .bool pt ∧ Hid (At w.heap.size t wr) ∧ Hid (OwnsTags (w.heap.size + 1) v2 acc wr) ∧ Hid (Listed s t acc pt) ∧ acc.length + t.size ≤ s.size ∧ Hid (Below w.heap.size w wr)) (fun _ _ _ _ wr => txLen w.heap.size wr)
    case atStart => exact ⟨x, [], true, rfl, hA2', Lib.hid (ownsTags_nil _ _), hL0, by simpa using hxz, b3⟩
    case round =>
      obtain ⟨t, acc, pt, rfl, hA, ho, hL, hlen, bw⟩ := hrel
      have hm0 := Lib.hid (txLen_at hA.out)
      have d0 := hA.out.cell
      clear hL0 hxz hA2'
      by_cases h0 : t.size = 0
      · have hend := hL.out.fin h0
        obtain rfl : t = ByteArray.empty := ByteArray.size_eq_zero_iff.1 h0
        obtain ⟨ao, cap, rfl, -⟩ := tags_of_owns ho.out
        have hof := Lib.hid (ownsTags_mono ho.out (Nat.le_succ _))
        by_cases ha : acc = []
        · subst ha
          obtain ⟨rfl, rfl, rfl⟩ := hnil.out hend
          clear hend hnil hno hyes hof
          go_wp2_with fail
          go_ret3
          exact ⟨_, rfl, ownsTags_nil _ _, bw.out⟩
        · obtain ⟨rfl, rfl, rfl⟩ := hyes.out _ hend ha
          have hl0 : ¬ T.length = 0 := fun e => ha (List.eq_nil_of_length_eq_zero e)
          have hl2 : (((T.length : Nat) : Int) == 0) = false := beq_false_of_ne (by omega)
          clear hend hnil hno hyes ha
          go_wp2_with fail
          go_ret3
          exact ⟨_, rfl, hof.out, bw.out⟩
      have h1 : 0 < t.size := by omega
      have hne3 : ¬ t.toList = [] := by rw [ByteArray.toList_eq]; exact lst_ne h1
      have hne2 : (t.toList != []) = true := bne_iff_ne.2 hne3
      have hne := ne_empty h1
      have cT := Lib.hid (eTag_any w.heap.size t wr hA.out)
      go_wp2_with fail
      (with_reducible refine (cT.out).mono ?_); rintro e w3 ⟨X, c, r, rfl, hA3, hg3, hcn, hcy⟩
      have b4 := bw.out.grown hg3 bw.out.size (fun j e => by cases e; exact Nat.le_refl _)
      have ho3 := ownsTags_grown ho.out hg3 (Nat.lt_succ_self _)
      have kA := Cells.new w3 23 #[.bool X.weak, .string X.value]
      have bA := (Below.refl w3.heap.size w3).alloc (Nat.le_refl _) (.cells #[.bool X.weak, .string X.value] 23)
      have hA4 := Lib.hid (hA3.below bA)
      have hlw3 := hA3.lt
      have hrz := hA3.small
      have b5 := Lib.hid (b4.trans (bA.mono b4.size))
      have ho4 := Lib.hid (ownsTags_alloc ho3 (.cells #[.bool X.weak, .string X.value] 23))
      have x0 := kA.cell (i := 0) (v := .bool X.weak) rfl
      have x1 := kA.cell (i := 1) (v := .string X.value) rfl
      clear cT hA3 hg3 b4 ho3 kA bA hA ho bw d0
      replace hcn := Lib.hid hcn
      replace hcy := Lib.hid hcy
      go_upto_region 9 with fail
      generalize w3.alloc (.cells #[.bool X.weak, .string X.value] 23) = W4 at *
      cases c
      case false =>
        obtain ⟨rfl, rfl, rfl⟩ := hno.out (hL.out.none h1 (fun _ => hcn.out rfl))
        clear hno hnil hyes hcn hcy hL
        go_wp2_with fail
        go_ret3
        exact ⟨_, rfl, ownsTags_nil _ _, b5.out⟩
      case true =>
        cases pt
        case false =>
          obtain ⟨rfl, rfl, rfl⟩ := hno.out (hL.out.none h1 (fun e => by cases e))
          clear hno hnil hyes hcn hcy hL
          go_wp2_with fail
          go_ret3
          exact ⟨_, rfl, ownsTags_nil _ _, b5.out⟩
        case true =>
          have hL2 := Lib.hid (hL.out.next h1 (hcy.out rfl))
          have hlt := Et.take_length (hcy.out rfl)
          rw [list_len, list_len] at hlt
          clear hno hnil hyes hcn hcy hL
          replace hlen := Lib.hid hlen
          have hB1 : w.heap.size + 1 ≤ W4.heap.size := by have := hA4.out.lt; omega
          go_wp2_with (at_builtin; refine wpList_append_own _ rfl _ _ 25 rfl (w.heap.size + 1) 23 i0 _ 2 24 Tryd.underlying25 hi hz0 hz1 hz2 rfl (by decide) _ _ _ rfl (ownsTags_alloc ho4.out _) ⟨W4.heap.size, 0, none⟩ 1 1 [.bool X.weak, .string X.value] rfl rfl (cells_two _ _ _ _) (fun u hu => by simp at hu; rcases hu with rfl | rfl <;> rfl) (by have := hlen.out; unfold maxLen; omega) (by have := hlen.out; omega) (by simp; omega) ?_)
          intro v5 w5 hown5 hg5 _
          have hga := (World.grownBy_alloc W4 _ _).trans hg5
          have hlow := ownsTags_low ho4.out
          have b6 := b5.out.trans ((Below.refl w.heap.size W4).grown hga b5.out.size (fun j e => (by have := hlow j e; omega)))
          have q5 : Hid (OwnsTags (w.heap.size + 1) v5 (acc ++ [X]) w5) := Lib.hid (by unfold OwnsTags; simpa [tagCells] using hown5)
          have hA6 := hA4.out.keepE hga (fun e => by have := hlow _ e.symm; omega)
          have cC := Lib.hid (eCommas_any w.heap.size r w5 hA6)
          replace b6 := Lib.hid b6
          clear hown5 hg5 hga hlow hA6 hA4 ho4 b5
          go_wp2_with fail
          (with_reducible refine (cC.out).mono ?_); rintro e w6 ⟨rfl, hA7, hg7⟩
          have b7 := Lib.hid (b6.out.grown hg7 b6.out.size (fun j e => by cases e; exact Nat.le_refl _))
          have q7 := Lib.hid (ownsTags_grown q5.out hg7 (Nat.lt_succ_self _))
          have hm7 := Lib.hid (txLen_at hA7)
          have hz7 := spA_size r
          replace hA7 := Lib.hid hA7
          clear cC hg7 q5 b6
          generalize spA r = y at *
          generalize cmB r = cb at *
          go_wp2_with fail
          go_roundw
          case rel => exact ⟨y, acc ++ [X], cb, rfl, hA7, q7, hL2, by rw [List.length_append, List.length_singleton]; have := hlen.out; omega, b7⟩
          case measure => rw [hm7.out, hm0.out]; omega

set_option maxRecDepth 100000 in
set_option maxHeartbeats 3200000 in
theorem eAlike_any (x t : Tag) (weak : Bool) (w : World) :
    Calls Tryd.prog 28 #[.agg #[.bool x.weak, .string x.value], .agg #[.bool t.weak, .string t.value], .bool weak] w fun e w' => e = .returned (.bool (Et.alike x t weak)) ∧ Below w.heap.size w w' := by
  obtain ⟨xw, xv⟩ := x
  obtain ⟨tw, tv⟩ := t
  have hq : Hid (Et.alike ⟨xw, xv⟩ ⟨tw, tv⟩ weak = (decide (xv = tv) && (weak || (!xw && !tw)))) := Lib.hid rfl
  generalize Et.alike ⟨xw, xv⟩ ⟨tw, tv⟩ weak = Q at *
  dsimp only
  have b1 := (Below.refl w.heap.size w).alloc (Nat.le_refl _) (.cells #[.bool xw, .string xv] 23)
  have bA := b1.alloc (by simp) (.cells #[.bool tw, .string tv] 23)
  have k0 := (Cells.new w 23 #[.bool xw, .string xv]).alloc (.cells #[.bool tw, .string tv] 23)
  have k1 := Cells.new (w.alloc (.cells #[.bool xw, .string xv] 23)) 23 #[.bool tw, .string tv]
  rw [World.size_alloc] at k1
  go_enter Tryd.func28, Tryd.ntmps28
  go_upto_region 1 with fail
  clear b1
  generalize (w.alloc (.cells #[.bool xw, .string xv] 23)).alloc (.cells #[.bool tw, .string tv] 23) = W at *
  have c0 := k0.cell (i := 0) (v := .bool xw) rfl
  have c1 := k0.cell (i := 1) (v := .string xv) rfl
  have d0 := k1.cell (i := 0) (v := .bool tw) rfl
  have d1 := k1.cell (i := 1) (v := .string tv) rfl
  cases weak
  case true =>
    have f0 := k0.free 0
    have f1 := k1.free 0
    have hb := (bA.setCell (p := ⟨w.heap.size, 0, none⟩) (Nat.le_refl _) (.bool false)).setCell (p := ⟨w.heap.size + 1, 0, none⟩) (by simp) (.bool false)
    have m0 := ((k0.set 0 (.bool false)).other (c := w.heap.size + 1) 0 (.bool false) (by omega))
    have m1 := ((k1.other (c := w.heap.size) 0 (.bool false) (by omega)).set 0 (.bool false))
    replace hq : Hid (Q = decide (xv = tv)) := Lib.hid (by rw [hq.out]; simp)
    replace bA := Lib.hid bA
    replace k0 := Lib.hid k0
    replace k1 := Lib.hid k1
    replace hb := Lib.hid hb
    go_upto_region 3 with fail
    generalize (W.setCell ⟨w.heap.size, 0, none⟩ (.bool false)).setCell ⟨w.heap.size + 1, 0, none⟩ (.bool false) = V at *
    clear c0 c1 d0 d1 f0 f1 bA k0 k1
    have c0 := m0.cell (i := 0) (v := .bool false) rfl
    have c1 := m0.cell (i := 1) (v := .string xv) rfl
    have d0 := m1.cell (i := 0) (v := .bool false) rfl
    have d1 := m1.cell (i := 1) (v := .string tv) rfl
    by_cases e : xv = tv
    · subst e
      obtain rfl : Q = true := by rw [hq.out]; simp
      have f1 : (xv.toList == xv.toList) = true := beq_self_eq_true _
      go_wp2_with fail
      go_ret
      exact ⟨rfl, hb.out⟩
    · have f1 := str_differ e
      obtain rfl : Q = false := by rw [hq.out]; exact decide_eq_false e
      replace e := Lib.hid e
      go_wp2_with fail
      go_ret
      exact ⟨rfl, hb.out⟩
  case false =>
    replace bA := Lib.hid bA
    replace k0 := Lib.hid k0
    replace k1 := Lib.hid k1
    by_cases e : xv = tv
    · subst e
      have f1 : (xv.toList == xv.toList) = true := beq_self_eq_true _
      by_cases ew : xw = tw
      · subst ew
        have e1 : (xw == xw) = true := beq_self_eq_true _
        cases xw
        · obtain rfl : Q = true := by rw [hq.out]; simp
          go_wp2_with fail
          go_ret
          exact ⟨rfl, bA.out⟩
        · obtain rfl : Q = false := by rw [hq.out]; simp
          go_wp2_with fail
          go_ret
          exact ⟨rfl, bA.out⟩
      · have e1 := bool_differ ew
        obtain rfl : Q = false := by rw [hq.out]; cases xw <;> cases tw <;> first | exact absurd rfl ew | rfl | simp
        replace ew := Lib.hid ew
        go_wp2_with fail
        go_ret
        exact ⟨rfl, bA.out⟩
    · have f1 := str_differ e
      obtain rfl : Q = false := by rw [hq.out, decide_eq_false e]; rfl
      replace e := Lib.hid e
      by_cases ew : xw = tw
      · have e1 : (xw == tw) = true := beq_iff_eq.2 ew
        replace ew := Lib.hid ew
        go_wp2_with fail
        go_ret
        exact ⟨rfl, bA.out⟩
      · have e1 := bool_differ ew
        replace ew := Lib.hid ew
        go_wp2_with fail
        go_ret
        exact ⟨rfl, bA.out⟩

set_option maxRecDepth 100000 in
set_option maxHeartbeats 1600000 in
theorem eHas1_any (x t : Tag) (weak : Bool) (g h : Nat) (w : World) (hg : TagBox w g t) (hh : w.cell? ⟨h, 0, none⟩ = some (.bool weak)) :
    Calls Tryd.prog 27 #[.agg #[.bool x.weak, .string x.value], .pointer (some ⟨g, 0, none⟩), .pointer (some ⟨h, 0, none⟩)] w fun e w' => e = .returned (.bool (Et.alike x t weak)) ∧ Below w.heap.size w w' := by
  have bA := (Below.refl w.heap.size w).alloc (Nat.le_refl _) (.cells #[.bool x.weak, .string x.value] 23)
  have k0 := TagBox.new w x
  have hg2 := hg.on bA
  have hh2 := (bA.cell (World.block_lt_of_cell? w _ hh)).trans hh
  have cA := Lib.hid (fun W => eAlike_any x t weak W)
  generalize Et.alike x t weak = Q at *
  clear hg hh
  go_enter Tryd.func27, Tryd.ntmps27
  go_upto_region 1 with fail
  generalize w.alloc (.cells #[.bool x.weak, .string x.value] 23) = W at *
  have c0 := k0.c0
  have c1 := k0.c1
  have d0 := hg2.c0
  have d1 := hg2.c1
  replace bA := Lib.hid bA
  clear k0 hg2
  go_wp2_with fail
  (with_reducible refine (cA.out _).mono ?_); rintro e w1 ⟨rfl, b1⟩
  have b2 := Lib.hid (bA.out.trans (b1.mono bA.out.size))
  go_wp2_with fail
  go_ret
  exact ⟨rfl, b2.out⟩

def tgIdx (p : Tag → Bool) : Nat → List Tag → Int
  | _, [] => -1
  | i, a :: l => if p a then i else tgIdx p (i + 1) l
theorem tgIdx_any (p : Tag → Bool) : ∀ (l : List Tag) (i : Nat), decide (0 ≤ tgIdx p i l) = l.any p
  | [], i => by simp [tgIdx]
  | a :: l, i => by
    unfold tgIdx
    cases h : p a with
    | true => simp [h]
    | false => simp [h, tgIdx_any p l (i + 1)]
theorem tgIdx_at (p : Tag → Bool) (l : List Tag) (i j : Nat) (h : j < l.length) (hn : ∀ k (hk : k < l.length), k < j → p l[k] = false) (hj : p l[j] = true) : tgIdx p i l = ((i + j : Nat) : Int) := by
  induction l generalizing i j with
  | nil => simp at h
  | cons a l ih =>
    unfold tgIdx
    cases j with
    | zero =>
      rw [List.getElem_cons_zero] at hj
      rw [hj]; simp
    | succ j =>
      have h0 := hn 0 (by simp) (by omega)
      rw [List.getElem_cons_zero] at h0
      rw [h0, if_neg (by simp), ih (i + 1) j (by simpa using h) (fun k hk hkj => hn (k + 1) (by simpa using hk) (by omega)) hj]
      congr 1
      omega
theorem tgIdx_none (p : Tag → Bool) (l : List Tag) (i : Nat) (hn : ∀ k (hk : k < l.length), p l[k] = false) : tgIdx p i l = -1 := by
  induction l generalizing i with
  | nil => rfl
  | cons a l ih =>
    have h0 := hn 0 (by simp)
    rw [List.getElem_cons_zero] at h0
    unfold tgIdx
    rw [h0, if_neg (by simp)]
    exact ih (i + 1) fun k hk => hn (k + 1) (by simpa using hk)

set_option maxRecDepth 100000 in
set_option maxHeartbeats 3200000 in
theorem tgIndex_any (p : Tag → Bool) (lb : Array Value) (g : Nat) (ao : Option Addr) (cap : Nat) (l : List Tag) (w : World) (eg : ∀ args w, (callFunc g args).run Tryd.prog w = .ok (.enter g args) w) (hl : TagsIn w ao l) (hm : l.length ≤ maxLen)
    (hp : ∀ W (x : Tag), Below w.heap.size w W → Calls Tryd.prog g (#[.agg #[.bool x.weak, .string x.value]] ++ lb) W fun e w' => e = .returned (.bool (p x)) ∧ Below W.heap.size W w') :
    Calls Tryd.prog 33 #[.slice ao l.length cap, .func (.func g) #[] lb] w fun e w' => e = .returned (.int .i64 (tgIdx p 0 l)) ∧ Below w.heap.size w w' := by
  unfold maxLen at hm
  go_enter Tryd.func33, Tryd.ntmps33
  go_wp2
  go_loopg [5, 8] l.length (fun gg _ s8 wr => ∃ kk : Nat, kk ≤ l.length ∧ l.length - kk ≤ gg ∧ s8 = .int .i64 kk ∧ Hid (Below w.heap.size w wr) ∧ Hid (∀ j (h : j < l.length), j < kk → p l[j] = false))
  case atStart => exact ⟨0, Nat.zero_le _, by omega, rfl, Lib.hid (Below.refl _ w), Lib.hid (fun j _ hj => absurd hj (Nat.not_lt_zero _))⟩
  case round =>
    obtain ⟨kk, hkk, hg, rfl, BW, A⟩ := hrel
    by_cases hlt : kk < l.length
    · have hltz : (kk : Int) < (l.length : Int) := by omega
      have hcall := hp wr l[kk] BW.out
      obtain ⟨b, off, rfl, p0, p1⟩ := (hl.below BW.out) kk hlt
      have hnone := fun (hq : p l[kk] = false) => Lib.hid (show ∀ j (h : j < l.length), j < kk + 1 → p l[j] = false from fun j h hj => by
        by_cases e : j = kk
        · subst e; exact hq
        · exact A.out j h (by omega))
      have hhit := fun (hq : p l[kk] = true) => Lib.hid (tgIdx_at p l 0 kk hlt A.out hq)
      replace hl := Lib.hid hl
      generalize l[kk].weak = us at *
      generalize l[kk].value = uv at *
      generalize p l[kk] = q at *
      cases q with
      | true =>
        have hx := hhit rfl
        clear hnone hhit hp
        go_wp2_with fail
        (with_reducible refine hcall.mono ?_); rintro e w' ⟨rfl, hb'⟩
        go_wp2_with fail
        go_ret
        exact ⟨by rw [hx.out]; simp, BW.out.trans (hb'.mono BW.out.size)⟩
      | false =>
        have hx := hnone rfl
        clear hnone hhit
        replace hp := Lib.hid hp
        go_wp2_with fail
        (with_reducible refine hcall.mono ?_); rintro e w' ⟨rfl, hb'⟩
        go_wp2_with fail
        go_roundg (l.length - (kk + 1))
        case measure => omega
        case rel => exact ⟨kk + 1, by omega, by omega, by go_num, Lib.hid (BW.out.trans (hb'.mono BW.out.size)), hx⟩
    · have hltz : ¬ (kk : Int) < (l.length : Int) := by omega
      have hx := Lib.hid (tgIdx_none p l 0 (fun j h => A.out j h (by omega)))
      clear hlt hp hl
      go_wp2_with fail
      go_ret
      exact ⟨by rw [hx.out]; rfl, BW.out⟩

set_option maxRecDepth 100000 in
set_option maxHeartbeats 3200000 in
theorem eHas_any {ao : Option Addr} {cap n : Nat} (l : List Tag) (star : Bool) (t : Tag) (there weak : Bool) (w : World) (hl : TagsIn w ao l) (hn : l.length = n) (hz : n ≤ maxLen) :
    Calls Tryd.prog 14 #[.slice ao n cap, .bool star, .agg #[.bool t.weak, .string t.value], .bool there, .bool weak] w fun e w' => e = .returned (.bool (Et.has l star t there weak)) ∧ Below w.heap.size w w' := by
  subst hn
  have hh : Hid (Et.has l star t there weak = (there && (star || l.any fun x => Et.alike x t weak))) := Lib.hid rfl
  generalize Et.has l star t there weak = H at *
  have b1 := (Below.refl w.heap.size w).alloc (Nat.le_refl _) (.cells #[.bool t.weak, .string t.value] 23)
  have bA := b1.alloc (by simp) (.cells #[.bool weak] 4)
  have k0 : TagBox _ w.heap.size t := (Cells.new w 23 #[.bool t.weak, .string t.value]).alloc (.cells #[.bool weak] 4)
  have k1 := Cells.new (w.alloc (.cells #[.bool t.weak, .string t.value] 23)) 4 #[.bool weak]
  rw [World.size_alloc] at k1
  have hl2 := hl.below bA
  clear b1 hl
  go_enter Tryd.func14, Tryd.ntmps14
  go_upto_region 1 with fail
  generalize (w.alloc (.cells #[.bool t.weak, .string t.value] 23)).alloc (.cells #[.bool weak] 4) = W at *
  have hcont : Calls Tryd.prog 26 #[.slice ao l.length cap, .func (.func 27) #[] #[.pointer (some ⟨w.heap.size, 0, none⟩), .pointer (some ⟨w.heap.size + 1, 0, none⟩)]] W fun e w' => e = .returned (.bool (l.any fun x => Et.alike x t weak)) ∧ Below W.heap.size W w' := by
    have hcall := tgIndex_any (fun x => Et.alike x t weak) #[.pointer (some ⟨w.heap.size, 0, none⟩), .pointer (some ⟨w.heap.size + 1, 0, none⟩)] 27 ao cap l W (enters_of Tryd.func27 (by kernel_rfl) rfl) hl2 hz (fun V x hb => eHas1_any x t weak w.heap.size (w.heap.size + 1) V (k0.on hb) ((k1.on hb).cell rfl))
    have hx := Lib.hid (tgIdx_any (fun x => Et.alike x t weak) l 0)
    generalize tgIdx (fun x => Et.alike x t weak) 0 l = k at *
    generalize (l.any fun x => Et.alike x t weak) = Q at *
    clear hl2 k0 k1 hh bA
    go_enter Tryd.func26, Tryd.ntmps26
    go_wp2_with fail
    (with_reducible refine hcall.mono ?_); rintro e w2 ⟨rfl, b⟩
    go_wp2
    go_ret
    exact ⟨ret_bool hx.out, b⟩
  replace hcont := Lib.hid hcont
  replace bA := Lib.hid bA
  clear hl2 k0 k1
  generalize (l.any fun x => Et.alike x t weak) = Q at *
  cases there
  · obtain rfl : H = false := by rw [hh.out]; rfl
    go_wp2_with fail
    go_ret
    exact ⟨rfl, bA.out⟩
  cases star
  · obtain rfl : H = Q := by rw [hh.out]; rfl
    go_wp2_with fail
    (with_reducible refine (hcont.out).mono ?_); rintro e w2 ⟨rfl, b⟩
    have b2 := Lib.hid (bA.out.trans (b.mono bA.out.size))
    go_wp2_with fail
    go_ret
    exact ⟨rfl, b2.out⟩
  · obtain rfl : H = true := by rw [hh.out]; rfl
    go_wp2_with fail
    go_ret
    exact ⟨rfl, bA.out⟩

/-- What a condition comes to. -/
def akB (s : ByteArray) (t : Tag) (there weak : Bool) : Bool := Et.has (liT s) (liS s) t there weak
set_option maxRecDepth 100000 in
set_option maxHeartbeats 3200000 in
theorem eAsks_any (s : ByteArray) (t : Tag) (there weak : Bool) (w : World) (hs : s.size ≤ 100000) :
    Calls Tryd.prog 29 #[.string s, .agg #[.bool t.weak, .string t.value], .bool there, .bool weak] w fun e w' => e = .returned (.tuple #[.bool (akB s t there weak), .int .i64 (liE s)]) ∧ Below w.heap.size w w' := by
  have hq : Hid (akB s t there weak = Et.has (liT s) (liS s) t there weak) := Lib.hid rfl
  generalize akB s t there weak = Q at *
  have cL := Lib.hid (fun W => eList_any s W hs)
  have hlz := li_size s
  generalize liT s = T at *
  generalize liS s = S at *
  generalize liE s = E at *
  have bA := (Below.refl w.heap.size w).alloc (Nat.le_refl _) (.cells #[.bool t.weak, .string t.value] 23)
  have k0 := TagBox.new w t
  go_enter Tryd.func29, Tryd.ntmps29
  go_upto_region 1 with fail
  generalize w.alloc (.cells #[.bool t.weak, .string t.value] 23) = W at *
  replace bA := Lib.hid bA
  replace k0 := Lib.hid k0
  go_wp2_with fail
  (with_reducible refine (cL.out _).mono ?_); rintro e w1 ⟨v, rfl, ho, b1⟩
  obtain ⟨ao, cap, rfl, hti⟩ := tags_of_owns ho
  have b2 := Lib.hid (bA.out.trans (b1.mono bA.out.size))
  have k1 := k0.out.on b1
  have c0 := k1.c0
  have c1 := k1.c1
  have cH := Lib.hid (eHas_any (cap := cap) T S t there weak w1 hti rfl (by unfold maxLen; omega))
  rw [← hq.out] at cH
  clear cL ho b1 bA k0 k1 hti hq
  go_wp2_with fail
  (with_reducible refine (cH.out).mono ?_); rintro e w2 ⟨rfl, b3⟩
  have b4 := Lib.hid (b2.out.trans (b3.mono b2.out.size))
  go_wp2_with fail
  go_ret2
  exact ⟨rfl, b4.out⟩
theorem ak_cases (s : ByteArray) (t : Tag) (there weak : Bool) : (Et.list s.data.toList = none ∧ liE s = 170) ∨ (∃ l st, Et.list s.data.toList = some (l, st) ∧ liE s = 0 ∧ akB s t there weak = Et.has l st t there weak) := by
  rcases li_cases s with ⟨h, _, _, e⟩ | ⟨h, e⟩
  · exact .inl ⟨h, e⟩
  · exact .inr ⟨_, _, h, e, rfl⟩

set_option maxRecDepth 100000 in
set_option maxHeartbeats 12800000 in
theorem eMay_any (m n : ByteArray) (t : Tag) (there get : Bool) (w : World) (hm : m.size ≤ 100000) (hn : n.size ≤ 100000) :
    Calls Tryd.prog 16 #[.string m, .string n, .agg #[.bool t.weak, .string t.value], .bool there, .bool get] w fun e w' => e = .returned (.int .i64 (Et.mayQ m.data.toList n.data.toList t there get)) ∧ Below w.heap.size w w' := by
  have m1 := Lib.hid (fun h0 h => @Et.may_bad m.data.toList n.data.toList h0 h t there get)
  have m2 := Lib.hid (fun h0 l st h => @Et.may_fail m.data.toList n.data.toList h0 l st h t there get)
  have m3 := Lib.hid (fun h0 l st h => @Et.may_on m.data.toList n.data.toList h0 l st h t there get)
  have m0 := Lib.hid (fun (h : m.data.toList = []) => show Et.mayQ m.data.toList n.data.toList t there get = Et.mayN n.data.toList t there get by rw [h]; exact Et.may_nil _ _ _ _)
  generalize Et.mayQ m.data.toList n.data.toList t there get = Q at *
  have n0 := Lib.hid (fun (h : n.data.toList = []) => show Et.mayN n.data.toList t there get = 0 by rw [h]; exact Et.mayN_nil _ _ _)
  have n1 := Lib.hid (fun h0 h => @Et.mayN_bad n.data.toList h0 h t there get)
  have n2 := Lib.hid (fun h0 l st h => @Et.mayN_has n.data.toList h0 l st h t there get)
  have n3 := Lib.hid (fun h0 l st h => @Et.mayN_not n.data.toList h0 l st h t there get)
  generalize Et.mayN n.data.toList t there get = N at *
  have bA := (Below.refl w.heap.size w).alloc (Nat.le_refl _) (.cells #[.bool t.weak, .string t.value] 23)
  have k0 := TagBox.new w t
  go_enter Tryd.func16, Tryd.ntmps16
  go_upto_region 1 with fail
  generalize w.alloc (.cells #[.bool t.weak, .string t.value] 23) = W at *
  replace bA := Lib.hid bA
  by_cases h0 : m.size = 0
  case' pos =>
    have hQ := Lib.hid (m0.out (nil_of_size h0))
    obtain rfl : m = ByteArray.empty := ByteArray.size_eq_zero_iff.1 h0
    replace k0 := Lib.hid k0
    clear m0 m1 m2 m3 h0 hm
    go_upto_region 7 with fail
    have hV := bA
    have kV := k0
    clear bA k0
    obtain ⟨V, rfl⟩ : ∃ V, V = W := ⟨_, rfl⟩
  case' neg =>
    have h1 : 0 < m.size := by omega
    have hne3 : ¬ m.toList = [] := by rw [ByteArray.toList_eq]; exact lst_ne h1
    have hne2 : (m.toList != []) = true := bne_iff_ne.2 hne3
    have hne := ne_empty h1
    have hml := Lib.hid (lst_ne h1)
    have c0 := k0.c0
    have c1 := k0.c1
    have cA := Lib.hid (eAsks_any m t there false W hm)
    have hc := ak_cases m t there false
    generalize akB m t there false = H at *
    generalize liE m = E at *
    replace k0 := Lib.hid k0
    replace hc := Lib.hid hc
    go_wp2_with fail
    (with_reducible refine (cA.out).mono ?_); rintro e w1 ⟨rfl, b1⟩
    have hV := Lib.hid (bA.out.trans (b1.mono bA.out.size))
    have kV := Lib.hid (k0.out.on b1)
    clear cA b1 bA k0 c0 c1
    rcases hc.out with ⟨hl, rfl⟩ | ⟨l, st, hl, rfl, rfl⟩
  case' inl =>
    obtain rfl := m1.out hml.out hl
    clear m0 m1 m2 m3 n0 n1 n2 n3 hc
    replace hl := Lib.hid hl
    go_wp2_with fail
    go_ret
    exact ⟨rfl, hV.out⟩
  case' inr =>
    have m2' := Lib.hid (m2.out hml.out l st hl)
    have m3' := Lib.hid (m3.out hml.out l st hl)
    clear m0 m1 m2 m3 hc hl
    generalize Et.has l st t there false = H at *
    cases H
  case' false =>
    obtain rfl := m2'.out rfl
    clear m2' m3' n0 n1 n2 n3
    go_wp2_with fail
    go_ret
    exact ⟨rfl, hV.out⟩
  case' true =>
    have hQ := Lib.hid (m3'.out rfl)
    clear m2' m3' hne hne2 hne3 hml h1 h0 hm
    go_upto_region 7 with fail
    obtain ⟨V, rfl⟩ : ∃ V, V = w1 := ⟨_, rfl⟩
  all_goals
    obtain rfl := hQ.out
    by_cases g0 : n.size = 0
    · obtain rfl := n0.out (nil_of_size g0)
      obtain rfl : n = ByteArray.empty := ByteArray.size_eq_zero_iff.1 g0
      clear n0 n1 n2 n3 g0 hn
      go_wp2_with fail
      go_ret
      exact ⟨rfl, hV.out⟩
    have g1 : 0 < n.size := by omega
    have gne3 : ¬ n.toList = [] := by rw [ByteArray.toList_eq]; exact lst_ne g1
    have gne2 : (n.toList != []) = true := bne_iff_ne.2 gne3
    have gne := ne_empty g1
    have gml := Lib.hid (lst_ne g1)
    have c0 := kV.out.c0
    have c1 := kV.out.c1
    have cA := Lib.hid (eAsks_any n t there true V hn)
    have hc := ak_cases n t there true
    generalize akB n t there true = H at *
    generalize liE n = E at *
    replace hc := Lib.hid hc
    go_wp2_with fail
    (with_reducible refine (cA.out).mono ?_); rintro e w4 ⟨rfl, b4⟩
    replace hV := Lib.hid (hV.out.trans (b4.mono hV.out.size))
    clear cA b4 kV c0 c1
    rcases hc.out with ⟨hl, rfl⟩ | ⟨l, st, hl, rfl, rfl⟩
    · obtain rfl := n1.out gml.out hl
      clear n0 n1 n2 n3 hc
      replace hl := Lib.hid hl
      go_wp2_with fail
      go_ret
      exact ⟨rfl, hV.out⟩
    · have n2' := Lib.hid (n2.out gml.out l st hl)
      have n3' := Lib.hid (n3.out gml.out l st hl)
      clear n0 n1 n2 n3 hl hc
      generalize Et.has l st t there true = H at *
      cases H
      · obtain rfl := n3'.out rfl
        clear n2' n3'
        go_wp2_with fail
        go_ret
        exact ⟨rfl, hV.out⟩
      · obtain rfl := n2'.out rfl
        clear n2' n3'
        cases get
        · go_wp2_with fail
          go_ret
          exact ⟨rfl, hV.out⟩
        · go_wp2_with fail
          go_ret
          exact ⟨rfl, hV.out⟩
end Go.Proofs.YtojbhokneemeaaaDoor
