/-
  The program's own quoted texts, and values.
  The program's own parameter, and its Type and Sub, at a text's head.
  The program's own Type and Sub, at a text's head.
-/
import Derived.Test.YtdhondndidoniaaGreatDoorG24
import Derived.Deep.DeepCutAuto
namespace Go.Proofs.YtdhondndidoniaaGreatDoor
open Go.RowKit

theorem At.keep {b : Nat} {s : ByteArray} {w w' : World} {row : Option Nat} (h : At b s w) (hg : w.grownBy w' row) (hne : some b ≠ row) : At b s w' :=
  ⟨(hg.block b h.lt hne).trans h.box, h.small⟩
/-- A row of the call's own grows beside the text. -/
theorem grown_row {w w1 w2 : World} {b : Nat} {row : Option Nat} (h1 : w.grownBy w1 (some b)) (h2 : w1.grownBy w2 row) (hr : ∀ k, row = some k → w.heap.size ≤ k) : w.grownBy w2 (some b) :=
  ⟨h2.os.trans h1.os, h2.tape.trans h1.tape, h2.output.trans h1.output, Nat.le_trans h1.size h2.size, fun k hk hne =>
    (h2.block k (Nat.lt_of_lt_of_le hk h1.size) (fun e => absurd (hr k e.symm) (by omega))).trans (h1.block k hk hne)⟩
theorem owns_grown {B b : Nat} {v : Value} {l : List UInt8} {w w' : World} (h : Owns B v l w) (hg : w.grownBy w' (some b)) (hb : b < B) : Owns B v l w' := World.ownsRow.kept h hg (by
  obtain ⟨_, ⟨rfl, _⟩ | ⟨g, cap, cur, rfl, hB, _⟩⟩ := h
  · exact .inl rfl
  · right
    simp only [Value.ownBlock, ne_eq, Option.some.injEq]
    omega)
theorem own_low {B n sz : Nat} {t : TypeId} {v : Value} {xs : List Value} {w : World} (h : w.ownsRow B t sz v n xs) : ∀ k, v.ownBlock = some k → B ≤ k := by
  obtain ⟨_, ⟨rfl, _⟩ | ⟨g, cap, cur, rfl, hB, _⟩⟩ := h
  · intro k e; cases e
  · intro k e; cases e; exact hB
/-- What is left, if it went well; no more than there was. -/
def Left (b : Nat) (s R : ByteArray) (C : Bool) (w : World) : Prop := ∃ t, At b t w ∧ t.size ≤ s.size ∧ (C = true → t = R)
/-- How much is left in a text's box. -/
def boxLen (b : Nat) (w : World) : Nat := match w.cell? ⟨b, 0, none⟩ with | some (.string t) => t.size | _ => 0
theorem boxLen_at {b : Nat} {s : ByteArray} {w : World} (h : At b s w) : boxLen b w = s.size := by unfold boxLen; rw [h.cell]

namespace Md
/-- A step of what is quoted. -/
theorem quo_step {acc : List UInt8} {t : ByteArray} (h : hdB 34 t = false) :
    (quB1 (hdR 92 t) = false → quo acc t.data.toList = none) ∧ (∀ c, quB1 (hdR 92 t) = true → quH (hdR 92 t) = (c : UInt8).toNat → quo acc t.data.toList = quo (acc ++ [c]) ((hdR 92 t).extract 1 (hdR 92 t).size).data.toList) := by
  have h34 : t.data.toList.head? ≠ some 34 := fun e => by rw [hdB_iff.2 e] at h; cases h
  cases hl : t.data.toList with
  | nil =>
    have e92 : hdB 92 t = false := by rw [← Bool.not_eq_true, hdB_iff, hl]; simp
    have e1 := hdR_same e92
    have e2 : quB1 (hdR 92 t) = false := by rw [e1]; unfold quB1; rw [hl]
    refine ⟨fun _ => quo_nil acc, fun c hc _ => ?_⟩
    rw [e2] at hc; cases hc
  | cons x l =>
    rw [hl] at h34
    have hx34 : x ≠ 34 := fun e => h34 (by rw [e]; rfl)
    by_cases hx : x = 92
    · subst hx
      have e92 : hdB 92 t = true := by rw [hdB_iff, hl]; rfl
      have e1 : (hdR 92 t).data.toList = l := by rw [hdR_list e92, hl]; rfl
      refine ⟨fun hq => ?_, fun c hc hh => ?_⟩
      · rcases quB1_no hq with e | ⟨c, u, e, hb⟩
        · rw [e1] at e; rw [e, quo_esc_end]
        · rw [e1] at e; rw [e, quo_esc_bad _ _ _ hb]
      · obtain ⟨c', h1, h2, h3⟩ := quB1_yes hc
        have : c' = c := UInt8.toNat_inj.1 (by have := h1.symm.trans hh; omega)
        subst this
        rw [e1] at h3
        conv => lhs; rw [h3]
        rw [quo_esc _ _ _ h2]
    · have e92 : hdB 92 t = false := by
        rw [← Bool.not_eq_true, hdB_iff, hl]
        intro e; exact hx (Option.some.inj e)
      have e1 := hdR_same e92
      rw [e1]
      refine ⟨fun hq => ?_, fun c hc hh => ?_⟩
      · rcases quB1_no hq with e | ⟨c, u, e, hb⟩
        · rw [hl] at e; cases e
        · rw [hl] at e
          injection e with e _
          subst e
          exact quo_bad _ _ _ hx34 hx hb
      · obtain ⟨c', h1, h2, h3⟩ := quB1_yes hc
        have : c' = c := UInt8.toNat_inj.1 (by have := h1.symm.trans hh; omega)
        subst this
        rw [hl] at h3
        injection h3 with h3 h4
        subst h3
        rw [← h4, quo_one _ _ _ hx34 hx h2]
end Md

set_option maxRecDepth 100000 in
set_option maxHeartbeats 6400000 in
theorem quoted_any (b : Nat) (s : ByteArray) (w : World) (h : At b s w) :
    Calls Tryz.prog 222 #[.pointer (some ⟨b, 0, none⟩)] w fun e w' => e = .returned (.tuple #[.string (quA s), .bool (quC s)]) ∧ Left b s (quB s) (quC s) w' ∧ w.grownBy w' (some b) := by
  obtain ⟨i0, hi, hz0, hz1, hz2⟩ := info_parts infoByte
  have hsm := h.small
  have hbw := Lib.hid h.lt
  replace h := Lib.hid h
  have hnone := Lib.hid (fun e => @qu_none s e)
  have hsome := Lib.hid (fun v r e => @qu_some s v r e)
  generalize quA s = A at *
  generalize quB s = R at *
  generalize quC s = C at *
  go_enter Tryz.func222, Tryz.ntmps222
  go_wp2_with fail
  go_loopw [4, 5, 6] (fun v _ _ wr => ∃ (t : ByteArray) (acc : List UInt8), Hid (At b t wr) ∧ Hid (Md.quo [] s.data.toList = Md.quo acc t.data.toList) ∧ acc.length + t.size ≤ s.size ∧ Hid (acc = [] → v = .slice none 0 0) ∧ Hid (Owns w.heap.size v acc wr) ∧ Hid (w.grownBy wr (some b))) (fun _ _ _ wr => boxLen b wr)
  case atStart => exact ⟨s, [], h, Lib.hid rfl, by simp, Lib.hid (fun _ => rfl), Lib.hid (owns_nil _ _), Lib.hid (grown_refl _ _)⟩
  case round =>
    obtain ⟨t, acc, hA, hq, hlen, hnil, ho, hg⟩ := hrel
    have hmeas := Lib.hid (boxLen_at hA.out)
    have c34 := Lib.hid (takes_any b t 34 34 wr hA.out rfl)
    go_wp2_with fail
    (with_reducible refine (c34.out).mono ?_); rintro e w1 ⟨rfl, hA1, hg1⟩
    clear c34
    cases h34 : hdB 34 t
    case true =>
      have hqq : Md.quo [] s.data.toList = some (acc, (hdR 34 t).data.toList) := by
        rw [hq.out]
        have h1 := hdB_iff.1 h34
        rw [hdR_list h34]
        cases hl : t.data.toList with
        | nil => rw [hl] at h1; cases h1
        | cons x l =>
          rw [hl] at h1
          cases h1
          exact Md.quo_end acc l
      obtain ⟨r1, r2, r3⟩ := hsome.out _ _ hqq
      have hrt : hdR 34 t = R := by rw [r2]
      have hsz := hdR_size 34 t
      have ho1 := owns_grown ho.out hg1 hbw.out
      have hcv := owns_string ho1 hnil.out
      have hgf := Lib.hid (hg.out.trans hg1)
      replace hA1 := Lib.hid hA1
      replace hrt := Lib.hid hrt
      replace r1 := Lib.hid r1
      obtain rfl := r3
      clear r2 hqq ho1 hg1 hg ho hA hq hmeas
      replace h34 := Lib.hid h34
      go_wp2_with fail
      go_ret2
      exact ⟨by rw [r1.out]; rfl, ⟨_, hA1.out, by omega, fun _ => hrt.out⟩, hgf.out⟩
    case false =>
      have e34 := hdR_same h34
      rw [e34] at hA1
      obtain ⟨st1, st2⟩ := Md.quo_step (acc := acc) h34
      replace st1 := Lib.hid st1
      replace st2 := Lib.hid st2
      replace h34 := Lib.hid h34
      replace e34 := Lib.hid e34
      have ho1 := Lib.hid (owns_grown ho.out hg1 hbw.out)
      have hgf := Lib.hid (hg.out.trans hg1)
      have c92 := Lib.hid (takes_any b t 92 92 w1 hA1 rfl)
      clear hg1 hg ho hA hA1
      go_wp2_with fail
      (with_reducible refine (c92.out).mono ?_); rintro e w2 ⟨rfl, hA2, hg2⟩
      clear c92
      have hsz := hdR_size 92 t
      have ho2 := Lib.hid (owns_grown ho1.out hg2 hbw.out)
      have hgf2 := Lib.hid (hgf.out.trans hg2)
      clear ho1 hgf hg2
      generalize hdR 92 t = t1 at *
      have cq := Lib.hid (quotable_any b t1 w2 hA2)
      clear hA2
      go_wp2_with fail
      (with_reducible refine (cq.out).mono ?_); rintro e w3 ⟨rfl, hA3, hg3⟩
      clear cq
      have ho3 := owns_grown ho2.out hg3 hbw.out
      have hgf3 := Lib.hid (hgf2.out.trans hg3)
      clear ho2 hgf2 hg3
      have hsz3 : (t1.extract 1 t1.size).size ≤ t1.size := by rw [ByteArray.size_extract]; omega
      cases hb : quB1 t1
      case false =>
        obtain ⟨r1, r2, r3⟩ := hnone.out (hq.out.trans (st1.out hb))
        replace r1 := Lib.hid r1
        obtain rfl := r3
        replace hA3 := Lib.hid hA3
        replace hb := Lib.hid hb
        clear r2 ho3
        go_wp2_with fail
        go_ret2
        exact ⟨by rw [r1.out]; rfl, ⟨_, hA3.out, by omega, fun e => by cases e⟩, hgf3.out⟩
      case true =>
        obtain ⟨c, hc, _, hl⟩ := quB1_yes hb
        have hst := Lib.hid (hq.out.trans (st2.out c hb hc))
        have hlt : (t1.extract 1 t1.size).size < t1.size := by
          have := congrArg List.length hl
          rw [List.length_cons, list_len, list_len] at this
          omega
        rw [hc]
        replace hb := Lib.hid hb
        clear st1 st2 hl hq hc
        generalize t1.extract 1 t1.size = t2 at *
        have hcl := c.toNat_lt
        have hlen2 := Lib.hid hlen
        have hsz3' := w3.heap.size
        have hB3 : w.heap.size ≤ w3.heap.size := hgf3.out.size
        replace hA3 := Lib.hid hA3
        replace hnil := Lib.hid hnil.out
        go_wp2_with (at_builtin; refine wpList_append_own _ rfl _ _ 123 rfl w.heap.size 5 i0 (.int .u8 0) 1 1 Tryz.underlying123 hi hz0 hz1 hz2 rfl (by decide) _ _ _ rfl (World.ownsRow.alloc ho3 _) ⟨w3.heap.size, 0, none⟩ 1 1 [.int .u8 (c.toNat : Int)] rfl rfl (cell_one_new _ _ _) (fun u hu => by simp at hu; subst hu; rfl) (by have := hlen2.out; unfold maxLen; omega) (by have := hlen2.out; omega) (by simp; omega) ?_)
        intro v2 w4 hown2 hg4 hnil2
        have hga := (World.grownBy_alloc w3 _ _).trans hg4
        have ho4 : Owns w.heap.size v2 (acc ++ [c]) w4 := owns_of hown2 (by simp) (by simp [Lib.byteCells])
        have hlow := own_low ho3
        have hgf4 := Lib.hid (grown_row hgf3.out hga hlow)
        have hA4 := Lib.hid (hA3.out.keep hga (fun e => by have := hlow b e.symm; have := hbw.out; omega))
        have hm4 := boxLen_at hA4.out
        have hm0 := hmeas.out
        replace ho4 := Lib.hid ho4
        clear hown2 hg4 hnil2 hga ho3 hlow
        replace hm4 := Lib.hid hm4
        replace hm0 := Lib.hid hm0
        go_wp2_with fail
        go_roundw
        case rel => exact ⟨t2, acc ++ [c], hA4, hst, by rw [List.length_append, List.length_singleton]; omega, Lib.hid (fun e => by simp at e), ho4, hgf4⟩
        case measure => rw [hm4.out, hm0.out]; omega

set_option maxRecDepth 100000 in
set_option maxHeartbeats 6400000 in
theorem value_any (b : Nat) (s : ByteArray) (w : World) (h : At b s w) :
    Calls Tryz.prog 199 #[.pointer (some ⟨b, 0, none⟩)] w fun e w' => e = .returned (.tuple #[.string (vaA s), .bool (vaC s)]) ∧ Left b s (vaB s) (vaC s) w' ∧ w.grownBy w' (some b) := by
  have c34 := Lib.hid (takes_any b s 34 34 w h rfl)
  clear h
  have hy : Hid (hdB 34 s = true → vaA s = quA (s.extract 1 s.size) ∧ vaB s = quB (s.extract 1 s.size) ∧ vaC s = quC (s.extract 1 s.size) ∧ hdR 34 s = s.extract 1 s.size) := Lib.hid (fun h34 => by
    have h1 := hdB_iff.1 h34
    unfold vaA vaB vaC hdR
    rw [if_pos h1, if_pos h1, if_pos h1, if_pos h34]
    exact ⟨rfl, rfl, rfl, rfl⟩)
  obtain ⟨V, hV⟩ : ∃ V, V = tkA s := ⟨_, rfl⟩
  replace hV := Lib.hid hV
  have hn : Hid (hdB 34 s = false → vaA s = V ∧ vaB s = tkB s ∧ vaC s = !V.toList.isEmpty) := Lib.hid (fun h34 => by
    rw [hV.out]
    have h1 : ¬ s.data.toList.head? = some 34 := fun e => by rw [hdB_iff.2 e] at h34; cases h34
    unfold vaA vaB vaC
    rw [if_neg h1, if_neg h1, if_neg h1]
    exact ⟨rfl, rfl, rfl⟩)
  generalize vaA s = A at *
  generalize vaB s = R at *
  generalize vaC s = C at *
  go_enter Tryz.func199, Tryz.ntmps199
  go_wp2_with fail
  (with_reducible refine (c34.out).mono ?_); rintro e w1 ⟨rfl, hA1, hg1⟩
  clear c34
  cases h34 : hdB 34 s
  case true =>
    obtain ⟨rfl, rfl, rfl, e1⟩ := hy.out h34
    have hsz : (s.extract 1 s.size).size ≤ s.size := by rw [ByteArray.size_extract]; omega
    rw [e1] at hA1
    clear e1 hy hn
    replace h34 := Lib.hid h34
    have cq := Lib.hid (quoted_any b _ w1 hA1)
    clear hA1
    replace hg1 := Lib.hid hg1
    go_wp2_with fail
    (with_reducible refine (cq.out).mono ?_); rintro e w2 ⟨rfl, ⟨t, hA2, ht, hR⟩, hg2⟩
    replace hA2 := Lib.hid hA2
    replace hR := Lib.hid hR
    replace hg2 := Lib.hid (hg1.out.trans hg2)
    clear cq
    go_wp2_with fail
    go_ret2
    exact ⟨rfl, ⟨t, hA2.out, by omega, hR.out⟩, hg2.out⟩
  case false =>
    rw [hdR_same h34] at hA1
    obtain ⟨r1, rfl, r3⟩ := hn.out h34
    have hsz := tkB_size s
    replace r1 := Lib.hid r1
    clear hy hn
    replace h34 := Lib.hid h34
    have cq := token_any b _ w1 hA1
    rw [← hV.out] at cq
    replace cq := Lib.hid cq
    clear hA1
    replace hg1 := Lib.hid hg1
    go_wp2_with fail
    (with_reducible refine (cq.out).mono ?_); rintro e w2 ⟨rfl, hA2, hg2⟩
    replace hA2 := Lib.hid hA2
    replace hg2 := Lib.hid (hg1.out.trans hg2)
    clear cq
    by_cases h0 : V.size = 0
    · have he := empty_yes h0
      rw [he] at r3
      replace r3 := Lib.hid r3
      obtain rfl : V = ByteArray.empty := ByteArray.size_eq_zero_iff.1 h0
      have he3 : (ByteArray.empty.toList == []) = true := by rw [ByteArray.toList_eq]; rfl
      have he4 : (ByteArray.empty.toList != []) = false := by rw [ByteArray.toList_eq]; rfl
      have he2 : ByteArray.empty.toList = [] := by rw [ByteArray.toList_eq]; rfl
      go_wp2_with fail
      go_ret2
      exact ⟨by rw [r1.out, r3.out]; rfl, ⟨_, hA2.out, hsz, fun _ => rfl⟩, hg2.out⟩
    · have hp : 0 < V.size := by omega
      rw [ne_empty hp] at r3
      replace r3 := Lib.hid r3
      have hne3 : ¬ V.toList = [] := by
        rw [ByteArray.toList_eq]
        exact lst_ne hp
      have hne2 : (V.toList == []) = false := by
        rw [beq_eq_false_iff_ne]; exact hne3
      have hne4 : (V.toList != []) = true := by rw [bne, hne2]; rfl
      go_wp2_with fail
      go_ret2
      exact ⟨by rw [r1.out, r3.out]; rfl, ⟨_, hA2.out, hsz, fun _ => rfl⟩, hg2.out⟩
end Go.Proofs.YtdhondndidoniaaGreatDoor
namespace Go.Proofs.YtdhondndidoniaaGreatDoor
open Go.RowKit

theorem grown_new {w W : World} {b rb : Nat} (h : w.grownBy W (some b)) (hr : w.heap.size ≤ rb) (i : Nat) (v : Value) : w.grownBy (W.setCell ⟨rb, i, none⟩ v) (some b) :=
  ⟨h.os, h.tape, h.output, by rw [World.size_setCell]; exact h.size, fun k hk hne => (RowKit.Below.heap_setCell _ _ _ _ (by intro e; simp at e; omega)).trans (h.block k hk hne)⟩
theorem pair_end {fn : Func} (hres : fn.results = #[.cell 2 172, .tmp 3]) {R : Ending → World → Prop} {tmps : Array Value} {w : World} {k : Nat} {x y z : Value} (h2 : tmps[2]? = some (.pointer (some ⟨k, 0, none⟩))) (h3 : tmps[3]? = some z)
    (hb : Cells w k 172 #[x, y]) (hR : R (.returned (.tuple #[.agg #[x, y], z])) w) : bodyPost Tryz.prog fn R .ret { tmps := tmps, defers := [] } w := by
  refine ⟨rfl, _, ?_, hR⟩
  have l2 : 2 < tmps.size := (Array.getElem?_eq_some_iff.1 h2).1
  have l3 : 3 < tmps.size := (Array.getElem?_eq_some_iff.1 h3).1
  have g2 : tmps[2] = .pointer (some ⟨k, 0, none⟩) := (Array.getElem?_eq_some_iff.1 h2).2
  have g3 : tmps[3] = z := (Array.getElem?_eq_some_iff.1 h3).2
  have c0 := hb.cell (i := 0) rfl
  have c1 := hb.cell (i := 1) rfl
  simp [results, hres, go_sem, l2, g2, l3, g3, c0, c1]
theorem media_end {fn : Func} (hres : fn.results = #[.cell 2 120, .tmp 3]) {R : Ending → World → Prop} {tmps : Array Value} {w : World} {k : Nat} {x y u z : Value} (h2 : tmps[2]? = some (.pointer (some ⟨k, 0, none⟩))) (h3 : tmps[3]? = some z)
    (hb : Cells w k 120 #[x, y, u]) (hR : R (.returned (.tuple #[.agg #[x, y, u], z])) w) : bodyPost Tryz.prog fn R .ret { tmps := tmps, defers := [] } w := by
  refine ⟨rfl, _, ?_, hR⟩
  have l2 : 2 < tmps.size := (Array.getElem?_eq_some_iff.1 h2).1
  have l3 : 3 < tmps.size := (Array.getElem?_eq_some_iff.1 h3).1
  have g2 : tmps[2] = .pointer (some ⟨k, 0, none⟩) := (Array.getElem?_eq_some_iff.1 h2).2
  have g3 : tmps[3] = z := (Array.getElem?_eq_some_iff.1 h3).2
  have c0 := hb.cell (i := 0) rfl
  have c1 := hb.cell (i := 1) rfl
  have c2 := hb.cell (i := 2) rfl
  simp [results, hres, go_sem, l2, g2, l3, g3, c0, c1, c2]

/-- A text, and a result of the call's own beside it. -/
structure Pt (w : World) (b rb : Nat) (T : TypeId) (t : ByteArray) (cs : Array Value) (W : World) : Prop where
  text : At b t W
  res : Cells W rb T cs
  low : w.heap.size ≤ rb
  grown : w.grownBy W (some b)
  lt : b < w.heap.size
theorem Pt.ne {w W : World} {b rb : Nat} {T : TypeId} {t : ByteArray} {cs : Array Value} (h : Pt w b rb T t cs W) : rb ≠ b := by have := h.low; have := h.lt; omega
theorem Pt.read {w W W' : World} {b rb : Nat} {T : TypeId} {t t' : ByteArray} {cs : Array Value} (h : Pt w b rb T t cs W) (hA : At b t' W') (hg : W.grownBy W' (some b)) : Pt w b rb T t' cs W' :=
  ⟨hA, h.res.grown hg h.ne, h.low, h.grown.trans hg, h.lt⟩
theorem Pt.below {w W W' : World} {b rb : Nat} {T : TypeId} {t : ByteArray} {cs : Array Value} (h : Pt w b rb T t cs W) (hb : Below W.heap.size W W') : Pt w b rb T t cs W' :=
  ⟨h.text.below hb, h.res.on hb, h.low, grown_then h.grown hb, h.lt⟩
theorem Pt.put {w W : World} {b rb : Nat} {T : TypeId} {t : ByteArray} {cs : Array Value} (h : Pt w b rb T t cs W) (i : Nat) (v : Value) : Pt w b rb T t (cs.setIfInBounds i v) (W.setCell ⟨rb, i, none⟩ v) :=
  ⟨h.text.other (Ne.symm h.ne) i v, h.res.set i v, h.low, grown_new h.grown h.low i v, h.lt⟩
theorem Pt.new {w : World} {b : Nat} {t : ByteArray} (h : At b t w) (T : TypeId) (cs : Array Value) : Pt w b w.heap.size T t cs (w.alloc (.cells cs T)) :=
  ⟨h.below ((Below.refl _ _).alloc (Nat.le_refl _) _), Cells.new _ _ _, Nat.le_refl _, grown_of_below ((Below.refl _ _).alloc (Nat.le_refl _) _) _, h.lt⟩

/-! ### a parameter -/
def pT1 (s : ByteArray) : ByteArray := skA (hdR 59 s)
def pN (s : ByteArray) : ByteArray := loA (tkA (pT1 s))
def pT2 (s : ByteArray) : ByteArray := tkB (pT1 s)
def pT3 (s : ByteArray) : ByteArray := hdR 61 (pT2 s)
def pV (s : ByteArray) : ByteArray := vaA (pT3 s)
def pR (s : ByteArray) : ByteArray := vaB (pT3 s)
def pOk (s : ByteArray) : Bool := hdB 59 s && !(pN s).toList.isEmpty && hdB 61 (pT2 s) && vaC (pT3 s)

namespace Md
theorem lower_star {l : List UInt8} : lower l = [42] ↔ l = [42] := by
  have hb : ∀ b : UInt8, lowB b = 42 ↔ b = 42 := by
    intro b
    have : ∀ n, n < 256 → (lowB (UInt8.ofNat n) = 42 ↔ UInt8.ofNat n = 42) := by decide +kernel
    have := this b.toNat b.toNat_lt
    rwa [UInt8.ofNat_toNat] at this
  cases l with
  | nil => simp [lower]
  | cons x t =>
    cases t with
    | nil => simp [lower, hb]
    | cons y t => simp [lower]
end Md
/-- A parameter more. -/
theorem par_step {acc : List Pair} {s : ByteArray} (hs : Md.skip s.data.toList = s.data.toList) (h0 : s.data.toList ≠ []) :
    (pOk s = true → Md.paramsG acc s.data.toList = Md.paramsG (acc ++ [⟨pN s, pV s⟩]) (pR s).data.toList) ∧ (pOk s = false → Md.paramsG acc s.data.toList = none) := by
  have hn : (pN s).toList.isEmpty = (Md.tok (pT1 s).data.toList).isEmpty := by
    unfold pN
    rw [ByteArray.toList_eq, loA_list, tkA_list]; unfold Md.lower; simp
  have hne : Md.skip s.data.toList ≠ [] := by rw [hs]; exact h0
  unfold pOk
  rw [hn]
  cases h59 : hdB 59 s with
  | false =>
    refine ⟨fun e => by simp at e, fun _ => Md.pg_semi hne ?_⟩
    rw [hs]
    intro e
    rw [hdB_iff.2 e] at h59; cases h59
  | true =>
    have hh : (Md.skip s.data.toList).head? = some 59 := by rw [hs]; exact hdB_iff.1 h59
    have e1 : (pT1 s).data.toList = Md.skip ((Md.skip s.data.toList).drop 1) := by unfold pT1; rw [skA_list, hdR_list h59, hs]
    by_cases htok : Md.tok (pT1 s).data.toList = []
    · refine ⟨fun e => by rw [htok] at e; simp at e, fun _ => Md.pg_name hne hh (by rw [← e1]; exact htok)⟩
    · have e2 : (pT2 s).data.toList = Md.tokR (Md.skip ((Md.skip s.data.toList).drop 1)) := by unfold pT2; rw [tkB_list, e1]
      rw [e1] at htok
      cases h61 : hdB 61 (pT2 s) with
      | false =>
        refine ⟨fun e => by simp at e, fun _ => Md.pg_sign hne hh htok ?_⟩
        rw [← e2]
        intro e
        rw [hdB_iff.2 e] at h61; cases h61
      | true =>
        have hh2 : (Md.tokR (Md.skip ((Md.skip s.data.toList).drop 1))).head? = some 61 := by rw [← e2]; exact hdB_iff.1 h61
        have e3 : (pT3 s).data.toList = (Md.tokR (Md.skip ((Md.skip s.data.toList).drop 1))).drop 1 := by unfold pT3; rw [hdR_list h61, e2]
        cases hv : Md.value ((Md.tokR (Md.skip ((Md.skip s.data.toList).drop 1))).drop 1) with
        | none =>
          have hc := va_none (s := pT3 s) (by rw [e3]; exact hv)
          refine ⟨fun e => by rw [hc] at e; simp at e, fun _ => Md.pg_value hne hh htok hh2 hv⟩
        | some x =>
          obtain ⟨v, r⟩ := x
          obtain ⟨a1, a2, a3⟩ := va_some (s := pT3 s) (by rw [e3]; exact hv)
          refine ⟨fun _ => ?_, fun e => ?_⟩
          · rw [Md.pg_step hne hh htok hh2 hv]
            unfold pN pV pR
            rw [a1, a2, mk_list]
            have : loA (tkA (pT1 s)) = ⟨(Md.lower (Md.tok (Md.skip ((Md.skip s.data.toList).drop 1)))).toArray⟩ := by
              unfold loA; rw [tkA_list, e1]
            rw [this]
          · rw [a3, e1] at e
            cases hl : Md.tok (Md.skip ((Md.skip s.data.toList).drop 1)) with
            | nil => exact absurd hl htok
            | cons y t => rw [hl] at e; simp at e

set_option maxRecDepth 100000 in
set_option maxHeartbeats 6400000 in
theorem prm_any (b : Nat) (s : ByteArray) (w : World) (h : At b s w) :
    Calls Tryz.prog 172 #[.pointer (some ⟨b, 0, none⟩)] w fun e w' => e = .returned (.tuple #[.agg #[.string (pN s), .string (pV s)], .bool (pOk s)]) ∧ Left b s (pR s) (pOk s) w' ∧ w.grownBy w' (some b) := by
  have hz1 := hdR_size 59 s
  have hz2 := skA_size (hdR 59 s)
  have hz3 := tkB_size (pT1 s)
  have hz4 := hdR_size 61 (pT2 s)
  have hsN : (tkA (pT1 s)).size ≤ 70368744177664 := by
    have := tkA_size (pT1 s)
    have := h.small
    have : (pT1 s).size ≤ (hdR 59 s).size := hz2
    omega
  have hz : Hid ((pT3 s).size ≤ s.size) := Lib.hid (by
    have : (pT1 s).size ≤ (hdR 59 s).size := hz2
    have : (pT2 s).size ≤ (pT1 s).size := hz3
    have : (pT3 s).size ≤ (pT2 s).size := hz4
    omega)
  clear hz1 hz2 hz3 hz4
  have hok : Hid (pOk s = (hdB 59 s && !(pN s).toList.isEmpty && hdB 61 (pT2 s) && vaC (pT3 s))) := Lib.hid rfl
  have P0 := Lib.hid (Pt.new h 172 #[.string ⟨#[]⟩, .string ⟨#[]⟩])
  clear h
  have k1 := Lib.hid (fun W hA => takes_any b s 59 59 W hA rfl)
  have k2 := Lib.hid (fun W hA => space_any b (hdR 59 s) W hA)
  have k3 := Lib.hid (fun W hA => token_any b (pT1 s) W hA)
  have k4 := Lib.hid (fun W => mSmall_any (tkA (pT1 s)) W hsN)
  have k5 := Lib.hid (fun W hA => takes_any b (pT2 s) 61 61 W hA rfl)
  have k6 := Lib.hid (fun W hA => value_any b (pT3 s) W hA)
  rw [show skA (hdR 59 s) = pT1 s from rfl] at k2
  rw [show tkB (pT1 s) = pT2 s from rfl] at k3
  rw [show loA (tkA (pT1 s)) = pN s from rfl] at k4
  rw [show hdR 61 (pT2 s) = pT3 s from rfl] at k5
  rw [show vaA (pT3 s) = pV s from rfl, show vaB (pT3 s) = pR s from rfl] at k6
  generalize pOk s = OK at *
  generalize pR s = RR at *
  generalize pV s = VV at *
  generalize pN s = NN at *
  generalize tkA (pT1 s) = NK at *
  generalize hdB 59 s = B1 at *
  generalize hdB 61 (pT2 s) = B2 at *
  generalize hdR 59 s = T0 at *
  generalize vaC (pT3 s) = B3 at *
  generalize pT3 s = T3 at *
  generalize pT2 s = T2 at *
  generalize pT1 s = T1 at *
  clear hsN
  go_enter Tryz.func172, Tryz.ntmps172
  go_upto_region 1 with fail
  generalize w.alloc (.cells #[.string ⟨#[]⟩, .string ⟨#[]⟩] 172) = w0 at *
  go_wp2_with fail
  (with_reducible refine (k1.out _ P0.out.text).mono ?_); rintro e w1 ⟨rfl, hA, hg⟩
  have P1 := Lib.hid (P0.out.read hA hg)
  clear P0 hA hg k1
  go_wp2_with fail
  (with_reducible refine (k2.out _ P1.out.text).mono ?_); rintro e w2 ⟨rfl, hA, hg⟩
  have P2 := Lib.hid (P1.out.read hA hg)
  clear P1 hA hg k2
  go_wp2_with fail
  (with_reducible refine (k3.out _ P2.out.text).mono ?_); rintro e w3 ⟨rfl, hA, hg⟩
  have P3 := Lib.hid (P2.out.read hA hg)
  clear P2 hA hg k3
  go_wp2_with fail
  (with_reducible refine (k4.out _).mono ?_); rintro e w4 ⟨rfl, hb⟩
  have P4 := P3.out.below hb
  clear P3 hb k4
  have c0 := P4.res.cell (i := 0) rfl
  have f0 := P4.res.free 0
  have P5 := Lib.hid (P4.put 0 (.string NN))
  clear P4
  go_wp2_with fail
  clear c0 f0
  (with_reducible refine (k5.out _ P5.out.text).mono ?_); rintro e w5 ⟨rfl, hA, hg⟩
  have P6 := Lib.hid (P5.out.read hA hg)
  clear P5 hA hg k5
  go_wp2_with fail
  (with_reducible refine (k6.out _ P6.out.text).mono ?_); rintro e w6 ⟨rfl, ⟨t, hA, ht, hR⟩, hg⟩
  have P7 := P6.out.read hA hg
  clear P6 hA hg k6
  replace hR := Lib.hid hR
  replace ht := Lib.hid ht
  have c1 := P7.res.cell (i := 1) rfl
  have f1 := P7.res.free 1
  have P8 := Lib.hid (P7.put 1 (.string VV))
  clear P7
  go_upto_region 7 with fail
  clear c1 f1
  generalize w6.setCell ⟨w.heap.size, 1, none⟩ (.string VV) = w7 at *
  have c0 := P8.out.res.cell (i := 0) rfl
  have c1 := P8.out.res.cell (i := 1) rfl
  have f0 := P8.out.res.free 0
  have f1 := P8.out.res.free 1
  have P9 := Lib.hid ((P8.out.put 0 (.string NN)).put 1 (.string VV))
  clear P8
  have hfin : Hid (OK = true → B3 = true) := Lib.hid (fun e => by rw [hok.out] at e; simp at e; exact e.2)
  cases B1
  case false =>
    have hO : OK = false := by rw [hok.out]; rfl
    subst hO
    go_wp2_with fail
    exact pair_end (k := w.heap.size) rfl rfl rfl P9.out.res ⟨rfl, ⟨t, P9.out.text, by have := ht.out; have := hz.out; omega, fun e => by cases e⟩, P9.out.grown⟩
  case true =>
    by_cases h0 : NN.size = 0
    · have he := empty_yes h0
      have hO : OK = false := by rw [hok.out, he]; rfl
      subst hO
      obtain rfl : NN = ByteArray.empty := ByteArray.size_eq_zero_iff.1 h0
      have he3 : (ByteArray.empty.toList == []) = true := by rw [ByteArray.toList_eq]; rfl
      have he4 : (ByteArray.empty.toList != []) = false := by rw [ByteArray.toList_eq]; rfl
      have he2 : ByteArray.empty.toList = [] := by rw [ByteArray.toList_eq]; rfl
      go_wp2_with fail
      exact pair_end (k := w.heap.size) rfl rfl rfl P9.out.res ⟨rfl, ⟨t, P9.out.text, by have := ht.out; have := hz.out; omega, fun e => by cases e⟩, P9.out.grown⟩
    · have hp : 0 < NN.size := by omega
      have hne := ne_empty hp
      have hne3 : ¬ NN.toList = [] := by
        rw [ByteArray.toList_eq]
        exact lst_ne hp
      have hne2 : (NN.toList == []) = false := by
        rw [beq_eq_false_iff_ne]; exact hne3
      have hne4 : (NN.toList != []) = true := by rw [bne, hne2]; rfl
      have hO : OK = (B2 && B3) := by rw [hok.out, hne]; rfl
      subst hO
      replace hne := Lib.hid hne
      clear hok
      cases B2
      · go_wp2_with fail
        exact pair_end (k := w.heap.size) rfl rfl rfl P9.out.res ⟨rfl, ⟨t, P9.out.text, by have := ht.out; have := hz.out; omega, fun e => by cases e⟩, P9.out.grown⟩
      · go_wp2_with fail
        exact pair_end (k := w.heap.size) rfl rfl rfl P9.out.res ⟨rfl, ⟨t, P9.out.text, by have := ht.out; have := hz.out; omega, fun e => hR.out (hfin.out e)⟩, P9.out.grown⟩
end Go.Proofs.YtdhondndidoniaaGreatDoor
namespace Go.Proofs.YtdhondndidoniaaGreatDoor
open Go.RowKit

def kT1 (s : ByteArray) : ByteArray := skA s
def kA (s : ByteArray) : ByteArray := loA (tkA (kT1 s))
def kT2 (s : ByteArray) : ByteArray := tkB (kT1 s)
def kT3 (s : ByteArray) : ByteArray := hdR 47 (kT2 s)
def kS (s : ByteArray) : ByteArray := loA (tkA (kT3 s))
def kR (s : ByteArray) : ByteArray := tkB (kT3 s)
def kOk (s : ByteArray) : Bool := !(kA s).toList.isEmpty && hdB 47 (kT2 s) && !(kS s).toList.isEmpty && (!((kA s).toList == [42]) || ((kS s).toList == [42]))

theorem kind_step {s : ByteArray} : (kOk s = true → Md.parse s.data.toList = (Md.paramsG [] (kR s).data.toList).map (fun ps => ⟨kA s, kS s, ps⟩)) ∧ (kOk s = false → Md.parse s.data.toList = none) := by
  have e1 : (tkA (kT1 s)).data.toList = Md.tok (Md.skip s.data.toList) := by unfold kT1; rw [tkA_list, skA_list]
  have e2 : (kT2 s).data.toList = Md.tokR (Md.skip s.data.toList) := by unfold kT2 kT1; rw [tkB_list, skA_list]
  have n1 : (kA s).toList.isEmpty = (Md.tok (Md.skip s.data.toList)).isEmpty := by
    unfold kA
    rw [ByteArray.toList_eq, loA_list, e1]; unfold Md.lower; simp
  have s1 : ((kA s).toList == [42]) = decide (Md.tok (Md.skip s.data.toList) = [42]) := by
    unfold kA
    rw [ByteArray.toList_eq, loA_list, e1, Bool.eq_iff_iff, beq_iff_eq, decide_eq_true_eq, Md.lower_star]
  have a1 : kA s = ⟨(Md.lower (Md.tok (Md.skip s.data.toList))).toArray⟩ := by unfold kA loA; rw [e1]
  unfold kOk
  rw [n1, s1]
  by_cases h0 : Md.tok (Md.skip s.data.toList) = []
  · refine ⟨fun e => by rw [h0] at e; simp at e, fun _ => ?_⟩
    unfold Md.parse; rw [if_pos (.inl h0)]
  have i0 : (Md.tok (Md.skip s.data.toList)).isEmpty = false := by simpa using h0
  rw [i0]
  cases h47 : hdB 47 (kT2 s) with
  | false =>
    refine ⟨fun e => by simp at e, fun _ => ?_⟩
    unfold Md.parse
    rw [if_pos (.inr (by rw [← e2]; intro e; rw [hdB_iff.2 e] at h47; cases h47))]
  | true =>
    have hh := hdB_iff.1 h47
    rw [e2] at hh
    have e3 : (kT3 s).data.toList = (Md.tokR (Md.skip s.data.toList)).drop 1 := by unfold kT3; rw [hdR_list h47, e2]
    have e4 : (tkA (kT3 s)).data.toList = Md.tok ((Md.tokR (Md.skip s.data.toList)).drop 1) := by rw [tkA_list, e3]
    have n2 : (kS s).toList.isEmpty = (Md.tok ((Md.tokR (Md.skip s.data.toList)).drop 1)).isEmpty := by
      unfold kS
      rw [ByteArray.toList_eq, loA_list, e4]; unfold Md.lower; simp
    have s2 : ((kS s).toList == [42]) = decide (Md.tok ((Md.tokR (Md.skip s.data.toList)).drop 1) = [42]) := by
      unfold kS
      rw [ByteArray.toList_eq, loA_list, e4, Bool.eq_iff_iff, beq_iff_eq, decide_eq_true_eq, Md.lower_star]
    have a2 : kS s = ⟨(Md.lower (Md.tok ((Md.tokR (Md.skip s.data.toList)).drop 1))).toArray⟩ := by unfold kS loA; rw [e4]
    have e5 : (kR s).data.toList = Md.tokR ((Md.tokR (Md.skip s.data.toList)).drop 1) := by unfold kR; rw [tkB_list, e3]
    rw [n2, s2, a1, a2, e5]
    unfold Md.parse
    rw [if_neg (by rintro (e | e); exact h0 e; exact e hh)]
    by_cases h1 : Md.tok ((Md.tokR (Md.skip s.data.toList)).drop 1) = []
    · rw [if_pos h1]
      exact ⟨fun e => by rw [h1] at e; simp at e, fun _ => rfl⟩
    · have i1 : (Md.tok ((Md.tokR (Md.skip s.data.toList)).drop 1)).isEmpty = false := by simpa using h1
      rw [if_neg h1, i1]
      by_cases hs : Md.tok (Md.skip s.data.toList) = [42] ∧ Md.tok ((Md.tokR (Md.skip s.data.toList)).drop 1) ≠ [42]
      · refine ⟨fun e => by rw [decide_eq_true hs.1, decide_eq_false hs.2] at e; simp at e, fun _ => ?_⟩
        cases Md.paramsG [] (Md.tokR ((Md.tokR (Md.skip s.data.toList)).drop 1)) with
        | none => rfl
        | some ps => simp only; rw [if_pos hs]
      · refine ⟨fun _ => ?_, fun e => ?_⟩
        · cases Md.paramsG [] (Md.tokR ((Md.tokR (Md.skip s.data.toList)).drop 1)) with
          | none => rfl
          | some ps => simp only; rw [if_neg hs]; rfl
        · exfalso
          apply hs
          by_cases q1 : Md.tok (Md.skip s.data.toList) = [42]
          · by_cases q2 : Md.tok ((Md.tokR (Md.skip s.data.toList)).drop 1) = [42]
            · rw [decide_eq_true q1, decide_eq_true q2] at e; simp at e
            · exact ⟨q1, q2⟩
          · rw [decide_eq_false q1] at e; simp at e

set_option maxRecDepth 100000 in
set_option maxHeartbeats 6400000 in
theorem kind_any (b : Nat) (s : ByteArray) (w : World) (h : At b s w) :
    Calls Tryz.prog 170 #[.pointer (some ⟨b, 0, none⟩)] w fun e w' => e = .returned (.tuple #[.agg #[.string (kA s), .string (kS s), .slice none 0 0], .bool (kOk s)]) ∧ At b (kR s) w' ∧ w.grownBy w' (some b) := by
  have hz1 := skA_size s
  have hz2 := tkB_size (kT1 s)
  have hz3 := hdR_size 47 (kT2 s)
  have hsN : (tkA (kT1 s)).size ≤ 70368744177664 := by
    have := tkA_size (kT1 s)
    have := h.small
    have : (kT1 s).size ≤ s.size := hz1
    omega
  have hsM : (tkA (kT3 s)).size ≤ 70368744177664 := by
    have := tkA_size (kT3 s)
    have := h.small
    have : (kT1 s).size ≤ s.size := hz1
    have : (kT2 s).size ≤ (kT1 s).size := hz2
    have : (kT3 s).size ≤ (kT2 s).size := hz3
    omega
  clear hz1 hz2 hz3
  have hok : Hid (kOk s = (!(kA s).toList.isEmpty && hdB 47 (kT2 s) && !(kS s).toList.isEmpty && (!((kA s).toList == [42]) || ((kS s).toList == [42])))) := Lib.hid rfl
  have P0 := Lib.hid (Pt.new h 120 #[.string ⟨#[]⟩, .string ⟨#[]⟩, .slice none 0 0])
  clear h
  have k1 := Lib.hid (fun W hA => space_any b s W hA)
  have k2 := Lib.hid (fun W hA => token_any b (kT1 s) W hA)
  have k3 := Lib.hid (fun W => mSmall_any (tkA (kT1 s)) W hsN)
  have k4 := Lib.hid (fun W hA => takes_any b (kT2 s) 47 47 W hA rfl)
  have k5 := Lib.hid (fun W hA => token_any b (kT3 s) W hA)
  have k6 := Lib.hid (fun W => mSmall_any (tkA (kT3 s)) W hsM)
  rw [show skA s = kT1 s from rfl] at k1
  rw [show tkB (kT1 s) = kT2 s from rfl] at k2
  rw [show loA (tkA (kT1 s)) = kA s from rfl] at k3
  rw [show hdR 47 (kT2 s) = kT3 s from rfl] at k4
  rw [show tkB (kT3 s) = kR s from rfl] at k5
  rw [show loA (tkA (kT3 s)) = kS s from rfl] at k6
  generalize kOk s = OK at *
  generalize kR s = RR at *
  generalize kS s = SS at *
  generalize kA s = NN at *
  generalize tkA (kT1 s) = N1 at *
  generalize tkA (kT3 s) = N2 at *
  generalize hdB 47 (kT2 s) = B1 at *
  generalize kT3 s = T3 at *
  generalize kT2 s = T2 at *
  generalize kT1 s = T1 at *
  clear hsN hsM
  go_enter Tryz.func170, Tryz.ntmps170
  go_upto_region 1 with fail
  generalize w.alloc (.cells #[.string ⟨#[]⟩, .string ⟨#[]⟩, .slice none 0 0] 120) = w0 at *
  go_wp2_with fail
  (with_reducible refine (k1.out _ P0.out.text).mono ?_); rintro e w1 ⟨rfl, hA, hg⟩
  have P1 := Lib.hid (P0.out.read hA hg)
  clear P0 hA hg k1
  go_wp2_with fail
  (with_reducible refine (k2.out _ P1.out.text).mono ?_); rintro e w2 ⟨rfl, hA, hg⟩
  have P2 := Lib.hid (P1.out.read hA hg)
  clear P1 hA hg k2
  go_wp2_with fail
  (with_reducible refine (k3.out _).mono ?_); rintro e w3 ⟨rfl, hb⟩
  have P3 := P2.out.below hb
  clear P2 hb k3
  have c0 := P3.res.cell (i := 0) rfl
  have f0 := P3.res.free 0
  have P4 := Lib.hid (P3.put 0 (.string NN))
  clear P3
  go_wp2_with fail
  clear c0 f0
  (with_reducible refine (k4.out _ P4.out.text).mono ?_); rintro e w4 ⟨rfl, hA, hg⟩
  have P5 := Lib.hid (P4.out.read hA hg)
  clear P4 hA hg k4
  go_wp2_with fail
  (with_reducible refine (k5.out _ P5.out.text).mono ?_); rintro e w5 ⟨rfl, hA, hg⟩
  have P6 := Lib.hid (P5.out.read hA hg)
  clear P5 hA hg k5
  go_wp2_with fail
  (with_reducible refine (k6.out _).mono ?_); rintro e w6 ⟨rfl, hb⟩
  have P7 := P6.out.below hb
  clear P6 hb k6
  have c1 := P7.res.cell (i := 1) rfl
  have f1 := P7.res.free 1
  have P8 := Lib.hid (P7.put 1 (.string SS))
  clear P7
  go_upto_region 5 with fail
  clear c1 f1
  generalize w6.setCell ⟨w.heap.size, 1, none⟩ (.string SS) = w7 at *
  have c0 := P8.out.res.cell (i := 0) rfl
  have c1 := P8.out.res.cell (i := 1) rfl
  have c2 := P8.out.res.cell (i := 2) rfl
  have f0 := P8.out.res.free 0
  have f1 := P8.out.res.free 1
  have f2 := P8.out.res.free 2
  have P9 := Lib.hid (((P8.out.put 0 (.string NN)).put 1 (.string SS)).put 2 (.slice none 0 0))
  clear P8
  by_cases h0 : NN.size = 0
  · have he := empty_yes h0
    have hO : OK = false := by rw [hok.out, he]; rfl
    subst hO
    obtain rfl : NN = ByteArray.empty := ByteArray.size_eq_zero_iff.1 h0
    have he3 : (ByteArray.empty.toList == []) = true := by rw [ByteArray.toList_eq]; rfl
    have he4 : (ByteArray.empty.toList != []) = false := by rw [ByteArray.toList_eq]; rfl
    have he2 : ByteArray.empty.toList = [] := by rw [ByteArray.toList_eq]; rfl
    go_wp2_with fail
    exact media_end (k := w.heap.size) rfl rfl rfl P9.out.res ⟨rfl, P9.out.text, P9.out.grown⟩
  have hp : 0 < NN.size := by omega
  have hne := ne_empty hp
  have hne3 : ¬ NN.toList = [] := by
    rw [ByteArray.toList_eq]
    exact lst_ne hp
  have hne2 : (NN.toList == []) = false := by
    rw [beq_eq_false_iff_ne]; exact hne3
  have hne4 : (NN.toList != []) = true := by rw [bne, hne2]; rfl
  rw [hne] at hok
  replace hne := Lib.hid hne
  cases B1
  case false =>
    have hO : OK = false := by rw [hok.out]; rfl
    subst hO
    go_wp2_with fail
    exact media_end (k := w.heap.size) rfl rfl rfl P9.out.res ⟨rfl, P9.out.text, P9.out.grown⟩
  by_cases h1 : SS.size = 0
  · have he := empty_yes h1
    have hO : OK = false := by rw [hok.out, he]; rfl
    subst hO
    obtain rfl : SS = ByteArray.empty := ByteArray.size_eq_zero_iff.1 h1
    have he3 : (ByteArray.empty.toList == []) = true := by rw [ByteArray.toList_eq]; rfl
    have he4 : (ByteArray.empty.toList != []) = false := by rw [ByteArray.toList_eq]; rfl
    have he2 : ByteArray.empty.toList = [] := by rw [ByteArray.toList_eq]; rfl
    go_wp2_with fail
    exact media_end (k := w.heap.size) rfl rfl rfl P9.out.res ⟨rfl, P9.out.text, P9.out.grown⟩
  have hq : 0 < SS.size := by omega
  have gne := ne_empty hq
  have gne3 : ¬ SS.toList = [] := by
    rw [ByteArray.toList_eq]
    exact lst_ne hq
  have gne2 : (SS.toList == []) = false := by
    rw [beq_eq_false_iff_ne]; exact gne3
  have gne4 : (SS.toList != []) = true := by rw [bne, gne2]; rfl
  rw [gne] at hok
  replace gne := Lib.hid gne
  cases hs1 : (NN.toList == [42])
  case false =>
    have hs1b : (NN.toList != [42]) = true := by rw [bne, hs1]; rfl
    have hs1c : ¬ NN.toList = [42] := fun e => by rw [e] at hs1; cases hs1
    have hO : OK = true := by rw [hok.out, hs1]; rfl
    subst hO
    go_wp2_with fail
    exact media_end (k := w.heap.size) rfl rfl rfl P9.out.res ⟨rfl, P9.out.text, P9.out.grown⟩
  case true =>
    have hs1b : (NN.toList != [42]) = false := by rw [bne, hs1]; rfl
    have hs1c := Lib.hid (beq_iff_eq.1 hs1)
    have hO : OK = (SS.toList == [42]) := by rw [hok.out, hs1]; rfl
    subst hO
    clear hok
    go_wp2_with fail
    exact media_end (k := w.heap.size) rfl rfl rfl P9.out.res ⟨rfl, P9.out.text, P9.out.grown⟩
end Go.Proofs.YtdhondndidoniaaGreatDoor
