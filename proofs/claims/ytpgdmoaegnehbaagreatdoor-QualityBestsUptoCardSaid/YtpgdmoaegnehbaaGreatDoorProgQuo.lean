/-
  The program's own quoted texts, and values.
-/
import Derived.Test.YtpgdmoaegnehbaaGreatDoorProgSmall
namespace Go.Proofs.YtpgdmoaegnehbaaGreatDoor
open Go.RowKit

theorem At.keep {b : Nat} {s : ByteArray} {w w' : World} {row : Option Nat} (h : At b s w) (hg : w.grownBy w' row) (hne : some b ≠ row) : At b s w' :=
  ⟨(hg.block b h.lt hne).trans h.box, h.small⟩
/-- A row of the call's own grows beside the text. -/
theorem grown_row {w w1 w2 : World} {b : Nat} {row : Option Nat} (h1 : w.grownBy w1 (some b)) (h2 : w1.grownBy w2 row) (hr : ∀ k, row = some k → w.heap.size ≤ k) : w.grownBy w2 (some b) :=
  ⟨h2.os.trans h1.os, h2.tape.trans h1.tape, h2.output.trans h1.output, Nat.le_trans h1.size h2.size, fun k hk hne =>
    (h2.block k (Nat.lt_of_lt_of_le hk h1.size) (fun e => absurd (hr k e.symm) (by omega))).trans (h1.block k hk hne)⟩
theorem owns_grown {B b : Nat} {v : Value} {l : List UInt8} {w w' : World} (h : Owns B v l w) (hg : w.grownBy w' (some b)) (hb : b < B) : Owns B v l w' := World.ownsRow.kept h hg (by
  obtain ⟨_, ⟨rfl, _⟩ | ⟨g, cap, cur, rfl, hB, _⟩⟩ := h
  · exact .inl rfl
  · right
    simp only [Value.ownBlock, ne_eq, Option.some.injEq]
    omega)
theorem own_low {B n sz : Nat} {t : TypeId} {v : Value} {xs : List Value} {w : World} (h : w.ownsRow B t sz v n xs) : ∀ k, v.ownBlock = some k → B ≤ k := by
  obtain ⟨_, ⟨rfl, _⟩ | ⟨g, cap, cur, rfl, hB, _⟩⟩ := h
  · intro k e; cases e
  · intro k e; cases e; exact hB
/-- What is left, if it went well; no more than there was. -/
def Left (b : Nat) (s R : ByteArray) (C : Bool) (w : World) : Prop := ∃ t, At b t w ∧ t.size ≤ s.size ∧ (C = true → t = R)
/-- How much is left in a text's box. -/
def boxLen (b : Nat) (w : World) : Nat := match w.cell? ⟨b, 0, none⟩ with | some (.string t) => t.size | _ => 0
theorem boxLen_at {b : Nat} {s : ByteArray} {w : World} (h : At b s w) : boxLen b w = s.size := by unfold boxLen; rw [h.cell]

namespace Md
/-- A step of what is quoted. -/
theorem quo_step {acc : List UInt8} {t : ByteArray} (h : hdB 34 t = false) :
    (quB1 (hdR 92 t) = false → quo acc t.data.toList = none) ∧ (∀ c, quB1 (hdR 92 t) = true → quH (hdR 92 t) = (c : UInt8).toNat → quo acc t.data.toList = quo (acc ++ [c]) ((hdR 92 t).extract 1 (hdR 92 t).size).data.toList) := by
  have h34 : t.data.toList.head? ≠ some 34 := fun e => by rw [hdB_iff.2 e] at h; cases h
  cases hl : t.data.toList with
  | nil =>
    have e92 : hdB 92 t = false := by rw [← Bool.not_eq_true, hdB_iff, hl]; simp
    have e1 := hdR_same e92
    have e2 : quB1 (hdR 92 t) = false := by rw [e1]; unfold quB1; rw [hl]
    refine ⟨fun _ => quo_nil acc, fun c hc _ => ?_⟩
    rw [e2] at hc; cases hc
  | cons x l =>
    rw [hl] at h34
    have hx34 : x ≠ 34 := fun e => h34 (by rw [e]; rfl)
    by_cases hx : x = 92
    · subst hx
      have e92 : hdB 92 t = true := by rw [hdB_iff, hl]; rfl
      have e1 : (hdR 92 t).data.toList = l := by rw [hdR_list e92, hl]; rfl
      refine ⟨fun hq => ?_, fun c hc hh => ?_⟩
      · rcases quB1_no hq with e | ⟨c, u, e, hb⟩
        · rw [e1] at e; rw [e, quo_esc_end]
        · rw [e1] at e; rw [e, quo_esc_bad _ _ _ hb]
      · obtain ⟨c', h1, h2, h3⟩ := quB1_yes hc
        have : c' = c := UInt8.toNat_inj.1 (by have := h1.symm.trans hh; omega)
        subst this
        rw [e1] at h3
        conv => lhs; rw [h3]
        rw [quo_esc _ _ _ h2]
    · have e92 : hdB 92 t = false := by
        rw [← Bool.not_eq_true, hdB_iff, hl]
        intro e; exact hx (Option.some.inj e)
      have e1 := hdR_same e92
      rw [e1]
      refine ⟨fun hq => ?_, fun c hc hh => ?_⟩
      · rcases quB1_no hq with e | ⟨c, u, e, hb⟩
        · rw [hl] at e; cases e
        · rw [hl] at e
          injection e with e _
          subst e
          exact quo_bad _ _ _ hx34 hx hb
      · obtain ⟨c', h1, h2, h3⟩ := quB1_yes hc
        have : c' = c := UInt8.toNat_inj.1 (by have := h1.symm.trans hh; omega)
        subst this
        rw [hl] at h3
        injection h3 with h3 h4
        subst h3
        rw [← h4, quo_one _ _ _ hx34 hx h2]
end Md

set_option maxRecDepth 100000 in
set_option maxHeartbeats 6400000 in
theorem quoted_any (b : Nat) (s : ByteArray) (w : World) (h : At b s w) :
    Calls Tryz.prog 86 #[.pointer (some ⟨b, 0, none⟩)] w fun e w' => e = .returned (.tuple #[.string (quA s), .bool (quC s)]) ∧ Left b s (quB s) (quC s) w' ∧ w.grownBy w' (some b) := by
  obtain ⟨i0, hi, hz0, hz1, hz2⟩ := info_parts infoByte
  have hsm := h.small
  have hbw := Lib.hid h.lt
  replace h := Lib.hid h
  have hnone := Lib.hid (fun e => @qu_none s e)
  have hsome := Lib.hid (fun v r e => @qu_some s v r e)
  generalize quA s = A at *
  generalize quB s = R at *
  generalize quC s = C at *
  go_enter Tryz.func86, Tryz.ntmps86
  go_wp2_with fail
  go_loopw [4, 5, 6] (fun v _ _ wr => ∃ (t : ByteArray) (acc : List UInt8), Hid (At b t wr) ∧ Hid (Md.quo [] s.data.toList = Md.quo acc t.data.toList) ∧ acc.length + t.size ≤ s.size ∧ Hid (acc = [] → v = .slice none 0 0) ∧ Hid (Owns w.heap.size v acc wr) ∧ Hid (w.grownBy wr (some b))) (fun _ _ _ wr => boxLen b wr)
  case atStart => exact ⟨s, [], h, Lib.hid rfl, by simp, Lib.hid (fun _ => rfl), Lib.hid (owns_nil _ _), Lib.hid (grown_refl _ _)⟩
  case round =>
    obtain ⟨t, acc, hA, hq, hlen, hnil, ho, hg⟩ := hrel
    have hmeas := Lib.hid (boxLen_at hA.out)
    have c34 := Lib.hid (takes_any b t 34 34 wr hA.out rfl)
    go_wp2_with fail
    (with_reducible refine (c34.out).mono ?_); rintro e w1 ⟨rfl, hA1, hg1⟩
    clear c34
    cases h34 : hdB 34 t
    case true =>
      have hqq : Md.quo [] s.data.toList = some (acc, (hdR 34 t).data.toList) := by
        rw [hq.out]
        have h1 := hdB_iff.1 h34
        rw [hdR_list h34]
        cases hl : t.data.toList with
        | nil => rw [hl] at h1; cases h1
        | cons x l =>
          rw [hl] at h1
          cases h1
          exact Md.quo_end acc l
      obtain ⟨r1, r2, r3⟩ := hsome.out _ _ hqq
      have hrt : hdR 34 t = R := by rw [r2]
      have hsz := hdR_size 34 t
      have ho1 := owns_grown ho.out hg1 hbw.out
      have hcv := owns_string ho1 hnil.out
      have hgf := Lib.hid (hg.out.trans hg1)
      replace hA1 := Lib.hid hA1
      replace hrt := Lib.hid hrt
      replace r1 := Lib.hid r1
      obtain rfl := r3
      clear r2 hqq ho1 hg1 hg ho hA hq hmeas
      replace h34 := Lib.hid h34
      go_wp2_with fail
      go_ret2
      exact ⟨by rw [r1.out]; rfl, ⟨_, hA1.out, by omega, fun _ => hrt.out⟩, hgf.out⟩
    case false =>
      have e34 := hdR_same h34
      rw [e34] at hA1
      obtain ⟨st1, st2⟩ := Md.quo_step (acc := acc) h34
      replace st1 := Lib.hid st1
      replace st2 := Lib.hid st2
      replace h34 := Lib.hid h34
      replace e34 := Lib.hid e34
      have ho1 := Lib.hid (owns_grown ho.out hg1 hbw.out)
      have hgf := Lib.hid (hg.out.trans hg1)
      have c92 := Lib.hid (takes_any b t 92 92 w1 hA1 rfl)
      clear hg1 hg ho hA hA1
      go_wp2_with fail
      (with_reducible refine (c92.out).mono ?_); rintro e w2 ⟨rfl, hA2, hg2⟩
      clear c92
      have hsz := hdR_size 92 t
      have ho2 := Lib.hid (owns_grown ho1.out hg2 hbw.out)
      have hgf2 := Lib.hid (hgf.out.trans hg2)
      clear ho1 hgf hg2
      generalize hdR 92 t = t1 at *
      have cq := Lib.hid (quotable_any b t1 w2 hA2)
      clear hA2
      go_wp2_with fail
      (with_reducible refine (cq.out).mono ?_); rintro e w3 ⟨rfl, hA3, hg3⟩
      clear cq
      have ho3 := owns_grown ho2.out hg3 hbw.out
      have hgf3 := Lib.hid (hgf2.out.trans hg3)
      clear ho2 hgf2 hg3
      have hsz3 : (t1.extract 1 t1.size).size ≤ t1.size := by rw [ByteArray.size_extract]; omega
      cases hb : quB1 t1
      case false =>
        obtain ⟨r1, r2, r3⟩ := hnone.out (hq.out.trans (st1.out hb))
        replace r1 := Lib.hid r1
        obtain rfl := r3
        replace hA3 := Lib.hid hA3
        replace hb := Lib.hid hb
        clear r2 ho3
        go_wp2_with fail
        go_ret2
        exact ⟨by rw [r1.out]; rfl, ⟨_, hA3.out, by omega, fun e => by cases e⟩, hgf3.out⟩
      case true =>
        obtain ⟨c, hc, _, hl⟩ := quB1_yes hb
        have hst := Lib.hid (hq.out.trans (st2.out c hb hc))
        have hlt : (t1.extract 1 t1.size).size < t1.size := by
          have := congrArg List.length hl
          rw [List.length_cons, list_len, list_len] at this
          omega
        rw [hc]
        replace hb := Lib.hid hb
        clear st1 st2 hl hq hc
        generalize t1.extract 1 t1.size = t2 at *
        have hcl := c.toNat_lt
        have hlen2 := Lib.hid hlen
        have hsz3' := w3.heap.size
        have hB3 : w.heap.size ≤ w3.heap.size := hgf3.out.size
        replace hA3 := Lib.hid hA3
        replace hnil := Lib.hid hnil.out
        go_wp2_with (at_builtin; refine wpList_append_own _ rfl _ _ 31 rfl w.heap.size 5 i0 (.int .u8 0) 1 1 Tryz.underlying31 hi hz0 hz1 hz2 rfl (by decide) _ _ _ rfl (World.ownsRow.alloc ho3 _) ⟨w3.heap.size, 0, none⟩ 1 1 [.int .u8 (c.toNat : Int)] rfl rfl (cell_one_new _ _ _) (fun u hu => by simp at hu; subst hu; rfl) (by have := hlen2.out; unfold maxLen; omega) (by have := hlen2.out; omega) (by simp; omega) ?_)
        intro v2 w4 hown2 hg4 hnil2
        have hga := (World.grownBy_alloc w3 _ _).trans hg4
        have ho4 : Owns w.heap.size v2 (acc ++ [c]) w4 := owns_of hown2 (by simp) (by simp [Lib.byteCells])
        have hlow := own_low ho3
        have hgf4 := Lib.hid (grown_row hgf3.out hga hlow)
        have hA4 := Lib.hid (hA3.out.keep hga (fun e => by have := hlow b e.symm; have := hbw.out; omega))
        have hm4 := boxLen_at hA4.out
        have hm0 := hmeas.out
        replace ho4 := Lib.hid ho4
        clear hown2 hg4 hnil2 hga ho3 hlow
        replace hm4 := Lib.hid hm4
        replace hm0 := Lib.hid hm0
        go_wp2_with fail
        go_roundw
        case rel => exact ⟨t2, acc ++ [c], hA4, hst, by rw [List.length_append, List.length_singleton]; omega, Lib.hid (fun e => by simp at e), ho4, hgf4⟩
        case measure => rw [hm4.out, hm0.out]; omega

set_option maxRecDepth 100000 in
set_option maxHeartbeats 6400000 in
theorem value_any (b : Nat) (s : ByteArray) (w : World) (h : At b s w) :
    Calls Tryz.prog 72 #[.pointer (some ⟨b, 0, none⟩)] w fun e w' => e = .returned (.tuple #[.string (vaA s), .bool (vaC s)]) ∧ Left b s (vaB s) (vaC s) w' ∧ w.grownBy w' (some b) := by
  have c34 := Lib.hid (takes_any b s 34 34 w h rfl)
  clear h
  have hy : Hid (hdB 34 s = true → vaA s = quA (s.extract 1 s.size) ∧ vaB s = quB (s.extract 1 s.size) ∧ vaC s = quC (s.extract 1 s.size) ∧ hdR 34 s = s.extract 1 s.size) := Lib.hid (fun h34 => by
    have h1 := hdB_iff.1 h34
    unfold vaA vaB vaC hdR
    rw [if_pos h1, if_pos h1, if_pos h1, if_pos h34]
    exact ⟨rfl, rfl, rfl, rfl⟩)
  obtain ⟨V, hV⟩ : ∃ V, V = tkA s := ⟨_, rfl⟩
  replace hV := Lib.hid hV
  have hn : Hid (hdB 34 s = false → vaA s = V ∧ vaB s = tkB s ∧ vaC s = !V.toList.isEmpty) := Lib.hid (fun h34 => by
    rw [hV.out]
    have h1 : ¬ s.data.toList.head? = some 34 := fun e => by rw [hdB_iff.2 e] at h34; cases h34
    unfold vaA vaB vaC
    rw [if_neg h1, if_neg h1, if_neg h1]
    exact ⟨rfl, rfl, rfl⟩)
  generalize vaA s = A at *
  generalize vaB s = R at *
  generalize vaC s = C at *
  go_enter Tryz.func72, Tryz.ntmps72
  go_wp2_with fail
  (with_reducible refine (c34.out).mono ?_); rintro e w1 ⟨rfl, hA1, hg1⟩
  clear c34
  cases h34 : hdB 34 s
  case true =>
    obtain ⟨rfl, rfl, rfl, e1⟩ := hy.out h34
    have hsz : (s.extract 1 s.size).size ≤ s.size := by rw [ByteArray.size_extract]; omega
    rw [e1] at hA1
    clear e1 hy hn
    replace h34 := Lib.hid h34
    have cq := Lib.hid (quoted_any b _ w1 hA1)
    clear hA1
    replace hg1 := Lib.hid hg1
    go_wp2_with fail
    (with_reducible refine (cq.out).mono ?_); rintro e w2 ⟨rfl, ⟨t, hA2, ht, hR⟩, hg2⟩
    replace hA2 := Lib.hid hA2
    replace hR := Lib.hid hR
    replace hg2 := Lib.hid (hg1.out.trans hg2)
    clear cq
    go_wp2_with fail
    go_ret2
    exact ⟨rfl, ⟨t, hA2.out, by omega, hR.out⟩, hg2.out⟩
  case false =>
    rw [hdR_same h34] at hA1
    obtain ⟨r1, rfl, r3⟩ := hn.out h34
    have hsz := tkB_size s
    replace r1 := Lib.hid r1
    clear hy hn
    replace h34 := Lib.hid h34
    have cq := token_any b _ w1 hA1
    rw [← hV.out] at cq
    replace cq := Lib.hid cq
    clear hA1
    replace hg1 := Lib.hid hg1
    go_wp2_with fail
    (with_reducible refine (cq.out).mono ?_); rintro e w2 ⟨rfl, hA2, hg2⟩
    replace hA2 := Lib.hid hA2
    replace hg2 := Lib.hid (hg1.out.trans hg2)
    clear cq
    by_cases h0 : V.size = 0
    · have he := empty_yes h0
      rw [he] at r3
      replace r3 := Lib.hid r3
      obtain rfl : V = ByteArray.empty := ByteArray.size_eq_zero_iff.1 h0
      have he3 : (ByteArray.empty.toList == []) = true := by rw [ByteArray.toList_eq]; rfl
      have he4 : (ByteArray.empty.toList != []) = false := by rw [ByteArray.toList_eq]; rfl
      have he2 : ByteArray.empty.toList = [] := by rw [ByteArray.toList_eq]; rfl
      go_wp2_with fail
      go_ret2
      exact ⟨by rw [r1.out, r3.out]; rfl, ⟨_, hA2.out, hsz, fun _ => rfl⟩, hg2.out⟩
    · have hp : 0 < V.size := by omega
      rw [ne_empty hp] at r3
      replace r3 := Lib.hid r3
      have hne3 : ¬ V.toList = [] := by
        rw [ByteArray.toList_eq]
        exact lst_ne hp
      have hne2 : (V.toList == []) = false := by
        rw [beq_eq_false_iff_ne]; exact hne3
      have hne4 : (V.toList != []) = true := by rw [bne, hne2]; rfl
      go_wp2_with fail
      go_ret2
      exact ⟨by rw [r1.out, r3.out]; rfl, ⟨_, hA2.out, hsz, fun _ => rfl⟩, hg2.out⟩
end Go.Proofs.YtpgdmoaegnehbaaGreatDoor
