/-
  What the program's Parse of dates comes to.
  The program's parser of media types, a text in a box: what takes, space, token and quotable come to.
  The program's own small letters: bytes of a text, changed where they lie.
-/
import Derived.Test.YtdhondndidoniaaGreatDoorG22
import Derived.Test.YtdhondndidoniaaGreatDoorG23
import Derived.Test.YtdhondndidoniaaGreatDoorG04
import Derived.Test.YtdhondndidoniaaGreatDoorG07
import Derived.Test.YtdhondndidoniaaGreatDoorShelf
import Derived.Test.YtdhondndidoniaaGreatDoorShelf2
import Derived.Lib.SlTrimSet
import Derived.Shelf.Strings.SlTrimAscii
import Derived.Laws.IdiomStrings
namespace Go.Proofs.YtdhondndidoniaaGreatDoor
open Go.RowKit

/-- The form of a moment. -/
abbrev momentForm : ByteArray := ⟨#[48, 48, 48, 48, 45, 48, 48, 45, 48, 48, 84, 48, 48, 58, 48, 48, 58, 48, 48]⟩
abbrev momentL : List UInt8 := [48, 48, 48, 48, 45, 48, 48, 45, 48, 48, 84, 48, 48, 58, 48, 48, 58, 48, 48]
theorem fits_dig {f l : List UInt8} (h : D.Fits f l) (a n : Nat) (hn : a + n ≤ f.length) (hf : ∀ j (hj : j < f.length), a ≤ j → j < a + n → f[j] = 48) : ((l.drop a).take n).all D.dg = true := by
  rw [List.all_eq_true]
  intro x hx
  obtain ⟨k, hk⟩ := List.mem_iff_getElem?.1 hx
  have hkn : k < n := by
    have := (List.getElem?_eq_some_iff.1 hk).1
    rw [List.length_take] at this
    omega
  rw [List.getElem?_take, if_pos hkn, List.getElem?_drop] at hk
  obtain ⟨hlt, hx⟩ := List.getElem?_eq_some_iff.1 hk
  have := h.2 (a + k) (by omega)
  rw [hf (a + k) (by omega) (by omega) (by omega), hx] at this
  exact this
theorem fits_sign {f l : List UInt8} (h : D.Fits f l) (a : Nat) (c : UInt8) (hc : c ≠ 48) (hf : f[a]? = some c) : D.sign l a c = true := by
  obtain ⟨hlt, hx⟩ := List.getElem?_eq_some_iff.1 hf
  have := h.2 a hlt
  rw [hx] at this
  unfold D.okc at this
  rw [if_neg hc] at this
  have hl := h.1
  unfold D.sign
  rw [List.getElem?_eq_getElem (by omega), ← of_decide_eq_true this]
  simp
/-- A moment's text, so far as its form goes. -/
structure Moment (l : List UInt8) : Prop where
  len : 19 ≤ l.length
  sig : D.signs l = true
  dY : ((l.drop 0).take 4).all D.dg = true
  dM : ((l.drop 5).take 2).all D.dg = true
  dD : ((l.drop 8).take 2).all D.dg = true
  dh : ((l.drop 11).take 2).all D.dg = true
  dm : ((l.drop 14).take 2).all D.dg = true
  ds : ((l.drop 17).take 2).all D.dg = true
theorem Moment.of {l : List UInt8} (h : D.Fits momentL l) : Moment l := by
  refine ⟨h.1, ?_, ?_, ?_, ?_, ?_, ?_, ?_⟩
  · unfold D.signs
    rw [fits_sign h 4 45 (by decide) rfl, fits_sign h 7 45 (by decide) rfl, fits_sign h 10 84 (by decide) rfl, fits_sign h 13 58 (by decide) rfl, fits_sign h 16 58 (by decide) rfl]
    rfl
  all_goals
    refine fits_dig h _ _ (by decide) (fun j hj h1 h2 => ?_)
    have : j < 19 := hj
    revert hj h1 h2
    revert j
    decide
theorem okc_at {l : List UInt8} {a n k : Nat} (hd : ((l.drop a).take n).all D.dg = true) (hk : k < n) (h : a + k < l.length) : D.okc 48 l[a + k] = true := by
  have := NumAll.at hd hk h
  show D.dg _ = true
  simp [D.dg]; exact this
theorem sign_okc {l : List UInt8} {a : Nat} {c : UInt8} (hc : c ≠ 48) (h : D.sign l a c = true) (hl : a < l.length) : D.okc c l[a] = true := by
  unfold D.okc
  rw [if_neg hc]
  unfold D.sign at h
  have := of_decide_eq_true h
  rw [List.getElem?_eq_getElem hl] at this
  exact decide_eq_true (Option.some.inj this).symm
theorem Moment.fits {l : List UInt8} (h : Moment l) : D.Fits momentL l := by
  have hl := h.len
  have hs := h.sig
  simp only [D.signs, Bool.and_eq_true] at hs
  refine ⟨hl, fun j hj => ?_⟩
  have hj' : j < 19 := hj
  have : j = 0 ∨ j = 1 ∨ j = 2 ∨ j = 3 ∨ j = 4 ∨ j = 5 ∨ j = 6 ∨ j = 7 ∨ j = 8 ∨ j = 9 ∨ j = 10 ∨ j = 11 ∨ j = 12 ∨ j = 13 ∨ j = 14 ∨ j = 15 ∨ j = 16 ∨ j = 17 ∨ j = 18 := by omega
  rcases this with rfl | rfl | rfl | rfl | rfl | rfl | rfl | rfl | rfl | rfl | rfl | rfl | rfl | rfl | rfl | rfl | rfl | rfl | rfl
  · exact okc_at (a := 0) (k := 0) h.dY (by omega) (by omega)
  · exact okc_at (a := 0) (k := 1) h.dY (by omega) (by omega)
  · exact okc_at (a := 0) (k := 2) h.dY (by omega) (by omega)
  · exact okc_at (a := 0) (k := 3) h.dY (by omega) (by omega)
  · exact sign_okc (by decide) hs.1.1.1.1 (by omega)
  · exact okc_at (a := 5) (k := 0) h.dM (by omega) (by omega)
  · exact okc_at (a := 5) (k := 1) h.dM (by omega) (by omega)
  · exact sign_okc (by decide) hs.1.1.1.2 (by omega)
  · exact okc_at (a := 8) (k := 0) h.dD (by omega) (by omega)
  · exact okc_at (a := 8) (k := 1) h.dD (by omega) (by omega)
  · exact sign_okc (by decide) hs.1.1.2 (by omega)
  · exact okc_at (a := 11) (k := 0) h.dh (by omega) (by omega)
  · exact okc_at (a := 11) (k := 1) h.dh (by omega) (by omega)
  · exact sign_okc (by decide) hs.1.2 (by omega)
  · exact okc_at (a := 14) (k := 0) h.dm (by omega) (by omega)
  · exact okc_at (a := 14) (k := 1) h.dm (by omega) (by omega)
  · exact sign_okc (by decide) hs.2 (by omega)
  · exact okc_at (a := 17) (k := 0) h.ds (by omega) (by omega)
  · exact okc_at (a := 17) (k := 1) h.ds (by omega) (by omega)

namespace D
theorem inb_iff {y mo d h mi se : Int} : inBounds y mo d h mi se = true ↔ (0 ≤ y ∧ 1 ≤ mo ∧ mo ≤ 12 ∧ 1 ≤ d ∧ d ≤ mlen y mo ∧ 0 ≤ h ∧ h ≤ 23 ∧ 0 ≤ mi ∧ mi ≤ 59 ∧ 0 ≤ se ∧ se ≤ 59) := by
  simp only [inBounds, Bool.and_eq_true, decide_eq_true_eq]
  omega
theorem parse_unfit {l : List UInt8} (h : ¬ Fits momentL l) : parse l = none := by
  by_cases hs : signs l = true
  · refine pa_bound ?_
    rw [← Bool.not_eq_true, inb_iff]
    rintro ⟨h1, h2, -, h4, -, h6, -, h8, -, h10, -⟩
    have a1 := num_ge h1
    have a2 := num_ge (l := l) (a := 5) (n := 2) (by omega)
    have a3 := num_ge (l := l) (a := 8) (n := 2) (by omega)
    have a4 := num_ge h6
    have a5 := num_ge h8
    have a6 := num_ge h10
    exact h (Moment.fits ⟨a6.1, hs, a1.2, a2.2, a3.2, a4.2, a5.2, a6.2⟩)
  · exact pa_sign (by simpa using hs)

/-- What is left behind the fraction. -/
def behind (l : List UInt8) : List UInt8 := if fracE l 19 < 0 then [] else l.drop (fracE l 19).toNat
/-- A text of a moment's form, read. -/
theorem parse_fit {l : List UInt8} {y mo d h mi se : Nat} (hM : Moment l) (hy : dv ((l.drop 0).take 4) = y) (hmo : dv ((l.drop 5).take 2) = mo) (hd : dv ((l.drop 8).take 2) = d) (hh : dv ((l.drop 11).take 2) = h) (hmi : dv ((l.drop 14).take 2) = mi) (hse : dv ((l.drop 17).take 2) = se) :
    (¬ 0 ≤ fracE l 19 → parse l = none) ∧ (zoneB (behind l) = false → parse l = none) ∧ (dayOk y mo d = false → parse l = none) ∧ (secOk h mi se = false → parse l = none) ∧
    (0 ≤ fracE l 19 → zoneB (behind l) = true → dayOk y mo d = true → secOk h mi se = true → parse l = some (dayN y mo d * 86400 + secN h mi se - zoneN (behind l), fracN l 19)) := by
  have hl := hM.len
  have n1 := num_is (l := l) (a := 0) (n := 4) (by omega) hM.dY
  have n2 := num_is (l := l) (a := 5) (n := 2) (by omega) hM.dM
  have n3 := num_is (l := l) (a := 8) (n := 2) (by omega) hM.dD
  have n4 := num_is (l := l) (a := 11) (n := 2) (by omega) hM.dh
  have n5 := num_is (l := l) (a := 14) (n := 2) (by omega) hM.dm
  have n6 := num_is (l := l) (a := 17) (n := 2) (by omega) hM.ds
  rw [hy] at n1
  rw [hmo] at n2
  rw [hd] at n3
  rw [hh] at n4
  rw [hmi] at n5
  rw [hse] at n6
  have hin : inBounds (num l 0 4) (num l 5 2) (num l 8 2) (num l 11 2) (num l 14 2) (num l 17 2) = (dayOk y mo d && secOk h mi se) := by
    rw [n1, n2, n3, n4, n5, n6, Bool.eq_iff_iff, inb_iff, Bool.and_eq_true, dayOk, secOk, decide_eq_true_eq, decide_eq_true_eq]
    constructor
    · rintro ⟨_, a, b, c, e, _, f, _, g, _, i⟩
      exact ⟨⟨by omega, by omega, by omega, e⟩, by omega, by omega, by omega⟩
    · rintro ⟨⟨a, b, c, e⟩, f, g, i⟩
      exact ⟨by omega, by omega, by omega, by omega, e, by omega, by omega, by omega, by omega, by omega, by omega⟩
  refine ⟨fun hf => pa_frac (by omega), fun hz => ?_, fun h0 => pa_bound (by rw [hin, h0]; rfl), fun h0 => pa_bound (by rw [hin, h0, Bool.and_false]), fun hf hz h1 h2 => ?_⟩
  · by_cases hf : fracE l 19 < 0
    · exact pa_frac hf
    · unfold behind at hz
      rw [if_neg hf] at hz
      refine pa_zone ?_
      unfold zoneB at hz
      cases hzz : zone (l.drop (fracE l 19).toNat) with
      | none => rfl
      | some z => rw [hzz] at hz; cases hz
  · have hf' : ¬ fracE l 19 < 0 := by omega
    unfold behind at hz ⊢
    rw [if_neg hf'] at hz ⊢
    cases hzz : zone (l.drop (fracE l 19).toNat) with
    | none => unfold zoneB at hz; rw [hzz] at hz; cases hz
    | some z =>
      rw [pa_is hM.sig (by rw [hin, h1, h2]; rfl) hf' hzz, n1, n2, n3, n4, n5, n6]
      unfold dayN secN zoneN
      rw [if_pos h1, if_pos h2, hzz]
      congr 2
      simp
      omega
end D

theorem drop_while {p : UInt8 → Bool} (m : List UInt8) : m.dropWhile p = m.drop (m.takeWhile p).length := by
  conv => rhs; arg 2; rw [← List.takeWhile_append_dropWhile (p := p) (l := m)]
  rw [List.drop_left]
theorem gFraction_all (s v : ByteArray) (l : List UInt8) (w : World) (hs : s.size ≤ maxLen) (_ : 19 ≤ l.length) (hsl : s.data.toList = l.drop 19) (hv : v.data.toList = D.behind l) :
    Calls Tryz.prog 153 #[.string s] w fun e w' => e = .returned (.tuple #[.int .i64 (D.fracN l 19), .string v, .bool (decide (0 ≤ D.fracE l 19))]) ∧ Below w.heap.size w w' := by
  have hhead : s.data.toList.head? = l[19]? := by rw [hsl, List.head?_drop]
  cases hsg : D.sign l 19 46 with
  | false =>
    obtain ⟨r1, r2⟩ := D.frac_none hsg
    have hvs : v = s := bytes_eq (by
      rw [hv, hsl]; unfold D.behind; rw [r2, if_neg (by omega)]; rfl)
    have hne : s.data.toList.head? ≠ some 46 := by
      rw [hhead]
      unfold D.sign at hsg
      exact of_decide_eq_false hsg
    rw [r1, r2, hvs, show decide ((0 : Int) ≤ ((19 : Nat) : Int)) = true from rfl]
    exact (gFraction_none s w hne).mono fun e w' ⟨a, b⟩ => ⟨a, b ▸ Below.refl _ _⟩
  | true =>
    have h46 : l[19]? = some 46 := by unfold D.sign at hsg; exact of_decide_eq_true hsg
    obtain ⟨hlt, hx⟩ := List.getElem?_eq_some_iff.1 h46
    have hs46 : s.data.toList = 46 :: l.drop 20 := by rw [hsl, List.drop_eq_getElem_cons hlt, hx]
    have hfd : D.fdig l 19 = (l.drop 20).takeWhile D.dg := rfl
    by_cases h0 : (D.fdig l 19).length = 0
    · obtain ⟨r1, r2⟩ := D.frac_bad hsg h0
      have hvs : v = ⟨#[]⟩ := bytes_eq (by rw [hv]; unfold D.behind; rw [r2, if_pos (by omega)])
      rw [r1, r2, hvs, show decide ((0 : Int) ≤ -1) = false from rfl]
      exact gFraction_bad s (l.drop 20) w hs hs46 (by rw [← hfd]; exact h0)
    · obtain ⟨k, hk⟩ : ∃ k, (D.fdig l 19).length = k := ⟨_, rfl⟩
      have hE : D.fracE l 19 = ((20 + k : Nat) : Int) := by unfold D.fracE; rw [if_pos hsg, if_neg h0, hk]
      have hN : D.fracN l 19 = ((D.dv ((D.fdig l 19).take 9) * 10 ^ (9 - k) : Nat) : Int) := by unfold D.fracN; rw [if_pos hsg, if_neg h0, hk]
      have hvd : v.data.toList = (l.drop 20).dropWhile D.dg := by
        rw [hv]; unfold D.behind; rw [hE, if_neg (by omega), Int.toNat_natCast, drop_while, ← hfd, hk, List.drop_drop]
      rw [hN, hE, show decide ((0 : Int) ≤ ((20 + k : Nat) : Int)) = true from decide_eq_true (by omega), hfd]
      rw [hk] at h0
      exact gFraction_some s v (l.drop 20) k w hs hs46 (by rw [← hfd]; exact hk) (by omega) hvd

theorem gate_end {R : Ending → World → Prop} {tmps : Array Value} {w : World} {rb : Nat} {x y c : Int} (h2 : tmps[2]? = some (.pointer (some ⟨rb, 0, none⟩))) (h3 : tmps[3]? = some (.int .i64 c))
    (c0 : w.cell? ⟨rb, 0, none⟩ = some (.int .i64 x)) (c1 : w.cell? ⟨rb, 1, none⟩ = some (.int .i64 y))
    (hR : R (.returned (.tuple #[.agg #[.int .i64 x, .int .i64 y], .int .i64 c])) w) : bodyPost Tryz.prog Tryz.f120 R .ret { tmps := tmps, defers := [] } w := by
  refine ⟨rfl, _, ?_, hR⟩
  have l3 : 3 < tmps.size := (Array.getElem?_eq_some_iff.1 h3).1
  have g2 : tmps[2] = .pointer (some ⟨rb, 0, none⟩) := (Array.getElem?_eq_some_iff.1 h2).2
  have g3 : tmps[3] = .int .i64 c := (Array.getElem?_eq_some_iff.1 h3).2
  have l2 : 2 < tmps.size := by omega
  simp [results, Tryz.results120, go_sem, l2, l3, g2, g3, c0, c1]

theorem below_two {w w' : World} (h : Below w.heap.size w w') (u v : Value) : Below w.heap.size w ((w'.setCell ⟨w.heap.size, 0, none⟩ u).setCell ⟨w.heap.size, 1, none⟩ v) :=
  (h.setCell (Nat.le_refl _) _).setCell (Nat.le_refl _) _

set_option maxRecDepth 100000 in
set_option maxHeartbeats 6400000 in
theorem dParse_any (s : ByteArray) (w : World) (hs : s.size ≤ 100000) (_ : Env w) :
    Calls Tryz.prog 120 #[.string s] w fun e w' => e = .returned (.tuple #[.agg #[.int .i64 (D.paS s.data.toList), .int .i64 (D.paN s.data.toList)], .int .i64 (D.paE s.data.toList)]) ∧ Below w.heap.size w w' := by
  have hsm : s.size ≤ maxLen := Nat.le_trans hs (by decide)
  have b0 : Below w.heap.size w (w.alloc (.cells #[.int .i64 0, .int .i64 0] 53)) := (Below.refl _ _).alloc (Nat.le_refl _) _
  have hnew : (w.alloc (.cells #[.int .i64 0, .int .i64 0] 53)).heap[w.heap.size]? = some (.cells #[.int .i64 0, .int .i64 0] 53 (0, 0)) := heap_alloc_new w _
  have hsz : (w.alloc (.cells #[.int .i64 0, .int .i64 0] 53)).heap.size = w.heap.size + 1 := by simp
  by_cases hF : D.Fits momentForm.data.toList s.data.toList
  · have hM := Moment.of hF
    have hl := hM.len
    have h19 : 19 ≤ s.size := by rw [list_len] at hl; exact hl
    obtain ⟨P, hP⟩ : ∃ P : ByteArray, P.data.toList = s.data.toList.take 19 := ⟨s.extract 0 19, take_list s 19⟩
    obtain ⟨R, hR⟩ : ∃ R : ByteArray, R.data.toList = s.data.toList.drop 19 := ⟨s.extract 19 s.size, drop_list s 19⟩
    obtain ⟨v, hv⟩ : ∃ v : ByteArray, v.data.toList = D.behind s.data.toList := ⟨⟨(D.behind s.data.toList).toArray⟩, rfl⟩
    have hPs : P.size = 19 := by rw [← list_len, hP, List.length_take]; omega
    have hRs : R.size ≤ 100000 := by rw [← list_len, hR, List.length_drop, list_len]; omega
    have hvs : v.size ≤ 100000 := by
      rw [← list_len, hv]; unfold D.behind
      split
      · simp
      · rw [List.length_drop, list_len]; omega
    have tk : ∀ a n, a + n ≤ 19 → (P.data.toList.drop a).take n = (s.data.toList.drop a).take n := fun a n h => by
      rw [hP, List.drop_take, List.take_take, Nat.min_eq_left (by omega)]
    obtain ⟨y, hy⟩ : ∃ y, D.dv ((s.data.toList.drop 0).take 4) = y := ⟨_, rfl⟩
    obtain ⟨mo, hmo⟩ : ∃ y, D.dv ((s.data.toList.drop 5).take 2) = y := ⟨_, rfl⟩
    obtain ⟨d, hd⟩ : ∃ y, D.dv ((s.data.toList.drop 8).take 2) = y := ⟨_, rfl⟩
    obtain ⟨h, hh⟩ : ∃ y, D.dv ((s.data.toList.drop 11).take 2) = y := ⟨_, rfl⟩
    obtain ⟨mi, hmi⟩ : ∃ y, D.dv ((s.data.toList.drop 14).take 2) = y := ⟨_, rfl⟩
    obtain ⟨se, hse⟩ : ∃ y, D.dv ((s.data.toList.drop 17).take 2) = y := ⟨_, rfl⟩
    have pf := D.parse_fit hM hy hmo hd hh hmi hse
    have y9 : y ≤ 9999 := by rw [← hy]; exact dv_four hM.dY (by simp; omega)
    have c1 := fun w => gCut_yes s momentForm P R w hsm (by decide) hF hP hR
    have c2 := fun w => gFraction_all R v s.data.toList w (Nat.le_trans hRs (by decide)) hl hR hv
    have c3 := fun w => gSeconds_any v w (Nat.le_trans hvs (by decide))
    have c4 := fun w => gDay_any P y mo d w hPs (by rw [tk 0 4 (by omega)]; exact hM.dY) (by rw [tk 5 2 (by omega)]; exact hM.dM) (by rw [tk 8 2 (by omega)]; exact hM.dD) (by rw [tk 0 4 (by omega)]; exact hy) (by rw [tk 5 2 (by omega)]; exact hmo) (by rw [tk 8 2 (by omega)]; exact hd)
    have c5 := fun w => gSecond_any P h mi se w hPs (by rw [tk 11 2 (by omega)]; exact hM.dh) (by rw [tk 14 2 (by omega)]; exact hM.dm) (by rw [tk 17 2 (by omega)]; exact hM.ds) (by rw [tk 11 2 (by omega)]; exact hh) (by rw [tk 14 2 (by omega)]; exact hmi) (by rw [tk 17 2 (by omega)]; exact hse)
    rw [hv] at c3
    have hzb : -86400 < D.zoneN (D.behind s.data.toList) ∧ D.zoneN (D.behind s.data.toList) < 86400 := by
      unfold D.zoneN
      cases hz : D.zone (D.behind s.data.toList) with
      | none => simp
      | some z => exact D.zone_bd hz
    have hdb : -2000000 ≤ D.dayN y mo d ∧ D.dayN y mo d ≤ 20000000 := by
      unfold D.dayN
      split
      · rename_i hk
        obtain ⟨k1, k2, k3, k4⟩ := of_decide_eq_true hk
        exact D.days_bd (by omega) (by omega) (by omega) (by omega) (by omega) k4
      · omega
    have hsb : 0 ≤ D.secN h mi se ∧ D.secN h mi se ≤ 100000 := by
      unfold D.secN
      split
      · rename_i hk
        obtain ⟨k1, k2, k3⟩ := of_decide_eq_true hk
        omega
      · omega
    have hdec : ∀ x : Bool, decide (0 ≤ D.fracE s.data.toList 19) = x → (x = true ↔ 0 ≤ D.fracE s.data.toList 19) := fun x e => by rw [← e]; exact decide_eq_true_iff
    generalize hq1 : decide (0 ≤ D.fracE s.data.toList 19) = q1 at c2
    have hq1 := hdec q1 hq1
    rw [← hq1] at pf
    generalize D.zoneB (D.behind s.data.toList) = q2 at c3 pf
    generalize D.dayOk y mo d = q3 at c4 pf
    generalize D.secOk h mi se = q4 at c5 pf
    generalize D.dayN y mo d = N1 at c4 pf hdb
    generalize D.secN h mi se = N2 at c5 pf hsb
    generalize D.zoneN (D.behind s.data.toList) = N3 at c3 pf hzb
    generalize D.fracN s.data.toList 19 = N4 at c2 pf
    obtain ⟨z1, z2⟩ := hzb
    obtain ⟨z3, z4⟩ := hdb
    obtain ⟨z5, z6⟩ := hsb
    clear tk hdec hq1 hy hmo hd hh hmi hse hM hF hl hv hP hR hPs hRs hvs y9 h19
    replace pf := Lib.hid pf
    replace hnew := Lib.hid hnew
    replace hsz := Lib.hid hsz
    go_enter Tryz.func120, Tryz.ntmps120
    go_wp2_with fail
    (with_reducible refine (c1 _).mono ?_); rintro e w1 ⟨rfl, b1⟩
    go_wp2_with fail
    (with_reducible refine (c2 _).mono ?_); rintro e w2 ⟨rfl, b2⟩
    have b2 := b1.trans (b2.mono b1.size)
    go_wp2_with fail
    (with_reducible refine (c3 _).mono ?_); rintro e w3 ⟨rfl, b3⟩
    have b3 := b2.trans (b3.mono b2.size)
    have hh : Cells w3 w.heap.size 53 #[.int .i64 0, .int .i64 0] := (b3.block w.heap.size (by rw [hsz.out]; omega)).trans hnew.out
    have bb := b0.trans (b3.mono b0.size)
    have k0 : w3.cell? ⟨w.heap.size, 0, none⟩ = some (.int .i64 0) := hh.cell rfl
    have k1 : w3.cell? ⟨w.heap.size, 1, none⟩ = some (.int .i64 0) := hh.cell rfl
    have f0 : w3.frozen? ⟨w.heap.size, 0, none⟩ = false := hh.free _
    have f1 : w3.frozen? ⟨w.heap.size, 1, none⟩ = false := hh.free _
    clear c1 c2 c3 b1
    cases q1 with
    | false =>
      obtain ⟨r1, r2, r3⟩ := D.pa_none (pf.out.1 (by simp))
      clear c4 c5 b2 b3
      replace hh := Lib.hid hh
      replace r1 := Lib.hid r1
      replace r2 := Lib.hid r2
      replace r3 := Lib.hid r3
      go_wp2_with fail
      refine gate_end (rb := w.heap.size) (x := 0) (y := 0) (c := 110) rfl rfl ?_ ?_ ?_
      · exact ((hh.out.set 0 _).set 1 _).cell rfl
      · exact ((hh.out.set 0 _).set 1 _).cell rfl
      · exact ⟨by rw [r1.out, r2.out, r3.out], below_two bb _ _⟩
    | true =>
    cases q2 with
    | false =>
      obtain ⟨r1, r2, r3⟩ := D.pa_none (pf.out.2.1 rfl)
      clear c4 c5 b2 b3
      replace hh := Lib.hid hh
      replace r1 := Lib.hid r1
      replace r2 := Lib.hid r2
      replace r3 := Lib.hid r3
      go_wp2_with fail
      refine gate_end (rb := w.heap.size) (x := 0) (y := 0) (c := 110) rfl rfl ?_ ?_ ?_
      · exact ((hh.out.set 0 _).set 1 _).cell rfl
      · exact ((hh.out.set 0 _).set 1 _).cell rfl
      · exact ⟨by rw [r1.out, r2.out, r3.out], below_two bb _ _⟩
    | true =>
    clear k0 k1 f0 f1 hh bb
    go_wp2_with fail
    (with_reducible refine (c4 _).mono ?_); rintro e w4 ⟨rfl, b4⟩
    have b4 := b3.trans (b4.mono b3.size)
    go_wp2_with fail
    (with_reducible refine (c5 _).mono ?_); rintro e w5 ⟨rfl, b5⟩
    have b5 := b4.trans (b5.mono b4.size)
    have hh : Cells w5 w.heap.size 53 #[.int .i64 0, .int .i64 0] := (b5.block w.heap.size (by rw [hsz.out]; omega)).trans hnew.out
    have bb := b0.trans (b5.mono b0.size)
    have k0 : w5.cell? ⟨w.heap.size, 0, none⟩ = some (.int .i64 0) := hh.cell rfl
    have k1 : w5.cell? ⟨w.heap.size, 1, none⟩ = some (.int .i64 0) := hh.cell rfl
    have f0 : w5.frozen? ⟨w.heap.size, 0, none⟩ = false := hh.free _
    have f1 : w5.frozen? ⟨w.heap.size, 1, none⟩ = false := hh.free _
    replace hh := Lib.hid hh
    clear c4 c5 b2 b3 b4 b5
    cases q3 with
    | false =>
      obtain ⟨r1, r2, r3⟩ := D.pa_none (pf.out.2.2.1 rfl)
      replace r1 := Lib.hid r1
      replace r2 := Lib.hid r2
      replace r3 := Lib.hid r3
      go_wp2_with fail
      refine gate_end (rb := w.heap.size) (x := 0) (y := 0) (c := 110) rfl rfl ?_ ?_ ?_
      · exact ((hh.out.set 0 _).set 1 _).cell rfl
      · exact ((hh.out.set 0 _).set 1 _).cell rfl
      · exact ⟨by rw [r1.out, r2.out, r3.out], below_two bb _ _⟩
    | true =>
    cases q4 with
    | false =>
      obtain ⟨r1, r2, r3⟩ := D.pa_none (pf.out.2.2.2.1 rfl)
      replace r1 := Lib.hid r1
      replace r2 := Lib.hid r2
      replace r3 := Lib.hid r3
      go_wp2_with fail
      refine gate_end (rb := w.heap.size) (x := 0) (y := 0) (c := 110) rfl rfl ?_ ?_ ?_
      · exact ((hh.out.set 0 _).set 1 _).cell rfl
      · exact ((hh.out.set 0 _).set 1 _).cell rfl
      · exact ⟨by rw [r1.out, r2.out, r3.out], below_two bb _ _⟩
    | true =>
    obtain ⟨r1, r2, r3⟩ := D.pa_some (pf.out.2.2.2.2 (by first | rfl | trivial) (by first | rfl | trivial) (by first | rfl | trivial) (by first | rfl | trivial))
    replace r1 := Lib.hid r1
    replace r2 := Lib.hid r2
    replace r3 := Lib.hid r3
    go_wp2_with fail
    refine gate_end (rb := w.heap.size) (x := N1 * 86400 + N2 - N3) (y := N4) (c := 0) rfl rfl ?_ ?_ ?_
    · exact ((hh.out.set 0 _).set 1 _).cell rfl
    · exact ((hh.out.set 0 _).set 1 _).cell rfl
    · exact ⟨by rw [r1.out, r2.out, r3.out], below_two bb _ _⟩
  · obtain ⟨r1, r2, r3⟩ := D.pa_none (D.parse_unfit hF)
    have c1 := fun w => gCut_no s momentForm w hsm (by decide) hF
    have c2 := fun w => gFraction_none ⟨#[]⟩ w (by simp)
    have c3 := fun w => gSeconds_any ⟨#[]⟩ w (by decide)
    rw [show (D.zoneN (⟨#[]⟩ : ByteArray).data.toList) = 0 from rfl, show (D.zoneB (⟨#[]⟩ : ByteArray).data.toList) = false from rfl] at c3
    replace r1 := Lib.hid r1
    replace r2 := Lib.hid r2
    replace r3 := Lib.hid r3
    replace hnew := Lib.hid hnew
    replace hsz := Lib.hid hsz
    clear hF
    go_enter Tryz.func120, Tryz.ntmps120
    go_wp2_with fail
    (with_reducible refine (c1 _).mono ?_); rintro e w1 ⟨rfl, b1⟩
    go_wp2_with fail
    (with_reducible refine (c2 _).mono ?_); rintro e w1 ⟨rfl, rfl⟩
    go_wp2_with fail
    (with_reducible refine (c3 _).mono ?_); rintro e w2 ⟨rfl, b2⟩
    have b3 := b1.trans (b2.mono b1.size)
    have hh : Cells w2 w.heap.size 53 #[.int .i64 0, .int .i64 0] := (b3.block w.heap.size (by rw [hsz.out]; omega)).trans hnew.out
    have bb := b0.trans (b3.mono b0.size)
    have k0 : w2.cell? ⟨w.heap.size, 0, none⟩ = some (.int .i64 0) := hh.cell rfl
    have k1 : w2.cell? ⟨w.heap.size, 1, none⟩ = some (.int .i64 0) := hh.cell rfl
    have f0 : w2.frozen? ⟨w.heap.size, 0, none⟩ = false := hh.free _
    have f1 : w2.frozen? ⟨w.heap.size, 1, none⟩ = false := hh.free _
    clear c1 c2 c3 b1 b2 b3
    replace hh := Lib.hid hh
    go_wp2_with fail
    refine gate_end (rb := w.heap.size) (x := 0) (y := 0) (c := 110) rfl rfl ?_ ?_ ?_
    · exact ((hh.out.set 0 _).set 1 _).cell rfl
    · exact ((hh.out.set 0 _).set 1 _).cell rfl
    · exact ⟨by rw [r1.out, r2.out, r3.out], below_two bb _ _⟩
end Go.Proofs.YtdhondndidoniaaGreatDoor
namespace Go.Proofs.YtdhondndidoniaaGreatDoor
open Go.RowKit

theorem grown_then {a w w' : World} {row : Option Nat} (h : a.grownBy w row) (hb : Below w.heap.size w w') : a.grownBy w' row := h.trans (grown_of_below hb row)
theorem grown_set {a w : World} {b : Nat} (h : a.grownBy w (some b)) (v : Value) : a.grownBy (w.setCell ⟨b, 0, none⟩ v) (some b) :=
  h.trans ⟨rfl, rfl, rfl, by rw [World.size_setCell]; exact Nat.le_refl _, fun j hj hne => RowKit.Below.heap_setCell _ _ _ _ (by intro e; apply hne; rw [e])⟩
theorem grown_refl (w : World) (row : Option Nat) : w.grownBy w row := ⟨rfl, rfl, rfl, Nat.le_refl _, fun _ _ _ => rfl⟩

/-- A text at block b: what is left of it. -/
structure At (b : Nat) (s : ByteArray) (w : World) : Prop where
  box : Cells w b 174 #[.string s]
  small : s.size ≤ 100000
theorem At.cell {b : Nat} {s : ByteArray} {w : World} (h : At b s w) : w.cell? ⟨b, 0, none⟩ = some (.string s) := h.box.cell rfl
theorem At.free {b : Nat} {s : ByteArray} {w : World} (h : At b s w) : w.frozen? ⟨b, 0, none⟩ = false := h.box.free 0
theorem At.lt {b : Nat} {s : ByteArray} {w : World} (h : At b s w) : b < w.heap.size := h.box.lt
theorem At.below {b : Nat} {s : ByteArray} {w w' : World} (h : At b s w) (hb : Below w.heap.size w w') : At b s w' := ⟨h.box.on hb, h.small⟩
theorem At.put {b : Nat} {s : ByteArray} {w : World} (h : At b s w) {t : ByteArray} (ht : t.size ≤ 100000) : At b t (w.setCell ⟨b, 0, none⟩ (.string t)) := ⟨h.box.set 0 (.string t), ht⟩
theorem At.other {b c : Nat} {s : ByteArray} {w : World} (h : At b s w) (hne : b ≠ c) (i : Nat) (v : Value) : At b s (w.setCell ⟨c, i, none⟩ v) := ⟨h.box.other i v hne, h.small⟩
/-- Other boxes stay what they are while a text is read. -/
theorem Cells.grown {w w' : World} {b c : Nat} {t : TypeId} {cs : Array Value} (h : Cells w c t cs) (hg : w.grownBy w' (some b)) (hne : c ≠ b) : Cells w' c t cs :=
  (hg.block c h.lt (fun e => hne (Option.some.inj e))).trans h

/-! ### takes -/
def hdB (c : UInt8) (s : ByteArray) : Bool := decide (s.data.toList.head? = some c)
def hdR (c : UInt8) (s : ByteArray) : ByteArray := if hdB c s = true then s.extract 1 s.size else s
theorem hdB_iff {c : UInt8} {s : ByteArray} : hdB c s = true ↔ s.data.toList.head? = some c := by unfold hdB; rw [decide_eq_true_eq]
theorem hdR_size (c : UInt8) (s : ByteArray) : (hdR c s).size ≤ s.size := by
  unfold hdR
  split
  · rw [ByteArray.size_extract]; omega
  · exact Nat.le_refl _
theorem hdR_list {c : UInt8} {s : ByteArray} (h : hdB c s = true) : (hdR c s).data.toList = s.data.toList.drop 1 := by
  unfold hdR; rw [if_pos h, drop_list]
theorem hdR_same {c : UInt8} {s : ByteArray} (h : hdB c s = false) : hdR c s = s := by
  unfold hdR; rw [if_neg (by rw [h]; exact Bool.false_ne_true)]

set_option maxRecDepth 100000 in
set_option maxHeartbeats 3200000 in
theorem takes_any (b : Nat) (s : ByteArray) (c : UInt8) (x : Int) (w : World) (h : At b s w) (hx : x = (c.toNat : Int)) :
    Calls Tryz.prog 198 #[.pointer (some ⟨b, 0, none⟩), .int .u8 x] w fun e w' => e = .returned (.bool (hdB c s)) ∧ At b (hdR c s) w' ∧ w.grownBy w' (some b) := by
  have hA := Lib.hid h
  have hc := h.cell
  have hf := h.free
  have hsm := h.small
  clear h
  replace hx := Lib.hid hx
  go_enter Tryz.func198, Tryz.ntmps198
  by_cases h0 : s.size = 0
  · have he := empty_yes h0
    obtain rfl : s = ByteArray.empty := ByteArray.size_eq_zero_iff.1 h0
    have he3 : (ByteArray.empty.toList == []) = true := by rw [ByteArray.toList_eq]; rfl
    have he2 : ByteArray.empty.toList = [] := by rw [ByteArray.toList_eq]; rfl
    go_wp2_with fail
    go_ret
    exact ⟨rfl, hA.out, grown_refl _ _⟩
  · have hp : 0 < s.size := by omega
    have hne2 : (s.toList == []) = false := by
      rw [beq_eq_false_iff_ne, ByteArray.toList_eq]
      exact lst_ne hp
    have hne3 : ¬ s.toList = [] := by
      rw [ByteArray.toList_eq]
      exact lst_ne hp
    by_cases hq : s[0] = c
    · have hq1 : ((s[0].toNat : Int) != x) = false := by rw [hq, hx.out]; simp
      have hq2 : (s[0].toNat : Int) = x := by rw [hq, hx.out]
      have hb : hdB c s = true := by rw [hdB_iff, head_byte hp, hq]
      have hr : hdR c s = s.extract 1 s.size := by unfold hdR; rw [if_pos hb]
      rw [hb, hr]
      replace hb := Lib.hid hb
      replace hr := Lib.hid hr
      replace hq := Lib.hid hq
      replace hq2 := Lib.hid hq2
      go_wp2_with fail
      go_ret
      exact ⟨rfl, hA.out.put (by rw [ByteArray.size_extract]; omega), grown_set (grown_refl _ _) _⟩
    · have hq2 : ¬ (s[0].toNat : Int) = x := fun e => hq (byte_is (by have := hx.out; omega))
      have hq1 : ((s[0].toNat : Int) != x) = true := by rw [bne_iff_ne]; exact hq2
      have hb : hdB c s = false := by
        rw [← Bool.not_eq_true, hdB_iff, head_byte hp]
        exact fun e => hq (Option.some.inj e)
      have hr : hdR c s = s := hdR_same hb
      rw [hb, hr]
      replace hb := Lib.hid hb
      replace hr := Lib.hid hr
      replace hq := Lib.hid hq
      go_wp2_with fail
      go_ret
      exact ⟨rfl, hA.out, grown_refl _ _⟩

/-! ### space and token -/
theorem infoSet : (Tryz.prog.info? 131).map (fun i => (i.zero, i.size)) = some (some (.agg (Array.replicate 256 (.bool false))), 256) := by kernel_rfl
theorem trim_skip (l : List UInt8) : Lib.trimLeftS l [32, 9] = Md.skip l := by
  unfold Lib.trimLeftS Md.skip
  congr 1
  funext b
  have : ∀ n, n < 256 → ([32, 9] : List UInt8).contains (UInt8.ofNat n) = Md.blankB (UInt8.ofNat n) := by decide +kernel
  have := this b.toNat b.toNat_lt
  rwa [UInt8.ofNat_toNat] at this
def tokSet : List UInt8 := [65, 66, 67, 68, 69, 70, 71, 72, 73, 74, 75, 76, 77, 78, 79, 80, 81, 82, 83, 84, 85, 86, 87, 88, 89, 90, 97, 98, 99, 100, 101, 102, 103, 104, 105, 106, 107, 108] ++ [109, 110, 111, 112, 113, 114, 115, 116, 117, 118, 119, 120, 121, 122, 48, 49, 50, 51, 52, 53, 54, 55, 56, 57, 33, 35, 36, 37, 38, 39, 42, 43, 45, 46, 94, 95, 96, 124, 126]
theorem trim_tok (l : List UInt8) : Lib.trimLeftS l tokSet = Md.tokR l := by
  unfold Lib.trimLeftS Md.tokR
  congr 1
  funext b
  have : ∀ n, n < 256 → tokSet.contains (UInt8.ofNat n) = Md.tokB (UInt8.ofNat n) := by decide +kernel
  have := this b.toNat b.toNat_lt
  rwa [UInt8.ofNat_toNat] at this
theorem trimSkip_any (s : ByteArray) (w : World) :
    Calls Tryz.prog 180 #[.string s, .string ⟨#[32, 9]⟩] w fun e w' => e = .returned (.string (skA s)) ∧ Below w.heap.size w w' := by
  refine (Any.strings_TrimLeft_laid Tryz.lays161 infoSet s ⟨#[32, 9]⟩ w (by decide) (Go.Proofs.ascii_of_all (by decide))).mono ?_
  rintro e w' ⟨rfl, b⟩
  rw [show (⟨#[32, 9]⟩ : ByteArray).data.toList = [32, 9] from rfl, trim_skip]
  exact ⟨rfl, b⟩
theorem trimTok_any (s : ByteArray) {cut : ByteArray} (w : World) (hc : cut.data.toList = tokSet) :
    Calls Tryz.prog 180 #[.string s, .string cut] w fun e w' => e = .returned (.string (tkB s)) ∧ Below w.heap.size w w' := by
  refine (Any.strings_TrimLeft_laid Tryz.lays161 infoSet s cut w (by rw [← list_len, hc]; decide) (by rw [hc]; exact Go.Proofs.ascii_of_all (by decide))).mono ?_
  rintro e w' ⟨rfl, b⟩
  rw [hc, trim_tok]
  exact ⟨rfl, b⟩

theorem space_any (b : Nat) (s : ByteArray) (w : World) (h : At b s w) :
    Calls Tryz.prog 171 #[.pointer (some ⟨b, 0, none⟩)] w fun e w' => e = .returned (.tuple #[]) ∧ At b (skA s) w' ∧ w.grownBy w' (some b) := by
  have hsz := skA_size s
  have hA := Lib.hid h
  have hc := h.cell
  clear h
  go_enter Tryz.func171, Tryz.ntmps171
  go_wp2_with fail
  (with_reducible refine (trimSkip_any s _).mono ?_); rintro e w1 ⟨rfl, b1⟩
  have hA1 := hA.out.below b1
  have hf1 := hA1.free
  have hc1 := hA1.cell
  replace hA1 := Lib.hid hA1
  clear hA hc
  go_wp2_with fail
  go_end0
  exact ⟨rfl, hA1.out.put (by have := hA1.out.small; omega), grown_set (grown_of_below b1 _) _⟩

theorem tk_join (s : ByteArray) : (tkA s).size + (tkB s).size = s.size ∧ s.extract 0 (tkA s).size = tkA s := by
  have h := congrArg List.length (Md.tok_tokR s.data.toList)
  rw [List.length_append, ← tkA_list, ← tkB_list, list_len, list_len, list_len] at h
  refine ⟨h, bytes_eq ?_⟩
  rw [take_list, tkA_list, ← list_len, tkA_list]
  conv => lhs; rw [← Md.tok_tokR s.data.toList]
  rw [List.take_left']
  rw [Md.tok_tokR]

set_option maxRecDepth 100000 in
set_option maxHeartbeats 3200000 in
theorem token_any (b : Nat) (s : ByteArray) (w : World) (h : At b s w) :
    Calls Tryz.prog 197 #[.pointer (some ⟨b, 0, none⟩)] w fun e w' => e = .returned (.string (tkA s)) ∧ At b (tkB s) w' ∧ w.grownBy w' (some b) := by
  obtain ⟨hj, hx⟩ := tk_join s
  have hA := Lib.hid h
  have hc := h.cell
  clear h
  have hsub : (s.size : Int) - ((tkB s).size : Int) = ((tkA s).size : Int) := by omega
  have ht := Lib.hid (fun W (cut : ByteArray) (hc : cut.data.toList = tokSet) => trimTok_any s W hc)
  have hle : (tkA s).size ≤ s.size := by omega
  have hle2 : (tkB s).size ≤ s.size := by omega
  rw [← hx]
  generalize (tkA s).size = n at *
  generalize tkB s = t at *
  replace hx := Lib.hid hx
  replace hj := Lib.hid hj
  go_enter Tryz.func197, Tryz.ntmps197
  go_wp2_with fail
  (with_reducible refine (ht.out _ _ ?_).mono ?_)
  case refine_1 => rfl
  rintro e w1 ⟨rfl, b1⟩
  have hA1 := hA.out.below b1
  have hf1 := hA1.free
  have hc1 := hA1.cell
  have hsm := hA1.small
  replace hA1 := Lib.hid hA1
  clear hA hc
  go_wp2_with fail
  go_ret
  exact ⟨rfl, hA1.out.put (by omega), grown_set (grown_of_below b1 _) _⟩

/-! ### quotable -/
/-- May the byte at the head be quoted, which is it. -/
def quB1 (s : ByteArray) : Bool := match s.data.toList with | [] => false | c :: _ => !Md.badB c
def quH (s : ByteArray) : Int := match s.data.toList with | [] => 0 | c :: _ => (c.toNat : Int)
theorem quB1_yes {s : ByteArray} (h : quB1 s = true) : ∃ c : UInt8, quH s = (c.toNat : Int) ∧ Md.badB c = false ∧ s.data.toList = c :: (s.extract 1 s.size).data.toList := by
  unfold quB1 at h
  rw [drop_list]
  unfold quH
  cases hl : s.data.toList with
  | nil => rw [hl] at h; cases h
  | cons c l =>
    rw [hl] at h
    exact ⟨c, rfl, by simpa using h, rfl⟩
theorem quB1_no {s : ByteArray} (h : quB1 s = false) : s.data.toList = [] ∨ ∃ c l, s.data.toList = c :: l ∧ Md.badB c = true := by
  unfold quB1 at h
  cases hl : s.data.toList with
  | nil => exact .inl rfl
  | cons c l =>
    rw [hl] at h
    exact .inr ⟨c, l, rfl, by simpa using h⟩
set_option maxRecDepth 100000 in
set_option maxHeartbeats 3200000 in
theorem quotable_any (b : Nat) (s : ByteArray) (w : World) (h : At b s w) :
    Calls Tryz.prog 231 #[.pointer (some ⟨b, 0, none⟩)] w fun e w' => e = .returned (.tuple #[.int .u8 (quH s), .bool (quB1 s)]) ∧ At b (s.extract 1 s.size) w' ∧ w.grownBy w' (some b) := by
  have hA := Lib.hid h
  have hc := h.cell
  have hf := h.free
  have hsm := h.small
  clear h
  go_enter Tryz.func231, Tryz.ntmps231
  by_cases h0 : s.size = 0
  · have he := empty_yes h0
    obtain rfl : s = ByteArray.empty := ByteArray.size_eq_zero_iff.1 h0
    have he3 : (ByteArray.empty.toList == []) = true := by rw [ByteArray.toList_eq]; rfl
    have he2 : ByteArray.empty.toList = [] := by rw [ByteArray.toList_eq]; rfl
    go_wp2_with fail
    go_ret2
    exact ⟨rfl, hA.out, grown_refl _ _⟩
  · have hp : 0 < s.size := by omega
    have hne2 : (s.toList == []) = false := by
      rw [beq_eq_false_iff_ne, ByteArray.toList_eq]
      exact lst_ne hp
    have hne3 : ¬ s.toList = [] := by
      rw [ByteArray.toList_eq]
      exact lst_ne hp
    have hd := drop_cons s 0 hp
    rw [List.drop_zero] at hd
    have hq : quB1 s = !Md.badB s[0] := by unfold quB1; rw [hd]
    have hq2 : quH s = ((s[0]).toNat : Int) := by unfold quH; rw [hd]
    have hlt := (s[0]).toNat_lt
    rw [hq, hq2]
    clear hd hq hq2
    have hst := hA.out.put (t := s.extract 1 s.size) (by rw [ByteArray.size_extract]; omega)
    replace hst := Lib.hid hst
    obtain ⟨Q, hQ⟩ : ∃ Q, Q = !Md.badB s[0] := ⟨_, rfl⟩
    rw [← hQ]
    replace hQ := Lib.hid hQ
    by_cases h1 : (s[0]).toNat < 32
    · have e1 : ¬ (32 : Int) ≤ ((s[0]).toNat : Int) := by omega
      by_cases h9 : (s[0]).toNat = 9
      · obtain rfl : Q = true := by rw [hQ.out]; unfold Md.badB; simp [h9]
        have e9 : (((s[0]).toNat : Int) == 9) = true := by rw [beq_iff_eq]; omega
        replace h9 := Lib.hid h9
        go_wp2_with fail
        go_ret2
        exact ⟨rfl, hst.out, grown_set (grown_refl _ _) _⟩
      · obtain rfl : Q = false := by rw [hQ.out]; unfold Md.badB; simp [h9, h1]
        have e9 : (((s[0]).toNat : Int) == 9) = false := beq_false_of_ne (by omega)
        replace h9 := Lib.hid h9
        go_wp2_with fail
        go_ret2
        exact ⟨rfl, hst.out, grown_set (grown_refl _ _) _⟩
    · have e1 : (32 : Int) ≤ ((s[0]).toNat : Int) := by omega
      by_cases h7 : (s[0]).toNat = 127
      · obtain rfl : Q = false := by rw [hQ.out]; unfold Md.badB; simp [h7]
        have e7 : (((s[0]).toNat : Int) != 127) = false := by rw [bne_eq_false_iff_eq]; omega
        have e9 : (((s[0]).toNat : Int) == 9) = false := beq_false_of_ne (by omega)
        replace h7 := Lib.hid h7
        go_wp2_with fail
        go_ret2
        exact ⟨rfl, hst.out, grown_set (grown_refl _ _) _⟩
      · obtain rfl : Q = true := by rw [hQ.out]; unfold Md.badB; simp [h7]; omega
        have e7 : (((s[0]).toNat : Int) != 127) = true := by rw [bne_iff_ne]; omega
        go_wp2_with fail
        go_ret2
        exact ⟨rfl, hst.out, grown_set (grown_refl _ _) _⟩
end Go.Proofs.YtdhondndidoniaaGreatDoor
namespace Go.Proofs.YtdhondndidoniaaGreatDoor
open Go.RowKit

/-- The bytes of s at block g, the first k of them made small. -/
def LowAt (w : World) (g : Nat) (s : ByteArray) (k : Nat) : Prop := ∀ j (h : j < s.size), w.cell? ⟨g, j, none⟩ = some (.int .u8 ((if j < k then Md.lowB s[j] else s[j]).toNat : Int)) ∧ w.frozen? ⟨g, j, none⟩ = false
theorem LowAt.here {w : World} {g : Nat} {s : ByteArray} {k : Nat} (h : LowAt w g s k) (hk : k < s.size) : w.cell? ⟨g, k, none⟩ = some (.int .u8 (s[k].toNat : Int)) ∧ w.frozen? ⟨g, k, none⟩ = false := by
  have := h k hk
  rwa [if_neg (Nat.lt_irrefl k)] at this
theorem LowAt.same {w : World} {g : Nat} {s : ByteArray} {k : Nat} (h : LowAt w g s k) (hk : k < s.size) (hl : Md.lowB s[k] = s[k]) : LowAt w g s (k + 1) := by
  intro j hj
  have := h j hj
  by_cases e : j = k
  · subst e
    rw [if_neg (Nat.lt_irrefl j)] at this
    rw [if_pos (Nat.lt_succ_self j), hl]
    exact this
  · by_cases hlt : j < k
    · rw [if_pos hlt] at this; rw [if_pos (by omega)]; exact this
    · rw [if_neg hlt] at this; rw [if_neg (by omega)]; exact this
theorem LowAt.put {w : World} {g : Nat} {s : ByteArray} {k : Nat} (h : LowAt w g s k) (hk : k < s.size) {d : UInt8} (hl : Md.lowB s[k] = d) : LowAt (w.setCell ⟨g, k, none⟩ (.int .u8 (d.toNat : Int))) g s (k + 1) := by
  intro j hj
  have hh := h j hj
  refine ⟨?_, by rw [World.frozen?_setCell]; exact hh.2⟩
  by_cases e : j = k
  · subst e
    rw [if_pos (Nat.lt_succ_self j), hl]
    exact World.cell?_setCell_same _ _ _ hh.1
  · rw [World.cell?_setCell_other _ _ _ _ (by simp)]
    by_cases hlt : j < k
    · rw [if_pos (by omega)]; rw [if_pos hlt] at hh; exact hh.1
    · rw [if_neg (by omega)]; rw [if_neg hlt] at hh; exact hh.1
theorem bytes_laid (s : ByteArray) (w : World) : ∃ cap W, (convert 9 123 (.string s)).run Tryz.prog w = .ok (.slice (some ⟨w.heap.size, 0, none⟩) s.size cap) W ∧ Below w.heap.size w W ∧ LowAt W w.heap.size s 0 ∧ w.heap.size < W.heap.size := by
  refine ⟨_, _, run_bytes_of_string w 9 123 5 s Tryz.underlying9 Tryz.underlying123 Tryz.underlying5, ?_, fun j hj => ?_, ?_⟩
  · exact ((Below.refl _ _).drew).alloc (Nat.le_refl _) _
  · generalize hC : bytesRow s _ = C
    have h1 : C[j]? = some (.int .u8 (s[j].toNat : Int)) := by rw [← hC]; exact bytesRow_at s _ j hj
    have hl : j < C.size := (Array.getElem?_eq_some_iff.1 h1).1
    have hb : (w.drew.alloc (.cells C 5 (C.size, C.size + 1))).heap[w.heap.size]? = some (.cells C 5 (C.size, C.size + 1)) := heap_alloc_new w.drew _
    refine ⟨?_, ?_⟩
    · rw [if_neg (Nat.not_lt_zero j)]
      simp only [World.cell?, hb]
      exact h1
    · simp only [World.frozen?, hb]
      simp; omega
  · simp
theorem low_text {w : World} {s : ByteArray} {g cap : Nat} (h : LowAt w g s s.size) : (convert 123 9 (.slice (some ⟨g, 0, none⟩) s.size cap)).run Tryz.prog w = .ok (.string (loA s)) w := by
  have hl : (Md.lower s.data.toList).length = s.size := by unfold Md.lower; rw [List.length_map, list_len]
  have := run_convert_bytes_back (l := Md.lower s.data.toList) w 123 9 5 ⟨g, 0, none⟩ cap Tryz.underlying123 Tryz.underlying5 Tryz.underlying9 (fun j hj => by
    have hj' : j < s.size := by rw [← hl]; exact hj
    have hh := (h j hj').1
    rw [if_pos hj'] at hh
    rw [add_at, Nat.zero_add, hh]
    simp only [Md.lower, List.getElem_map]
    rfl)
  rw [hl] at this
  exact this

set_option maxRecDepth 100000 in
set_option maxHeartbeats 3200000 in
theorem mSmall_any (s : ByteArray) (w : World) (hs : s.size ≤ 70368744177664) :
    Calls Tryz.prog 196 #[.string s] w fun e w' => e = .returned (.string (loA s)) ∧ Below w.heap.size w w' := by
  obtain ⟨cap, W, hcv, bW, hL, hlt0⟩ := bytes_laid s w
  go_enter Tryz.func196, Tryz.ntmps196
  replace bW := Lib.hid bW
  replace hL := Lib.hid hL
  go_wp2_with fail
  clear hcv
  obtain ⟨g, hg⟩ : ∃ g, g = w.heap.size := ⟨_, rfl⟩
  rw [← hg] at hL hlt0 bW ⊢
  replace hg := Lib.hid hg
  go_loopw [4, 5, 10] (fun _ _ i wr => ∃ k : Nat, k ≤ s.size ∧ i = .int .i64 (k : Int) ∧ Hid (LowAt wr g s k) ∧ Hid (Below g w wr)) (fun _ _ i _ => s.size - (intOf i).toNat)
  case atStart => exact ⟨0, Nat.zero_le _, rfl, hL, bW⟩
  case round =>
    obtain ⟨k, hk, rfl, hA, bw⟩ := hrel
    by_cases hlt : k < s.size
    · obtain ⟨c0, f0⟩ := hA.out.here hlt
      have hb := (s[k]).toNat_lt
      obtain ⟨d, hd⟩ : ∃ d, Md.lowB s[k] = d := ⟨_, rfl⟩
      by_cases hq : 65 ≤ (s[k]).toNat ∧ (s[k]).toNat ≤ 90
      · have hn : ((s[k]).toNat : Int) - 65 + 97 = (d.toNat : Int) := by rw [← hd, Md.low_small hq]; omega
        obtain ⟨q1, q2⟩ := hq
        have hdl := d.toNat_lt
        have hP := Lib.hid (hA.out.put hlt hd)
        have bP := Lib.hid (bw.out.setCell (p := ⟨g, k, none⟩) (Nat.le_refl g) (.int .u8 (d.toNat : Int)))
        clear hd hA bw
        go_wp2_with fail
        go_roundw
        case rel => exact ⟨k + 1, by omega, by go_num, hP, bP⟩
        case measure => simp [intOf]; omega
      · have hP := Lib.hid (hA.out.same hlt (Md.low_same hq))
        have hq' : (s[k]).toNat < 65 ∨ (65 ≤ (s[k]).toNat ∧ 90 < (s[k]).toNat) := by omega
        clear hd hA hq
        rcases hq' with q1 | ⟨q1, q2⟩
        all_goals
          go_wp2_with fail
          go_roundw
          case rel => exact ⟨k + 1, by omega, by go_num, hP, bw⟩
          case measure => simp [intOf]; omega
    · obtain rfl : k = s.size := by omega
      have hcv := low_text (cap := cap) hA.out
      clear hA
      go_wp2_with fail
      go_ret
      exact ⟨rfl, by rw [← hg.out]; exact bw.out⟩
end Go.Proofs.YtdhondndidoniaaGreatDoor
