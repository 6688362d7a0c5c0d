/-
  What the document's own words of tags come to: contracts of inner, take, Print.
-/
import Derived.Test.YtojbhokneemeaaaDoorTags
import Derived.Test.YtojbhokneemeaaaDoorRefLow
import Derived.Deep.QuietTactic
namespace Go.Proofs.YtojbhokneemeaaaDoor
open Go.RowKit

/-- What a value's bytes are, and what stands behind them. -/
def vlA (s : ByteArray) : ByteArray := ⟨(Et.val s.data.toList).toArray⟩
def vlB (s : ByteArray) : ByteArray := ⟨(Et.valR s.data.toList).toArray⟩
theorem vlA_list (s : ByteArray) : (vlA s).data.toList = Et.val s.data.toList := mk_list _
theorem vlB_list (s : ByteArray) : (vlB s).data.toList = Et.valR s.data.toList := mk_list _
theorem vlB_size (s : ByteArray) : (vlB s).size ≤ s.size := size_le (by rw [vlB_list]; exact Et.valR_length _)
theorem vl_at {s : ByteArray} {k : Nat} (h1 : (s.data.toList.take k).all Et.inner = true) (h2 : ∀ h : k < s.size, Et.inner s[k] = false) : s.extract 0 k = vlA s ∧ s.extract k s.size = vlB s := by
  obtain ⟨e1, e2⟩ := Et.val_at h1 (fun h => h2 (by rw [← list_len]; exact h))
  exact ⟨bytes_eq (by rw [take_list, vlA_list, e1]), bytes_eq (by rw [drop_list, vlB_list, e2])⟩
theorem inner_is (b : UInt8) : Et.inner b = decide (b.toNat = 33 ∨ (35 ≤ b.toNat ∧ b.toNat ≠ 127)) := by
  rw [Bool.eq_iff_iff, decide_eq_true_eq]
  simp only [Et.inner, Bool.or_eq_true, Bool.and_eq_true, decide_eq_true_eq]

set_option maxRecDepth 100000 in
theorem refInner_any (b : UInt8) (w : World) : Calls Tryd.prog 25 #[.int .u8 (b.toNat : Int)] w fun e w' => e = .returned (.bool (Et.inner b)) ∧ w = w' := by
  rw [inner_is]
  generalize b.toNat = n at *
  obtain ⟨Q, hQ⟩ : ∃ Q, Q = decide (n = 33 ∨ (35 ≤ n ∧ n ≠ 127)) := ⟨_, rfl⟩
  rw [← hQ]
  go_enter Tryd.func25, Tryd.ntmps25
  by_cases h1 : n = 33
  · obtain rfl : Q = true := by rw [hQ]; exact decide_eq_true (.inl h1)
    have e1 : ((n : Int) == 33) = true := by rw [beq_iff_eq]; omega
    clear hQ
    replace h1 := Lib.hid h1
    go_wp2_with fail
    go_ret
    exact ⟨rfl, rfl⟩
  have e1 : ((n : Int) == 33) = false := beq_false_of_ne (by omega)
  by_cases h2 : 35 ≤ n
  · have e2 : (35 : Int) ≤ (n : Int) := by omega
    by_cases h3 : n = 127
    · obtain rfl : Q = false := by rw [hQ]; exact decide_eq_false (by omega)
      have e3 : ((n : Int) != 127) = false := by rw [bne_eq_false_iff_eq]; omega
      clear hQ
      replace h3 := Lib.hid h3
      go_wp2_with fail
      go_ret
      exact ⟨rfl, rfl⟩
    · obtain rfl : Q = true := by rw [hQ]; exact decide_eq_true (.inr ⟨h2, h3⟩)
      have e3 : ((n : Int) != 127) = true := by rw [bne_iff_ne]; omega
      clear hQ
      go_wp2_with fail
      go_ret
      exact ⟨rfl, rfl⟩
  · obtain rfl : Q = false := by rw [hQ]; exact decide_eq_false (by omega)
    have e2 : ¬ (35 : Int) ≤ (n : Int) := by omega
    clear hQ
    go_wp2_with fail
    go_ret
    exact ⟨rfl, rfl⟩

/-- take's answers. -/
def tgT (s : ByteArray) : Tag := ((Et.take s.data.toList).map (·.1)).getD ⟨false, ⟨#[]⟩⟩
def tgR (s : ByteArray) : ByteArray := ⟨(((Et.take s.data.toList).map (·.2)).getD []).toArray⟩
def tgC (s : ByteArray) : Bool := (Et.take s.data.toList).isSome
theorem tg_no {s : ByteArray} (h : Et.take s.data.toList = none) : tgT s = ⟨false, ⟨#[]⟩⟩ ∧ tgR s = ⟨#[]⟩ ∧ tgC s = false := by unfold tgT tgR tgC; rw [h]; exact ⟨rfl, rfl, rfl⟩
theorem tg_yes {s : ByteArray} {t : Tag} {r : List UInt8} (h : Et.take s.data.toList = some (t, r)) : tgT s = t ∧ tgR s = ⟨r.toArray⟩ ∧ tgC s = true := by unfold tgT tgR tgC; rw [h]; exact ⟨rfl, rfl, rfl⟩
theorem tgR_size (s : ByteArray) : (tgR s).size ≤ s.size := by
  unfold tgR
  cases h : Et.take s.data.toList with
  | none => exact Nat.zero_le _
  | some x =>
    obtain ⟨t, r⟩ := x
    have := Et.take_length h
    rw [list_len] at this
    rw [← list_len, mk_list]
    exact Nat.le_of_lt this

theorem take_end {R : Ending → World → Prop} {tmps : Array Value} {w : World} {rb : Nat} {x y r c : Value} (h2 : tmps[2]? = some (.pointer (some ⟨rb, 0, none⟩))) (h3 : tmps[3]? = some r) (h4 : tmps[4]? = some c)
    (c0 : w.cell? ⟨rb, 0, none⟩ = some x) (c1 : w.cell? ⟨rb, 1, none⟩ = some y)
    (hR : R (.returned (.tuple #[.agg #[x, y], r, c])) w) : bodyPost Tryd.prog Tryd.f23 R .ret { tmps := tmps, defers := [] } w := by
  refine ⟨rfl, _, ?_, hR⟩
  have l4 : 4 < tmps.size := (Array.getElem?_eq_some_iff.1 h4).1
  have g2 : tmps[2] = .pointer (some ⟨rb, 0, none⟩) := (Array.getElem?_eq_some_iff.1 h2).2
  have g3 : tmps[3] = r := (Array.getElem?_eq_some_iff.1 h3).2
  have g4 : tmps[4] = c := (Array.getElem?_eq_some_iff.1 h4).2
  have l2 : 2 < tmps.size := by omega
  have l3 : 3 < tmps.size := by omega
  simp [results, Tryd.results23, go_sem, l2, l3, l4, g2, g3, g4, c0, c1]

/-- A text that begins with a W and a slash. -/
theorem two_is {s : ByteArray} (_ : 1 < s.size) : (s.extract 0 2).toList = s.data.toList.take 2 := by rw [ByteArray.toList_eq, take_list]
theorem short_two {s : ByteArray} (h : ¬ 1 < s.size) : ¬ s.data.toList.take 2 = [87, 47] := by
  intro e
  have := congrArg List.length e
  rw [List.length_take, list_len] at this
  simp at this
  omega

theorem q_at {t : ByteArray} {k : Nat} (h1 : 1 ≤ k) (hk : k ≤ t.size) (hall : ((t.data.toList.drop 1).take (k - 1)).all Et.inner = true) (h2 : ∀ h : k < t.size, Et.inner t[k] = false) :
    Et.val (t.data.toList.drop 1) = (t.extract 1 k).data.toList ∧ Et.valR (t.data.toList.drop 1) = t.data.toList.drop k := by
  obtain ⟨e1, e2⟩ := Et.val_at hall (fun h => by
    rw [List.length_drop, list_len] at h
    rw [List.getElem_drop]
    have e : 1 + (k - 1) = k := by omega
    have := h2 (by omega)
    rw [show t[k] = t.data.toList[k]'(by rw [list_len]; omega) from rfl] at this
    simp only [e]
    exact this)
  rw [e1, e2, extract_list, List.drop_take, List.drop_drop]
  have e : 1 + (k - 1) = k := by omega
  rw [e]
  exact ⟨rfl, rfl⟩
theorem q_more {t : ByteArray} {k : Nat} (h1 : 1 ≤ k) (hk : k < t.size) (hall : ((t.data.toList.drop 1).take (k - 1)).all Et.inner = true) (hb : Et.inner t[k] = true) : ((t.data.toList.drop 1).take (k + 1 - 1)).all Et.inner = true := by
  have e : k + 1 - 1 = (k - 1) + 1 := by omega
  rw [e, all_take _ _ _ (by rw [List.length_drop, list_len]; omega), hall, List.getElem_drop]
  have e : 1 + (k - 1) = k := by omega
  simp only [e]
  exact hb

set_option maxRecDepth 100000 in
set_option maxHeartbeats 6400000 in
theorem refTake_any (s : ByteArray) (w : World) (hs : s.size ≤ 1000000) :
    Calls Tryd.prog 23 #[.string s] w fun e w' => e = .returned (.tuple #[.agg #[.bool (tgT s).weak, .string (tgT s).value], .string (tgR s), .bool (tgC s)]) ∧ Below w.heap.size w w' := by
  have bA := ((Below.refl w.heap.size w).alloc (Nat.le_refl _) (.cells #[.bool false, .string ⟨#[]⟩] 23)).alloc (by simp) (.cells #[.bool false, .string ⟨#[]⟩] 23)
  have k0 := (Cells.new w 23 #[.bool false, .string ⟨#[]⟩]).alloc (.cells #[.bool false, .string ⟨#[]⟩] 23)
  have k1 := Cells.new (w.alloc (.cells #[.bool false, .string ⟨#[]⟩] 23)) 23 #[.bool false, .string ⟨#[]⟩]
  rw [World.size_alloc] at k1
  have hno := Lib.hid (@tg_no s)
  have hyes := Lib.hid (fun t r h => tg_yes (s := s) (t := t) (r := r) h)
  generalize tgT s = T at *
  generalize tgR s = R at *
  generalize tgC s = C at *
  go_enter Tryd.func23, Tryd.ntmps23
  go_upto_region 2 with fail
  obtain ⟨W, hW⟩ : ∃ W, (w.alloc (.cells #[.bool false, .string ⟨#[]⟩] 23)).alloc (.cells #[.bool false, .string ⟨#[]⟩] 23) = W := ⟨_, rfl⟩
  rw [hW] at bA k0 k1 ⊢
  clear hW
  have f0 := k1.free 0
  have x0 := k1.cell (i := 0) (v := .bool false) rfl
  by_cases hw : s.data.toList.take 2 = [87, 47]
  case' pos =>
    have h1 : 1 < s.size := Classical.byContradiction fun h => short_two h hw
    have e2 : ((s.extract 0 2).toList == [87, 47]) = true := by rw [two_is h1, hw]; rfl
    have e3 : (s.extract 0 2).toList = [87, 47] := by rw [two_is h1, hw]
    have htk : Et.take s.data.toList = Et.qtag true (s.extract 2 s.size).data.toList := by unfold Et.take; rw [if_pos hw, drop_list]
    have hz : (s.extract 2 s.size).size ≤ 1000000 := by rw [ByteArray.size_extract]; omega
    have bB := bA.setCell (p := ⟨w.heap.size + 1, 0, none⟩) (by simp) (.bool true)
    have k0B := k0.other (c := w.heap.size + 1) 0 (.bool true) (by omega)
    have k1B := k1.set 0 (.bool true)
    replace hw := Lib.hid hw
    replace k0 := Lib.hid k0
    replace k1 := Lib.hid k1
    replace bA := Lib.hid bA
    replace htk := Lib.hid htk
    replace bB := Lib.hid bB
    replace k0B := Lib.hid k0B
    replace k1B := Lib.hid k1B
    go_upto_region 5 with fail
    clear k0 k1 bA f0 x0
    generalize W.setCell ⟨w.heap.size + 1, 0, none⟩ (.bool true) = V at *
    generalize s.extract 2 s.size = t at *
    obtain ⟨wk, hwk⟩ : ∃ b, true = b := ⟨_, rfl⟩
    replace htk := htk.out.trans (show _ = Et.qtag wk t.data.toList by rw [hwk])
    rw [htk] at hno hyes
    clear h1 e2 e3 hw htk
    replace k1B : Hid (Cells V (w.heap.size + 1) 23 #[.bool wk, .string ⟨#[]⟩]) := Lib.hid (by rw [← hwk]; exact k1B.out)
    clear hwk
  case' neg =>
    have htk : Et.take s.data.toList = Et.qtag false s.data.toList := by unfold Et.take; rw [if_neg hw]
    have bB := bA
    have k0B := k0
    have k1B := k1
    have hs1 : ¬ 1 < s.size ∨ (1 < s.size ∧ ((s.extract 0 2).toList == [87, 47]) = false) := by
      by_cases h1 : 1 < s.size
      · exact .inr ⟨h1, by rw [two_is h1]; exact beq_false_of_ne hw⟩
      · exact .inl h1
    replace hw := Lib.hid hw
    replace k0 := Lib.hid k0
    replace k1 := Lib.hid k1
    replace bA := Lib.hid bA
    replace htk := Lib.hid htk
    replace bB := Lib.hid bB
    replace k0B := Lib.hid k0B
    replace k1B := Lib.hid k1B
    rcases hs1 with h1 | ⟨h1, e2⟩
  case' neg.inl =>
    go_upto_region 5 with fail
    have ht1 := h1
  case' neg.inr =>
    go_upto_region 5 with fail
    have ht1 := h1
    clear e2
  case' neg.inl | neg.inr =>
    clear k0 k1 bA f0 x0 h1 hw
    obtain ⟨V, rfl⟩ : ∃ V, V = W := ⟨_, rfl⟩
    obtain ⟨t, rfl⟩ : ∃ t, t = s := ⟨_, rfl⟩
    obtain ⟨hz, -⟩ : t.size ≤ 1000000 ∧ True := ⟨hs, trivial⟩
    obtain ⟨wk, hwk⟩ : ∃ b, false = b := ⟨_, rfl⟩
    replace htk := htk.out.trans (show _ = Et.qtag wk t.data.toList by rw [hwk])
    rw [htk] at hno hyes
    clear htk
    replace k1B : Hid (Cells V (w.heap.size + 1) 23 #[.bool wk, .string ⟨#[]⟩]) := Lib.hid (by rw [← hwk]; exact k1B.out)
    clear hwk
  all_goals
    replace hs := Lib.hid hs
    have c0 := k0B.out.cell (i := 0) (v := .bool false) rfl
    have c1 := k0B.out.cell (i := 1) (v := .string ⟨#[]⟩) rfl
    have f0 := k0B.out.free 0
    have f1 := k0B.out.free 1
    have hb0 := Lib.hid ((bB.out.setCell (p := ⟨w.heap.size, 0, none⟩) (Nat.le_refl _) (.bool false)).setCell (p := ⟨w.heap.size, 1, none⟩) (Nat.le_refl _) (.string ⟨#[]⟩))
    have y0 := ((k0B.out.set 0 (.bool false)).set 1 (.string ⟨#[]⟩)).cell (i := 0) (v := .bool false) rfl
    have y1 := ((k0B.out.set 0 (.bool false)).set 1 (.string ⟨#[]⟩)).cell (i := 1) (v := .string ⟨#[]⟩) rfl
    replace y0 := Lib.hid y0
    replace y1 := Lib.hid y1
    by_cases h0 : t.size = 0
    · first
        | (exfalso; omega)
        | (obtain ⟨rfl, rfl, rfl⟩ := hno.out (Et.qt_head (by rw [nil_of_size h0]; simp))
           obtain rfl : t = ByteArray.empty := ByteArray.size_eq_zero_iff.1 h0
           clear hno hyes
           go_wp2_with fail
           exact take_end (rb := w.heap.size) rfl rfl rfl y0.out y1.out ⟨rfl, hb0.out⟩)
    have h1 : 0 < t.size := by omega
    have hne := ne_empty h1
    have hh := head_byte h1
    by_cases h34 : (t[0]).toNat = 34
    case neg =>
      obtain ⟨rfl, rfl, rfl⟩ := hno.out (Et.qt_head (by rw [hh]; intro e; exact h34 (by rw [Option.some.inj e]; rfl)))
      have e34 : (((t[0]).toNat : Int) != 34) = true := by rw [bne_iff_ne]; omega
      clear hno hyes hh h34
      go_wp2_with fail
      exact take_end (rb := w.heap.size) rfl rfl rfl y0.out y1.out ⟨rfl, hb0.out⟩
    case pos =>
      have e34 : (((t[0]).toNat : Int) != 34) = false := by rw [h34]; rfl
      have hhd : t.data.toList.head? = some 34 := by rw [hh, byte_is (c := 34) h34]
      replace hno := Lib.hid (fun (h : (Et.valR (t.data.toList.drop 1)).head? ≠ some 34) => hno.out (Et.qt_end hhd h))
      replace hyes := Lib.hid (fun (h : (Et.valR (t.data.toList.drop 1)).head? = some 34) => hyes.out _ _ (Et.qt_yes hhd h))
      have hat := Lib.hid (fun k => @q_at t k)
      have hmo := Lib.hid (fun k => @q_more t k)
      replace h34 := Lib.hid h34
      clear hh hhd
      go_wp2_with fail
      go_loop [6] (fun i => ∃ k : Nat, 1 ≤ k ∧ k ≤ t.size ∧ i = .int .i64 (k : Int) ∧ Hid (((t.data.toList.drop 1).take (k - 1)).all Et.inner = true)) (fun i => t.size - (intOf i).toNat)
      case atStart => exact ⟨1, Nat.le_refl _, h1, rfl, Lib.hid (by simp)⟩
      case round =>
        obtain ⟨k, hk1, hk, rfl, hall⟩ := hrel
        by_cases hlt : k < t.size
        case neg =>
          obtain ⟨-, e2⟩ := hat.out k hk1 hk hall.out (fun h => absurd h hlt)
          obtain ⟨rfl, rfl, rfl⟩ := hno.out (by rw [e2, List.drop_of_length_le (by rw [list_len]; omega)]; simp)
          have hke : (k : Int) = (t.size : Int) := by omega
          have hke2 : ((k : Int) == (t.size : Int)) = true := by rw [beq_iff_eq]; exact hke
          replace hke := Lib.hid hke
          clear e2 hno hyes
          go_wp2_with fail
          exact take_end (rb := w.heap.size) rfl rfl rfl y0.out y1.out ⟨rfl, hb0.out⟩
        case pos =>
          first
            | (exfalso; omega)
            | (go_wp2_with fail
               (with_reducible refine (refInner_any t[k] _).mono ?_); rintro e w1 ⟨rfl, rfl⟩
               cases hb : Et.inner t[k]
               case true =>
                 have hr := Lib.hid (hmo.out k hk1 hlt hall.out hb)
                 replace hb := Lib.hid hb
                 go_wp2_with fail
                 go_round
                 case rel => exact ⟨k + 1, by omega, by omega, by go_num, hr⟩
                 case measure => simp [intOf]; omega
               case false =>
                 obtain ⟨e1, e2⟩ := hat.out k hk1 hk hall.out (fun _ => hb)
                 have hne2 : ((k : Int) == (t.size : Int)) = false := beq_false_of_ne (by omega)
                 have hdk := drop_cons t k hlt
                 replace hb := Lib.hid hb
                 by_cases hq : (t[k]).toNat = 34
                 case neg =>
                   have eq34 : (((t[k]).toNat : Int) != 34) = true := by rw [bne_iff_ne]; omega
                   obtain ⟨rfl, rfl, rfl⟩ := hno.out (by rw [e2, hdk]; intro e; exact hq (by rw [Option.some.inj e]; rfl))
                   clear e1 e2 hdk hno hyes hq
                   go_wp2_with fail
                   exact take_end (rb := w.heap.size) rfl rfl rfl y0.out y1.out ⟨rfl, hb0.out⟩
                 case pos =>
                   have eq34 : (((t[k]).toNat : Int) != 34) = false := by rw [hq]; rfl
                   obtain ⟨r1, r2, r3⟩ := hyes.out (by rw [e2, hdk, byte_is (c := 34) hq]; rfl)
                   have hv : (⟨(Et.val (t.data.toList.drop 1)).toArray⟩ : ByteArray) = t.extract 1 k := bytes_eq (by rw [mk_list, e1])
                   have hr : (⟨((Et.valR (t.data.toList.drop 1)).drop 1).toArray⟩ : ByteArray) = t.extract (k + 1) t.size := bytes_eq (by rw [mk_list, e2, drop_list, List.drop_drop])
                   rw [hv] at r1
                   rw [hr] at r2
                   subst r1 r2 r3
                   clear e1 e2 hdk hno hyes hv hr
                   replace hq := Lib.hid hq
                   have g0 := k1B.out.cell (i := 0) (v := .bool wk) rfl
                   have g1 := k1B.out.cell (i := 1) (v := .string ⟨#[]⟩) rfl
                   have gf := k1B.out.free 1
                   have z1 := Lib.hid (k1B.out.set 1 (.string (t.extract 1 k)))
                   have z0 := Lib.hid (k0B.out.other (c := w.heap.size + 1) 1 (.string (t.extract 1 k)) (by omega))
                   have zb := Lib.hid (bB.out.setCell (p := ⟨w.heap.size + 1, 1, none⟩) (by simp) (.string (t.extract 1 k)))
                   go_upto_region 13 with fail
                   generalize V.setCell ⟨w.heap.size + 1, 1, none⟩ (.string (t.extract 1 k)) = X at *
                   clear c0 c1 f0 f1 g0 g1 gf hb0 y0 y1 k0B k1B bB
                   have a0 := z1.out.cell (i := 0) (v := .bool wk) rfl
                   have a1 := z1.out.cell (i := 1) (v := .string (t.extract 1 k)) rfl
                   have d0 := z0.out.cell (i := 0) (v := .bool false) rfl
                   have d1 := z0.out.cell (i := 1) (v := .string ⟨#[]⟩) rfl
                   have df0 := z0.out.free 0
                   have df1 := z0.out.free 1
                   have hb0 := Lib.hid (((zb.out.setCell (p := ⟨w.heap.size, 0, none⟩) (Nat.le_refl _) (.bool wk)).setCell (p := ⟨w.heap.size, 1, none⟩) (Nat.le_refl _) (.string (t.extract 1 k))).drew)
                   have y0 := (((z0.out.set 0 (.bool wk)).set 1 (.string (t.extract 1 k))).drew).cell (i := 0) (v := .bool wk) rfl
                   have y1 := (((z0.out.set 0 (.bool wk)).set 1 (.string (t.extract 1 k))).drew).cell (i := 1) (v := .string (t.extract 1 k)) rfl
                   have i1 : ((k + 1 : Nat) : Int) ≤ (t.size : Int) := by omega
                   replace y0 := Lib.hid y0
                   replace y1 := Lib.hid y1
                   go_region
                   go_wp2_with fail
                   exact take_end (rb := w.heap.size) rfl rfl rfl y0.out y1.out ⟨rfl, hb0.out⟩)
end Go.Proofs.YtojbhokneemeaaaDoor
