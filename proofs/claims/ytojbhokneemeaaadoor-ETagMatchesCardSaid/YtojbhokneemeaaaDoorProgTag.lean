/-
  The program's own words of tags: isOfValue, value, tag, commas, isStar; Print.
-/
import Derived.Test.YtojbhokneemeaaaDoorProgTake
import Derived.Test.YtojbhokneemeaaaDoorRefMay
import Derived.Deep.RegionHeld3
namespace Go.Proofs.YtojbhokneemeaaaDoor
open Go.RowKit

set_option maxRecDepth 100000 in
theorem eInner_any (b : UInt8) (w : World) : Calls Tryd.prog 32 #[.int .u8 (b.toNat : Int)] w fun e w' => e = .returned (.bool (Et.inner b)) ∧ w = w' := by
  rw [inner_is]
  generalize b.toNat = n at *
  obtain ⟨Q, hQ⟩ : ∃ Q, Q = decide (n = 33 ∨ (35 ≤ n ∧ n ≠ 127)) := ⟨_, rfl⟩
  rw [← hQ]
  go_enter Tryd.func32, Tryd.ntmps32
  by_cases h1 : 32 < n
  · have e1 : (32 : Int) < (n : Int) := by omega
    by_cases h2 : n = 34
    · obtain rfl : Q = false := by rw [hQ]; exact decide_eq_false (by omega)
      have e2 : ((n : Int) != 34) = false := by rw [bne_eq_false_iff_eq]; omega
      clear hQ
      replace h2 := Lib.hid h2
      go_wp2_with fail
      go_ret
      exact ⟨rfl, rfl⟩
    have e2 : ((n : Int) != 34) = true := by rw [bne_iff_ne]; omega
    by_cases h3 : n = 127
    · obtain rfl : Q = false := by rw [hQ]; exact decide_eq_false (by omega)
      have e3 : ((n : Int) != 127) = false := by rw [bne_eq_false_iff_eq]; omega
      clear hQ
      replace h3 := Lib.hid h3
      go_wp2_with fail
      go_ret
      exact ⟨rfl, rfl⟩
    · obtain rfl : Q = true := by rw [hQ]; exact decide_eq_true (by omega)
      have e3 : ((n : Int) != 127) = true := by rw [bne_iff_ne]; omega
      clear hQ
      go_wp2_with fail
      go_ret
      exact ⟨rfl, rfl⟩
  · obtain rfl : Q = false := by rw [hQ]; exact decide_eq_false (by omega)
    have e1 : ¬ (32 : Int) < (n : Int) := by omega
    clear hQ
    go_wp2_with fail
    go_ret
    exact ⟨rfl, rfl⟩

set_option maxRecDepth 100000 in
set_option maxHeartbeats 3200000 in
/-- A value is taken, of a text of any length. -/
theorem eValue_any (b : Nat) (s : ByteArray) (w : World) (h : Cells w b 42 #[.string s]) (hs : s.size ≤ maxLen) :
    Calls Tryd.prog 24 #[.pointer (some ⟨b, 0, none⟩)] w fun e w' => e = .returned (.string (vlA s)) ∧ Cells w' b 42 #[.string (vlB s)] ∧ w.grownBy w' (some b) := by
  unfold maxLen at hs
  have hA := Lib.hid h
  have hc := h.cell (i := 0) (v := .string s) rfl
  have hf := h.free 0
  clear h
  have hend : Hid (∀ k, k ≤ s.size → (s.data.toList.take k).all Et.inner = true → (∀ h : k < s.size, Et.inner s[k] = false) → s.extract 0 k = vlA s ∧ s.extract k s.size = vlB s) := Lib.hid (fun k _ h1 h2 => vl_at h1 h2)
  have hlen := Lib.hid (list_len s)
  generalize vlA s = A at *
  generalize vlB s = B at *
  go_enter Tryd.func24, Tryd.ntmps24
  go_wp2_with fail
  go_loop [4] (fun i => ∃ k : Nat, k ≤ s.size ∧ i = .int .i64 k ∧ Hid ((s.data.toList.take k).all Et.inner = true)) (fun i => s.size - (intOf i).toNat)
  case atStart => exact ⟨0, Nat.zero_le _, rfl, Lib.hid (by simp)⟩
  case round =>
    obtain ⟨k, hk, rfl, hall⟩ := hrel
    by_cases hlt : k < s.size
    · go_wp2_with fail
      (with_reducible refine (eInner_any s[k] _).mono ?_); rintro e w1 ⟨rfl, rfl⟩
      cases hb : Et.inner s[k]
      · obtain ⟨r1, r2⟩ := hend.out k hk hall.out (fun _ => hb)
        have hst := hA.out.set 0 (.string (s.extract k s.size))
        rw [r2] at hst
        replace hst := Lib.hid hst
        replace r1 := Lib.hid r1
        replace r2 := Lib.hid r2
        replace hb := Lib.hid hb
        go_wp2_with fail
        go_ret
        exact ⟨ret_str r1.out, by rw [r2.out]; exact hst.out, grown_set (grown_refl _ _) _⟩
      · have hst := Lib.hid (all_take Et.inner s.data.toList k (by rw [hlen.out]; exact hlt))
        have hr := Lib.hid (hst.out.trans (show _ = true by rw [hall.out]; exact hb))
        replace hb := Lib.hid hb
        clear hst
        go_wp2_with fail
        go_round
        case rel => exact ⟨k + 1, by omega, by go_num, hr⟩
        case measure => simp [intOf]; omega
    · obtain ⟨r1, r2⟩ := hend.out k hk hall.out (fun h => absurd h hlt)
      have hst := hA.out.set 0 (.string (s.extract k s.size))
      rw [r2] at hst
      replace hst := Lib.hid hst
      replace r1 := Lib.hid r1
      replace r2 := Lib.hid r2
      go_wp2_with fail
      go_ret
      exact ⟨ret_str r1.out, by rw [r2.out]; exact hst.out, grown_set (grown_refl _ _) _⟩

set_option maxRecDepth 100000 in
set_option maxHeartbeats 3200000 in
theorem ePrint_any (t : Tag) (w : World) (hz : t.value.size ≤ 140737488355328) :
    Calls Tryd.prog 11 #[.agg #[.bool t.weak, .string t.value]] w fun e w' => e = .returned (.tuple #[.string (plA t), .int .i64 (plE t)]) ∧ Below w.heap.size w w' := by
  have hyes := Lib.hid (@pl_yes t)
  have hno := Lib.hid (@pl_no t)
  generalize plA t = A at *
  generalize plE t = E at *
  obtain ⟨wk, v⟩ := t
  dsimp only at *
  have hall := Lib.hid (show Et.may ⟨wk, v⟩ = v.data.toList.all Et.inner from rfl)
  have b1 := (Below.refl w.heap.size w).alloc (Nat.le_refl _) (.cells #[.bool wk, .string v] 23)
  have bA := b1.alloc (by simp) (.cells #[.string v] 42)
  have k0 := (Cells.new w 23 #[.bool wk, .string v]).alloc (.cells #[.string v] 42)
  have k1 := Cells.new (w.alloc (.cells #[.bool wk, .string v] 23)) 42 #[.string v]
  rw [World.size_alloc] at k1
  have hn0 := (Cells.new w 23 #[.bool wk, .string v]).cell (i := 1) (v := .string v) rfl
  clear b1
  replace k0 := Lib.hid k0
  replace k1 := Lib.hid k1
  replace bA := Lib.hid bA
  go_enter Tryd.func11, Tryd.ntmps11
  go_upto_region 2 with fail
  generalize (w.alloc (.cells #[.bool wk, .string v] 23)).alloc (.cells #[.string v] 42) = W at *
  clear hn0
  have cv := Lib.hid (eValue_any (w.heap.size + 1) v W k1.out (by unfold maxLen; omega))
  have hvn : Hid (vlB v = ⟨#[]⟩ ↔ v.data.toList.all Et.inner = true) := Lib.hid (by
    rw [← Et.valR_nil, ← vlB_list]
    constructor
    · intro h; rw [h]
    · intro h; exact bytes_eq h)
  generalize vlA v = X at *
  generalize vlB v = Y at *
  go_wp2_with fail
  (with_reducible refine (cv.out).mono ?_); rintro e w1 ⟨rfl, hk1, hg⟩
  have hk0 := Cells.grown k0.out hg (by omega)
  have bV : Hid (Below w.heap.size w w1) := Lib.hid (bA.out.grown hg bA.out.size (fun j e => by cases e; omega))
  have c0 := hk0.cell (i := 0) (v := .bool wk) rfl
  have c1 := hk0.cell (i := 1) (v := .string v) rfl
  have d0 := hk1.cell (i := 0) (v := .string Y) rfl
  clear hk0 hk1 hg bA k0 k1 cv
  by_cases h0 : Y.size = 0
  · obtain rfl : Y = ByteArray.empty := ByteArray.size_eq_zero_iff.1 h0
    obtain ⟨rfl, rfl⟩ := hyes.out (by rw [hall.out]; exact hvn.out.1 rfl)
    clear hyes hno hvn
    have q1 : ¬ 9223372036854775807 < 1 + v.size := by omega
    have q2 : ¬ 9223372036854775807 < 1 + v.size + 1 := by omega
    have q3 : ¬ 9223372036854775807 < 3 + v.size := by omega
    have q4 : ¬ 9223372036854775807 < 3 + v.size + 1 := by omega
    cases wk
    · have hx := Lib.hid (tell_strong v)
      go_wp2_with fail
      go_ret2
      exact ⟨by rw [hx.out]; rfl, bV.out⟩
    · have hx := Lib.hid (tell_weak v)
      go_wp2_with fail
      go_ret2
      exact ⟨by rw [hx.out]; rfl, bV.out⟩
  · have h1 : 0 < Y.size := by omega
    have hne3 : ¬ Y.toList = [] := by rw [ByteArray.toList_eq]; exact lst_ne h1
    have hne2 : (Y.toList != []) = true := bne_iff_ne.2 hne3
    have hne := ne_empty h1
    obtain ⟨rfl, rfl⟩ := hno.out (by
      rw [hall.out, ← Bool.not_eq_true]
      intro h
      have e := hvn.out.2 h
      rw [e] at h1
      exact absurd h1 (by decide))
    clear hyes hno hvn
    go_wp2_with fail
    go_ret2
    exact ⟨rfl, bV.out⟩
end Go.Proofs.YtojbhokneemeaaaDoor
