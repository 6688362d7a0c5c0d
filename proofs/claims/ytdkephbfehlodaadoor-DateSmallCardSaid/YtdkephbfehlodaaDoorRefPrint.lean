/-
  What the document's own words of points of time come to: contracts of Print and Cmp.
-/
import Derived.Test.YtdkephbfehlodaaDoorRefPad
namespace Go.Proofs.YtdkephbfehlodaaDoor
open Go.RowKit

theorem ret_text {a b : ByteArray} {x y : Int} (h1 : a = b) (h2 : x = y) : Ending.returned (.tuple #[.string a, .int .i64 x]) = .returned (.tuple #[.string b, .int .i64 y]) := by rw [h1, h2]
namespace D
theorem text_no {sec nano : Int} (h : okB sec nano = false) : (⟨#[]⟩ : ByteArray) = ⟨(text sec nano).toArray⟩ ∧ (110 : Int) = textE sec nano := by
  unfold text textE; rw [h]; exact ⟨rfl, rfl⟩
theorem text_yes {sec nano : Int} (h : okB sec nano = true) {t : ByteArray} (ht : t.data.toList = head sec ++ (frac nano ++ [90])) : t = ⟨(text sec nano).toArray⟩ ∧ (0 : Int) = textE sec nano := by
  unfold text textE; rw [if_pos h, if_pos h, ← ht]
  exact ⟨(array_toList t).symm, rfl⟩
theorem days_1 (y m : Int) : days y m 1 = yd y + md y m := by unfold days; omega
theorem yd_top' {y : Int} (h : yd y < 2932897) : y < 10000 := by
  refine Int.lt_of_not_ge (fun e => ?_)
  by_cases h1 : y = 10000
  · subst h1; rw [yd_10000] at h; omega
  · have := yd_mono (y := 10000) (z := y) (by omega)
    have := lp_01 10000
    rw [yd_10000] at *; omega
/-- The day that has been found. -/
theorem found {day y m : Int} (h1 : -719528 ≤ day) (h2 : day < 2932897) (hm1 : 1 ≤ m) (hm2 : m ≤ 12) (_ : yd y ≤ day) (hy2 : day < yd (y + 1)) (a : yd y + md y m ≤ day) (b : m < 12 → day < yd y + md y (m + 1)) :
    yOf day = y ∧ mOf day = m ∧ dOf day = day - (yd y + md y m) + 1 ∧ day - (yd y + md y m) + 1 ≤ 31 := by
  obtain ⟨hD, hdays⟩ := day_of h1 h2
  have hl := mlen_le y m
  have h12 := md_12 y
  rw [yd_succ] at hy2
  have hd : day < yd y + md y m + mlen y m := by
    by_cases h : m = 12
    · subst h; omega
    · have := b (by omega)
      rw [md_succ y m hm1 (by omega)] at this
      omega
  have hE : Day y m (day - (yd y + md y m) + 1) := ⟨hm1, hm2, by omega, by omega⟩
  have hdd : days y m (day - (yd y + md y m) + 1) = day := by unfold days; omega
  obtain ⟨e1, e2, e3⟩ := hD.inj hE (hdays.trans hdd.symm)
  exact ⟨e1, e2, e3, by omega⟩

theorem strip_is {l q : List UInt8} {c : UInt8} {j : Nat} (h : l = (q ++ [c]) ++ List.replicate j 48) (hc : c ≠ 48) : strip l = q ++ [c] := by
  subst h
  unfold strip
  rw [List.reverse_append, List.reverse_replicate, List.dropWhile_append]
  have e : (List.replicate j (48 : UInt8)).dropWhile (fun b => decide (b = 48)) = [] := by
    induction j with
    | zero => rfl
    | succ j ih => rw [List.replicate_succ, List.dropWhile_cons_of_pos (by simp), ih]
  rw [e]
  simp [hc]
theorem zeros_no {n j : Nat} (h0 : 0 < n) (h : n < 10 ^ 9) : ¬ dig 9 n = List.replicate j 48 := by
  intro e
  have a := congrArg dv e
  rw [dv_dig 9 n h, show List.replicate j (48 : UInt8) = [] ++ List.replicate j 48 by simp, dv_zeros] at a
  simp [dv] at a; omega
end D
theorem take_last (t : ByteArray) (k : Nat) (h : t.size = k + 1) : t.data.toList = t.data.toList.take k ++ [t[k]'(by omega)] := by
  have h1 : k < t.data.toList.length := by rw [list_len]; omega
  have e : t.data.toList.take (k + 1) = t.data.toList := List.take_of_length_le (by rw [list_len]; omega)
  conv => lhs; rw [← e, List.take_succ_eq_append_getElem h1]
  rfl

theorem mk_size (k n : Nat) : (⟨(D.dig k n).toArray⟩ : ByteArray).size ≤ k := by rw [size_mk, D.dig_length]; exact Nat.le_refl _

set_option maxRecDepth 100000 in
set_option maxHeartbeats 3200000 in
theorem refPrint_any (sec nano : Int) (w : World) :
    Calls Tryd.prog 14 #[.agg #[.int .i64 sec, .int .i64 nano]] w fun e w' => e = .returned (.tuple #[.string ⟨(D.text sec nano).toArray⟩, .int .i64 (D.textE sec nano)]) ∧ Below w.heap.size w w' := by
  have hbad : sec < -62167219200 ∨ (-62167219200 ≤ sec ∧ 253402300799 < sec) ∨ (-62167219200 ≤ sec ∧ sec ≤ 253402300799 ∧ nano < 0) ∨ (-62167219200 ≤ sec ∧ sec ≤ 253402300799 ∧ 0 ≤ nano ∧ 999999999 < nano) ∨ (-62167219200 ≤ sec ∧ sec ≤ 253402300799 ∧ 0 ≤ nano ∧ nano ≤ 999999999) := by omega
  have hno : Hid (¬ (-62167219200 ≤ sec ∧ sec ≤ 253402300799 ∧ 0 ≤ nano ∧ nano ≤ 999999999) → (⟨#[]⟩ : ByteArray) = ⟨(D.text sec nano).toArray⟩ ∧ (110 : Int) = D.textE sec nano) :=
    Lib.hid (fun h => D.text_no (by rw [← Bool.not_eq_true, D.ok_iff]; exact h))
  have bA : Below w.heap.size w (w.alloc (.cells #[.int .i64 sec, .int .i64 nano] 24)) := (Below.refl _ _).alloc (Nat.le_refl _) _
  go_enter Tryd.func14, Tryd.ntmps14
  rcases hbad with t | ⟨t1, t⟩ | ⟨t1, t2, t⟩ | ⟨t1, t2, t3, t⟩ | ⟨t1, t2, t3, t4⟩
  · have hr := Lib.hid (hno.out (by omega))
    go_wp2
    go_ret2
    exact ⟨ret_text hr.out.1 hr.out.2, bA⟩
  · have hr := Lib.hid (hno.out (by omega))
    go_wp2
    go_ret2
    exact ⟨ret_text hr.out.1 hr.out.2, bA⟩
  · have hr := Lib.hid (hno.out (by omega))
    go_wp2
    go_ret2
    exact ⟨ret_text hr.out.1 hr.out.2, bA⟩
  · have hr := Lib.hid (hno.out (by omega))
    go_wp2
    go_ret2
    exact ⟨ret_text hr.out.1 hr.out.2, bA⟩
  clear hno
  have hok := Lib.hid (D.ok_iff.2 ⟨t1, t2, t3, t4⟩)
  have hhd : Hid (D.head sec = _) := Lib.hid (show D.head sec = D.ymd (D.yOf (sec / 86400)).toNat (D.mOf (sec / 86400)).toNat (D.dOf (sec / 86400)).toNat ++ 84 :: D.hms (sec % 86400).toNat from rfl)
  go_wp2_with fail
  obtain ⟨day, hday⟩ : ∃ day, (sec + 62167219200) / 86400 - 719528 = day := ⟨_, rfl⟩
  have d1 : -719528 ≤ day := by omega
  have d2 : day < 2932897 := by omega
  have hds : sec / 86400 = day := by omega
  rw [hday]
  rw [hds] at hhd
  clear hday hds
  have hy0 := Lib.hid (show D.yd 0 ≤ day by rw [D.yd_0]; exact d1)
  go_loop [5] (fun v => ∃ y : Nat, v = .int .i64 (y : Int) ∧ y ≤ 9999 ∧ Hid (D.yd (y : Int) ≤ day)) (fun v => 10000 - (intOf v).toNat)
  case atStart => exact ⟨0, rfl, by omega, hy0⟩
  case round =>
    obtain ⟨y, rfl, hy9, hyd⟩ := hrel
    go_wp2_with fail
    (with_reducible refine (refSince_any ((y : Int) + 400) 1 1 _ (by omega) (by omega) (by omega) (by omega) (by omega) (by omega)).mono ?_); rintro e w1 ⟨rfl, rfl⟩
    rw [D.days_1, D.md_1, Int.add_zero]
    obtain ⟨q, hq⟩ : ∃ q, D.yd ((y : Int) + 400) = q := ⟨_, rfl⟩
    have hq' := Lib.hid hq
    rw [hq]
    clear hq
    by_cases hle : q ≤ day
    · have hyn : y + 400 ≤ 9999 := by
        have := D.yd_top' (y := (y : Int) + 400) (by have := hq'.out; omega)
        omega
      go_wp2
      go_round
      case rel => exact ⟨y + 400, by go_num, hyn, Lib.hid (by have := hq'.out; rw [show ((y + 400 : Nat) : Int) = (y : Int) + 400 by omega]; omega)⟩
      case measure => simp [intOf]; omega
    · clear hq'
      go_wp2_with fail
      clear hle
      go_loop [5] (fun v => ∃ y : Nat, v = .int .i64 (y : Int) ∧ y ≤ 9999 ∧ Hid (D.yd (y : Int) ≤ day)) (fun v => 10000 - (intOf v).toNat)
      case atStart => exact ⟨y, rfl, hy9, hyd⟩
      case round =>
        clear hyd hy9
        obtain ⟨y, rfl, hy9, hyd⟩ := hrel
        go_wp2_with fail
        (with_reducible refine (refSince_any ((y : Int) + 1) 1 1 _ (by omega) (by omega) (by omega) (by omega) (by omega) (by omega)).mono ?_); rintro e w1 ⟨rfl, rfl⟩
        rw [D.days_1, D.md_1, Int.add_zero]
        obtain ⟨q, hq⟩ : ∃ q, D.yd ((y : Int) + 1) = q := ⟨_, rfl⟩
        have hq' := Lib.hid hq
        rw [hq]
        clear hq
        by_cases hle : q ≤ day
        · have hyn : y + 1 ≤ 9999 := by
            have := D.yd_top' (y := (y : Int) + 1) (by have := hq'.out; omega)
            omega
          go_wp2
          go_round
          case rel => exact ⟨y + 1, by go_num, hyn, Lib.hid (by have := hq'.out; rw [show ((y + 1 : Nat) : Int) = (y : Int) + 1 by omega]; omega)⟩
          case measure => simp [intOf]; omega
        · have hyu := Lib.hid (show day < D.yd ((y : Int) + 1) by have := hq'.out; omega)
          clear hq'
          have hm0 := Lib.hid (show D.yd (y : Int) + D.md (y : Int) ((1 : Nat) : Int) ≤ day by have := D.md_1 (y : Int); have := hyd.out; show D.yd (y : Int) + D.md (y : Int) 1 ≤ day; omega)
          go_wp2_with fail
          clear hle
          go_loop [6] (fun v => ∃ m : Nat, v = .int .i64 (m : Int) ∧ 1 ≤ m ∧ m ≤ 12 ∧ Hid (D.yd (y : Int) + D.md (y : Int) (m : Int) ≤ day)) (fun v => 13 - (intOf v).toNat)
          case atStart => exact ⟨1, rfl, by omega, by omega, hm0⟩
          case round =>
            obtain ⟨m, rfl, hm1, hm2, hmd⟩ := hrel
            have hyb := D.yd_bd (y := (y : Int)) (by omega) (by omega)
            have hmb := D.md_bd (y : Int) (m := (m : Int)) (by omega) (by omega)
            obtain ⟨q, hq⟩ : ∃ q, D.yd (y : Int) + D.md (y : Int) ((m : Int) + 1) = q := ⟨_, rfl⟩
            obtain ⟨q2, hq2⟩ : ∃ q, D.yd (y : Int) + D.md (y : Int) (m : Int) = q := ⟨_, rfl⟩
            have hc : (m < 12 ∧ q ≤ day) ∨ (m < 12 ∧ day < q) ∨ (¬ m < 12 ∧ m ≤ 12) := by omega
            have hq2a : q2 ≤ day := by rw [← hq2]; exact hmd.out
            have hq2b : -1000000 ≤ q2 := by omega
            have hq' := Lib.hid hq
            have hq2' := Lib.hid hq2
            clear hq hq2 hyb hmb
            rcases hc with ⟨hm, hle⟩ | ⟨hm, hle⟩ | ⟨hm, hle⟩
            · go_wp2_with fail
              (with_reducible refine (refSince_any (y : Int) ((m : Int) + 1) 1 _ (by omega) (by omega) (by omega) (by omega) (by omega) (by omega)).mono ?_); rintro e w1 ⟨rfl, rfl⟩
              rw [D.days_1, hq'.out]
              go_wp2
              go_round
              case rel => exact ⟨m + 1, by go_num, by omega, by omega, Lib.hid (by have := hq'.out; rw [show ((m + 1 : Nat) : Int) = (m : Int) + 1 by omega]; omega)⟩
              case measure => simp [intOf]; omega
            all_goals
              have hex : Hid (m < 12 → day < D.yd (y : Int) + D.md (y : Int) ((m : Int) + 1)) := Lib.hid (fun h => by first | (rw [hq'.out]; exact hle) | exact absurd h hm)
              obtain ⟨f1, f2, f3, f4⟩ := D.found d1 d2 (by omega) (by omega) hyd.out hyu.out (by rw [hq2'.out]; exact hq2a) (fun h => hex.out (by omega))
              rw [hq2'.out] at f3 f4
              rw [f1, f2, f3] at hhd
              replace f1 := Lib.hid f1
              replace f2 := Lib.hid f2
              replace f3 := Lib.hid f3
              obtain ⟨dn, hdn⟩ : ∃ dn : Nat, day - q2 + 1 = (dn : Int) := ⟨(day - q2 + 1).toNat, by omega⟩
              rw [hdn] at hhd f4
              rw [Int.toNat_natCast, Int.toNat_natCast, Int.toNat_natCast] at hhd
              go_wp2_with ((with_reducible refine (refSince_any (y : Int) ((m : Int) + 1) 1 _ (by omega) (by omega) (by omega) (by omega) (by omega) (by omega)).mono ?_); rintro e w1 ⟨rfl, rfl⟩; rw [D.days_1, hq'.out])
              (with_reducible refine (refSince_any (y : Int) (m : Int) 1 _ (by omega) (by omega) (by omega) (by omega) (by omega) (by omega)).mono ?_); rintro e w1 ⟨rfl, rfl⟩
              rw [D.days_1, hq2'.out]
              go_wp2_with fail
              obtain ⟨r, hr⟩ : ∃ r : Nat, (sec + 62167219200) % 86400 = (r : Int) := ⟨((sec + 62167219200) % 86400).toNat, by omega⟩
              have hrl : r < 86400 := by omega
              have hr2 : sec % 86400 = (r : Int) := by omega
              rw [hr2, Int.toNat_natCast] at hhd
              rw [hr]
              replace hhd := Lib.hid hhd.out
              clear hr hr2 hdn hq2a hq2b
              (with_reducible refine (refPad_any (y) 4 (y := 4) _ (by omega) (by omega) (by omega) rfl rfl).mono ?_); rintro e w1 ⟨rfl, c1⟩
              have z1 := mk_size 4 (y)
              have l1 := Lib.hid (show (⟨(D.dig 4 (y)).toArray⟩ : ByteArray).data.toList = D.dig 4 (y) by simp)
              generalize (⟨(D.dig 4 (y)).toArray⟩ : ByteArray) = P1 at z1 l1 ⊢
              have b1 := c1
              go_wp2_with fail
              (with_reducible refine (refPad_any (m) 2 (y := 2) _ (by omega) (by omega) (by omega) rfl rfl).mono ?_); rintro e w2 ⟨rfl, c2⟩
              have z2 := mk_size 2 (m)
              have l2 := Lib.hid (show (⟨(D.dig 2 (m)).toArray⟩ : ByteArray).data.toList = D.dig 2 (m) by simp)
              generalize (⟨(D.dig 2 (m)).toArray⟩ : ByteArray) = P2 at z2 l2 ⊢
              have b2 := b1.trans (c2.mono b1.size)
              go_wp2_with fail
              (with_reducible refine (refPad_any (dn) 2 (y := 2) _ (by omega) (by omega) (by omega) rfl rfl).mono ?_); rintro e w3 ⟨rfl, c3⟩
              have z3 := mk_size 2 (dn)
              have l3 := Lib.hid (show (⟨(D.dig 2 (dn)).toArray⟩ : ByteArray).data.toList = D.dig 2 (dn) by simp)
              generalize (⟨(D.dig 2 (dn)).toArray⟩ : ByteArray) = P3 at z3 l3 ⊢
              have b3 := b2.trans (c3.mono b2.size)
              go_wp2_with fail
              (with_reducible refine (refPad_any (r / 3600) 2 (y := 2) _ (by omega) (by omega) (by omega) (by omega) rfl).mono ?_); rintro e w4 ⟨rfl, c4⟩
              have z4 := mk_size 2 (r / 3600)
              have l4 := Lib.hid (show (⟨(D.dig 2 (r / 3600)).toArray⟩ : ByteArray).data.toList = D.dig 2 (r / 3600) by simp)
              generalize (⟨(D.dig 2 (r / 3600)).toArray⟩ : ByteArray) = P4 at z4 l4 ⊢
              have b4 := b3.trans (c4.mono b3.size)
              go_wp2_with fail
              (with_reducible refine (refPad_any (r / 60 % 60) 2 (y := 2) _ (by omega) (by omega) (by omega) (by omega) rfl).mono ?_); rintro e w5 ⟨rfl, c5⟩
              have z5 := mk_size 2 (r / 60 % 60)
              have l5 := Lib.hid (show (⟨(D.dig 2 (r / 60 % 60)).toArray⟩ : ByteArray).data.toList = D.dig 2 (r / 60 % 60) by simp)
              generalize (⟨(D.dig 2 (r / 60 % 60)).toArray⟩ : ByteArray) = P5 at z5 l5 ⊢
              have b5 := b4.trans (c5.mono b4.size)
              go_wp2_with fail
              (with_reducible refine (refPad_any (r % 60) 2 (y := 2) _ (by omega) (by omega) (by omega) (by omega) rfl).mono ?_); rintro e w6 ⟨rfl, c6⟩
              have z6 := mk_size 2 (r % 60)
              have l6 := Lib.hid (show (⟨(D.dig 2 (r % 60)).toArray⟩ : ByteArray).data.toList = D.dig 2 (r % 60) by simp)
              generalize (⟨(D.dig 2 (r % 60)).toArray⟩ : ByteArray) = P6 at z6 l6 ⊢
              have b6 := b5.trans (c6.mono b5.size)
              have hcell : w6.cell? ⟨w.heap.size, 1, none⟩ = some (.int .i64 nano) := by
                rw [b6.cell (p := ⟨w.heap.size, 1, none⟩) (by simp)]
                unfold World.cell?; rw [heap_alloc_new]; rfl
              have bZ := bA.trans (b6.mono bA.size)
              obtain ⟨S, hS⟩ : ∃ S, (P1 ++ ⟨#[45]⟩ ++ P2 ++ ⟨#[45]⟩ ++ P3 ++ ⟨#[84]⟩ ++ P4 ++ ⟨#[58]⟩ ++ P5 ++ ⟨#[58]⟩ ++ P6 : ByteArray) = S := ⟨_, rfl⟩
              have hSl := Lib.hid (show S.data.toList = D.head sec by
                rw [← hS, hhd.out]
                simp only [ByteArray.data_append, Array.toList_append, l1.out, l2.out, l3.out, l4.out, l5.out, l6.out, D.ymd, D.hms, List.append_assoc, List.cons_append, List.nil_append])
              have hSz : S.size ≤ 19 := by
                have := congrArg List.length hSl.out
                rw [D.head_length, list_len] at this
                omega
              by_cases hn : 0 < nano
              · have hfr := Lib.hid (show D.frac nano = 46 :: D.strip (D.dig 9 nano.toNat) from if_pos hn)
                have hzn : Hid (∀ j, ¬ D.dig 9 nano.toNat = List.replicate j 48) := Lib.hid (fun j => @D.zeros_no nano.toNat j (by omega) (by omega))
                go_wp2_with fail
                (with_reducible refine (refPad_any nano.toNat 9 (y := 9) _ (by omega) (by omega) (by omega) (by omega) rfl).mono ?_); rintro e w7 ⟨rfl, c7⟩
                have z7 := mk_size 9 nano.toNat
                have l7 := Lib.hid (show (⟨(D.dig 9 nano.toNat).toArray⟩ : ByteArray).data.toList = D.dig 9 nano.toNat by simp)
                generalize (⟨(D.dig 9 nano.toNat).toArray⟩ : ByteArray) = P7 at z7 l7 ⊢
                generalize D.dig 9 nano.toNat = L at *
                replace bZ := bZ.trans (c7.mono bZ.size)
                clear b1 b2 b3 b4 b5 b6 c1 c2 c3 c4 c5 c6 c7 hcell bA
                go_wp2_with fail
                clear hS
                go_loop [10] (fun v => ∃ (t : ByteArray) (j : Nat), v = .string t ∧ Hid (L = t.data.toList ++ List.replicate j 48) ∧ t.size ≤ 9) (fun v => strLen v)
                case atStart => exact ⟨P7, 0, rfl, Lib.hid (by rw [l7.out]; simp), z7⟩
                case round =>
                  obtain ⟨t, j, rfl, ht, htz⟩ := hrel
                  have h0 : t.size ≠ 0 := fun e => hzn.out j (by
                    obtain rfl : t = ByteArray.empty := ByteArray.size_eq_zero_iff.1 e
                    rw [ht.out]; rfl)
                  obtain ⟨k, hk⟩ : ∃ k, t.size = k + 1 := ⟨t.size - 1, by omega⟩
                  have hk1 : (t.size : Int) - 1 = (k : Int) := by omega
                  have hkl : k < t.size := by omega
                  have htl := Lib.hid (take_last t k hk)
                  replace hk := Lib.hid hk
                  by_cases h48 : t[k] = 48
                  · have h48n : (t[k]).toNat = 48 := by rw [h48]; rfl
                    rw [h48] at htl
                    clear h48
                    go_wp2
                    go_round
                    case rel => exact ⟨_, j + 1, rfl, Lib.hid (by rw [ht.out, htl.out, take_list]; simp [List.replicate_succ]), by simp; omega⟩
                    case measure => simp [strLen]; omega
                  · have h48n : ¬ (t[k]).toNat = 48 := fun e => h48 (UInt8.toNat_inj.1 e)
                    have hst := Lib.hid (D.strip_is (l := L) (q := t.data.toList.take k) (c := t[k]) (j := j) (by rw [← htl.out]; exact ht.out) h48)
                    rw [← htl.out] at hst
                    clear h48
                    go_wp2
                    go_ret2
                    have hh := D.text_yes hok.out (t := S ++ ⟨#[46]⟩ ++ t ++ ⟨#[90]⟩) (by
                      simp only [ByteArray.data_append, Array.toList_append, hSl.out, hfr.out, hst.out, List.append_assoc, List.cons_append, List.nil_append])
                    exact ⟨ret_text hh.1 hh.2, bZ⟩
              · have hfr := Lib.hid (show D.frac nano = [] from if_neg hn)
                clear b1 b2 b3 b4 b5 b6 c1 c2 c3 c4 c5 c6 bA
                go_wp2_with fail
                go_ret2
                have hh := D.text_yes hok.out (t := S ++ ⟨#[90]⟩) (by
                  simp only [ByteArray.data_append, Array.toList_append, hSl.out, hfr.out, List.nil_append])
                exact ⟨ret_text hh.1 hh.2, bZ⟩

namespace D
def cmp (a b c d : Int) : Int := if a < c ∨ a = c ∧ b < d then -1 else if a = c ∧ b = d then 0 else 1
theorem cmp_lt {a b c d : Int} (h : a < c ∨ a = c ∧ b < d) : cmp a b c d = -1 := if_pos h
theorem cmp_eq {a b : Int} : cmp a b a b = 0 := by unfold cmp; rw [if_neg (by omega), if_pos ⟨rfl, rfl⟩]
theorem cmp_gt {a b c d : Int} (h : c < a ∨ a = c ∧ d < b) : cmp a b c d = 1 := by unfold cmp; rw [if_neg (by omega), if_neg (by omega)]
end D

set_option maxHeartbeats 800000 in
theorem refCmp_any (a b c d : Int) (w : World) :
    Calls Tryd.prog 16 #[.agg #[.int .i64 a, .int .i64 b], .agg #[.int .i64 c, .int .i64 d]] w fun e w' => e = .returned (.int .i64 (D.cmp a b c d)) ∧ Below w.heap.size w w' := by
  go_enter Tryd.func16, Tryd.ntmps16
  have hc : a < c ∨ (c < a ∧ ¬ a < c ∧ ¬ a = c) ∨ (a = c ∧ b < d) ∨ (a = c ∧ d < b ∧ ¬ b < d ∧ ¬ b = d) ∨ (a = c ∧ b = d) := by omega
  rcases hc with h | ⟨h, h1, h2⟩ | ⟨rfl, h⟩ | ⟨rfl, h, h1, h2⟩ | ⟨rfl, rfl⟩
  · have hr := Lib.hid (D.cmp_lt (b := b) (d := d) (.inl h))
    go_wp2
    go_ret
    exact ⟨ret_int hr.out.symm, ((Below.refl _ _).alloc (Nat.le_refl _) _).alloc (by simp) _⟩
  · have hr := Lib.hid (D.cmp_gt (b := b) (d := d) (.inl h))
    go_wp2
    go_ret
    exact ⟨ret_int hr.out.symm, ((Below.refl _ _).alloc (Nat.le_refl _) _).alloc (by simp) _⟩
  · have hr := Lib.hid (D.cmp_lt (a := a) (c := a) (.inr ⟨rfl, h⟩))
    go_wp2
    go_ret
    exact ⟨ret_int hr.out.symm, ((Below.refl _ _).alloc (Nat.le_refl _) _).alloc (by simp) _⟩
  · have hr := Lib.hid (D.cmp_gt (a := a) (c := a) (.inr ⟨rfl, h⟩))
    go_wp2
    go_ret
    exact ⟨ret_int hr.out.symm, ((Below.refl _ _).alloc (Nat.le_refl _) _).alloc (by simp) _⟩
  · have hr := Lib.hid (D.cmp_eq (a := a) (b := b))
    go_wp2
    go_ret
    exact ⟨ret_int hr.out.symm, ((Below.refl _ _).alloc (Nat.le_refl _) _).alloc (by simp) _⟩
end Go.Proofs.YtdkephbfehlodaaDoor
