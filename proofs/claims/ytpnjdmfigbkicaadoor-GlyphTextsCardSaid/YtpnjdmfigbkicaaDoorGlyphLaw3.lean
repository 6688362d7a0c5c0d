/-
  The statements' walks: GlyphNames, GlyphLines.
-/
import Derived.Test.YtpnjdmfigbkicaaDoorGlyphLaw2
namespace Go.Proofs.YtpnjdmfigbkicaaDoor
open Go.RowKit

set_option maxRecDepth 100000 in
set_option maxHeartbeats 3200000 in
theorem names_any (s : ByteArray) (w : World) (hs : s.size ≤ maxLen) (hE : Env w) : Calls Tryd.prog 6 #[.string s] w fun e w' => e = .returned (.bool true) ∧ Below w.heap.size w w' := by
  have hsm : s.size ≤ 9223372036854775807 := hs
  go_enter Tryd.func6, Tryd.ntmps6
  go_wp2_with fail
  (with_reducible refine (awake_any _ hE).mono ?_); rintro e w1 ⟨rfl, b1⟩
  by_cases hb : 3000 < s.size
  · go_wp2
    go_ret
    exact ⟨rfl, b1⟩
  · have hsz : s.size ≤ 1000000 := by omega
    go_wp2_with fail
    (with_reducible refine (gName_any s _ hsz (hE.on b1)).mono ?_); rintro e w2 ⟨rfl, b2⟩
    have t2 := b1.trans (b2.mono b1.size)
    by_cases hk : G.name s.data.toList = 0
    · obtain ⟨e1, e2, e3⟩ := G.nm_none hk
      have hp := G.plain_no s.data.toList (.inl hk)
      rw [e1, e2, e3]
      clear e1 e2 e3 hk
      go_wp2_with fail
      (with_reducible refine (gPlain_any s _ hsz (hE.on t2)).mono ?_); rintro e w3 ⟨rfl, b3⟩
      have t3 := t2.trans (b3.mono t2.size)
      rw [hp]
      clear hp
      go_wp2
      go_ret
      exact ⟨rfl, t3⟩
    · obtain ⟨e1, e2, e3⟩ := G.nm_some rfl hk
      have hle := G.name_le s.data.toList
      rw [list_len] at hle
      have hnt := G.name_take s.data.toList hk
      have hnr := G.name_rest s.data.toList hk
      rw [← take_list] at hnt
      rw [← drop_list] at hnr
      have hz : (s.extract 0 (G.name s.data.toList)).size = G.name s.data.toList := by simp; omega
      obtain ⟨f1, f2, f3⟩ := G.nm_some hnt hk
      have g1 : (s.extract 0 (G.name s.data.toList)).extract 0 (G.name s.data.toList) = s.extract 0 (G.name s.data.toList) := by
        exact ex_whole _ _ hz
      have g2 : (s.extract 0 (G.name s.data.toList)).extract (G.name s.data.toList) (s.extract 0 (G.name s.data.toList)).size = ByteArray.empty := by
        exact ex_none _ _ (Nat.le_of_eq hz)
      have g3 : s.extract 0 (G.name s.data.toList) ++ s.extract (G.name s.data.toList) s.size = s := by
        apply bytes_eq
        rw [ByteArray.toList_data_append, take_list, drop_list, List.take_append_drop]
      have hz2 : (s.extract (G.name s.data.toList) s.size).size ≤ s.size := by simp
      rw [g1] at f1
      rw [g2] at f2
      rw [e1, e2, e3]
      clear e1 e2 e3 g1 g2 hnt
      generalize G.name s.data.toList = k at *
      generalize s.extract 0 k = n at *
      generalize s.extract k s.size = r at *
      have hne : n.toList.isEmpty = false := ne_empty (by omega)
      have hnz : n.size ≤ 1000000 := by omega
      have hrz : r.size ≤ maxLen := by unfold maxLen; omega
      subst g3
      clear hz hsz hs hsm hb hle
      go_wp2_with fail
      (with_reducible refine (gName_any n _ hnz (hE.on t2)).mono ?_); rintro e w3 ⟨rfl, b3⟩
      have t3 := t2.trans (b3.mono t2.size)
      rw [f1, f2, f3]
      clear f1 f2 f3
      go_wp2_with fail
      (with_reducible refine (refFirst_any r _ hrz).mono ?_); rintro e w4 ⟨rfl, rfl⟩
      generalize G.first r.data.toList = q at *
      obtain ⟨c, m⟩ := q
      dsimp only at *
      by_cases hm : m = 0
      · subst hm
        clear hnr
        go_wp2
        go_ret
        exact ⟨rfl, t3⟩
      · have hp := hnr.resolve_left hm
        go_wp2_with fail
        (with_reducible refine (gPart_any _ _ (hE.on t3)).mono ?_); rintro e w5 ⟨rfl, b5⟩
        have t5 := t3.trans (b5.mono t3.size)
        rw [hp]
        clear hp hnr
        go_wp2
        go_ret
        exact ⟨rfl, t5⟩

theorem getLast_of (s : ByteArray) (h : 0 < s.size) : s.data.toList.getLast? = some (s[s.size - 1]) := by
  rw [List.getLast?_eq_getElem?, list_len, List.getElem?_eq_getElem (by rw [list_len]; omega)]
  rfl
theorem head_of (s : ByteArray) (h : 0 < s.size) : s.data.toList.head? = some (s[0]) := by
  rw [List.head?_eq_getElem?, List.getElem?_eq_getElem (by rw [list_len]; omega)]
  rfl

set_option maxRecDepth 100000 in
set_option maxHeartbeats 3200000 in
theorem lines_any (s t : ByteArray) (w : World) (hs : s.size ≤ maxLen) (ht : t.size ≤ maxLen) (hE : Env w) : Calls Tryd.prog 7 #[.string s, .string t] w fun e w' => e = .returned (.bool true) ∧ Below w.heap.size w w' := by
  have hsm : s.size ≤ 9223372036854775807 := hs
  have htm : t.size ≤ 9223372036854775807 := ht
  go_enter Tryd.func7, Tryd.ntmps7
  go_wp2_with fail
  (with_reducible refine (awake_any _ hE).mono ?_); rintro e w1 ⟨rfl, b1⟩
  by_cases hb : 3000 < s.size
  · go_wp2
    go_ret
    exact ⟨rfl, b1⟩
  by_cases hb2 : 3000 < t.size
  · go_wp2
    go_ret
    exact ⟨rfl, b1⟩
  have hsz : s.size ≤ 1000000 := by omega
  have htz : t.size ≤ 1000000 := by omega
  go_wp2_with fail
  (with_reducible refine (gLines_any s _ hsz (hE.on b1)).mono ?_); rintro e w2 ⟨rfl, b2⟩
  have t2 := b1.trans (b2.mono b1.size)
  obtain ⟨a, ha⟩ : ∃ a : ByteArray, a = ⟨(G.lines s.data.toList).toArray⟩ := ⟨_, rfl⟩
  have hal : a.data.toList = G.lines s.data.toList := by rw [ha]
  have haz : a.size ≤ s.size := by rw [size_list a _ hal, ← list_len s]; exact G.lines_length _
  have h13 : ∀ j (h : j < a.size), (a[j]).toNat ≠ 13 := fun j h e => by
    refine G.lines_no13 s.data.toList a[j] ?_ (byte_is (c := 13) e)
    rw [← hal]
    exact List.getElem_mem (by rw [list_len]; exact h)
  have hll : (⟨(G.lines a.data.toList).toArray⟩ : ByteArray) = a := by rw [hal, G.lines_lines, ← ha]
  have hap := G.lines_append s.data.toList t.data.toList
  rw [← hal] at hap
  rw [← ha]
  clear ha hal
  have hap := Lib.hid hap
  go_wp2_with fail
  go_loop [7] (fun i => ∃ k : Nat, k ≤ a.size ∧ i = .int .i64 k) (fun i => a.size - (intOf i).toNat)
  case atStart => exact ⟨0, Nat.zero_le _, rfl⟩
  case round =>
    obtain ⟨k, hk, rfl⟩ := hrel
    by_cases hlt : k < a.size
    · have h1 := h13 k hlt
      have h2 : ¬ ((a[k]).toNat : Int) = 13 := by omega
      clear h13 hll
      go_wp2
      go_round
      case rel => exact ⟨k + 1, by omega, by go_num⟩
      case measure => simp [intOf]; omega
    · clear h13
      go_wp2_with fail
      (with_reducible refine (gLines_any a _ (by omega) (hE.on t2)).mono ?_); rintro e w3 ⟨rfl, b3⟩
      have t3 := t2.trans (b3.mono t2.size)
      rw [hll]
      clear hll hlt hk
      have hsum : s.size + t.size ≤ 1000000 := by omega
      by_cases hmid : s.data.toList.getLast? = some 13 ∧ t.data.toList.head? = some 10
      · obtain ⟨m1, m2⟩ := hmid
        have s0 : 0 < s.size := by
          rw [Nat.pos_iff_ne_zero]
          intro e
          obtain rfl : s = ByteArray.empty := ByteArray.size_eq_zero_iff.1 e
          cases m1
        have u0 : 0 < t.size := by
          rw [Nat.pos_iff_ne_zero]
          intro e
          obtain rfl : t = ByteArray.empty := ByteArray.size_eq_zero_iff.1 e
          cases m2
        rw [getLast_of s s0] at m1
        rw [head_of t u0] at m2
        have m3 : (s[s.size - 1]).toNat = 13 := by rw [Option.some.inj m1]; rfl
        have m4 : (t[0]).toNat = 10 := by rw [Option.some.inj m2]; rfl
        have n1 := ne_empty s0
        have n2 := ne_empty u0
        clear m1 m2 hap
        go_wp2
        all_goals first
          | (exfalso; omega)
          | (go_ret; exact ⟨rfl, t3⟩)
      · have hcat : (⟨(G.lines (s ++ t).data.toList).toArray⟩ : ByteArray) = a ++ ⟨(G.lines t.data.toList).toArray⟩ := by
          apply bytes_eq
          rw [ByteArray.toList_data_append, ByteArray.toList_data_append]
          exact hap.out hmid
        have hlt2 := G.lines_length t.data.toList
        rw [list_len] at hlt2
        have hlz : (⟨(G.lines t.data.toList).toArray⟩ : ByteArray).size ≤ t.size := hlt2
        clear hap hlt2
        by_cases s0 : s.size = 0
        · have n0 : s.toList.isEmpty = true := by
            obtain rfl : s = ByteArray.empty := ByteArray.size_eq_zero_iff.1 s0
            rw [ByteArray.toList_eq]; rfl
          clear hmid
          go_wp2_with fail
          (with_reducible refine (gLines_any (s ++ t) _ (by simp; omega) (hE.on t3)).mono ?_); rintro e w4 ⟨rfl, b4⟩
          have t4 := t3.trans (b4.mono t3.size)
          rw [hcat]
          go_wp2_with fail
          (with_reducible refine (gLines_any t _ htz (hE.on t4)).mono ?_); rintro e w5 ⟨rfl, b5⟩
          have t5 := t4.trans (b5.mono t4.size)
          go_wp2
          go_ret
          exact ⟨rfl, t5⟩
        have n1 := ne_empty (s := s) (by omega)
        have g1 := getLast_of s (by omega)
        by_cases m1 : (s[s.size - 1]).toNat = 13
        · by_cases u0 : t.size = 0
          · have n0 : t.toList.isEmpty = true := by
              obtain rfl : t = ByteArray.empty := ByteArray.size_eq_zero_iff.1 u0
              rw [ByteArray.toList_eq]; rfl
            clear hmid g1
            go_wp2_with fail
            (with_reducible refine (gLines_any (s ++ t) _ (by simp; omega) (hE.on t3)).mono ?_); rintro e w4 ⟨rfl, b4⟩
            have t4 := t3.trans (b4.mono t3.size)
            rw [hcat]
            go_wp2_with fail
            (with_reducible refine (gLines_any t _ htz (hE.on t4)).mono ?_); rintro e w5 ⟨rfl, b5⟩
            have t5 := t4.trans (b5.mono t4.size)
            go_wp2
            go_ret
            exact ⟨rfl, t5⟩
          · have n2 := ne_empty (s := t) (by omega)
            have g2 := head_of t (by omega)
            by_cases m2 : (t[0]).toNat = 10
            · exact absurd ⟨by rw [g1]; exact congrArg some (byte_is (c := 13) m1), by rw [g2]; exact congrArg some (byte_is (c := 10) m2)⟩ hmid
            · have m3 : ¬ ((t[0]).toNat : Int) = 10 := by omega
              clear hmid g1 g2
              go_wp2_with fail
              (with_reducible refine (gLines_any (s ++ t) _ (by simp; omega) (hE.on t3)).mono ?_); rintro e w4 ⟨rfl, b4⟩
              have t4 := t3.trans (b4.mono t3.size)
              rw [hcat]
              go_wp2_with fail
              (with_reducible refine (gLines_any t _ htz (hE.on t4)).mono ?_); rintro e w5 ⟨rfl, b5⟩
              have t5 := t4.trans (b5.mono t4.size)
              go_wp2
              go_ret
              exact ⟨rfl, t5⟩
        · have m3 : ¬ ((s[s.size - 1]).toNat : Int) = 13 := by omega
          clear hmid g1
          go_wp2_with fail
          (with_reducible refine (gLines_any (s ++ t) _ (by simp; omega) (hE.on t3)).mono ?_); rintro e w4 ⟨rfl, b4⟩
          have t4 := t3.trans (b4.mono t3.size)
          rw [hcat]
          go_wp2_with fail
          (with_reducible refine (gLines_any t _ htz (hE.on t4)).mono ?_); rintro e w5 ⟨rfl, b5⟩
          have t5 := t4.trans (b5.mono t4.size)
          go_wp2
          go_ret
          exact ⟨rfl, t5⟩
end Go.Proofs.YtpnjdmfigbkicaaDoor
