/-
  What the document's own word of the code point at a text's head comes to: contract of First.
  What the document's own words of texts come to: contracts of Check, Name, Plain.
  What the document's own words of texts come to: contracts of Plain, Lines.
  What the packages' variables hold that the library's functions read: some number (the library's bound of a search).
  What the document's own smallest words of tokens come to: contracts of begins, find, Skip, Blank.
  The calendar, in plain Lean: days from the first of January 1970 by a closed form; they rise with year, month and day; each day is one of them.
  What the document's own words of the calendar come to: contracts of leap, days, since.
  What the document's own words of the calendar come to: the days since 1970 (since), five loops.
-/
import Derived.Test.YtbaclacfadkjdaaGreatDoorG04
import Derived.Test.YtbaclacfadkjdaaGreatDoorG01
import Derived.Lib.Hide
import Derived.BigQuiet
namespace Go.Proofs.YtbaclacfadkjdaaGreatDoor
open Go.RowKit
set_option maxRecDepth 100000 in
set_option maxHeartbeats 3200000 in
theorem refFirst_any (s : ByteArray) (w : World) (hs : s.size ≤ maxLen) :
    Calls Tryz.prog 118 #[.string s] w fun e w' => e = .returned (.tuple #[.int .i64 ((G.first s.data.toList).1 : Int), .int .i64 ((G.first s.data.toList).2 : Int)]) ∧ w = w' := by
  unfold maxLen at hs
  have hlen : s.data.toList.length = s.size := by simp
  by_cases h1 : s.size = 0
  · obtain rfl : s = ByteArray.empty := ByteArray.size_eq_zero_iff.1 h1
    clear hlen
    go_enter Tryz.func118, Tryz.ntmps118
    go_wp2
    go_ret2
    exact ⟨rfl, rfl⟩
  have h0 : 0 < s.size := by omega
  have hne : s.toList.isEmpty = false := by
    rw [List.isEmpty_eq_false_iff]; intro h
    rw [ByteArray.toList_eq] at h
    exact lst_ne h0 h
  have hF := G.first_N s.data.toList (lst_ne h0)
  rw [hlen, getD_of s 0 h0] at hF
  generalize hq1 : (s.data.toList.getD 1 0).toNat = q1 at hF
  generalize hq2 : (s.data.toList.getD 2 0).toNat = q2 at hF
  generalize hq3 : (s.data.toList.getD 3 0).toNat = q3 at hF
  have g1 : (h : 1 < s.size) → (s[1]).toNat = q1 := fun h => by rw [← hq1, getD_of s 1 h]
  have g2 : (h : 2 < s.size) → (s[2]).toNat = q2 := fun h => by rw [← hq2, getD_of s 2 h]
  have g3 : (h : 3 < s.size) → (s[3]).toNat = q3 := fun h => by rw [← hq3, getD_of s 3 h]
  have l1 : q1 < 256 := by rw [← hq1]; exact UInt8.toNat_lt _
  have l2 : q2 < 256 := by rw [← hq2]; exact UInt8.toNat_lt _
  have l3 : q3 < 256 := by rw [← hq3]; exact UInt8.toNat_lt _
  have l0 := (s[0]).toNat_lt
  generalize hb0 : (s[0]).toNat = b0 at hF l0
  clear hq1 hq2 hq3 hlen
  replace hF := Lib.hid hF
  by_cases ha : b0 < 128
  · have hr := Lib.hid (hF.out.trans (G.firstN_ascii ha))
    clear g1 g2 g3
    go_enter Tryz.func118, Tryz.ntmps118
    go_wp2_with fail
    go_ret2
    exact ⟨ret_two hr.out rfl rfl, rfl⟩
  by_cases hbad : b0 < 192 ∨ 248 ≤ b0
  · have hr := Lib.hid (hF.out.trans (G.firstN_bad (by omega) hbad l0))
    clear g1 g2 g3
    go_enter Tryz.func118, Tryz.ntmps118
    go_wp2
    all_goals first
      | (exfalso; omega)
      | (go_ret2; exact ⟨ret_two hr.out rfl rfl, rfl⟩)
  by_cases h2 : b0 < 224
  · have hT := Lib.hid (hF.out.trans (G.firstN_two (by omega) h2 l1))
    by_cases hn : s.size < 2
    · have hr := Lib.hid (hT.out.trans (if_neg (by omega)))
      clear hT g1 g2 g3
      go_enter Tryz.func118, Tryz.ntmps118
      go_wp2
      all_goals first
        | (exfalso; omega)
        | (go_ret2; exact ⟨ret_two hr.out (by omega) rfl, rfl⟩)
    replace g1 := g1 (by omega)
    clear g2 g3
    by_cases hc1 : ¬ (128 ≤ q1 ∧ q1 ≤ 191)
    · have hr := Lib.hid (hT.out.trans (if_neg (by omega)))
      clear hT
      go_enter Tryz.func118, Tryz.ntmps118
      go_wp2_with fail
      refine wp_loop_rounds 1 ?_
      rw [rounds_succ]
      go_wp2
      all_goals first
        | (exfalso; omega)
        | (go_ret2; exact ⟨ret_two hr.out (by omega) rfl, rfl⟩)
    by_cases hv : 128 ≤ (b0 - 192) * 64 + (q1 - 128)
    · have hr := Lib.hid (hT.out.trans (if_pos (by omega)))
      clear hT
      go_enter Tryz.func118, Tryz.ntmps118
      go_wp2_with fail
      refine wp_loop_rounds 2 ?_
      rw [rounds_succ]
      go_wp2
      rw [rounds_succ]
      go_wp2
      all_goals first
        | (exfalso; omega)
        | (go_ret2; exact ⟨ret_two hr.out (by omega) rfl, rfl⟩)
    · have hr := Lib.hid (hT.out.trans (if_neg (by omega)))
      clear hT
      go_enter Tryz.func118, Tryz.ntmps118
      go_wp2_with fail
      refine wp_loop_rounds 2 ?_
      rw [rounds_succ]
      go_wp2
      rw [rounds_succ]
      go_wp2
      all_goals first
        | (exfalso; omega)
        | (go_ret2; exact ⟨ret_two hr.out (by omega) rfl, rfl⟩)
  by_cases h3 : b0 < 240
  · have hT := Lib.hid (hF.out.trans (G.firstN_three (by omega) h3 l1 l2))
    by_cases hn : s.size < 3
    · have hr := Lib.hid (hT.out.trans (if_neg (by omega)))
      clear hT g1 g2 g3
      go_enter Tryz.func118, Tryz.ntmps118
      go_wp2
      all_goals first
        | (exfalso; omega)
        | (go_ret2; exact ⟨ret_two hr.out (by omega) rfl, rfl⟩)
    replace g1 := g1 (by omega)
    replace g2 := g2 (by omega)
    clear g3
    by_cases hc1 : ¬ (128 ≤ q1 ∧ q1 ≤ 191)
    · have hr := Lib.hid (hT.out.trans (if_neg (by omega)))
      clear hT
      go_enter Tryz.func118, Tryz.ntmps118
      go_wp2_with fail
      refine wp_loop_rounds 1 ?_
      rw [rounds_succ]
      go_wp2
      all_goals first
        | (exfalso; omega)
        | (go_ret2; exact ⟨ret_two hr.out (by omega) rfl, rfl⟩)
    by_cases hc2 : ¬ (128 ≤ q2 ∧ q2 ≤ 191)
    · have hr := Lib.hid (hT.out.trans (if_neg (by omega)))
      clear hT
      go_enter Tryz.func118, Tryz.ntmps118
      go_wp2_with fail
      refine wp_loop_rounds 2 ?_
      rw [rounds_succ]
      go_wp2
      rw [rounds_succ]
      go_wp2
      all_goals first
        | (exfalso; omega)
        | (go_ret2; exact ⟨ret_two hr.out (by omega) rfl, rfl⟩)
    by_cases hv : 2048 ≤ ((b0 - 224) * 64 + (q1 - 128)) * 64 + (q2 - 128) ∧ (((b0 - 224) * 64 + (q1 - 128)) * 64 + (q2 - 128) < 55296 ∨ 57344 ≤ ((b0 - 224) * 64 + (q1 - 128)) * 64 + (q2 - 128))
    · have hr := Lib.hid (hT.out.trans (if_pos (by omega)))
      clear hT
      go_enter Tryz.func118, Tryz.ntmps118
      go_wp2_with fail
      refine wp_loop_rounds 3 ?_
      rw [rounds_succ]
      go_wp2
      rw [rounds_succ]
      go_wp2
      rw [rounds_succ]
      go_wp2
      all_goals first
        | (exfalso; omega)
        | (go_ret2; exact ⟨ret_two hr.out (by omega) rfl, rfl⟩)
    · have hr := Lib.hid (hT.out.trans (if_neg (by omega)))
      clear hT
      go_enter Tryz.func118, Tryz.ntmps118
      go_wp2_with fail
      refine wp_loop_rounds 3 ?_
      rw [rounds_succ]
      go_wp2
      rw [rounds_succ]
      go_wp2
      rw [rounds_succ]
      go_wp2
      all_goals first
        | (exfalso; omega)
        | (go_ret2; exact ⟨ret_two hr.out (by omega) rfl, rfl⟩)
  have hT := Lib.hid (hF.out.trans (G.firstN_four (by omega) (by omega) l1 l2 l3))
  by_cases hn : s.size < 4
  · have hr := Lib.hid (hT.out.trans (if_neg (by omega)))
    clear hT g1 g2 g3
    go_enter Tryz.func118, Tryz.ntmps118
    go_wp2
    all_goals first
      | (exfalso; omega)
      | (go_ret2; exact ⟨ret_two hr.out (by omega) rfl, rfl⟩)
  replace g1 := g1 (by omega)
  replace g2 := g2 (by omega)
  replace g3 := g3 (by omega)
  by_cases hc1 : ¬ (128 ≤ q1 ∧ q1 ≤ 191)
  · have hr := Lib.hid (hT.out.trans (if_neg (by omega)))
    clear hT
    go_enter Tryz.func118, Tryz.ntmps118
    go_wp2_with fail
    refine wp_loop_rounds 1 ?_
    rw [rounds_succ]
    go_wp2
    all_goals first
      | (exfalso; omega)
      | (go_ret2; exact ⟨ret_two hr.out (by omega) rfl, rfl⟩)
  by_cases hc2 : ¬ (128 ≤ q2 ∧ q2 ≤ 191)
  · have hr := Lib.hid (hT.out.trans (if_neg (by omega)))
    clear hT
    go_enter Tryz.func118, Tryz.ntmps118
    go_wp2_with fail
    refine wp_loop_rounds 2 ?_
    rw [rounds_succ]
    go_wp2
    rw [rounds_succ]
    go_wp2
    all_goals first
      | (exfalso; omega)
      | (go_ret2; exact ⟨ret_two hr.out (by omega) rfl, rfl⟩)
  by_cases hc3 : ¬ (128 ≤ q3 ∧ q3 ≤ 191)
  · have hr := Lib.hid (hT.out.trans (if_neg (by omega)))
    clear hT
    go_enter Tryz.func118, Tryz.ntmps118
    go_wp2_with fail
    refine wp_loop_rounds 3 ?_
    rw [rounds_succ]
    go_wp2
    rw [rounds_succ]
    go_wp2
    rw [rounds_succ]
    go_wp2
    all_goals first
      | (exfalso; omega)
      | (go_ret2; exact ⟨ret_two hr.out (by omega) rfl, rfl⟩)
  by_cases hv : 65536 ≤ (((b0 - 240) * 64 + (q1 - 128)) * 64 + (q2 - 128)) * 64 + (q3 - 128) ∧ (((b0 - 240) * 64 + (q1 - 128)) * 64 + (q2 - 128)) * 64 + (q3 - 128) ≤ 1114111
  · have hr := Lib.hid (hT.out.trans (if_pos (by omega)))
    clear hT
    go_enter Tryz.func118, Tryz.ntmps118
    go_wp2_with fail
    refine wp_loop_rounds 4 ?_
    rw [rounds_succ]
    go_wp2
    rw [rounds_succ]
    go_wp2
    rw [rounds_succ]
    go_wp2
    rw [rounds_succ]
    go_wp2
    all_goals first
      | (exfalso; omega)
      | (go_ret2; exact ⟨ret_two hr.out (by omega) rfl, rfl⟩)
  · have hr := Lib.hid (hT.out.trans (if_neg (by omega)))
    clear hT
    go_enter Tryz.func118, Tryz.ntmps118
    go_wp2_with fail
    refine wp_loop_rounds 4 ?_
    rw [rounds_succ]
    go_wp2
    rw [rounds_succ]
    go_wp2
    rw [rounds_succ]
    go_wp2
    rw [rounds_succ]
    go_wp2
    all_goals first
      | (exfalso; omega)
      | (go_ret2; exact ⟨ret_two hr.out (by omega) rfl, rfl⟩)
end Go.Proofs.YtbaclacfadkjdaaGreatDoor
namespace Go.Proofs.YtbaclacfadkjdaaGreatDoor
open Go.RowKit
namespace G
def checkN (l : List UInt8) : Int := if check l = true then 0 else 50
theorem check_stop (l : List UInt8) (hl : l ≠ []) (h : (first l).2 = 0 ∨ char (first l).1 = false) : check l = false := by
  unfold check
  rw [span_stop char l h]
  have := List.length_pos_iff.2 hl
  rw [decide_eq_false_iff_not]; omega
theorem checkN_stop (l : List UInt8) (hl : l ≠ []) (h : (first l).2 = 0 ∨ char (first l).1 = false) : checkN l = 50 := by
  unfold checkN; rw [check_stop l hl h]; rfl
theorem check_step (l : List UInt8) (h0 : (first l).2 ≠ 0) (hp : char (first l).1 = true) : check (l.drop (first l).2) = check l := by
  unfold check
  rw [span_step char l h0 hp, List.length_drop]
  have := first_le l
  rw [Bool.eq_iff_iff, decide_eq_true_eq, decide_eq_true_eq]
  omega
theorem checkN_step (l : List UInt8) (h0 : (first l).2 ≠ 0) (hp : char (first l).1 = true) : checkN (l.drop (first l).2) = checkN l := by
  unfold checkN; rw [check_step l h0 hp]
end G
theorem first_size (s : ByteArray) : (G.first s.data.toList).2 ≤ s.size := by
  have := G.first_le s.data.toList
  rw [list_len] at this; exact this
set_option maxRecDepth 100000 in
set_option maxHeartbeats 800000 in
theorem refCheck_any (s : ByteArray) (w : World) (hs : s.size ≤ maxLen) :
    Calls Tryz.prog 89 #[.string s] w fun e w' => e = .returned (.int .i64 (G.checkN s.data.toList)) ∧ Below w.heap.size w w' := by
  go_enter Tryz.func89, Tryz.ntmps89
  go_wp2_with fail
  go_loopw [0, 3, 4] (fun v c n w' => ∃ t : ByteArray, v = .string t ∧ t.size ≤ s.size ∧ Hid (G.checkN t.data.toList = G.checkN s.data.toList) ∧ Below w.heap.size w w') (fun v _ _ _ => strLen v)
  case atStart => exact ⟨s, rfl, Nat.le_refl _, Lib.hid rfl, Below.refl _ _⟩
  case round =>
    obtain ⟨t, rfl, ht, hc, bw⟩ := hrel
    have htm : t.size ≤ maxLen := by omega
    have hsm : s.size ≤ 9223372036854775807 := hs
    by_cases h0 : t.size = 0
    · obtain rfl : t = ByteArray.empty := ByteArray.size_eq_zero_iff.1 h0
      go_wp2
      go_ret
      exact ⟨ret_int (by rw [← hc.out]; rfl), bw⟩
    · have hne := lst_ne (s := t) (by omega)
      have hle := first_size t
      go_wp2_with fail
      (with_reducible refine (refFirst_any t _ htm).mono ?_); rintro e w1 ⟨rfl, rfl⟩
      have hstop := Lib.hid (G.checkN_stop t.data.toList hne)
      have hstep := Lib.hid (G.checkN_step t.data.toList)
      have hdl := Lib.hid (drop_list t (G.first t.data.toList).2)
      generalize G.first t.data.toList = r at *
      obtain ⟨c, n⟩ := r
      dsimp only at *
      clear hne
      by_cases hn : n = 0
      · have hr := Lib.hid (hstop.out (.inl hn))
        subst hn
        go_wp2
        go_ret
        exact ⟨ret_int (by rw [← hc.out, hr.out]), bw⟩
      · go_wp2_with fail
        (with_reducible refine (refChar_any c _).mono ?_); rintro e w2 ⟨rfl, b2⟩
        have b3 := bw.trans (b2.mono bw.size)
        cases hch : G.char c
        · have hr := Lib.hid (hstop.out (.inr hch))
          go_wp2
          go_ret
          exact ⟨ret_int (by rw [← hc.out, hr.out]), b3⟩
        · have hr := Lib.hid (hstep.out hn hch)
          go_wp2
          go_roundw
          case rel => exact ⟨_, rfl, by simp; omega, Lib.hid (by rw [← hc.out, ← hr.out, hdl.out]), b3⟩
          case measure => simp [strLen]; omega
namespace G
end G
end Go.Proofs.YtbaclacfadkjdaaGreatDoor
namespace Go.Proofs.YtbaclacfadkjdaaGreatDoor
open Go.RowKit
namespace G
end G
end Go.Proofs.YtbaclacfadkjdaaGreatDoor
namespace Go.Proofs.YtbaclacfadkjdaaGreatDoor
open Go.RowKit
def EnvAt (w : World) : Prop := ∃ m, w.cell? ⟨0, 0, none⟩ = some (.int .i64 m)
def Env (w : World) : Prop := ∀ w', Below w.heap.size w w' → EnvAt w'
theorem Env.at {w : World} (h : Env w) : EnvAt w := h w (Below.refl _ _)
theorem Env.most {w : World} (h : Env w) : ∃ m, w.cell? ⟨0, 0, none⟩ = some (.int .i64 m) := h.at
theorem Env.on {w w1 : World} (h : Env w) (b : Below w.heap.size w w1) : Env w1 := fun w' h' => h w' (b.trans (h'.mono b.size))
theorem env_of {W : World} (h : EnvAt W) : Env W := by
  intro w' hb
  obtain ⟨m, hm⟩ := h
  exact ⟨m, (hb.cell (World.block_lt_of_cell? W _ hm)).trans hm⟩
end Go.Proofs.YtbaclacfadkjdaaGreatDoor
namespace Go.Proofs.YtbaclacfadkjdaaGreatDoor
open Go.RowKit
namespace T
end T
def Rt.skB (s : ByteArray) : ByteArray := ⟨(T.skip s.data.toList).toArray⟩
theorem Rt.skB_list (s : ByteArray) : (Rt.skB s).data.toList = T.skip s.data.toList := rfl
theorem Rt.skB_size (s : ByteArray) : (Rt.skB s).size ≤ s.size := by
  have := T.skip_le s.data.toList
  rw [← Rt.skB_list, list_len, list_len] at this
  exact this
set_option maxHeartbeats 800000 in
theorem refSkip5_any (s : ByteArray) (w : World) (hs : s.size ≤ maxLen) :
    Calls Tryz.prog 64 #[.string s] w fun e w' => e = .returned (.string (Rt.skB s)) ∧ w = w' := by
  have hsm : s.size ≤ 9223372036854775807 := hs
  go_enter Tryz.func64, Tryz.ntmps64
  go_wp2_with fail
  go_loop [0] (fun v => ∃ t : ByteArray, v = .string t ∧ t.size ≤ s.size ∧ Hid (Rt.skB s = Rt.skB t)) (fun v => strLen v)
  case atStart => exact ⟨s, rfl, Nat.le_refl _, Lib.hid rfl⟩
  case round =>
    obtain ⟨t, rfl, ht, hr⟩ := hrel
    by_cases h0 : t.size = 0
    · obtain rfl : t = ByteArray.empty := ByteArray.size_eq_zero_iff.1 h0
      go_wp2
      go_ret
      exact ⟨ret_str (by rw [hr.out]; rfl), rfl⟩
    · have h1 : 0 < t.size := by omega
      have hc := drop_cons t 0 h1
      rw [List.drop_zero] at hc
      have hb8 := (t[0]).toNat_lt
      have hsk := T.skip_head t[0] (t.data.toList.drop 1)
      rw [← hc] at hsk
      cases hb : G.space ((t[0]).toNat : Int)
      · have hr2 : Hid (Rt.skB s = t) := Lib.hid (by
          rw [hr.out]
          apply bytes_eq
          rw [Rt.skB_list, hsk, hb]; rfl)
        replace hb := Lib.hid hb
        clear hsk hc
        go_wp2_with fail
        (with_reducible refine (refSpace_any ((t[0]).toNat : Int) _).mono ?_); rintro e w1 ⟨rfl, rfl⟩
        rw [hb.out]
        go_wp2
        go_ret
        exact ⟨ret_str hr2.out.symm, rfl⟩
      · have hr2 : Hid (Rt.skB s = Rt.skB (t.extract 1 t.size)) := Lib.hid (by
          rw [hr.out]
          apply bytes_eq
          rw [Rt.skB_list, Rt.skB_list, drop_list, hsk, hb]; rfl)
        replace hb := Lib.hid hb
        clear hsk hc
        go_wp2_with fail
        (with_reducible refine (refSpace_any ((t[0]).toNat : Int) _).mono ?_); rintro e w1 ⟨rfl, rfl⟩
        rw [hb.out]
        go_wp2
        go_round
        case rel => exact ⟨_, rfl, by simp; omega, hr2⟩
        case measure => simp [strLen]; omega
def T.blankL (l : List UInt8) : Bool := l.all fun b => G.space (b.toNat : Int)
set_option maxHeartbeats 800000 in
theorem refBlank5_any (s : ByteArray) (w : World) (hs : s.size ≤ maxLen) :
    Calls Tryz.prog 87 #[.string s] w fun e w' => e = .returned (.bool (T.blankL s.data.toList)) ∧ w = w' := by
  have hsm : s.size ≤ 9223372036854775807 := hs
  go_enter Tryz.func87, Tryz.ntmps87
  go_wp2_with fail
  go_loop [3] (fun i => ∃ k : Nat, k ≤ s.size ∧ i = .int .i64 (k : Int) ∧ Hid ((s.data.toList.take k).all (fun b => G.space (b.toNat : Int)) = true)) (fun i => s.size - (intOf i).toNat)
  case atStart => exact ⟨0, Nat.zero_le _, rfl, Lib.hid (by simp)⟩
  case round =>
    obtain ⟨k, hk, rfl, hl⟩ := hrel
    by_cases hlt : k < s.size
    · have hks : k < s.data.toList.length := by rw [list_len]; exact hlt
      have hst := all_take (fun b => G.space (b.toNat : Int)) s.data.toList k hks
      rw [hl.out, Bool.true_and] at hst
      have hgk : s.data.toList[k] = s[k] := rfl
      have hb8 := (s[k]).toNat_lt
      rw [hgk] at hst
      cases hb : G.space ((s[k]).toNat : Int)
      · have hr := Lib.hid (show T.blankL s.data.toList = false from all_not (fun b => G.space (b.toNat : Int)) s.data.toList k hks hb)
        replace hb := Lib.hid hb
        clear hst hl hgk
        go_wp2_with fail
        (with_reducible refine (refSpace_any ((s[k]).toNat : Int) _).mono ?_); rintro e w1 ⟨rfl, rfl⟩
        rw [hb.out]
        go_wp2
        go_ret
        exact ⟨ret_bool hr.out.symm, rfl⟩
      · rw [hb] at hst
        replace hb := Lib.hid hb
        replace hst := Lib.hid hst
        clear hl hgk
        go_wp2_with fail
        (with_reducible refine (refSpace_any ((s[k]).toNat : Int) _).mono ?_); rintro e w1 ⟨rfl, rfl⟩
        rw [hb.out]
        go_wp2
        go_round
        case rel => exact ⟨k + 1, by omega, by go_num, hst⟩
        case measure => simp [intOf]; omega
    · have hfull : s.data.toList.take k = s.data.toList := List.take_of_length_le (by rw [list_len]; omega)
      rw [hfull] at hl
      clear hfull
      go_wp2
      go_ret
      exact ⟨ret_bool (show true = T.blankL s.data.toList from hl.out.symm), rfl⟩
end Go.Proofs.YtbaclacfadkjdaaGreatDoor
namespace Go.Proofs.YtbaclacfadkjdaaGreatDoor
namespace D
def leap (y : Int) : Bool := decide (y % 4 = 0) && (decide (y % 100 ≠ 0) || decide (y % 400 = 0))
def lp (y : Int) : Int := if leap y = true then 1 else 0
def mlen (y m : Int) : Int := if m = 4 ∨ m = 6 ∨ m = 9 ∨ m = 11 then 30 else if m = 2 then 28 + lp y else 31
def yd (y : Int) : Int := 365 * (y - 1970) + ((y - 1) / 4 - (y - 1) / 100 + (y - 1) / 400) - 477
def md0 (m : Int) : Int :=
  if m ≤ 1 then 0 else if m = 2 then 31 else if m = 3 then 59 else if m = 4 then 90 else if m = 5 then 120 else if m = 6 then 151 else if m = 7 then 181 else if m = 8 then 212 else if m = 9 then 243
  else if m = 10 then 273 else if m = 11 then 304 else 334
def md (y m : Int) : Int := md0 m + (if 2 < m then lp y else 0)
def days (y m d : Int) : Int := yd y + md y m + d - 1
theorem lp_01 (y : Int) : 0 ≤ lp y ∧ lp y ≤ 1 := by unfold lp; split <;> omega
theorem yd_succ (y : Int) : yd (y + 1) = yd y + 365 + lp y := by
  unfold yd lp leap
  simp only [Bool.and_eq_true, Bool.or_eq_true, decide_eq_true_eq]
  split <;> omega
theorem yd_400 (y : Int) : yd (y + 400) = yd y + 146097 := by unfold yd; omega
theorem yd_1970 : yd 1970 = 0 := by decide
theorem yd_mono {y z : Int} (h : y < z) : yd y + 365 + lp y ≤ yd z := by
  obtain ⟨n, rfl⟩ : ∃ n : Nat, z = y + 1 + n := ⟨(z - y - 1).toNat, by omega⟩
  rw [← yd_succ]
  clear h
  induction n with
  | zero => simp
  | succ n ih =>
    have := yd_succ (y + 1 + n)
    have h0 := lp_01 (y + 1 + n)
    have e : y + 1 + ((n + 1 : Nat) : Int) = y + 1 + n + 1 := by omega
    rw [e]; omega
theorem md_succ (y m : Int) (h1 : 1 ≤ m) (h2 : m < 12) : md y (m + 1) = md y m + mlen y m := by
  have : m = 1 ∨ m = 2 ∨ m = 3 ∨ m = 4 ∨ m = 5 ∨ m = 6 ∨ m = 7 ∨ m = 8 ∨ m = 9 ∨ m = 10 ∨ m = 11 := by omega
  rcases this with rfl | rfl | rfl | rfl | rfl | rfl | rfl | rfl | rfl | rfl | rfl <;> simp [md, md0, mlen] <;> omega
theorem md_12 (y : Int) : md y 12 + mlen y 12 = 365 + lp y := by simp [md, md0, mlen]; omega
theorem md_1 (y : Int) : md y 1 = 0 := by simp [md, md0]
theorem mlen_le (y m : Int) : 28 ≤ mlen y m ∧ mlen y m ≤ 31 := by
  have := lp_01 y
  unfold mlen
  repeat' split
  all_goals omega
theorem md_mono (y : Int) {m k : Int} (h1 : 1 ≤ m) (h : m < k) (h2 : k ≤ 12) : md y m + mlen y m ≤ md y k := by
  obtain ⟨n, rfl⟩ : ∃ n : Nat, k = m + 1 + n := ⟨(k - m - 1).toNat, by omega⟩
  rw [← md_succ y m h1 (by omega)]
  clear h
  induction n with
  | zero => simp
  | succ n ih =>
    have := md_succ y (m + 1 + n) (by omega) (by omega)
    have h0 := mlen_le y (m + 1 + n)
    have e : m + 1 + ((n + 1 : Nat) : Int) = m + 1 + n + 1 := by omega
    rw [e]
    have := ih (by omega)
    omega
theorem md_nonneg (y : Int) {m : Int} (h1 : 1 ≤ m) (h2 : m ≤ 12) : 0 ≤ md y m := by
  by_cases h : m = 1
  · rw [h, md_1]; omega
  · have := md_mono y (m := 1) (k := m) (by omega) (by omega) h2
    have := mlen_le y 1
    rw [md_1] at *; omega
theorem md_end (y : Int) {m : Int} (h1 : 1 ≤ m) (h2 : m ≤ 12) : md y m + mlen y m ≤ 365 + lp y := by
  by_cases h : m = 12
  · rw [h, md_12]; omega
  · have := md_mono y (m := m) (k := 12) h1 (by omega) (by omega)
    have := md_12 y
    have := mlen_le y 12
    omega
structure Day (y m d : Int) : Prop where
  m1 : 1 ≤ m
  m12 : m ≤ 12
  d1 : 1 ≤ d
  dl : d ≤ mlen y m
end D
end Go.Proofs.YtbaclacfadkjdaaGreatDoor
namespace Go.Proofs.YtbaclacfadkjdaaGreatDoor
open Go.RowKit
theorem refLeap_any (y : Int) (w : World) (h0 : 0 ≤ y) :
    Calls Tryz.prog 116 #[.int .i64 y] w fun e w' => e = .returned (.bool (D.leap y)) ∧ w = w' := by
  have H : D.leap y = (decide (y % 4 = 0) && (decide (y % 100 ≠ 0) || decide (y % 400 = 0))) := rfl
  have HH := Lib.hid H
  clear H
  have e1 : y.tmod 4 = y % 4 := Int.tmod_eq_emod_of_nonneg h0
  have e2 : y.tmod 100 = y % 100 := Int.tmod_eq_emod_of_nonneg h0
  have e3 : y.tmod 400 = y % 400 := Int.tmod_eq_emod_of_nonneg h0
  generalize y % 4 = a at *
  generalize y % 100 = b at *
  generalize y % 400 = c at *
  go_enter Tryz.func116, Tryz.ntmps116
  by_cases ha : a = 0 <;> by_cases hb : b = 0 <;> by_cases hc : c = 0 <;> go_wp2 <;> go_ret <;> exact ⟨ret_bool (by rw [HH.out]; simp [ha, hb, hc]), rfl⟩
set_option maxHeartbeats 800000 in
theorem refDays_any (y m : Int) (w : World) (h0 : 0 ≤ y) (hm1 : 1 ≤ m) (hm2 : m ≤ 12) :
    Calls Tryz.prog 83 #[.int .i64 y, .int .i64 m] w fun e w' => e = .returned (.int .i64 (D.mlen y m)) ∧ w = w' := by
  have H : D.mlen y m = if m = 4 ∨ m = 6 ∨ m = 9 ∨ m = 11 then 30 else if m = 2 then 28 + D.lp y else 31 := rfl
  have HL : D.lp y = if D.leap y = true then 1 else 0 := rfl
  by_cases hm : m = 4 ∨ m = 6 ∨ m = 9 ∨ m = 11
  · rw [if_pos hm] at H
    have H := Lib.hid H
    clear HL
    go_enter Tryz.func83, Tryz.ntmps83
    rcases hm with rfl | rfl | rfl | rfl <;> go_wp2 <;> go_ret <;> exact ⟨ret_int H.out.symm, rfl⟩
  · rw [if_neg hm] at H
    have n4 : ¬ m = 4 := fun e => hm (.inl e)
    have n6 : ¬ m = 6 := fun e => hm (.inr (.inl e))
    have n9 : ¬ m = 9 := fun e => hm (.inr (.inr (.inl e)))
    have n11 : ¬ m = 11 := fun e => hm (.inr (.inr (.inr e)))
    clear hm
    go_enter Tryz.func83, Tryz.ntmps83
    by_cases h2 : m = 2
    · rw [if_pos h2] at H
      subst h2
      go_wp2_with fail
      (with_reducible refine (refLeap_any y _ h0).mono ?_); rintro e w1 ⟨rfl, rfl⟩
      cases hl : D.leap y
      · rw [hl] at HL
        have H := Lib.hid (H.trans (by rw [HL]))
        clear HL hl
        go_wp2
        go_ret
        exact ⟨ret_int H.out.symm, rfl⟩
      · rw [hl] at HL
        have H := Lib.hid (H.trans (by rw [HL]))
        clear HL hl
        go_wp2
        go_ret
        exact ⟨ret_int H.out.symm, rfl⟩
    · rw [if_neg h2] at H
      have H := Lib.hid H
      clear HL
      go_wp2
      go_ret
      exact ⟨ret_int H.out.symm, rfl⟩
end Go.Proofs.YtbaclacfadkjdaaGreatDoor
namespace Go.Proofs.YtbaclacfadkjdaaGreatDoor
open Go.RowKit
namespace D
theorem leap_mod {y z : Int} (h : y % 400 = z % 400) : leap y = leap z := by
  unfold leap
  have h1 : y % 4 = z % 4 := by omega
  have h2 : y % 100 = z % 100 := by omega
  rw [h, h1, h2]
theorem lp_mod {y z : Int} (h : y % 400 = z % 400) : lp y = lp z := by unfold lp; rw [leap_mod h]
theorem mlen_mod {y z : Int} (h : y % 400 = z % 400) (m : Int) : mlen y m = mlen z m := by unfold mlen; rw [lp_mod h]
theorem yd_bd {y : Int} (h0 : 0 ≤ y) (h1 : y ≤ 12000) : -1000000 ≤ yd y ∧ yd y ≤ 10000000 := by unfold yd; omega
theorem yd_min {k : Int} (h : k < 1970) : yd (min (k + 1) 1970) = yd (min k 1970) + 365 + lp k := by
  rw [Int.min_eq_left (by omega), Int.min_eq_left (by omega), yd_succ]
theorem yd_top {k : Int} (h : 1970 ≤ k) : yd (min k 1970) = 0 := by rw [Int.min_eq_right h, yd_1970]
theorem md_bd (y : Int) {m : Int} (h1 : 1 ≤ m) (h2 : m ≤ 12) : 0 ≤ md y m ∧ md y m ≤ 366 := by
  have a := md_nonneg y h1 h2
  have b := md_end y h1 h2
  have c := mlen_le y m
  have d := lp_01 y
  omega
theorem lp_t {y : Int} (h : leap y = true) : lp y = 1 := by unfold lp; rw [h]; rfl
theorem lp_f {y : Int} (h : leap y = false) : lp y = 0 := by unfold lp; rw [h]; rfl
end D
set_option maxRecDepth 100000 in
set_option maxHeartbeats 6400000 in
theorem refSince_any (y m d : Int) (w : World) (h0 : 0 ≤ y) (h1 : y ≤ 12000) (hm1 : 1 ≤ m) (hm2 : m ≤ 12) (hd1 : 1 ≤ d) (hd2 : d ≤ 31) :
    Calls Tryz.prog 86 #[.int .i64 y, .int .i64 m, .int .i64 d] w fun e w' => e = .returned (.int .i64 (D.days y m d)) ∧ w = w' := by
  go_enter Tryz.func86, Tryz.ntmps86
  go_wp2_with fail
  go_loop [0, 7] (fun yv nv => ∃ c n : Int, yv = .int .i64 c ∧ nv = .int .i64 n ∧ 0 ≤ c ∧ c ≤ y ∧ Hid (c % 400 = y % 400) ∧ Hid (n + D.yd c = D.yd y)) (fun yv _ => (intOf yv).toNat)
  case atStart => exact ⟨y, 0, rfl, rfl, h0, Int.le_refl _, Lib.hid rfl, Lib.hid (by omega)⟩
  case round =>
    obtain ⟨c, n, rfl, rfl, c0, c1, hc, hn⟩ := hrel
    have hnb : -11000000 ≤ n ∧ n ≤ 11000000 := by
      have a := D.yd_bd (y := c) c0 (by omega)
      have b := D.yd_bd (y := y) h0 (by omega)
      have e := hn.out
      omega
    obtain ⟨nb1, nb2⟩ := hnb
    by_cases hl : 2370 ≤ c
    · go_wp2
      go_round
      case rel => exact ⟨c - 400, n + 146097, by go_num, by go_num, by omega, by omega, Lib.hid (by have := hc.out; omega), Lib.hid (by
        have a := D.yd_400 (c - 400)
        rw [show c - 400 + 400 = c by omega] at a
        have := hn.out
        omega)⟩
      case measure => simp [intOf]; omega
    · clear nb1 nb2
      go_wp2_with fail
      go_loop [0, 7] (fun yv nv => ∃ c n : Int, yv = .int .i64 c ∧ nv = .int .i64 n ∧ 0 ≤ c ∧ c ≤ 2369 ∧ Hid (c % 400 = y % 400) ∧ Hid (n + D.yd c = D.yd y)) (fun yv _ => (2370 - intOf yv).toNat)
      case atStart => exact ⟨c, n, rfl, rfl, c0, by omega, hc, hn⟩
      case round =>
        clear c0 c1 hc hn hl
        obtain ⟨c, n, rfl, rfl, c0, c1, hc, hn⟩ := hrel
        have hnb : -11000000 ≤ n ∧ n ≤ 11000000 := by
          have a := D.yd_bd (y := c) c0 (by omega)
          have b := D.yd_bd (y := y) h0 (by omega)
          have e := hn.out
          omega
        obtain ⟨nb1, nb2⟩ := hnb
        by_cases hl : c + 400 ≤ 1970
        · go_wp2
          go_round
          case rel => exact ⟨c + 400, n - 146097, by go_num, by go_num, by omega, by omega, Lib.hid (by have := hc.out; omega), Lib.hid (by
            have a := D.yd_400 c
            have := hn.out
            omega)⟩
          case measure => simp [intOf]; omega
        · go_wp2_with fail
          go_loop [7, 8] (fun nv kv => ∃ e k : Int, nv = .int .i64 e ∧ kv = .int .i64 k ∧ 1970 ≤ k ∧ (k ≤ c ∨ k = 1970) ∧ Hid (e + D.yd c = D.yd y + D.yd k)) (fun _ kv => (2370 - intOf kv).toNat)
          case atStart => exact ⟨n, 1970, rfl, rfl, Int.le_refl _, .inr rfl, Lib.hid (by rw [D.yd_1970, hn.out]; omega)⟩
          case round =>
            clear hn nb1 nb2
            obtain ⟨n, k, rfl, rfl, k0, k1, hn⟩ := hrel
            have hnb : -21000000 ≤ n ∧ n ≤ 21000000 := by
              have a := D.yd_bd (y := c) c0 (by omega)
              have b := D.yd_bd (y := y) h0 (by omega)
              have b1 := D.yd_bd (y := k) (by omega) (by omega)
              have e := hn.out
              omega
            obtain ⟨nb1, nb2⟩ := hnb
            by_cases hk : k < c
            · go_wp2_with fail
              (with_reducible refine (refLeap_any k _ (by omega)).mono ?_); rintro e w1 ⟨rfl, rfl⟩
              have hs := Lib.hid (D.yd_succ k)
              cases hlp : D.leap k
              · have hp := Lib.hid (D.lp_f hlp)
                clear hlp
                go_wp2
                go_round
                case rel => exact ⟨n + 365, k + 1, by go_num, by go_num, by omega, .inl (by omega), Lib.hid (by rw [hs.out, hp.out]; have := hn.out; omega)⟩
                case measure => simp [intOf]; omega
              · have hp := Lib.hid (D.lp_t hlp)
                clear hlp
                go_wp2
                go_round
                case rel => exact ⟨n + 366, k + 1, by go_num, by go_num, by omega, .inl (by omega), Lib.hid (by rw [hs.out, hp.out]; have := hn.out; omega)⟩
                case measure => simp [intOf]; omega
            · go_wp2_with fail
              have hn4 : Hid (n = D.yd y - D.yd (min c 1970)) := Lib.hid (by
                have e := hn.out
                by_cases hc7 : 1970 ≤ c
                · rw [D.yd_top hc7]
                  obtain rfl : k = c := by omega
                  omega
                · rw [Int.min_eq_left (by omega)]
                  obtain rfl : k = 1970 := by omega
                  rw [D.yd_1970] at e
                  omega)
              clear hn nb1 nb2
              go_loop [7, 9] (fun nv kv => ∃ e k : Int, nv = .int .i64 e ∧ kv = .int .i64 k ∧ c ≤ k ∧ (k ≤ 1970 ∨ k = c) ∧ Hid (e = D.yd y - D.yd (min k 1970))) (fun _ kv => (1970 - intOf kv).toNat)
              case atStart => exact ⟨n, c, rfl, rfl, Int.le_refl _, .inr rfl, hn4⟩
              case round =>
                clear hn4 k0 k1 hk
                obtain ⟨n, k, rfl, rfl, k0, k1, hn⟩ := hrel
                have hnb : -21000000 ≤ n ∧ n ≤ 21000000 := by
                  have b := D.yd_bd (y := y) h0 (by omega)
                  have b1 := D.yd_bd (y := min k 1970) (by omega) (by omega)
                  have e := hn.out
                  omega
                obtain ⟨nb1, nb2⟩ := hnb
                by_cases hk : k < 1970
                · go_wp2_with fail
                  (with_reducible refine (refLeap_any k _ (by omega)).mono ?_); rintro e w1 ⟨rfl, rfl⟩
                  have hs := Lib.hid (D.yd_min hk)
                  cases hlp : D.leap k
                  · have hp := Lib.hid (D.lp_f hlp)
                    clear hlp
                    go_wp2
                    go_round
                    case rel => exact ⟨n - 365, k + 1, by go_num, by go_num, by omega, .inl (by omega), Lib.hid (by rw [hs.out, hp.out]; have := hn.out; omega)⟩
                    case measure => simp [intOf]; omega
                  · have hp := Lib.hid (D.lp_t hlp)
                    clear hlp
                    go_wp2
                    go_round
                    case rel => exact ⟨n - 366, k + 1, by go_num, by go_num, by omega, .inl (by omega), Lib.hid (by rw [hs.out, hp.out]; have := hn.out; omega)⟩
                    case measure => simp [intOf]; omega
                · go_wp2_with fail
                  have hn5 : Hid (n = D.yd y + D.md y 1) := Lib.hid (by
                    have e := hn.out
                    rw [D.yd_top (by omega)] at e
                    rw [D.md_1]
                    omega)
                  clear hn nb1 nb2
                  go_loop [7, 10] (fun nv kv => ∃ e k : Int, nv = .int .i64 e ∧ kv = .int .i64 k ∧ 1 ≤ k ∧ k ≤ m ∧ Hid (e = D.yd y + D.md y k)) (fun _ kv => (m - intOf kv).toNat)
                  case atStart => exact ⟨n, 1, rfl, rfl, Int.le_refl _, hm1, hn5⟩
                  case round =>
                    clear hn5 k0 k1 hk
                    obtain ⟨n, k, rfl, rfl, k0, k1, hn⟩ := hrel
                    have hnb : -21000000 ≤ n ∧ n ≤ 21000000 := by
                      have b := D.yd_bd (y := y) h0 (by omega)
                      have b1 := D.md_bd y (m := k) k0 (by omega)
                      have e := hn.out
                      omega
                    obtain ⟨nb1, nb2⟩ := hnb
                    by_cases hk : k < m
                    · go_wp2_with fail
                      (with_reducible refine (refDays_any c k _ c0 k0 (by omega)).mono ?_); rintro e w1 ⟨rfl, rfl⟩
                      have hs := Lib.hid (D.md_succ y k k0 (by omega))
                      have hb := D.mlen_le c k
                      have hq := Lib.hid (D.mlen_mod hc.out k)
                      generalize D.mlen c k = q at *
                      obtain ⟨q0, q1⟩ := hb
                      go_wp2
                      go_round
                      case rel => exact ⟨n + q, k + 1, by go_num, by go_num, by omega, by omega, Lib.hid (by rw [hs.out, hn.out, ← hq.out]; omega)⟩
                      case measure => simp [intOf]; omega
                    · obtain rfl : k = m := by omega
                      have hr := Lib.hid (show n + d - 1 = D.days y k d by unfold D.days; rw [hn.out])
                      clear hn hk
                      go_wp2
                      go_ret
                      exact ⟨ret_int hr.out, rfl⟩
end Go.Proofs.YtbaclacfadkjdaaGreatDoor
