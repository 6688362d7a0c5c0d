/-
  The statements' walks: EscapeBack, EscapeParts.
-/
import Derived.Test.YtddpkfdmfoehiaaDoorEscLaw
namespace Go.Proofs.YtddpkfdmfoehiaaDoor
open Go.RowKit

namespace E
theorem expand_len (attr : Bool) (s r : List UInt8) (h : expand attr s = some r) : r.length ≤ 4 * s.length := by
  induction s using expand_induct generalizing r with
  | nil => cases h; simp
  | byte c u hc ih =>
    rw [expand_byte attr c u hc] at h
    cases hu : expand attr u with
    | none => rw [hu] at h; cases h
    | some x =>
      rw [hu] at h
      cases h
      have := ih x hu
      simp only [List.length_cons]; omega
  | none u hu => rw [expand_ref, hu] at h; cases h
  | ref u n q hu ih =>
    rw [expand_ref, hu] at h
    simp only [Option.bind_some] at h
    cases hn : named n with
    | none => rw [hn] at h; cases h
    | some v =>
      rw [hn] at h
      cases hr : expand attr q with
      | none => rw [hr] at h; cases h
      | some x =>
        rw [hr] at h
        cases h
        have h1 := ih x hr
        have h2 := (named_len hn).2
        have h3 := (semi_le hu).1
        rw [h3, List.length_append, List.length_cons, List.length_append, List.length_cons]; omega

theorem expA_len (attr : Bool) (s : ByteArray) : (expA attr s).size ≤ 4 * s.size := by
  unfold expA
  cases h : expand attr s.data.toList with
  | none => simp
  | some r =>
    have := expand_len attr _ r h
    rw [list_len] at this
    exact this

theorem escape_len (attr : Bool) (l : List UInt8) : (escape attr l).length ≤ 6 * l.length := by
  induction l with
  | nil => simp [escape]
  | cons b t ih =>
    have h : (esc attr b).length ≤ 6 := by
      unfold esc
      repeat' split
      all_goals simp
    unfold escape at *
    rw [List.flatMap_cons, List.length_append, List.length_cons]; omega

theorem expE_same (s : ByteArray) : expE false s = expE true s := by
  have := expand_same s.data.toList
  unfold expE
  cases h1 : expand true s.data.toList <;> cases h2 : expand false s.data.toList <;> rw [h1, h2] at this <;> first | rfl | cases this

theorem exp_cases (attr : Bool) (s : ByteArray) : expE attr s = 60 ∨ expE attr s = 0 ∧ ∃ r, expand attr s.data.toList = some r := by
  unfold expE
  cases expand attr s.data.toList with
  | none => exact .inl rfl
  | some r => exact .inr ⟨rfl, r, rfl⟩

theorem exp_both {attr : Bool} {s t : ByteArray} (hs : expE attr s = 0) (ht : expE attr t = 0) : expA attr (s ++ t) = expA attr s ++ expA attr t ∧ expE attr (s ++ t) = 0 := by
  rcases exp_cases attr s with h | ⟨_, a, ha⟩
  · rw [h] at hs; cases hs
  rcases exp_cases attr t with h | ⟨_, b, hb⟩
  · rw [h] at ht; cases ht
  have := expand_append attr _ _ a b ha hb
  rw [← ByteArray.toList_data_append] at this
  obtain ⟨r1, r2⟩ := exp_some this
  rw [r1, r2, (exp_some ha).1, (exp_some hb).1]
  exact ⟨bytes_eq (by rw [ByteArray.toList_data_append]), rfl⟩

theorem exp_back {attr eattr : Bool} {s a : ByteArray} (h : a.data.toList = escape eattr s.data.toList) (hv : attr = true → eattr = true) : expA attr a = s ∧ expE attr a = 0 := by
  have := expand_escape attr eattr s.data.toList hv
  rw [← h] at this
  obtain ⟨r1, r2⟩ := exp_some this
  exact ⟨r1.trans (bytes_eq rfl), r2⟩
end E

set_option maxRecDepth 100000 in
set_option maxHeartbeats 6400000 in
theorem eback_any (s : ByteArray) (w : World) (hs : s.size ≤ maxLen) (hE : Env w) : Calls Tryd.prog 5 #[.string s] w fun e w' => e = .returned (.bool true) ∧ Below w.heap.size w w' := by
  have hsm : s.size ≤ 9223372036854775807 := hs
  go_enter Tryd.func5, Tryd.ntmps5
  go_wp2_with fail
  (with_reducible refine (awake_any _ hE).mono ?_); rintro e w1 ⟨rfl, t1⟩
  by_cases hb : 3000 < s.size
  · go_wp2
    go_ret
    exact ⟨rfl, t1⟩
  have hsz : s.size ≤ 1000000 := by omega
  go_wp2_with fail
  (with_reducible refine (eEscape_any s false _ hsz (hE.on t1)).mono ?_); rintro e w2 ⟨rfl, b2⟩
  have t2 := t1.trans (b2.mono t1.size)
  go_wp2_with fail
  (with_reducible refine (eEscape_any s true _ hsz (hE.on t2)).mono ?_); rintro e w3 ⟨rfl, b3⟩
  have t3 := t2.trans (b3.mono t2.size)
  have la := E.escape_len false s.data.toList
  have lb := E.escape_len true s.data.toList
  have fa := E.escape_bytes false s.data.toList
  have fb := E.escape_bytes true s.data.toList
  obtain ⟨a, ha⟩ : ∃ a : ByteArray, a = ⟨(E.escape false s.data.toList).toArray⟩ := ⟨_, rfl⟩
  obtain ⟨b, hb2⟩ : ∃ b : ByteArray, b = ⟨(E.escape true s.data.toList).toArray⟩ := ⟨_, rfl⟩
  have hal : a.data.toList = E.escape false s.data.toList := by rw [ha]
  have hbl : b.data.toList = E.escape true s.data.toList := by rw [hb2]
  have haz : a.size ≤ 6 * s.size := by rw [size_list a _ hal, ← list_len s]; exact la
  have hbz : b.size ≤ 6 * s.size := by rw [size_list b _ hbl, ← list_len s]; exact lb
  have ga : ∀ j (h : j < a.size), (a[j]).toNat ≠ 60 ∧ (a[j]).toNat ≠ 62 ∧ (a[j]).toNat ≠ 13 := fun j h => by
    have := fa a[j] (by rw [← hal]; exact List.getElem_mem (by rw [list_len]; exact h))
    exact ⟨fun e => this.1 (byte_is (c := 60) e), fun e => this.2.1 (byte_is (c := 62) e), fun e => this.2.2.1 (byte_is (c := 13) e)⟩
  have gb : ∀ j (h : j < b.size), (b[j]).toNat ≠ 60 ∧ (b[j]).toNat ≠ 62 ∧ (b[j]).toNat ≠ 13 ∧ (b[j]).toNat ≠ 34 ∧ (b[j]).toNat ≠ 9 ∧ (b[j]).toNat ≠ 10 := fun j h => by
    have := fb b[j] (by rw [← hbl]; exact List.getElem_mem (by rw [list_len]; exact h))
    exact ⟨fun e => this.1 (byte_is (c := 60) e), fun e => this.2.1 (byte_is (c := 62) e), fun e => this.2.2.1 (byte_is (c := 13) e), fun e => (this.2.2.2 rfl).1 (byte_is (c := 34) e), fun e => (this.2.2.2 rfl).2.1 (byte_is (c := 9) e), fun e => (this.2.2.2 rfl).2.2 (byte_is (c := 10) e)⟩
  have x1 := E.exp_back (attr := false) hal (by decide)
  have x2 := E.exp_back (attr := true) hbl (by decide)
  have x3 := E.exp_back (attr := false) hbl (by decide)
  rw [← ha, ← hb2]
  clear ha hb2 hal hbl la lb fa fb
  replace x1 := Lib.hid x1
  replace x2 := Lib.hid x2
  replace x3 := Lib.hid x3
  go_wp2_with fail
  go_loop [6] (fun i => ∃ k : Nat, k ≤ a.size ∧ i = .int .i64 k) (fun i => a.size - (intOf i).toNat)
  case atStart => exact ⟨0, Nat.zero_le _, rfl⟩
  case round =>
    obtain ⟨k, hk, rfl⟩ := hrel
    by_cases hlt : k < a.size
    · obtain ⟨q1, q2, q3⟩ := ga k hlt
      have p1 : ¬ ((a[k]).toNat : Int) = 60 := by omega
      have p2 : ¬ ((a[k]).toNat : Int) = 62 := by omega
      have p3 : ¬ ((a[k]).toNat : Int) = 13 := by omega
      clear ga gb q1 q2 q3
      go_wp2
      all_goals first
        | (exact ⟨⟨k + 1, by omega, by go_num⟩, by simp [intOf]; omega⟩)
        | (exfalso; omega)
        | (exfalso; simp only [beq_iff_eq] at *; omega)
    · clear ga
      go_wp2_with fail
      go_loop [7] (fun i => ∃ k : Nat, k ≤ b.size ∧ i = .int .i64 k) (fun i => b.size - (intOf i).toNat)
      case atStart => exact ⟨0, Nat.zero_le _, rfl⟩
      case round =>
        obtain ⟨k2, hk2, rfl⟩ := hrel
        by_cases hlt2 : k2 < b.size
        · obtain ⟨q1, q2, q3, q4, q5, q6⟩ := gb k2 hlt2
          have p1 : ¬ ((b[k2]).toNat : Int) = 60 := by omega
          have p2 : ¬ ((b[k2]).toNat : Int) = 62 := by omega
          have p3 : ¬ ((b[k2]).toNat : Int) = 13 := by omega
          have p4 : ¬ ((b[k2]).toNat : Int) = 34 := by omega
          have p5 : ¬ ((b[k2]).toNat : Int) = 9 := by omega
          have p6 : ¬ ((b[k2]).toNat : Int) = 10 := by omega
          clear gb q1 q2 q3 q4 q5 q6
          have hd : ((b[k2]).toNat : Int) < 32 ∨ ¬ ((b[k2]).toNat : Int) < 32 := by omega
          rcases hd with hd | hd
          · go_wp2
            all_goals first
              | (exact ⟨⟨k2 + 1, by omega, by go_num⟩, by simp [intOf]; omega⟩)
              | (exfalso; omega)
              | (exfalso; simp only [beq_iff_eq] at *; omega)
          · go_wp2
            all_goals first
              | (exact ⟨⟨k2 + 1, by omega, by go_num⟩, by simp [intOf]; omega⟩)
              | (exfalso; omega)
              | (exfalso; simp only [beq_iff_eq] at *; omega)
        · clear gb
          go_wp2_with fail
          (with_reducible refine (eExpand_any a _ (by omega) (hE.on t3)).mono ?_); rintro e w4 ⟨rfl, b4⟩
          rw [x1.out.1, x1.out.2]
          have t4 := t3.trans (b4.mono t3.size)
          go_wp2_with fail
          (with_reducible refine (eValue_any b _ (by omega) (hE.on t4)).mono ?_); rintro e w5 ⟨rfl, b5⟩
          rw [x2.out.1, x2.out.2]
          have t5 := t4.trans (b5.mono t4.size)
          go_wp2_with fail
          (with_reducible refine (eExpand_any b _ (by omega) (hE.on t5)).mono ?_); rintro e w6 ⟨rfl, b6⟩
          rw [x3.out.1, x3.out.2]
          have t6 := t5.trans (b6.mono t5.size)
          go_wp2
          go_ret
          exact ⟨rfl, t6⟩

set_option maxRecDepth 100000 in
set_option maxHeartbeats 6400000 in
theorem eparts_any (s t : ByteArray) (w : World) (hs : s.size ≤ maxLen) (ht : t.size ≤ maxLen) (hE : Env w) : Calls Tryd.prog 6 #[.string s, .string t] w fun e w' => e = .returned (.bool true) ∧ Below w.heap.size w w' := by
  have hsm : s.size ≤ 9223372036854775807 := hs
  have htm : t.size ≤ 9223372036854775807 := ht
  go_enter Tryd.func6, Tryd.ntmps6
  go_wp2_with fail
  (with_reducible refine (awake_any _ hE).mono ?_); rintro e w1 ⟨rfl, t1⟩
  by_cases hb : 3000 < s.size
  · go_wp2
    go_ret
    exact ⟨rfl, t1⟩
  by_cases hb2 : 3000 < t.size
  · go_wp2
    go_ret
    exact ⟨rfl, t1⟩
  have hsz : s.size ≤ 1000000 := by omega
  have htz : t.size ≤ 1000000 := by omega
  have hstz : (s ++ t).size ≤ 1000000 := by rw [ByteArray.size_append]; omega
  have z1 := E.expA_len false s
  have z2 := E.expA_len false t
  have z3 := E.expA_len true s
  have z4 := E.expA_len true t
  have v1 := E.expE_same s
  have v2 := E.expE_same t
  have k1 := E.exp_both (attr := false) (s := s) (t := t)
  have k2 := E.exp_both (attr := true) (s := s) (t := t)
  have c1 := E.exp_cases false s
  have c2 := E.exp_cases false t
  replace k1 := Lib.hid k1
  replace k2 := Lib.hid k2
  replace c1 := Lib.hid c1
  replace c2 := Lib.hid c2
  replace v1 := Lib.hid v1
  replace v2 := Lib.hid v2
  go_wp2_with fail
  (with_reducible refine (eExpand_any s _ hsz (hE.on t1)).mono ?_); rintro e w2 ⟨rfl, b2⟩
  have t2 := t1.trans (b2.mono t1.size)
  go_wp2_with fail
  (with_reducible refine (eExpand_any t _ htz (hE.on t2)).mono ?_); rintro e w3 ⟨rfl, b3⟩
  have t3 := t2.trans (b3.mono t2.size)
  go_wp2_with fail
  (with_reducible refine (eExpand_any (s ++ t) _ hstz (hE.on t3)).mono ?_); rintro e w4 ⟨rfl, b4⟩
  have t4 := t3.trans (b4.mono t3.size)
  go_wp2_with fail
  (with_reducible refine (eValue_any s _ hsz (hE.on t4)).mono ?_); rintro e w5 ⟨rfl, b5⟩
  have t5 := t4.trans (b5.mono t4.size)
  go_wp2_with fail
  (with_reducible refine (eValue_any t _ htz (hE.on t5)).mono ?_); rintro e w6 ⟨rfl, b6⟩
  have t6 := t5.trans (b6.mono t5.size)
  go_wp2_with fail
  (with_reducible refine (eValue_any (s ++ t) _ hstz (hE.on t6)).mono ?_); rintro e w7 ⟨rfl, b7⟩
  have t7 := t6.trans (b7.mono t6.size)
  rcases c1.out with c | ⟨c, _⟩
  · rw [← v1.out, ← v2.out, c]
    clear c c1 c2 v1 v2 k1 k2
    generalize E.expE false t = e2
    go_wp2
    go_ret
    exact ⟨rfl, t7⟩
  rcases c2.out with d | ⟨d, _⟩
  · rw [← v1.out, ← v2.out, c, d]
    clear c d c1 c2 v1 v2 k1 k2
    go_wp2
    go_ret
    exact ⟨rfl, t7⟩
  obtain ⟨m1, m2⟩ := k1.out c d
  obtain ⟨m3, m4⟩ := k2.out (v1.out.symm.trans c) (v2.out.symm.trans d)
  rw [m1, m2, m3, m4, ← v1.out, ← v2.out, c, d]
  clear m1 m2 m3 m4 c d c1 c2 v1 v2 k1 k2
  generalize E.expA false s = x1 at *
  generalize E.expA false t = x2 at *
  generalize E.expA true s = x3 at *
  generalize E.expA true t = x4 at *
  go_wp2
  go_ret
  exact ⟨rfl, t7⟩
end Go.Proofs.YtddpkfdmfoehiaaDoor
