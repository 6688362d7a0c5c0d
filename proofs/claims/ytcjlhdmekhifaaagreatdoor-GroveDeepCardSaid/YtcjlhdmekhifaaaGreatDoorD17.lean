/-
  What the program's words of texts come to: contracts of Check, Name, Plain, Lines.
  What the program's own Split comes to.
  What the program's own isOneOf, mayBind, declared come to.
-/
import Derived.Test.YtcjlhdmekhifaaaGreatDoorD16
import Derived.WalkSmall
import Derived.Test.YtcjlhdmekhifaaaGreatDoorD12
import Derived.Test.YtcjlhdmekhifaaaGreatDoorD14
namespace Go.Proofs.YtcjlhdmekhifaaaGreatDoor
open Go.RowKit

theorem check_yes {l : List UInt8} (h : ¬ G.span G.char l < l.length) : G.checkN l = 0 := by
  have := G.span_le G.char l
  unfold G.checkN G.check
  rw [if_pos (decide_eq_true (by omega))]
theorem check_no {l : List UInt8} (h : G.span G.char l < l.length) : G.checkN l = 50 := by
  unfold G.checkN G.check
  rw [if_neg (by rw [decide_eq_true_eq]; omega)]

set_option maxHeartbeats 800000 in
theorem gCheck_any (s : ByteArray) (w : World) (hs : s.size ≤ 1000000) (_ : Env w) : Calls Tryz.prog 15 #[.string s] w fun e w' => e = .returned (.int .i64 (G.checkN s.data.toList)) ∧ Below w.heap.size w w' := by
  have hy := Lib.hid (@check_yes s.data.toList)
  have hn := Lib.hid (@check_no s.data.toList)
  have hlen := Lib.hid (list_len s)
  go_enter Tryz.func15, Tryz.ntmps15
  go_wp2_with fail
  (with_reducible refine (head_chars s _ hs).mono ?_); rintro e w1 ⟨rfl, b1⟩
  rw [G.hd_span]
  generalize G.span G.char s.data.toList = k at *
  by_cases h : k < s.size
  · have hr := Lib.hid (hn.out (by rw [hlen.out]; exact h))
    go_wp2
    go_ret
    exact ⟨ret_int hr.out.symm, b1⟩
  · have hr := Lib.hid (hy.out (by rw [hlen.out]; exact h))
    go_wp2
    go_ret
    exact ⟨ret_int hr.out.symm, b1⟩

set_option maxHeartbeats 800000 in
theorem gName_any (s : ByteArray) (w : World) (hs : s.size ≤ 1000000) (_ : Env w) : Calls Tryz.prog 88 #[.string s] w fun e w' => e = .returned (.tuple #[.string (G.nmA s), .string (G.nmB s), .int .i64 (G.nmE s)]) ∧ Below w.heap.size w w' := by
  have hle := G.name_le s.data.toList
  rw [list_len] at hle
  have hno := Lib.hid (@G.nm_none s)
  have hso := Lib.hid (@G.nm_some s _ rfl)
  go_enter Tryz.func88, Tryz.ntmps88
  go_wp2_with fail
  (with_reducible refine (head_names s _ hs).mono ?_); rintro e w1 ⟨rfl, b1⟩
  rw [G.hd_name]
  generalize G.name s.data.toList = k at *
  by_cases h : k = 0
  · have hr := Lib.hid (hno.out h)
    subst h
    go_wp2
    go_ret3
    exact ⟨ret_name hr.out.1.symm hr.out.2.1.symm hr.out.2.2.symm, b1⟩
  · have hr := Lib.hid (hso.out h)
    go_wp2
    go_quiet (fail)
    go_wp2
    go_ret3
    exact ⟨ret_name hr.out.1.symm hr.out.2.1.symm hr.out.2.2.symm, below_drewN b1 _⟩

set_option maxHeartbeats 1600000 in
theorem gPlain_any (s : ByteArray) (w : World) (hs : s.size ≤ 1000000) (hE : Env w) : Calls Tryz.prog 44 #[.string s] w fun e w' => e = .returned (.bool (G.plain s.data.toList)) ∧ Below w.heap.size w w' := by
  have hlen := list_len s
  have hle := G.name_le s.data.toList
  rw [hlen] at hle
  go_enter Tryz.func44, Tryz.ntmps44
  go_wp2_with fail
  (with_reducible refine (gName_any s _ hs hE).mono ?_); rintro e w1 ⟨rfl, b1⟩
  obtain ⟨m, hm⟩ := (hE.on b1).most
  by_cases h0 : G.name s.data.toList = 0
  · have hr := Lib.hid (G.plain_no s.data.toList (.inl h0))
    obtain ⟨e1, e2, e3⟩ := G.nm_none h0
    rw [e1, e2, e3]
    clear e1 e2 e3 h0 hle hlen
    go_wp2
    go_ret
    exact ⟨ret_bool' hr.out.symm, b1⟩
  · by_cases hk : G.name s.data.toList = s.size
    · obtain ⟨e1, e2, e3⟩ := G.nm_some rfl h0
      have hall := Lib.hid ((G.plain_all s.data.toList (by rw [hk, hlen]) h0).trans (G.contains_all _).symm)
      rw [e1, e2, e3, hk, extract_full]
      have e4 : s.extract s.size s.size = ByteArray.empty := bytes_eq (by rw [drop_list, List.drop_of_length_le (by rw [hlen]; exact Nat.le_refl _)]; rfl)
      rw [e4]
      have hlen := Lib.hid hlen
      clear e1 e2 e3 e4 h0 hle hk
      go_wp2_with fail
      (with_reducible refine (Tryz.strings_Contains s _ m _ (by omega) hm).mono ?_); rintro e w2 ⟨rfl, rfl⟩
      go_wp2
      all_goals
        go_ret
        exact ⟨ret_bool' hall.out.symm, b1⟩
    · have hr := Lib.hid (G.plain_no s.data.toList (.inr (by rw [hlen]; exact hk)))
      obtain ⟨e1, e2, e3⟩ := G.nm_some rfl h0
      rw [e1, e2, e3]
      generalize G.name s.data.toList = n at *
      have hsz : 0 < (s.extract n s.size).size := by simp; omega
      have hne := ne_empty hsz
      clear hlen
      generalize s.extract n s.size = t at *
      clear e1 e2 e3
      go_wp2
      go_ret
      exact ⟨ret_bool' hr.out.symm, b1⟩

theorem lit_crlf : (⟨#[13, 10]⟩ : ByteArray).data.toList = [13, 10] := rfl
theorem lit_lf : (⟨#[10]⟩ : ByteArray).data.toList = [10] := rfl
theorem count_room (s old : ByteArray) (h1 : 1 ≤ old.size) (hs : s.size ≤ 1000000) : s.size + Lib.countB s old * (⟨#[10]⟩ : ByteArray).size ≤ 140737488355328 := by
  have := Lib.countB_mul_le old h1 s.size s (Nat.le_refl _)
  have h2 : Lib.countB s old ≤ Lib.countB s old * old.size := Nat.le_mul_of_pos_right _ h1
  have h3 : (⟨#[10]⟩ : ByteArray).size = 1 := rfl
  rw [h3]
  omega

set_option maxHeartbeats 800000 in
theorem gLines_any (s : ByteArray) (w : World) (hs : s.size ≤ 1000000) (hE : Env w) : Calls Tryz.prog 17 #[.string s] w fun e w' => e = .returned (.string ⟨(G.lines s.data.toList).toArray⟩) ∧ Below w.heap.size w w' := by
  obtain ⟨m, hm⟩ := hE.most
  have hl := G.pairs_length s.data.toList
  rw [list_len] at hl
  have hres := Lib.hid (G.lines_replaced s.data.toList)
  go_enter Tryz.func17, Tryz.ntmps17
  go_wp2_with fail
  (with_reducible refine (Tryz.strings_ReplaceAll s _ _ m _ (by omega) hm (by decide) (count_room _ _ (by decide) hs)).mono ?_); rintro e w1 ⟨rfl, b1⟩
  obtain ⟨m1, hm1⟩ := (hE.on b1).most
  rw [lit_crlf, lit_lf]
  generalize Lib.replaceAll s.data.toList [13, 10] [10] = l at *
  have hz : (⟨l.toArray⟩ : ByteArray).size = l.length := by simp [ByteArray.size]
  go_wp2_with fail
  (with_reducible refine (Tryz.strings_ReplaceAll ⟨l.toArray⟩ _ _ m1 _ (by rw [hz]; omega) hm1 (by decide) (count_room _ _ (by decide) (by rw [hz]; omega))).mono ?_); rintro e w2 ⟨rfl, b2⟩
  go_wp2
  go_ret
  exact ⟨ret_str (by rw [← hres.out]), b1.trans (b2.mono b1.size)⟩
end Go.Proofs.YtcjlhdmekhifaaaGreatDoor
namespace Go.Proofs.YtcjlhdmekhifaaaGreatDoor
open Go.RowKit

theorem P.split_yes {s t u : ByteArray} (h : Cu.parts 58 s.data.toList = some (t.data.toList, u.data.toList)) : P.split s = if P.plainB t && P.plainB u then some (t, u) else none := by
  have e := Cu.parts_append h
  have hc : P.colon s.data.toList = t.size := by rw [e, P.colon_mk _ _ (Cu.parts_ahead h), list_len]
  have hz := Cu.parts_size h
  have e1 : s.extract 0 t.size = t := bytes_eq (by rw [take_list, e, ← list_len t, List.take_left])
  have e2 : s.extract (t.size + 1) s.size = u := bytes_eq (by rw [drop_list, e, ← list_len t, ← List.drop_drop, List.drop_left]; rfl)
  unfold P.split
  rw [hc, if_pos (by omega), e1, e2]
theorem P.split_no {s : ByteArray} (h : Cu.parts 58 s.data.toList = none) : P.split s = if P.plainB s then some (ByteArray.empty, s) else none := by
  unfold P.split
  rw [P.colon_no _ (Cu.parts_no h), list_len, if_neg (by omega)]

set_option maxRecDepth 100000 in
set_option maxHeartbeats 3200000 in
theorem pSplit_any (s : ByteArray) (w : World) (hs : s.size ≤ 1000000) (hE : Env w) : Calls Tryz.prog 118 #[.string s] w fun e w' => e = .returned (.tuple #[.string (P.spA s), .string (P.spB s), .int .i64 (P.spE s)]) ∧ Below w.heap.size w w' := by
  go_enter Tryz.func118, Tryz.ntmps118
  go_wp2_with fail
  cases hp : Cu.parts 58 s.data.toList with
  | some x =>
    obtain ⟨a, r⟩ := x
    obtain ⟨t, u, rfl, rfl⟩ := Cu.parted hp
    have hz := Cu.parts_size hp
    have hS := P.split_yes hp
    (with_reducible refine (Cu.yes (c := 58) rfl _ hs hE hp).mono ?_); rintro e w1 ⟨rfl, b1⟩
    clear hp
    have t0 : t.size ≤ 1000000 := by omega
    have u0 : u.size ≤ 1000000 := by omega
    go_wp2_with fail
    (with_reducible refine (gPlain_any t _ t0 (hE.on b1)).mono ?_); rintro e w2 ⟨rfl, b2⟩
    have c2 := b1.trans (b2.mono b1.size)
    cases hp1 : G.plain t.data.toList
    · obtain ⟨r1, r2, r3⟩ := P.sp_none (hS.trans (by unfold P.plainB; rw [hp1]; rfl))
      clear hp1 hS
      replace r1 := Lib.hid r1
      replace r2 := Lib.hid r2
      replace r3 := Lib.hid r3
      go_wp2
      go_ret3
      exact ⟨ret_three r1.out.symm r2.out.symm r3.out.symm, c2⟩
    · go_wp2_with fail
      (with_reducible refine (gPlain_any u _ u0 (hE.on c2)).mono ?_); rintro e w3 ⟨rfl, b3⟩
      have c3 := c2.trans (b3.mono c2.size)
      cases hp2 : G.plain u.data.toList
      · obtain ⟨r1, r2, r3⟩ := P.sp_none (hS.trans (by unfold P.plainB; rw [hp1, hp2]; rfl))
        clear hp1 hp2 hS
        replace r1 := Lib.hid r1
        replace r2 := Lib.hid r2
        replace r3 := Lib.hid r3
        go_wp2
        go_ret3
        exact ⟨ret_three r1.out.symm r2.out.symm r3.out.symm, c3⟩
      · obtain ⟨r1, r2, r3⟩ := P.sp_some (hS.trans (by unfold P.plainB; rw [hp1, hp2]; rfl))
        clear hp1 hp2 hS
        replace r1 := Lib.hid r1
        replace r2 := Lib.hid r2
        replace r3 := Lib.hid r3
        go_wp2
        go_ret3
        exact ⟨ret_three r1.out.symm r2.out.symm r3.out.symm, c3⟩
  | none =>
    have hS := P.split_no hp
    (with_reducible refine (Cu.no (c := 58) rfl _ hs hE hp).mono ?_); rintro e w1 ⟨rfl, b1⟩
    clear hp
    go_wp2_with fail
    (with_reducible refine (gPlain_any s _ hs (hE.on b1)).mono ?_); rintro e w2 ⟨rfl, b2⟩
    have c2 := b1.trans (b2.mono b1.size)
    cases hp1 : G.plain s.data.toList
    · obtain ⟨r1, r2, r3⟩ := P.sp_none (hS.trans (by unfold P.plainB; rw [hp1]; rfl))
      clear hp1 hS
      replace r1 := Lib.hid r1
      replace r2 := Lib.hid r2
      replace r3 := Lib.hid r3
      go_wp2
      go_ret3
      exact ⟨ret_three r1.out.symm r2.out.symm r3.out.symm, c2⟩
    · obtain ⟨r1, r2, r3⟩ := P.sp_some (hS.trans (by unfold P.plainB; rw [hp1]; rfl))
      clear hp1 hS
      replace r1 := Lib.hid r1
      replace r2 := Lib.hid r2
      replace r3 := Lib.hid r3
      go_wp2
      go_ret3
      exact ⟨ret_three r1.out.symm r2.out.symm r3.out.symm, c2⟩
end Go.Proofs.YtcjlhdmekhifaaaGreatDoor
namespace Go.Proofs.YtcjlhdmekhifaaaGreatDoor
open Go.RowKit

/-- Where a text stands in a row of texts. -/
def Cu.at (L : List ByteArray) (s : ByteArray) : Bool := L.any (fun x => decide (s = x))

set_option maxRecDepth 100000 in
set_option maxHeartbeats 1600000 in
theorem index_any (L : List ByteArray) (s : ByteArray) (b n cap : Nat) (w : World) (hL : StrsAt b L w) (hn : n ≤ 1000) (hln : L.length = n) :
    Calls Tryz.prog 167 #[.slice (some ⟨b, 0, none⟩) n cap, .string s] w fun e w' => (∃ i : Int, e = .returned (.int .i64 i) ∧ (0 ≤ i ↔ Cu.at L s = true)) ∧ Below w.heap.size w w' := by
  have hln := Lib.hid hln
  go_enter Tryz.func167, Tryz.ntmps167
  go_wp2_with fail
  go_loopw [5, 8] (fun _ i wr => ∃ k : Nat, k ≤ n ∧ i = .int .i64 (k : Int) ∧ Hid (Cu.at (L.take k) s = false) ∧ Below w.heap.size w wr) (fun _ i _ => n - (intOf i).toNat)
  case atStart => exact ⟨0, Nat.zero_le _, rfl, Lib.hid rfl, Below.refl _ _⟩
  case round =>
    obtain ⟨k, hk, rfl, hall, bw⟩ := hrel
    by_cases hlt : k < n
    · have hkl : k < L.length := by rw [hln.out]; exact hlt
      have c0 := hL k hkl
      have c1 := (bw.cell (World.block_lt_of_cell? w _ c0)).trans c0
      have ht : L.take (k + 1) = L.take k ++ [L[k]] := by rw [List.take_succ_eq_append_getElem hkl]
      have hst : Cu.at (L.take (k + 1)) s = (Cu.at (L.take k) s || decide (s = L[k])) := by rw [ht]; unfold Cu.at; rw [List.any_append]; simp only [List.any_cons, List.any_nil, Bool.or_false]
      have hwh : s = L[k] → Cu.at L s = true := fun e => by
        unfold Cu.at
        rw [List.any_eq_true]
        exact ⟨_, List.getElem_mem hkl, by simp [e]⟩
      rw [hall.out, Bool.false_or] at hst
      generalize L[k] = x at *
      clear ht c0
      by_cases hx : s = x
      · have q1 : (s.toList == x.toList) = true := by rw [hx]; exact beq_self_eq_true _
        have hr := Lib.hid (hwh hx)
        clear hst hwh hx hall
        go_wp2
        go_ret
        exact ⟨⟨_, rfl, by rw [hr.out]; simp⟩, bw⟩
      · have q1 := var_ne hx
        have hr := Lib.hid (hst.trans (decide_eq_false hx))
        clear hst hwh hx hall
        go_wp2
        go_roundw
        case rel => exact ⟨k + 1, by omega, by go_num, hr, bw⟩
        case measure => simp [intOf] <;> omega
    · have hfull : L.take k = L := List.take_of_length_le (by rw [hln.out]; omega)
      rw [hfull] at hall
      clear hfull
      go_wp2
      go_ret
      exact ⟨⟨_, rfl, by rw [hall.out]; simp⟩, bw⟩

set_option maxRecDepth 100000 in
set_option maxHeartbeats 1600000 in
theorem pcontains_any (L : List ByteArray) (s : ByteArray) (b n cap : Nat) (w : World) (hL : StrsAt b L w) (hn : n ≤ 1000) (hln : L.length = n) :
    Calls Tryz.prog 158 #[.slice (some ⟨b, 0, none⟩) n cap, .string s] w fun e w' => e = .returned (.bool (Cu.at L s)) ∧ Below w.heap.size w w' := by
  have hln := Lib.hid hln
  go_enter Tryz.func158, Tryz.ntmps158
  go_wp2_with fail
  (with_reducible refine (index_any L s b n cap _ hL hn hln.out).mono ?_); rintro e w1 ⟨⟨i, rfl, hi⟩, b1⟩
  cases hc : Cu.at L s
  · have h0 : ¬ (0 : Int) ≤ i := by rw [hi, hc]; simp
    replace hc := Lib.hid hc
    clear hi
    go_wp2
    go_ret
    exact ⟨ret_bool (by rw [hc.out]; simpa using h0), b1⟩
  · have h0 : (0 : Int) ≤ i := by rw [hi, hc]
    replace hc := Lib.hid hc
    clear hi
    go_wp2
    go_ret
    exact ⟨ret_bool hc.out.symm, b1⟩

set_option maxRecDepth 100000 in
set_option maxHeartbeats 1600000 in
theorem isOneOf_any (L : List ByteArray) (s : ByteArray) (b n cap : Nat) (w : World) (hL : StrsAt b L w) (hn : n ≤ 1000) (hln : L.length = n) :
    Calls Tryz.prog 143 #[.string s, .slice (some ⟨b, 0, none⟩) n cap] w fun e w' => e = .returned (.bool (Cu.at L s)) ∧ Below w.heap.size w w' := by
  have hln := Lib.hid hln
  go_enter Tryz.func143, Tryz.ntmps143
  go_wp2_with fail
  (with_reducible refine (pcontains_any L s b n cap _ hL hn hln.out).mono ?_); rintro e w1 ⟨rfl, b1⟩
  go_wp2
  go_ret
  exact ⟨rfl, b1⟩

set_option maxRecDepth 100000 in
set_option maxHeartbeats 3200000 in
theorem mayBind_any (p v : ByteArray) (w : World) :
    Calls Tryz.prog 117 #[.string p, .string v] w fun e w' => e = .returned (.bool (P.bound p v)) ∧ Below w.heap.size w w' := by
  go_enter Tryz.func117, Tryz.ntmps117
  by_cases h1 : p = P.xmlns
  · have hr := Lib.hid (show P.bound p v = false by unfold P.bound; rw [if_pos h1])
    have n1 : (p.toList == [120, 109, 108, 110, 115]) = true := str_is (by rw [h1]; rfl)
    clear h1
    go_wp2
    go_ret
    exact ⟨ret_bool hr.out.symm, Below.refl _ _⟩
  have n1 : (p.toList == [120, 109, 108, 110, 115]) = false := str_ne (fun e => h1 (bytes_eq e))
  by_cases h2 : p = P.xml
  · have n2 : (p.toList == [120, 109, 108]) = true := str_is (by rw [h2]; rfl)
    have hb : P.bound p v = decide (v = P.xmlS) := by unfold P.bound; rw [if_neg h1, if_pos h2]
    clear h1 h2
    by_cases hv : v = P.xmlS
    · have m1 : (v.toList == [104, 116, 116, 112, 58, 47, 47, 119, 119, 119, 46, 119, 51, 46, 111, 114, 103, 47, 88, 77, 76, 47, 49, 57, 57, 56, 47, 110, 97, 109, 101, 115, 112, 97, 99, 101]) = true := str_is (by rw [hv]; rfl)
      have hr := Lib.hid (hb.trans (decide_eq_true hv))
      clear hb hv
      go_wp2
      go_ret
      exact ⟨ret_bool hr.out.symm, Below.refl _ _⟩
    · have m1 : (v.toList == [104, 116, 116, 112, 58, 47, 47, 119, 119, 119, 46, 119, 51, 46, 111, 114, 103, 47, 88, 77, 76, 47, 49, 57, 57, 56, 47, 110, 97, 109, 101, 115, 112, 97, 99, 101]) = false := str_ne (fun e => hv (bytes_eq e))
      have hr := Lib.hid (hb.trans (decide_eq_false hv))
      clear hb hv
      go_wp2
      go_ret
      exact ⟨ret_bool hr.out.symm, Below.refl _ _⟩
  have n2 : (p.toList == [120, 109, 108]) = false := str_ne (fun e => h2 (bytes_eq e))
  have b0 := fun o => (Below.refl w.heap.size w).alloc (Nat.le_refl _) o
  by_cases h3 : p = ByteArray.empty
  · have n3 : p.toList.isEmpty = true := by rw [h3]; exact pempty_is
    have hb : P.bound p v = !Cu.at [P.xmlS, P.xmlnsS] v := by
      unfold P.bound; rw [if_neg h1, if_neg h2, if_pos h3]; simp [Cu.at]
    replace hb := Lib.hid hb
    clear h1 h2 h3
    go_wp2_with fail
    (with_reducible refine (isOneOf_any [P.xmlS, P.xmlnsS] v w.heap.size 2 _ _ ?_ (by decide) rfl).mono ?_)
    · exact strsAt_cells (heap_alloc_new w _)
    rintro e w1 ⟨rfl, b1⟩
    go_wp2
    go_ret
    exact ⟨ret_bool hb.out.symm, (b0 _).trans (b1.mono (b0 _).size)⟩
  · have n3 : p.toList.isEmpty = false := empty_no h3
    have hb : P.bound p v = !Cu.at [P.xmlS, P.xmlnsS, ByteArray.empty] v := by
      unfold P.bound; rw [if_neg h1, if_neg h2, if_neg h3]
      by_cases x1 : v = P.xmlS <;> by_cases x2 : v = P.xmlnsS <;> by_cases x3 : v = ByteArray.empty <;> simp [Cu.at, x1, x2, x3]
    replace hb := Lib.hid hb
    clear h1 h2 h3
    go_wp2_with fail
    (with_reducible refine (isOneOf_any [P.xmlS, P.xmlnsS, ByteArray.empty] v w.heap.size 3 _ _ ?_ (by decide) rfl).mono ?_)
    · exact strsAt_cells (heap_alloc_new w _)
    rintro e w1 ⟨rfl, b1⟩
    go_wp2
    go_ret
    exact ⟨ret_bool hb.out.symm, (b0 _).trans (b1.mono (b0 _).size)⟩

namespace P
/-- what an attribute's name declares. -/
def dcA (s : ByteArray) : ByteArray := match split s with | some (p, n) => if p = xmlns then n else ByteArray.empty | none => ByteArray.empty
def dcB (s : ByteArray) : Bool := match split s with | some (p, _) => decide (p = xmlns) || decide (s = xmlns) | none => false
theorem dc_none {s : ByteArray} (h : split s = none) : dcA s = ByteArray.empty ∧ dcB s = false ∧ spE s = 80 := by unfold dcA dcB; rw [h]; exact ⟨rfl, rfl, (sp_none h).2.2⟩
theorem dc_some {s p n : ByteArray} (h : split s = some (p, n)) : dcA s = (if p = xmlns then n else ByteArray.empty) ∧ dcB s = (decide (p = xmlns) || decide (s = xmlns)) ∧ spE s = 0 := by unfold dcA dcB; rw [h]; exact ⟨rfl, rfl, (sp_some h).2.2⟩
end P
theorem ret_sbi {a a' : ByteArray} {b b' : Bool} {e e' : Int} (h1 : a = a') (h2 : b = b') (h3 : e = e') : Ending.returned (.tuple #[.string a, .bool b, .int .i64 e]) = .returned (.tuple #[.string a', .bool b', .int .i64 e']) := by rw [h1, h2, h3]

set_option maxRecDepth 100000 in
set_option maxHeartbeats 3200000 in
theorem declared_any (s : ByteArray) (w : World) (hs : s.size ≤ 1000000) (hE : Env w) :
    Calls Tryz.prog 116 #[.string s] w fun e w' => e = .returned (.tuple #[.string (P.dcA s), .bool (P.dcB s), .int .i64 (P.spE s)]) ∧ Below w.heap.size w w' := by
  go_enter Tryz.func116, Tryz.ntmps116
  go_wp2_with fail
  (with_reducible refine (pSplit_any s _ hs hE).mono ?_); rintro e w1 ⟨rfl, b1⟩
  cases hsp : P.split s with
  | none =>
    obtain ⟨e1, e2, e3⟩ := P.sp_none hsp
    obtain ⟨r1, r2, r3⟩ := P.dc_none hsp
    rw [e1, e2, e3]
    clear e1 e2 e3 hsp
    replace r1 := Lib.hid r1
    replace r2 := Lib.hid r2
    replace r3 := Lib.hid r3
    go_wp2
    go_ret3
    exact ⟨ret_sbi r1.out.symm r2.out.symm r3.out.symm, b1⟩
  | some x =>
    obtain ⟨p, m⟩ := x
    obtain ⟨e1, e2, e3⟩ := P.sp_some hsp
    obtain ⟨r1, r2, r3⟩ := P.dc_some hsp
    rw [e1, e2, e3]
    clear e1 e2 e3 hsp
    by_cases h1 : p = P.xmlns
    · have n1 : (p.toList == [120, 109, 108, 110, 115]) = true := str_is (by rw [h1]; rfl)
      rw [if_pos h1] at r1
      rw [decide_eq_true h1, Bool.true_or] at r2
      clear h1
      replace r1 := Lib.hid r1
      replace r2 := Lib.hid r2
      replace r3 := Lib.hid r3
      go_wp2
      go_ret3
      exact ⟨ret_sbi r1.out.symm r2.out.symm r3.out.symm, b1⟩
    · have n1 : (p.toList == [120, 109, 108, 110, 115]) = false := str_ne (fun e => h1 (bytes_eq e))
      rw [if_neg h1] at r1
      rw [decide_eq_false h1, Bool.false_or] at r2
      clear h1
      by_cases h2 : s = P.xmlns
      · have n2 : (s.toList == [120, 109, 108, 110, 115]) = true := str_is (by rw [h2]; rfl)
        rw [decide_eq_true h2] at r2
        clear h2
        replace r1 := Lib.hid r1
        replace r2 := Lib.hid r2
        replace r3 := Lib.hid r3
        go_wp2
        go_ret3
        exact ⟨ret_sbi r1.out.symm r2.out.symm r3.out.symm, b1⟩
      · have n2 : (s.toList == [120, 109, 108, 110, 115]) = false := str_ne (fun e => h2 (bytes_eq e))
        rw [decide_eq_false h2] at r2
        clear h2
        replace r1 := Lib.hid r1
        replace r2 := Lib.hid r2
        replace r3 := Lib.hid r3
        go_wp2
        go_ret3
        exact ⟨ret_sbi r1.out.symm r2.out.symm r3.out.symm, b1⟩
end Go.Proofs.YtcjlhdmekhifaaaGreatDoor
