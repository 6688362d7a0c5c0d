/-
  What strings.IndexAny says of the four signs that part a reference; how many bytes stand ahead of a sign between.
-/
import Derived.Test.YtmfmgbjkbadndaaLocMore
import Derived.Test.YtmfmgbjkbadndaaShelf
import Derived.Laws.Runes
import Derived.Lib.IndexAny
import Derived.Lib.SpaceUEq
import Derived.Lib.MapLaws
import Derived.Lib.OthersKept
import Derived.WalkSmall
import Derived.BigQuiet
import Derived.Deep.QuietTactic
import Derived.Deep.WholeRow
namespace Go.Proofs.Ytmfmgbjkbadndaa
open Go.RowKit

theorem valid_any (r : Int) (w : World) (h0 : 0 ≤ r) (h1 : r ≤ 1114111) : Calls Try.prog 77 #[.int .i32 r] w fun e w' => e = .returned (.bool (validRune r)) ∧ w = w' := by
  have hv : Hid (validRune r = decide (r < 55296 ∨ 57343 < r)) := Lib.hid (by
    unfold validRune
    by_cases h : r < 55296 ∨ 57343 < r
    · rw [decide_eq_true h]; simp; omega
    · rw [decide_eq_false h]; simp; omega)
  go_enter Try.func77, Try.ntmps77
  go_wp2
  all_goals
    go_ret
    refine ⟨ret_bool ?_, rfl⟩
    rw [hv.out]
    first
      | (rw [eq_comm, decide_eq_true_eq]; omega)
      | (rw [eq_comm, decide_eq_false_iff_not]; omega)

theorem index_none {l : List UInt8} {c : UInt8} (h : ∀ b ∈ l, b ≠ c) : Lib.indexByte l c = -1 := by
  have h1 := Lib.contains_iff_indexByte l c
  have h2 := Lib.indexByte_ge l c
  have h3 : l.contains c = false := by
    rw [Bool.eq_false_iff, Ne, List.contains_iff_mem]
    exact fun hm => h c hm rfl
  rw [h3] at h1
  have := of_decide_eq_false h1.symm
  omega
theorem iter_below (w : World) (s : ByteArray) (i : Nat) : Below w.heap.size w (w.iter s i) := (Below.refl _ _).alloc (Nat.le_refl _) _
set_option maxRecDepth 100000 in
set_option maxHeartbeats 3200000 in
/-- A code point from 128 on is none of a few ASCII bytes. -/
theorem runeNone_any (cs : ByteArray) (r : Int) (w : World) (h0 : 128 ≤ r) (h1 : r ≤ 1114111) (hz : cs.size = 4) (hc : ∀ b ∈ cs.data.toList, b.toNat < 128) :
    Calls Try.prog 58 #[.string cs, .int .i32 r] w fun e w' => e = .returned (.int .i64 (-1)) ∧ Below w.heap.size w w' := by
  replace hc := Lib.hid hc
  have hcb : Hid (∀ k (h : k < cs.size), (cs[k]).toNat < 128) := Lib.hid (fun k h => hc.out _ (by
    have : cs.data.toList[k]'(by rw [list_len]; exact h) = cs[k] := rfl
    rw [← this]; exact List.getElem_mem _))
  go_enter Try.func58, Try.ntmps58
  by_cases he : r = 65533
  · subst he
    replace hz := Lib.hid hz
    go_wp2_with fail
    go_loopg [5, 6] cs.size (fun g _ _ wx => ∃ i : Nat, i + g = cs.size ∧ wx = w.iter cs i)
    case atStart => exact ⟨0, by omega, rfl⟩
    case round =>
      obtain ⟨i, hig, rfl⟩ := hrel
      cases gk with
      | zero =>
        obtain rfl : i = cs.size := by omega
        have hnx := fun ty => run_next_end (P := Try.prog) w cs cs.size ty (by omega)
        go_wp2_with fail
        go_ret
        exact ⟨rfl, iter_below _ _ _⟩
      | succ g =>
        have hi : i < cs.size := by omega
        have hx := hcb.out i hi
        have hnx := fun ty => run_next_ascii (P := Try.prog) w cs i ty hi hx
        have hne : ((cs[i].toNat : Int) == 65533) = false := by rw [beq_eq_false_iff_ne]; omega
        go_wp2_with fail
        go_roundg g
        case measure => omega
        case rel => exact ⟨i + 1, by omega, rfl⟩
  · have heb : (r == 65533) = false := by rw [beq_eq_false_iff_ne]; exact he
    go_wp2_with fail
    (refine (valid_any r _ (by omega) h1).mono ?_); rintro e w1 ⟨rfl, rfl⟩
    cases hv : validRune r
    · replace hv := Lib.hid hv
      go_wp2_with fail
      go_ret
      exact ⟨rfl, Below.refl _ _⟩
    · obtain ⟨z1, z2, z3⟩ := encode_facts r ((validRune_eq r).trans hv) h0
      obtain ⟨rs, hrs⟩ : ∃ rs, rs = Utf8.encode r := ⟨_, rfl⟩
      rw [← hrs] at z1 z2 z3
      replace hrs := Lib.hid hrs
      replace hv := Lib.hid hv
      obtain ⟨n, hn⟩ : ∃ n, rs.size = n + 1 := ⟨rs.size - 1, by omega⟩
      have hn0 : n < rs.size := by omega
      have z4 : 128 ≤ (rs[n]'hn0).toNat := by
        have := z3 (by omega)
        have e : rs.size - 1 = n := by omega
        rw [← show rs[rs.size - 1]'(by omega) = rs[n]'hn0 from by congr]
        exact this
      have hconv : (convert 21 9 (.int .i32 r)).run Try.prog w = .ok (.string rs) w := by
        rw [hrs.out]
        exact run_convert_int_string w _ _ _ _ (by kernel_rfl) (by kernel_rfl)
      have n1 : 1 ≤ n := by omega
      have n2 : n ≤ 3 := by omega
      have hi : n < cs.size := by omega
      have hb := hcb.out n hi
      have hib : Hid (Lib.indexByte (cs.extract (n + 1) cs.size).data.toList (rs[n]'hn0) = -1) := Lib.hid (index_none fun b hb e => by
        have := hc.out b (mem_extract hb)
        rw [e] at this
        omega)
      have hbk : (((rs[n]'hn0).toNat : Int)).toNat.toUInt8 = rs[n]'hn0 := by simp
      have hne : ((cs[n].toNat : Int) != ((rs[n]'hn0).toNat : Int)) = true := by
        rw [bne, Bool.not_eq_true', beq_eq_false_iff_ne]
        omega
      have hi2 : (n : Int) + 1 ≤ (cs.size : Int) := by omega
      have hi3 : (n : Int) < (cs.size : Int) := by omega
      replace hz := Lib.hid hz
      have hlst : (rs.size : Int) - 1 = (n : Int) := by omega
      have hn1 : (n : Int) < (rs.size : Int) := by omega
      have hwr : IntKind.i64.wrap ((n : Int) + 1) = (n : Int) + 1 := wrap_small _ (by omega) (by omega)
      have hi0 : (0 : Int) ≤ (n : Int) + 1 := by omega
      replace hn := Lib.hid hn
      clear z1 z2 z3
      go_wp2_with fail
      refine wp_scope_straight ?_
      go_wp2_with fail
      refine wp_loop_rounds 1 ?_
      rw [rounds_succ]
      go_wp2_with fail
      refine wp_scope_straight ?_
      go_wp2_with fail
      go_quiet (fail)
      have b2 := Cells.below_drewN (Below.refl w.heap.size w) nq
      generalize w.drewN nq = w2 at *
      go_wp2_with fail
      go_quiet (exact Calls.quiet_of_same (Try.strings_IndexByte _ _ _))
      rw [hbk, hib.out]
      have b3 := b2.trans ((Cells.below_drewN (Below.refl w2.heap.size w2) nq).mono b2.size)
      go_wp2_with fail
      change bodyPost Try.prog Try.f58 (fun e w' => e = .returned (.int .i64 (-1)) ∧ Below w.heap.size w w') .ret _ _
      go_ret
      exact ⟨rfl, b3⟩

theorem NoAny_more {s chars : List UInt8} {i n : Nat} (h : Lib.NoAny s chars i) (hn : ∀ j, i ≤ j → j < i + n → ∀ b, s[j]? = some b → chars.contains b = false) : Lib.NoAny s chars (i + n) := fun j b hj hb => by
  by_cases e : j < i
  · exact h j b e hb
  · exact hn j (by omega) hj b hb
theorem big_none {chars : List UInt8} (hc : ∀ b ∈ chars, b.toNat < 128) {b : UInt8} (hb : 128 ≤ b.toNat) : chars.contains b = false := by
  rw [Bool.eq_false_iff, Ne, List.contains_iff_mem]
  exact fun hm => by have := hc b hm; omega
/-- The bytes of a code point that does not begin below 128 stand from 128 on. -/
theorem rune_bytes (s : ByteArray) (pos : Nat) (hp : pos < s.size) (hb : 128 ≤ (s[pos]).toNat) : 128 ≤ (Utf8.decode s pos).1 ∧ ∀ j, pos ≤ j → j < pos + (Utf8.decode s pos).2 → ∀ b, s.data.toList[j]? = some b → 128 ≤ b.toNat := by
  rw [Lib.decode_N]
  have h0 : (s.data.toList.getD pos 0).toNat = (s[pos]).toNat := by rw [getD_of s pos hp]
  obtain ⟨c1, c2, c3, c4⟩ := Lib.decodeN_conts (s.data.toList.length - pos) (s.data.toList.getD pos 0).toNat (s.data.toList.getD (pos + 1) 0).toNat (s.data.toList.getD (pos + 2) 0).toNat (s.data.toList.getD (pos + 3) 0).toNat
  refine ⟨?_, fun j h1 h2 b hj => ?_⟩
  · rcases Lib.decodeN_cases (s.data.toList.length - pos) (s.data.toList.getD pos 0).toNat (s.data.toList.getD (pos + 1) 0).toNat (s.data.toList.getD (pos + 2) 0).toNat (s.data.toList.getD (pos + 3) 0).toNat with h | h | h | h | h
    · omega
    · rw [h.2.2.2.2]; exact h.2.2.2.1
    · rw [h.2.2.2.2.2]; dsimp only; omega
    · omega
    · rw [h]; decide
  · have hd : ∀ k, s.data.toList[k]? = some b → s.data.toList.getD k 0 = b := fun k hk => by rw [List.getD_eq_getElem?_getD, hk]; rfl
    have e := hd j hj
    by_cases e0 : j = pos
    · subst e0; rw [← e, h0]; exact hb
    by_cases e1 : j = pos + 1
    · subst e1; have := (c1 (by omega)).1; rw [e] at this; omega
    by_cases e2 : j = pos + 2
    · subst e2; have := (c2 (by omega)).1; rw [e] at this; omega
    by_cases e3 : j = pos + 3
    · subst e3; have := (c3 (by omega)).1; rw [e] at this; omega
    omega

set_option maxRecDepth 100000 in
set_option maxHeartbeats 3200000 in
theorem indexAny_any (s cs : ByteArray) (w : World) (hs : s.size ≤ 1000000) (hz : cs.size = 4) (hc : ∀ b ∈ cs.data.toList, b.toNat < 128) :
    Calls Try.prog 40 #[.string s, .string cs] w fun e w' => e = .returned (.int .i64 (Lib.indexAny s.data.toList cs.data.toList)) ∧ Below w.heap.size w w' := by
  by_cases h8 : 8 < s.size
  · refine (Try.strings_IndexAny_long (zero_of_info (n := 256) (by kernel_rfl)).1 s cs w (by omega) h8 (by omega) (by omega) (fun j b hj => hc b (List.mem_of_getElem? hj))).mono ?_
    rintro e w' ⟨rfl, rfl⟩
    exact ⟨rfl, ((Below.refl _ _).alloc (Nat.le_refl _) _).alloc (by simp) _⟩
  · have hnone := Lib.hid (fun r W h0 h1 => runeNone_any cs r W h0 h1 hz hc)
    have hbig := Lib.hid (fun (b : UInt8) h => big_none (b := b) hc h)
    have hemp := ne_empty (s := cs) (by omega)
    have hn1 : ((cs.size : Int) == 1) = false := beq_eq_false_iff_ne.2 (by omega)
    have h8z : decide ((8 : Int) < (s.size : Int)) = false := decide_eq_false (by omega)
    clear hc hz
    go_enter Try.func40, Try.ntmps40
    go_wp2_with fail
    (refine (Try.strings_shouldUseASCIISet _ _).mono ?_); rintro e w1 ⟨rfl, hw⟩; obtain rfl := hw.symm
    rw [h8z]
    go_wp2_with fail
    go_loopw [9, 10] (fun _ _ wr => ∃ pos : Nat, pos ≤ s.size ∧ wr.heap[w.heap.size]? = some (.stringIter s pos) ∧ Hid (Lib.NoAny s.data.toList cs.data.toList pos) ∧ Below w.heap.size w wr) (fun _ _ wr => s.size - wr.iterPos w.heap.size)
    case atStart => exact ⟨0, Nat.zero_le _, World.iter_heap w s 0, Lib.hid (Lib.NoAny.zero _ _), (Below.refl _ _).alloc (Nat.le_refl _) _⟩
    case round =>
      obtain ⟨pos, hp, hk, hno, bw⟩ := hrel
      by_cases hlt : pos < s.size
      · have hnx : ∀ ty, (Instr.next (.pointer (some ⟨w.heap.size, 0, none⟩)) true ty).run Try.prog wr = _ := fun ty => Lib.run_next_any_at wr w.heap.size s pos ty hk hlt
        have hk2 := Lib.iterAt_heap wr w.heap.size s pos (pos + (Utf8.decode s pos).2) hk
        have b2 := Lib.below_iterAt bw (k := w.heap.size) (Nat.le_refl _) s (pos + (Utf8.decode s pos).2)
        by_cases h128 : 128 ≤ (s[pos]).toNat
        · obtain ⟨r1, r2⟩ := rune_bytes s pos hlt h128
          have r3 := Lib.rune_le s pos
          have r4 := Lib.width_pos s pos
          have r5 := Lib.decodeL_le (s.data.toList.drop pos) (by rw [lcons s pos hlt]; simp)
          rw [Lib.decodeL_drop, List.length_drop, list_len] at r5
          have hn2 := Lib.hid (NoAny_more hno.out fun j h1 h2 b hb => hbig.out b (r2 j h1 h2 b hb))
          clear r2 hno
          generalize Utf8.decode s pos = d at *
          obtain ⟨r, n⟩ := d
          dsimp only at *
          go_wp2_with fail
          (refine (hnone.out _ _ (by omega) (by omega)).mono ?_); rintro e w1 ⟨rfl, b3⟩
          have b4 := b2.trans (b3.mono b2.size)
          have hkl : w.heap.size < (wr.iterAt w.heap.size s (pos + n)).heap.size := (Array.getElem?_eq_some_iff.1 hk2).1
          have hk4 := (b3.block w.heap.size hkl).trans hk2
          go_wp2_with fail
          go_roundw
          case rel => exact ⟨pos + n, by omega, hk4, hn2, b4⟩
          case measure => simp [World.iterPos, hk4, hk]; omega
        · have hd : Utf8.decode s pos = ((s[pos]).toNat, 1) := by
            rw [Lib.decode_N, getD_of s pos hlt]
            exact Lib.decodeN_ascii _ _ _ _ _ (by omega)
          rw [hd] at hnx hk2 b2
          have hxl : s.data.toList[pos]? = some s[pos] := by rw [List.getElem?_eq_getElem (by rw [list_len]; exact hlt)]; rfl
          have hcon := Lib.contains_iff_indexByte cs.data.toList s[pos]
          have hback : ((s[pos].toNat : Int)).toNat.toUInt8 = s[pos] := by simp
          clear hd
          dsimp only at *
          cases hin : cs.data.toList.contains s[pos]
          · rw [hin] at hcon
            have hlt2 : ¬ ((0 : Int) ≤ Lib.indexByte cs.data.toList s[pos]) := of_decide_eq_false hcon.symm
            have hn2 := Lib.hid (hno.out.succ hxl hin)
            clear hcon hin hxl
            go_wp2_with fail
            (refine (Try.strings_IndexRune_ascii _ _ _ (by omega) (by omega)).mono ?_); rintro e w1 ⟨rfl, hw⟩; obtain rfl := hw.symm
            rw [hback]
            go_wp2_with fail
            go_roundw
            case rel => exact ⟨pos + 1, by omega, hk2, hn2, b2⟩
            case measure => simp [World.iterPos, hk2, hk]; omega
          · rw [hin] at hcon
            have hge : (0 : Int) ≤ Lib.indexByte cs.data.toList s[pos] := of_decide_eq_true hcon.symm
            have hfin := Lib.hid (Lib.indexAny_hit hno.out hxl hin)
            clear hcon hin hxl
            go_wp2_with fail
            (refine (Try.strings_IndexRune_ascii _ _ _ (by omega) (by omega)).mono ?_); rintro e w1 ⟨rfl, hw⟩; obtain rfl := hw.symm
            rw [hback]
            go_wp2_with fail
            go_ret
            exact ⟨ret_int hfin.out.symm, b2⟩
      · have hnx : ∀ ty, (Instr.next (.pointer (some ⟨w.heap.size, 0, none⟩)) true ty).run Try.prog wr = _ := fun ty => Lib.run_next_end_at wr w.heap.size s pos ty hk hlt
        obtain rfl : pos = s.size := by omega
        have hfin : Hid (Lib.indexAny s.data.toList cs.data.toList = -1) := Lib.hid (Lib.indexAny_none (by rw [list_len]; exact hno.out))
        go_wp2_with fail
        go_ret
        exact ⟨ret_int hfin.out.symm, bw⟩
end Go.Proofs.Ytmfmgbjkbadndaa
