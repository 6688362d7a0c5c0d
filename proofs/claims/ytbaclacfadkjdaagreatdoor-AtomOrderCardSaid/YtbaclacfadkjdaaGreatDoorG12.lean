/-
  strings.ReplaceAll and strings.Contains of the library's own words, step by step: what stands at the head is replaced, or goes on; and plain lines as two replacings.
  The longest head of a text by two rules, and what a code point in place of a byte that is none looks like: in plain Lean.
  What the program's words of code points come to: contracts of isWithin, Char, Start, Part.
  What the program's words of texts come to: contracts of isBroken, head, Check, Name, Plain, Lines.
  What the program's words of texts come to: contracts of Check, Name, Plain, Lines.
  A builder of text that a call has made itself: what its methods come to (copyCheck, WriteString, WriteByte, WriteRune), and that it stays what it is under what only makes memory.
  A builder of text that a call has made itself: what WriteString leaves of the other blocks.
  What strings.Cut says of one byte: what stands ahead of it, and behind it.
  References in plain Lean, as the program goes about them: parts taken from the end on, signs byte by byte, pieces of a path on a stack.
-/
import Derived.Test.YtbaclacfadkjdaaGreatDoorG01
import Derived.Lib.ReplaceLaws
import Derived.Lib.IndexMore
import Derived.Test.YtbaclacfadkjdaaGreatDoorG05
import Derived.Lib.OthersKept
import Derived.Test.YtbaclacfadkjdaaGreatDoorShelf
import Derived.BigQuiet
import Derived.WalkSmall
import Derived.Lib.RuneBytes
import Derived.Lib.FrozenHead2
import Derived.Lib.Strings
import Derived.Test.YtbaclacfadkjdaaGreatDoorG08
namespace Go.Proofs.YtbaclacfadkjdaaGreatDoor
namespace G
open Lib
def pairs (l : List UInt8) : List UInt8 := replaceAll l [13, 10] [10]
end G
end Go.Proofs.YtbaclacfadkjdaaGreatDoor
namespace Go.Proofs.YtbaclacfadkjdaaGreatDoor
namespace G
open Lib
def hd (p q : Int → Bool) (l : List UInt8) : Nat := if (first l).2 ≠ 0 ∧ p (first l).1 = true then (first l).2 + span q (l.drop (first l).2) else 0
theorem hd_span (p : Int → Bool) (l : List UInt8) : hd p p l = span p l := by
  unfold hd
  split
  · rename_i h; rw [span_step p l h.1 h.2]
  · rename_i h
    refine (span_stop p l ?_).symm
    by_cases h0 : (first l).2 = 0
    · exact .inl h0
    · right
      cases hp : p (first l).1 with
      | false => rfl
      | true => exact absurd ⟨h0, hp⟩ h
def rest (p q : Int → Bool) (pos : Nat) (l : List UInt8) : Nat := if pos = 0 then hd p q l else span q l
theorem rest_stop (p q : Int → Bool) (pos : Nat) (l : List UInt8) (h0 : pos = 0 → (first l).2 = 0 ∨ p (first l).1 = false) (h1 : pos ≠ 0 → (first l).2 = 0 ∨ q (first l).1 = false) : rest p q pos l = 0 := by
  unfold rest
  split
  · rename_i h
    unfold hd
    rw [if_neg]
    rintro ⟨a, b⟩
    rcases h0 h with h | h
    · exact a h
    · rw [h] at b; cases b
  · rename_i h; exact span_stop q l (h1 h)
theorem rest_step (p q : Int → Bool) (pos : Nat) (l : List UInt8) (hf : (first l).2 ≠ 0) (h0 : pos = 0 → p (first l).1 = true) (h1 : pos ≠ 0 → q (first l).1 = true) :
    rest p q pos l = (first l).2 + rest p q (pos + (first l).2) (l.drop (first l).2) := by
  have e : rest p q (pos + (first l).2) (l.drop (first l).2) = span q (l.drop (first l).2) := by
    unfold rest; rw [if_neg (by omega)]
  rw [e]
  unfold rest
  split
  · rename_i h
    unfold hd
    rw [if_pos ⟨hf, h0 h⟩]
  · rename_i h; exact span_step q l hf (h1 h)
theorem bad_iff (l : List UInt8) (hl : l ≠ []) (h : (decodeL l).1 = 65533) : (!hasPrefix l [239, 191, 189]) = decide ((decodeL l).2 = 1) := by
  have hN := decodeL_N l
  rw [Bool.eq_iff_iff, Bool.not_eq_true', decide_eq_true_eq]
  match l, hl with
  | [a], _ =>
    constructor
    · intro _
      have := decodeL_width [a]
      have h2 := decodeL_le [a] (by simp)
      simp at h2; omega
    · intro _; simp [hasPrefix, List.isPrefixOf]
  | [a, b], _ =>
    have ha := a.toNat_lt
    have hb := b.toNat_lt
    simp only [List.length_cons, List.length_nil, List.getD_cons_zero, List.getD_cons_succ, List.getD_nil] at hN
    constructor
    · intro _
      rw [hN] at h ⊢
      unfold decodeN at h ⊢
      split at h
      · simp at h; omega
      · rename_i h1
        rw [if_neg h1]
        split at h
        · rename_i h2
          rw [if_pos h2]
          split at h
          · simp at h; omega
          · rename_i h3; rw [if_neg h3]
        · rename_i h2
          rw [if_neg h2, if_neg (by omega), if_neg (by omega)]
    · intro _; simp [hasPrefix, List.isPrefixOf]
  | a :: b :: c :: t, _ =>
    have ha := a.toNat_lt
    have hb := b.toNat_lt
    have hc := c.toNat_lt
    have e0 : (a :: b :: c :: t).getD 0 0 = a := rfl
    have e1 : (a :: b :: c :: t).getD 1 0 = b := rfl
    have e2 : (a :: b :: c :: t).getD 2 0 = c := rfl
    have hd' := ((a :: b :: c :: t).getD 3 0).toNat_lt
    rw [e0, e1, e2] at hN
    generalize ((a :: b :: c :: t).getD 3 0).toNat = b3 at *
    have hlen : 3 ≤ (a :: b :: c :: t).length := by simp
    generalize (a :: b :: c :: t).length = n at *
    have hpre : hasPrefix (a :: b :: c :: t) [239, 191, 189] = decide (a.toNat = 239 ∧ b.toNat = 191 ∧ c.toNat = 189) := by
      rw [Bool.eq_iff_iff, decide_eq_true_eq]
      simp only [hasPrefix, List.isPrefixOf, Bool.and_true, Bool.and_eq_true, beq_iff_eq]
      constructor
      · rintro ⟨rfl, rfl, rfl⟩; exact ⟨rfl, rfl, rfl⟩
      · rintro ⟨x, y, z⟩; exact ⟨(UInt8.toNat_inj.1 x).symm, (UInt8.toNat_inj.1 y).symm, (UInt8.toNat_inj.1 z).symm⟩
    rw [hpre, decide_eq_false_iff_not]
    rw [hN] at h ⊢
    generalize a.toNat = x at *
    generalize b.toNat = y at *
    generalize c.toNat = z at *
    clear hpre hN e0 e1 e2
    unfold decodeN at h ⊢
    split at h
    · simp at h; omega
    · rename_i h1
      rw [if_neg h1]
      split at h
      · rename_i h2
        rw [if_pos h2]
        split at h
        · simp at h; omega
        · rename_i h3; rw [if_neg h3]; simp; omega
      · rename_i h2
        rw [if_neg h2]
        split at h
        · rename_i h3
          rw [if_pos h3]
          split at h
          · rename_i h4
            rw [if_pos h4]
            simp at h ⊢; omega
          · rename_i h4; rw [if_neg h4]; simp; omega
        · rename_i h3
          rw [if_neg h3]
          split at h
          · rename_i h4
            rw [if_pos h4]
            split at h
            · rename_i h5; simp at h; omega
            · rename_i h5; rw [if_neg h5]; simp; omega
          · rename_i h4; rw [if_neg h4]; simp; omega
end G
end Go.Proofs.YtbaclacfadkjdaaGreatDoor
namespace Go.Proofs.YtbaclacfadkjdaaGreatDoor
open Go.RowKit
set_option maxRecDepth 100000 in
set_option maxHeartbeats 800000 in
theorem isWithin_any (c : Int) (L : List (Int × Int)) (b n cap : Nat) (w : World) (hL : PairsAt b L w) (hn : L.length ≤ 1000) (hln : L.length = n) :
    Calls Tryz.prog 139 #[.int .i64 c, .slice (some ⟨b, 0, none⟩) n cap] w fun e w' => e = .returned (.bool (G.any c L)) ∧ Below w.heap.size w w' := by
  have hln := Lib.hid hln
  go_enter Tryz.func139, Tryz.ntmps139
  go_wp2_with fail
  go_loopw [9] (fun i wr => ∃ k : Nat, k ≤ n ∧ i = .int .i64 (k : Int) ∧ Hid (G.any c (L.take k) = false) ∧ Below w.heap.size w wr) (fun i _ => n - (intOf i).toNat)
  case atStart => exact ⟨0, Nat.zero_le _, rfl, Lib.hid rfl, Below.refl _ _⟩
  case round =>
    obtain ⟨k, hk, rfl, hall, bw⟩ := hrel
    by_cases hlt : k < n
    · obtain ⟨c0, c1⟩ := hL k (by rw [hln.out]; exact hlt)
      have d0 := (bw.cell (World.block_lt_of_cell? w _ c0)).trans c0
      have d1 := (bw.cell (World.block_lt_of_cell? w _ c1)).trans c1
      have hkl : k < L.length := by rw [hln.out]; exact hlt
      have hst := Lib.hid (G.any_take c L k hkl)
      have hat := Lib.hid (G.any_at c L k hkl)
      generalize L[k].1 = x at c0 d0 hst hat
      generalize L[k].2 = y at c1 d1 hst hat
      rw [Nat.mul_comm] at d0 d1
      clear c0 c1 hL
      by_cases hx : x ≤ c
      · by_cases hy : c ≤ y
        · have hr := Lib.hid (hat.out (by simp [G.inR, hx, hy]))
          go_wp2
          go_ret
          exact ⟨ret_bool hr.out.symm, bw.alloc bw.size _⟩
        · have hr := Lib.hid (show G.any c (L.take (k + 1)) = false by rw [hst.out, hall.out]; simp [G.inR, hx, hy])
          go_wp2
          go_roundw
          case rel => exact ⟨k + 1, by omega, by go_num, hr, bw.alloc bw.size _⟩
          case measure => simp [intOf]; omega
      · have hr := Lib.hid (show G.any c (L.take (k + 1)) = false by rw [hst.out, hall.out]; simp [G.inR, hx])
        go_wp2
        go_roundw
        case rel => exact ⟨k + 1, by omega, by go_num, hr, bw.alloc bw.size _⟩
        case measure => simp [intOf]; omega
    · have hfull : L.take k = L := List.take_of_length_le (by rw [hln.out]; omega)
      rw [hfull] at hall
      clear hfull
      go_wp2
      go_ret
      exact ⟨ret_bool hall.out.symm, bw⟩
set_option maxRecDepth 100000 in
set_option maxHeartbeats 1600000 in
theorem gChar_at (c : Int) (w : World) :
    Calls Tryz.prog 104 #[.int .i64 c] w fun e w' => e = .returned (.bool (G.char c)) ∧ Below w.heap.size w w' := by
  have hm : G.char c = G.any c [(9, 10), (13, 13), (32, 55295), (57344, 65533), (65536, 1114111)] := by simp [G.any, G.char, Bool.or_assoc]
  rw [hm]
  clear hm
  go_enter Tryz.func104, Tryz.ntmps104
  go_wp2_with fail
  (with_reducible refine (isWithin_any c [(9, 10), (13, 13), (32, 55295), (57344, 65533), (65536, 1114111)] w.heap.size 5 _ _ ?_ (by decide) rfl).mono ?_)
  · exact pairsAt_cells (heap_alloc_new w _)
  rintro e w1 ⟨rfl, b1⟩
  have b0 := (Below.refl w.heap.size w).alloc (Nat.le_refl _)
  go_wp2
  go_ret
  exact ⟨rfl, (b0 _).trans (b1.mono (b0 _).size)⟩
end Go.Proofs.YtbaclacfadkjdaaGreatDoor
namespace Go.Proofs.YtbaclacfadkjdaaGreatDoor
open Go.RowKit
set_option maxHeartbeats 800000 in
theorem isBroken_any (t : ByteArray) (r : Nat) (w : World) (hr : (Lib.decodeL t.data.toList).1 = r) (ht : 0 < t.size) :
    Calls Tryz.prog 138 #[.string t, .int .i32 (r : Int)] w fun e w' => e = .returned (.bool (decide (r = 65533 ∧ (Lib.decodeL t.data.toList).2 = 1))) ∧ w = w' := by
  by_cases h : r = 65533
  · have hb := Lib.hid (G.bad_iff t.data.toList (lst_ne ht) (hr.trans h))
    clear hr
    subst h
    go_enter Tryz.func138, Tryz.ntmps138
    go_wp2_with fail
    (with_reducible refine (Tryz.strings_HasPrefix t _ _).mono ?_); rintro e w1 ⟨rfl, rfl⟩
    go_wp2
    all_goals
      go_ret
      exact ⟨ret_bool (by
        have := hb.out
        simp_all), rfl⟩
  · have h1 : ¬ (r : Int) = 65533 := by omega
    have h2 : ((r : Int) == 65533) = false := beq_eq_false_iff_ne.2 h1
    have hd := Lib.hid (show decide (r = 65533 ∧ (Lib.decodeL t.data.toList).2 = 1) = false by simp [h])
    clear hr h
    go_enter Tryz.func138, Tryz.ntmps138
    go_wp2
    go_ret
    exact ⟨ret_bool hd.out.symm, rfl⟩
theorem first_at (s : ByteArray) (pos : Nat) (h : pos < s.size) : G.first (s.data.toList.drop pos) = if (Utf8.decode s pos).1 = 65533 ∧ (Utf8.decode s pos).2 = 1 then (0, 0) else Utf8.decode s pos := by
  unfold G.first
  have hne : s.data.toList.drop pos ≠ [] := by rw [drop_cons s pos h]; simp
  rw [if_neg hne, Lib.decodeL_drop]
theorem stop_rune {f : Nat × Nat} {r n : Nat} {p : Int → Bool} (hF : f = if r = 65533 ∧ n = 1 then (0, 0) else (r, n)) (h : p r = false) : f.2 = 0 ∨ p f.1 = false := by
  rw [hF]
  split
  · exact .inl rfl
  · exact .inr h
theorem stop_bad {f : Nat × Nat} {r n : Nat} {p : Int → Bool} (hF : f = if r = 65533 ∧ n = 1 then (0, 0) else (r, n)) (h : r = 65533 ∧ n = 1) : f.2 = 0 ∨ p f.1 = false := by
  rw [hF, if_pos h]; exact .inl rfl
theorem go_rune {f : Nat × Nat} {r n : Nat} (hF : f = if r = 65533 ∧ n = 1 then (0, 0) else (r, n)) (h : ¬ (r = 65533 ∧ n = 1)) : f = (r, n) := by
  rw [hF, if_neg h]
set_option maxRecDepth 100000 in
set_option maxHeartbeats 1600000 in
theorem head_chars (s : ByteArray) (w : World) (hs : s.size ≤ 1000000) :
    Calls Tryz.prog 103 #[.string s, .func (.func 104) #[] #[], .func (.func 104) #[] #[]] w fun e w' => e = .returned (.int .i64 (G.hd G.char G.char s.data.toList : Nat)) ∧ Below w.heap.size w w' := by
  go_enter Tryz.func103, Tryz.ntmps103
  go_wp2_with fail
  go_loopw [7, 8, 9] (fun m _ _ wr => ∃ pos : Nat, pos ≤ s.size ∧ ((pos = 0 ∧ m = .func (.func 104) #[] #[]) ∨ (pos ≠ 0 ∧ m = .func (.func 104) #[] #[])) ∧ wr.heap[w.heap.size]? = some (.stringIter s pos) ∧ Hid (G.hd G.char G.char s.data.toList = pos + G.rest G.char G.char pos (s.data.toList.drop pos)) ∧ Below w.heap.size w wr) (fun _ _ _ wr => s.size - wr.iterPos w.heap.size)
  case atStart => exact ⟨0, Nat.zero_le _, .inl ⟨rfl, rfl⟩, World.iter_heap w s 0, Lib.hid (by simp [G.rest]), (Below.refl _ _).alloc (Nat.le_refl _) _⟩
  case round =>
    obtain ⟨pos, hp, hm, hk, hC, bw⟩ := hrel
    by_cases hlt : pos < s.size
    · have hnx : ∀ ty, (Instr.next (.pointer (some ⟨w.heap.size, 0, none⟩)) true ty).run Tryz.prog wr = _ := fun ty => Lib.run_next_any_at wr w.heap.size s pos ty hk hlt
      have hF := first_at s pos hlt
      have hwd := Lib.width_pos s pos
      have hle := G.first_le (s.data.toList.drop pos)
      have hst := Lib.hid (G.rest_stop G.char G.char pos (s.data.toList.drop pos))
      have hsp := Lib.hid (G.rest_step G.char G.char pos (s.data.toList.drop pos))
      have hr0 := Lib.decodeL_rune (s.data.toList.drop pos)
      rw [Lib.decodeL_drop] at hr0
      have hbad := isBroken_any (s.extract pos s.size)
      rw [drop_list, Lib.decodeL_drop] at hbad
      rw [List.length_drop, list_len] at hle
      have hk2 := Lib.iterAt_heap wr w.heap.size s pos (pos + (Utf8.decode s pos).2) hk
      have b2 := Lib.below_iterAt bw (k := w.heap.size) (Nat.le_refl _) s (pos + (Utf8.decode s pos).2)
      rcases hm with ⟨h0, rfl⟩ | ⟨h0, rfl⟩
      · subst h0
        rw [Nat.zero_add] at hk2 b2
        rw [extract_full] at hbad
        go_wp2_with fail
        (with_reducible refine (gChar_at _ _).mono ?_); rintro e w1 ⟨rfl, b3⟩
        have b4 := b2.trans (b3.mono b2.size)
        have hkl : w.heap.size < (wr.iterAt w.heap.size s ((Utf8.decode s 0).2)).heap.size := (Array.getElem?_eq_some_iff.1 hk2).1
        have hk4 := (b3.block w.heap.size hkl).trans hk2
        clear hk2 hkl hnx
        generalize Utf8.decode s 0 = d at *
        obtain ⟨r, n⟩ := d
        dsimp only at *
        cases hp : G.char r
        · have hq := Lib.hid (hst.out (fun _ => stop_rune hF hp) (fun h => absurd rfl h))
          have hp := Lib.hid hp
          clear hF hbad
          go_wp2
          go_ret
          exact ⟨ret_int (by rw [hC.out, hq.out]; rfl), b4⟩
        · have hp := Lib.hid hp
          go_wp2_with fail
          (with_reducible refine (hbad r _ rfl (by omega)).mono ?_); rintro e w2 ⟨rfl, rfl⟩
          by_cases hb : r = 65533 ∧ n = 1
          · have hq := Lib.hid (hst.out (fun _ => stop_bad hF hb) (fun h => absurd rfl h))
            have hd := decide_eq_true hb
            rw [hd]
            clear hF hb hd hbad
            go_wp2
            go_ret
            exact ⟨ret_int (by rw [hC.out, hq.out]; rfl), b4⟩
          · have hfr := go_rune hF hb
            have hq := Lib.hid (hsp.out (by rw [hfr]; omega) (fun _ => by rw [hfr]; exact hp.out) (fun h => absurd rfl h))
            rw [hfr] at hle
            have hd := decide_eq_false hb
            rw [hd]
            have hfr := Lib.hid hfr
            clear hF hb hd hbad
            go_wp2
            go_roundw
            case rel => exact ⟨n, by omega, .inr ⟨by omega, rfl⟩, hk4, Lib.hid (by rw [hC.out, hq.out, hfr.out, List.drop_drop]; simp only [Nat.zero_add]), b4⟩
            case measure => simp [World.iterPos, hk4, hk]; omega
      · have h0 := Lib.hid h0
        go_wp2_with fail
        (with_reducible refine (gChar_at _ _).mono ?_); rintro e w1 ⟨rfl, b3⟩
        have b4 := b2.trans (b3.mono b2.size)
        have hkl : w.heap.size < (wr.iterAt w.heap.size s (pos + (Utf8.decode s pos).2)).heap.size := (Array.getElem?_eq_some_iff.1 hk2).1
        have hk4 := (b3.block w.heap.size hkl).trans hk2
        clear hk2 hkl hnx
        generalize Utf8.decode s pos = d at *
        obtain ⟨r, n⟩ := d
        dsimp only at *
        cases hp : G.char r
        · have hq := Lib.hid (hst.out (fun h => absurd h h0.out) (fun _ => stop_rune hF hp))
          have hp := Lib.hid hp
          clear hF hbad
          go_wp2
          go_ret
          exact ⟨ret_int (by rw [hC.out, hq.out]; rfl), b4⟩
        · have hp := Lib.hid hp
          go_wp2_with fail
          (with_reducible refine (hbad r _ rfl (by simp; omega)).mono ?_); rintro e w2 ⟨rfl, rfl⟩
          by_cases hb : r = 65533 ∧ n = 1
          · have hq := Lib.hid (hst.out (fun h => absurd h h0.out) (fun _ => stop_bad hF hb))
            have hd := decide_eq_true hb
            rw [hd]
            clear hF hb hd hbad
            go_wp2
            go_ret
            exact ⟨ret_int (by rw [hC.out, hq.out]; rfl), b4⟩
          · have hfr := go_rune hF hb
            have hq := Lib.hid (hsp.out (by rw [hfr]; omega) (fun h => absurd h h0.out) (fun _ => by rw [hfr]; exact hp.out))
            rw [hfr] at hle
            have hd := decide_eq_false hb
            rw [hd]
            have hfr := Lib.hid hfr
            clear hF hb hd hbad
            go_wp2
            go_roundw
            case rel => exact ⟨pos + n, by omega, .inr ⟨by omega, rfl⟩, hk4, Lib.hid (by rw [hC.out, hq.out, hfr.out, List.drop_drop]; dsimp only; omega), b4⟩
            case measure => simp [World.iterPos, hk4, hk]; omega
    · have hnx : ∀ ty, (Instr.next (.pointer (some ⟨w.heap.size, 0, none⟩)) true ty).run Tryz.prog wr = _ := fun ty => Lib.run_next_end_at wr w.heap.size s pos ty hk hlt
      have hnil : s.data.toList.drop pos = [] := List.drop_of_length_le (by rw [list_len]; omega)
      rw [hnil] at hC
      have hz : G.rest G.char G.char pos [] = 0 := G.rest_stop _ _ _ _ (fun _ => .inl rfl) (fun _ => .inl rfl)
      rw [hz] at hC
      have hps := Lib.hid (show pos = s.size by omega)
      clear hnil hz
      rcases hm with ⟨h0, rfl⟩ | ⟨h0, rfl⟩
      all_goals
        have h0 := Lib.hid h0
        go_wp2
        go_ret
        exact ⟨ret_int (by rw [hC.out, hps.out]; rfl), bw⟩
end Go.Proofs.YtbaclacfadkjdaaGreatDoor
namespace Go.Proofs.YtbaclacfadkjdaaGreatDoor
open Go.RowKit
theorem check_yes {l : List UInt8} (h : ¬ G.span G.char l < l.length) : G.checkN l = 0 := by
  have := G.span_le G.char l
  unfold G.checkN G.check
  rw [if_pos (decide_eq_true (by omega))]
theorem check_no {l : List UInt8} (h : G.span G.char l < l.length) : G.checkN l = 50 := by
  unfold G.checkN G.check
  rw [if_neg (by rw [decide_eq_true_eq]; omega)]
set_option maxHeartbeats 800000 in
theorem gCheck_any (s : ByteArray) (w : World) (hs : s.size ≤ 1000000) (_ : Env w) : Calls Tryz.prog 73 #[.string s] w fun e w' => e = .returned (.int .i64 (G.checkN s.data.toList)) ∧ Below w.heap.size w w' := by
  have hy := Lib.hid (@check_yes s.data.toList)
  have hn := Lib.hid (@check_no s.data.toList)
  have hlen := Lib.hid (list_len s)
  go_enter Tryz.func73, Tryz.ntmps73
  go_wp2_with fail
  (with_reducible refine (head_chars s _ hs).mono ?_); rintro e w1 ⟨rfl, b1⟩
  rw [G.hd_span]
  generalize G.span G.char s.data.toList = k at *
  by_cases h : k < s.size
  · have hr := Lib.hid (hn.out (by rw [hlen.out]; exact h))
    go_wp2
    go_ret
    exact ⟨ret_int hr.out.symm, b1⟩
  · have hr := Lib.hid (hy.out (by rw [hlen.out]; exact h))
    go_wp2
    go_ret
    exact ⟨ret_int hr.out.symm, b1⟩
end Go.Proofs.YtbaclacfadkjdaaGreatDoor
namespace Go.Proofs.YtbaclacfadkjdaaGreatDoor
open Go.RowKit
theorem sizeBuilder : ∃ j, Tryz.prog.info? 56 = some j ∧ j.size ≠ 0 := by
  have h : (Tryz.prog.info? 56).map (·.size) = some 2 := by kernel_rfl
  obtain ⟨j, hj, hs⟩ := Option.map_eq_some_iff.1 h
  exact ⟨j, hj, by rw [hs]; decide⟩
theorem liesBuilder : liesAt Tryz.prog Tryz.prog.depth 56 (2 / Tryz.prog.cellsOf 56) 0 56 1 = true := by kernel_rfl
def Builds (B b : Nat) (l : List UInt8) (w : World) : Prop := Lib.IsBuilderF 56 5 B b (Lib.byteCells l) w
theorem builds_new (w : World) : Builds w.heap.size w.heap.size [] (w.alloc (.cells #[.pointer none, .slice none 0 0] 56)) :=
  .inl ⟨Nat.le_refl _, .slice none 0 0, heap_alloc_new w _, World.ownsRowF_nil _ _ _ _, by simp [Value.ownBlock]⟩
theorem builds_lt {B b : Nat} {l : List UInt8} {w : World} (h : Builds B b l w) : b < w.heap.size := by
  rcases h with h | h
  · exact h.lt
  · exact h.lt
theorem builds_below {B b : Nat} {l : List UInt8} {w w' : World} (h : Builds B b l w) (hb : Below w.heap.size w w') : Builds B b l w' := by
  have key : ∀ p, Lib.BuilderAtF 56 5 B b p (Lib.byteCells l) w → Lib.BuilderAtF 56 5 B b p (Lib.byteCells l) w' := by
    rintro p ⟨hB, v, hbk, hown, hne⟩
    have hlt : b < w.heap.size := Lib.BuilderAtF.lt ⟨hB, v, hbk, hown, hne⟩
    refine ⟨hB, v, (hb.block b hlt).trans hbk, World.ownsRowF.kept hown (grown_of_below hb none) ?_, hne⟩
    cases h : v.ownBlock with
    | none => exact .inl rfl
    | some k => exact .inr (by simp)
  exact h.imp (key _) (key _)
set_option maxHeartbeats 1000000 in
set_option maxRecDepth 100000 in
theorem builder_check_used (b : Nat) (w : World) (h0 : w.cell? ⟨b, 0, none⟩ = some (.pointer (some ⟨b, 0, none⟩))) :
    Calls Tryz.prog 48 #[.pointer (some ⟨b, 0, none⟩)] w fun e w' => e = .returned (.tuple #[]) ∧ w' = w := by
  obtain ⟨j, hj, _⟩ := sizeBuilder
  have hsm := Lib.run_neq_ptr_same (P := Tryz.prog) w (tp := 53) (te := 56) ⟨b, 0, none⟩ Tryz.underlying53 hj
  go_enter Tryz.func48, Tryz.ntmps48
  go_wp2
  go_end0
  exact ⟨rfl, rfl⟩
set_option maxHeartbeats 1000000 in
set_option maxRecDepth 100000 in
theorem builder_check_fresh (b : Nat) (w : World) (h0 : w.cell? ⟨b, 0, none⟩ = some (.pointer none)) (hsh : w.shape? b = some (56, 2)) (hfz : w.frozen? ⟨b, 0, none⟩ = false) :
    Calls Tryz.prog 48 #[.pointer (some ⟨b, 0, none⟩)] w fun e w' => e = .returned (.tuple #[]) ∧ w' = w.setCell ⟨b, 0, none⟩ (.pointer (some ⟨b, 0, none⟩)) := by
  obtain ⟨j, hj, hjs⟩ := sizeBuilder
  go_enter Tryz.func48, Tryz.ntmps48
  go_wp2
  rw [Lib.run_to_unsafe w ⟨b, 0, none⟩ Tryz.underlying53 Tryz.underlying96 hj hjs hsh (Nat.zero_lt_succ 1)]
  simp only [Result.andThen]
  rw [Oper.upon_value]
  go_wp2
  rw [run_callFunc_extern Tryz.func67 (by kernel_rfl) (by kernel_rfl) (by kernel_rfl) (e := Extern.AbiNoEscape.same) (by kernel_rfl)]
  rw [Lib.run_noEscape]
  simp only [Result.andThen]
  rw [Oper.upon_value]
  go_wp2
  rw [Lib.run_from_unsafe w ⟨b, 0, none⟩ Tryz.underlying96 Tryz.underlying53 hj hsh liesBuilder]
  simp only [Result.andThen]
  rw [Oper.upon_value]
  go_wp2
  go_end0
  exact ⟨rfl, rfl⟩
theorem builder_check (B b : Nat) (bs : List Value) (w : World) (h : Lib.IsBuilderF 56 5 B b bs w) :
    Calls Tryz.prog 48 #[.pointer (some ⟨b, 0, none⟩)] w fun e w' => e = .returned (.tuple #[]) ∧ Lib.BuilderAtF 56 5 B b (.pointer (some ⟨b, 0, none⟩)) bs w' ∧ Below B w w' := by
  rcases h with h | h
  · refine (builder_check_fresh b w h.cell0 h.shape h.frozen0).mono ?_
    rintro e w' ⟨rfl, rfl⟩
    exact ⟨rfl, h.used _, (Below.refl B w).setCell (p := ⟨b, 0, none⟩) h.1 _⟩
  · refine (builder_check_used b w h.cell0).mono ?_
    rintro e w' ⟨rfl, rfl⟩
    exact ⟨rfl, h, Below.refl B _⟩
set_option maxHeartbeats 2000000 in
set_option maxRecDepth 100000 in
theorem builder_writeString (B b : Nat) (l : List UInt8) (s : ByteArray) (w : World) (h : Builds B b l w) (hlen : l.length + s.size ≤ 140737488355328) (hBw : B ≤ w.heap.size) :
    Calls Tryz.prog 25 #[.pointer (some ⟨b, 0, none⟩), .string s] w fun e w' => e = .returned (.tuple #[.int .i64 s.size, .nilIface]) ∧ Builds B b (l ++ s.data.toList) w' ∧ Below B w w' := by
  obtain ⟨i0, hi, hz0, hz1, hz2⟩ := info_parts infoByte
  have hl0 : (Lib.byteCells l).length = l.length := Lib.byteCells_length l
  unfold Builds at *
  rw [Lib.byteCells_append, ← Lib.strCells_eq]
  generalize Lib.byteCells l = bs at *
  replace hlen : bs.length + s.size ≤ 140737488355328 := by omega
  clear hl0
  go_enter Tryz.func25, Tryz.ntmps25
  go_wp2_with fail
  (with_reducible refine (builder_check B b bs _ h).mono ?_)
  rintro e w1 ⟨rfl, h1, hb1⟩
  obtain ⟨hB, v, hbk, hown, hne⟩ := h1
  have c0 : w1.cell? ⟨b, 0, none⟩ = some (.pointer (some ⟨b, 0, none⟩)) := by rw [Lib.cell_of_heap hbk]; rfl
  have c1 : w1.cell? ⟨b, 1, none⟩ = some v := by rw [Lib.cell_of_heap hbk]; rfl
  go_wp2_with (at_builtin; refine Lib.wpList_append_own_stringF _ rfl _ _ 54 9 rfl B 5 i0 Tryz.underlying54 Tryz.underlying9 hi hz0 hz1 hz2 _ _ _ rfl hown s rfl ?c3 ?c4 ?c5 ?_)
  case c3 => unfold maxLen; omega
  case c4 => omega
  case c5 => have := hb1.size; omega
  intro v' w2 hown' hgrow _
  have hlt : b < w1.heap.size := by
    rcases Nat.lt_or_ge b w1.heap.size with h' | h'
    · exact h'
    · simp [Array.getElem?_eq_none h'] at hbk
  have hb2 : w2.heap[b]? = some (.cells #[.pointer (some ⟨b, 0, none⟩), v] 56 (0, 0)) := by
    rw [hgrow.block b hlt (fun e => hne e.symm)]
    exact hbk
  have d0 : w2.cell? ⟨b, 0, none⟩ = some (.pointer (some ⟨b, 0, none⟩)) := by rw [Lib.cell_of_heap hb2]; rfl
  have d1 : w2.cell? ⟨b, 1, none⟩ = some v := by rw [Lib.cell_of_heap hb2]; rfl
  have f1 : w2.frozen? ⟨b, 1, none⟩ = false := Lib.frozen_of_heap hb2 1
  obtain ⟨ao, n', cap, rfl⟩ : ∃ ao n' cap, v' = .slice ao n' cap := by
    rcases hown'.2 with ⟨hv, _⟩ | ⟨g, cap, cur, fz, hv, _⟩
    · exact ⟨_, _, _, hv⟩
    · exact ⟨_, _, _, hv⟩
  go_wp2
  go_ret2
  refine ⟨rfl, .inr ?_, ?_⟩
  · exact Lib.BuilderAtF.put (T := 56) (e := 5) hB hb2 (bs' := bs ++ Lib.strCells s) (by simpa [Lib.strCells_length] using hown') (by decide)
  · exact (hb1.grown hgrow (by have := hb1.size; omega) (fun k hk => (hown.lt k hk).1)).setCell (p := ⟨b, 1, none⟩) hB _
theorem builder_string (B b : Nat) (l : List UInt8) (w : World) (h : Builds B b l w) (hBw : B ≤ w.heap.size) :
    Calls Tryz.prog 26 #[.pointer (some ⟨b, 0, none⟩)] w fun e w' => e = .returned (.string ⟨l.toArray⟩) ∧ Builds B b l w' ∧ Below B w w' :=
  (Tryz.Builder_String_any_f B b l w h hBw).mono fun _ _ h => h
end Go.Proofs.YtbaclacfadkjdaaGreatDoor
namespace Go.Proofs.YtbaclacfadkjdaaGreatDoor
open Go.RowKit
end Go.Proofs.YtbaclacfadkjdaaGreatDoor
namespace Go.Proofs.YtbaclacfadkjdaaGreatDoor
open Go.RowKit
namespace Cu
def parts (c : UInt8) (t : List UInt8) : Option (List UInt8 × List UInt8) :=
  match t.drop (t.takeWhile (· ≠ c)).length with
  | [] => none
  | _ :: r => some (t.takeWhile (· ≠ c), r)
theorem parts_hit (c : UInt8) (t : List UInt8) : parts c (c :: t) = some ([], t) := by simp [parts]
theorem parts_step {c b : UInt8} (h : b ≠ c) (t : List UInt8) : parts c (b :: t) = (parts c t).map fun x => (b :: x.1, x.2) := by
  unfold parts
  rw [List.takeWhile_cons_of_pos (by simpa using h)]
  simp only [List.length_cons, List.drop_succ_cons]
  cases t.drop (t.takeWhile (· ≠ c)).length <;> rfl
theorem index_parts (c : UInt8) : ∀ l : List UInt8, Lib.index l [c] = match parts c l with | some x => (x.1.length : Int) | none => -1
  | [] => rfl
  | b :: t => by
    by_cases h : b = c
    · subst h
      rw [parts_hit]
      simp [Lib.index, List.isPrefixOf]
    · rw [parts_step h]
      have ih := index_parts c t
      simp only [Lib.index]
      have hp : [c].isPrefixOf (b :: t) = false := by simp [List.isPrefixOf, Ne.symm h]
      rw [hp, ih]
      cases parts c t with
      | none => rfl
      | some x =>
        have : ((x.1.length : Int) == -1) = false := by rw [beq_eq_false_iff_ne]; omega
        simp [this]
theorem parts_append {c : UInt8} {l a r : List UInt8} (h : parts c l = some (a, r)) : l = a ++ c :: r := by
  induction l generalizing a with
  | nil => cases h
  | cons b t ih =>
    by_cases e : b = c
    · subst e
      rw [parts_hit] at h
      cases h; rfl
    · rw [parts_step e] at h
      cases hp : parts c t with
      | none => rw [hp] at h; cases h
      | some x =>
        rw [hp] at h
        cases h
        rw [List.cons_append, ← ih hp]
theorem parts_ahead {c : UInt8} {l a r : List UInt8} (h : parts c l = some (a, r)) : ∀ x ∈ a, x ≠ c := by
  unfold parts at h
  split at h
  · cases h
  · cases h
    intro x hx
    simpa using List.all_eq_true.1 (List.all_takeWhile (p := fun x => decide (x ≠ c)) (l := l)) x hx
theorem parts_no {c : UInt8} {l : List UInt8} (h : parts c l = none) : ∀ x ∈ l, x ≠ c := by
  induction l with
  | nil => simp
  | cons b t ih =>
    by_cases e : b = c
    · subst e; rw [parts_hit] at h; cases h
    · rw [parts_step e] at h
      have h2 : parts c t = none := by cases hp : parts c t with | none => rfl | some x => rw [hp] at h; cases h
      intro x hx
      rcases List.mem_cons.1 hx with rfl | hx
      · exact e
      · exact ih h2 x hx
theorem cut_hit {c : UInt8} {l a r : List UInt8} (h : parts c l = some (a, r)) : Lib.cut l [c] = (a, r, true) := by
  have e := parts_append h
  unfold Lib.cut
  rw [index_parts, h]
  simp only []
  rw [if_pos (by omega)]
  subst e
  simp
theorem cut_miss {c : UInt8} {l : List UInt8} (h : parts c l = none) : Lib.cut l [c] = (l, [], false) := by
  unfold Lib.cut
  rw [index_parts, h]
  rfl
theorem parts_size {c : UInt8} {t a u : ByteArray} (h : parts c t.data.toList = some (a.data.toList, u.data.toList)) : a.size + 1 + u.size = t.size := by
  have e := congrArg List.length (parts_append h)
  rw [List.length_append, List.length_cons, list_len, list_len, list_len] at e
  omega
end Cu
theorem Cu.below_drewN {B : Nat} {a w : World} (h : Below B a w) (n : Nat) : Below B a (w.drewN n) := ⟨h.os, h.tape, h.output, h.size, h.block⟩
theorem Cu.yes {s p : ByteArray} {c : UInt8} (hp : p.data.toList = [c]) {t u : ByteArray} (w : World) (hs : s.size ≤ 1000000) (hE : Env w) (h : Cu.parts c s.data.toList = some (t.data.toList, u.data.toList)) :
    Calls Tryz.prog 95 #[.string s, .string p] w fun e w' => e = .returned (.tuple #[.string t, .string u, .bool true]) ∧ Below w.heap.size w w' := by
  obtain ⟨m, hm⟩ := hE.most
  refine (Tryz.strings_Cut s p m w (by omega) hm).mono ?_
  rintro e w' ⟨rfl, n, rfl⟩
  rw [hp, Cu.cut_hit h]
  exact ⟨rfl, Cu.below_drewN (Below.refl _ _) _⟩
theorem Cu.no {s p : ByteArray} {c : UInt8} (hp : p.data.toList = [c]) (w : World) (hs : s.size ≤ 1000000) (hE : Env w) (h : Cu.parts c s.data.toList = none) :
    Calls Tryz.prog 95 #[.string s, .string p] w fun e w' => e = .returned (.tuple #[.string s, .string ⟨#[]⟩, .bool false]) ∧ Below w.heap.size w w' := by
  obtain ⟨m, hm⟩ := hE.most
  refine (Tryz.strings_Cut s p m w (by omega) hm).mono ?_
  rintro e w' ⟨rfl, n, rfl⟩
  rw [hp, Cu.cut_miss h]
  exact ⟨rfl, Cu.below_drewN (Below.refl _ _) _⟩
end Go.Proofs.YtbaclacfadkjdaaGreatDoor
namespace Go.Proofs.YtbaclacfadkjdaaGreatDoor
open Go.RowKit
namespace Lc
/-! Parts, from the end on. -/
theorem cut_one {l : List UInt8} {c : UInt8} {b : UInt8} (h : b ∈ cut l [c]) : b ≠ c := by
  have := cut_not h
  simpa using this
theorem rest_one (l : List UInt8) (c : UInt8) : rest l [c] = [] ∨ ∃ r, rest l [c] = c :: r := by
  cases h : rest l [c] with
  | nil => exact .inl rfl
  | cons b t =>
    have := rest_head h
    have : b = c := by simpa using this
    exact .inr ⟨t, by rw [this]⟩
theorem split_end (s : List UInt8) :
    hoB s = hoB (cut (cut s [35]) [63]) ∧
    hoA s = (if hoB (cut (cut s [35]) [63]) then cut ((cut (cut s [35]) [63]).drop 2) [47] else []) ∧
    paA (hoR s) = (if hoB (cut (cut s [35]) [63]) then rest ((cut (cut s [35]) [63]).drop 2) [47] else cut (cut s [35]) [63]) ∧
    quB (paR (hoR s)) = !(rest (cut s [35]) [63]).isEmpty ∧ quA (paR (hoR s)) = (rest (cut s [35]) [63]).drop 1 ∧
    frB (quR (paR (hoR s))) = !(rest s [35]).isEmpty ∧ frA (quR (paR (hoR s))) = (rest s [35]).drop 1 := by
  have e1 := cut_rest s [35]
  have e2 := cut_rest (cut s [35]) [63]
  have f1 : ∀ x ∈ cut s [35], x ≠ 35 := fun x h => cut_one h
  have f2 : ∀ x ∈ cut (cut s [35]) [63], x ≠ 63 := fun x h => cut_one h
  have r1 := rest_one s 35
  have r2 := rest_one (cut s [35]) 63
  generalize cut s [35] = a at *
  generalize rest s [35] = ra at *
  generalize cut a [63] = b at *
  generalize rest a [63] = rb at *
  have fb : ∀ x ∈ b, x ≠ 35 := fun x h => f1 x (by rw [← e2]; simp [h])
  have fr : ∀ x ∈ rb, x ≠ 35 := fun x h => f1 x (by rw [← e2]; simp [h])
  subst e2
  subst e1
  clear f1
  rw [List.append_assoc]
  have hT : rb ++ ra = [] ∨ ∃ x r', rb ++ ra = x :: r' ∧ ([63, 35] : List UInt8).contains x = true := by
    rcases r2 with rfl | ⟨q, rfl⟩
    · rcases r1 with rfl | ⟨q, rfl⟩
      · exact .inl rfl
      · exact .inr ⟨35, q, rfl, rfl⟩
    · exact .inr ⟨63, q ++ ra, rfl, rfl⟩
  have hq : quB (rb ++ ra) = !rb.isEmpty ∧ quA (rb ++ ra) = rb.drop 1 ∧ quR (rb ++ ra) = ra := by
    unfold quA quR
    rcases r2 with rfl | ⟨q, rfl⟩
    · have : quB ([] ++ ra) = false := by
        rcases r1 with rfl | ⟨q, rfl⟩
        · rfl
        · rfl
      rw [this]
      exact ⟨rfl, rfl, rfl⟩
    · have hc := cut_full (t := 63 :: q) (r := ra) (m := [35]) (fun x hx => by have := fr x hx; simpa using this) (by
        rcases r1 with rfl | ⟨q', rfl⟩
        · exact .inl rfl
        · exact .inr ⟨35, q', rfl, rfl⟩)
      have : quB (63 :: q ++ ra) = true := by simp [quB]
      rw [this, if_pos rfl, if_pos rfl, hc.1, hc.2]
      exact ⟨rfl, rfl, rfl⟩
  have key : ∀ p : List UInt8, (∀ x ∈ p, x ≠ 63 ∧ x ≠ 35) → paA (p ++ (rb ++ ra)) = p ∧ paR (p ++ (rb ++ ra)) = rb ++ ra := fun p hp =>
    cut_full (fun x hx => by have := hp x hx; simp [this.1, this.2]) hT
  have hb : hoB (b ++ (rb ++ ra)) = hoB b := by
    have n47 : ∀ x r', rb ++ ra = x :: r' → x ≠ 47 := by
      intro x r' e
      rcases hT with h | ⟨y, r2', h, hy⟩
      · rw [h] at e; cases e
      · rw [h] at e
        injection e with e _
        subst e
        rintro rfl
        simp at hy
    unfold hoB
    match b with
    | [] =>
      cases hh : rb ++ ra with
      | nil => rfl
      | cons x r' =>
        have := n47 x r' hh
        cases r' <;> simp [this]
    | [x] =>
      cases hh : rb ++ ra with
      | nil => rfl
      | cons y r' =>
        have := n47 y r' hh
        simp [this]
    | x :: y :: r => simp
  have hfree : ∀ x ∈ b, x ≠ 63 ∧ x ≠ 35 := fun x h => ⟨f2 x h, fb x h⟩
  rw [hb]
  unfold hoA hoR
  rw [hb]
  cases hh : hoB b with
  | false =>
    obtain ⟨k1, k2⟩ := key b hfree
    simp only [Bool.false_eq_true, if_false]
    rw [k1, k2, hq.1, hq.2.1, hq.2.2]
    refine ⟨?_, ?_, ?_, ?_, ?_, ?_, ?_⟩ <;> first | trivial | rfl
  | true =>
    obtain ⟨h, rfl⟩ : ∃ h, b = 47 :: 47 :: h := by
      unfold hoB at hh
      match b, hh with
      | [], hh => simp at hh
      | [x], hh => simp at hh
      | x :: y :: h, hh =>
        simp at hh
        exact ⟨h, by rw [hh.1, hh.2]⟩
    simp only [if_true, List.cons_append, List.drop_succ_cons, List.drop_zero]
    have e3 := cut_rest h [47]
    have hin : ∀ x ∈ h, x ≠ 63 ∧ x ≠ 35 := fun x hx => hfree x (by simp [hx])
    have g1 : ∀ x ∈ cut h [47], x ≠ 47 := fun x hx => cut_one hx
    have g2 : ∀ x ∈ cut h [47], x ≠ 63 ∧ x ≠ 35 := fun x hx => hin x (by rw [← e3]; simp [hx])
    have g3 : ∀ x ∈ rest h [47], x ≠ 63 ∧ x ≠ 35 := fun x hx => hin x (by rw [← e3]; simp [hx])
    have hc := cut_full (t := cut h [47]) (r := rest h [47] ++ (rb ++ ra)) (m := [47, 63, 35]) (fun x hx => by
      have a1 := g1 x hx
      have a2 := g2 x hx
      simp [a1, a2.1, a2.2]) (by
      rcases rest_one h 47 with e | ⟨q, e⟩
      · rw [e, List.nil_append]
        rcases hT with h0 | ⟨x, r', h0, hx⟩
        · exact .inl h0
        · refine .inr ⟨x, r', h0, ?_⟩
          simp at hx ⊢
          exact .inr hx
      · exact .inr ⟨47, q ++ (rb ++ ra), by rw [e]; rfl, rfl⟩)
    rw [← List.append_assoc, e3] at hc
    rw [hc.1, hc.2]
    obtain ⟨k1, k2⟩ := key _ g3
    rw [k1, k2, hq.1, hq.2.1, hq.2.2]
    refine ⟨?_, ?_, ?_, ?_, ?_, ?_, ?_⟩ <;> first | trivial | rfl
/-! Signs, byte by byte. -/
def hexPair (l : List UInt8) : Bool := match l with
  | c :: d :: _ => hexB c && hexB d
  | _ => false
theorem hex_plain (more : List UInt8) {b : UInt8} (h : hexB b = true) : plainB more b = true := by
  unfold hexB at h
  have h := of_decide_eq_true h
  unfold plainB alphaB digitB
  by_cases h1 : 48 ≤ b.toNat ∧ b.toNat ≤ 57
  · simp [h1]
  · have h2 : (65 ≤ b.toNat ∧ b.toNat ≤ 90) ∨ (97 ≤ b.toNat ∧ b.toNat ≤ 122) := by omega
    rw [decide_eq_true h2]
    simp
theorem percent_plain {more : List UInt8} (h : more.contains 37 = false) : plainB more 37 = false := by
  unfold plainB has
  rw [h]
  rfl
theorem signs_step {more : List UInt8} (hm : more.contains 37 = false) (b : UInt8) (t : List UInt8) :
    signs more (b :: t) = ((if b = 37 then hexPair t else plainB more b) && signs more t) := by
  by_cases h : b = 37
  · subst h
    rw [if_pos rfl]
    have hp := percent_plain hm
    match t with
    | [] => rw [signs_short hp (by simp)]; rfl
    | [c] => rw [signs_short hp (by simp)]; rfl
    | c :: d :: u =>
      unfold hexPair
      cases h1 : hexB c with
      | false => rw [signs_no hp (by rw [h1]; simp)]; simp [h1]
      | true => cases h2 : hexB d with
        | false => rw [signs_no hp (by rw [h2]; simp)]; simp [h2]
        | true =>
          rw [signs_hex hp rfl h1 h2, signs_plain (hex_plain more h1), signs_plain (hex_plain more h2)]
          simp [h1, h2]
  · rw [if_neg h]
    cases hp : plainB more b with
    | true => rw [signs_plain hp]; rfl
    | false => rw [signs_other hp h]; rfl
/-! Pieces on a stack. -/
structure Pcs (P : List (List UInt8)) (s : List UInt8) : Prop where
  rows : ∀ p ∈ P.drop 1, ∃ t, p = 47 :: t ∧ (47 : UInt8) ∉ t
  all : ∀ p ∈ P, ∃ b t, p = b :: t ∧ (47 : UInt8) ∉ t
  next : P ≠ [] → s = [] ∨ ∃ t, s = 47 :: t
end Lc
end Go.Proofs.YtbaclacfadkjdaaGreatDoor
