/-
  What the program's words of texts come to: contracts of isBroken, head, Check, Name, Plain, Lines.
-/
import Derived.Test.YtmfmgbjkbadndaaProgChars
import Derived.Test.YtmfmgbjkbadndaaHead
import Derived.Test.YtmfmgbjkbadndaaShelf
import Derived.BigQuiet
namespace Go.Proofs.Ytmfmgbjkbadndaa
open Go.RowKit

theorem lit_repl : (⟨#[239, 191, 189]⟩ : ByteArray).data.toList = [239, 191, 189] := rfl

set_option maxHeartbeats 800000 in
theorem isBroken_any (t : ByteArray) (r : Nat) (w : World) (hr : (Lib.decodeL t.data.toList).1 = r) (ht : 0 < t.size) :
    Calls Try.prog 64 #[.string t, .int .i32 (r : Int)] w fun e w' => e = .returned (.bool (decide (r = 65533 ∧ (Lib.decodeL t.data.toList).2 = 1))) ∧ w = w' := by
  by_cases h : r = 65533
  · have hb := Lib.hid (G.bad_iff t.data.toList (lst_ne ht) (hr.trans h))
    clear hr
    subst h
    go_enter Try.func64, Try.ntmps64
    go_wp2_with fail
    (with_reducible refine (Try.strings_HasPrefix t _ _).mono ?_); rintro e w1 ⟨rfl, rfl⟩
    go_wp2
    all_goals
      go_ret
      exact ⟨ret_bool (by
        have := hb.out
        simp_all), rfl⟩
  · have h1 : ¬ (r : Int) = 65533 := by omega
    have h2 : ((r : Int) == 65533) = false := beq_eq_false_iff_ne.2 h1
    have hd := Lib.hid (show decide (r = 65533 ∧ (Lib.decodeL t.data.toList).2 = 1) = false by simp [h])
    clear hr h
    go_enter Try.func64, Try.ntmps64
    go_wp2
    go_ret
    exact ⟨ret_bool hd.out.symm, rfl⟩

/-- What the document's word of the head's code point is, along a range. -/
theorem first_at (s : ByteArray) (pos : Nat) (h : pos < s.size) : G.first (s.data.toList.drop pos) = if (Utf8.decode s pos).1 = 65533 ∧ (Utf8.decode s pos).2 = 1 then (0, 0) else Utf8.decode s pos := by
  unfold G.first
  have hne : s.data.toList.drop pos ≠ [] := by rw [drop_cons s pos h]; simp
  rw [if_neg hne, Lib.decodeL_drop]

theorem stop_rune {f : Nat × Nat} {r n : Nat} {p : Int → Bool} (hF : f = if r = 65533 ∧ n = 1 then (0, 0) else (r, n)) (h : p r = false) : f.2 = 0 ∨ p f.1 = false := by
  rw [hF]
  split
  · exact .inl rfl
  · exact .inr h
theorem stop_bad {f : Nat × Nat} {r n : Nat} {p : Int → Bool} (hF : f = if r = 65533 ∧ n = 1 then (0, 0) else (r, n)) (h : r = 65533 ∧ n = 1) : f.2 = 0 ∨ p f.1 = false := by
  rw [hF, if_pos h]; exact .inl rfl
theorem go_rune {f : Nat × Nat} {r n : Nat} (hF : f = if r = 65533 ∧ n = 1 then (0, 0) else (r, n)) (h : ¬ (r = 65533 ∧ n = 1)) : f = (r, n) := by
  rw [hF, if_neg h]

set_option maxRecDepth 100000 in
set_option maxHeartbeats 1600000 in
theorem head_chars (s : ByteArray) (w : World) (hs : s.size ≤ 1000000) :
    Calls Try.prog 43 #[.string s, .func (.func 44) #[] #[], .func (.func 44) #[] #[]] w fun e w' => e = .returned (.int .i64 (G.hd G.char G.char s.data.toList : Nat)) ∧ Below w.heap.size w w' := by
  go_enter Try.func43, Try.ntmps43
  go_wp2_with fail
  go_loopw [7, 8, 9] (fun m _ _ wr => ∃ pos : Nat, pos ≤ s.size ∧ ((pos = 0 ∧ m = .func (.func 44) #[] #[]) ∨ (pos ≠ 0 ∧ m = .func (.func 44) #[] #[])) ∧ wr.heap[w.heap.size]? = some (.stringIter s pos) ∧ Hid (G.hd G.char G.char s.data.toList = pos + G.rest G.char G.char pos (s.data.toList.drop pos)) ∧ Below w.heap.size w wr) (fun _ _ _ wr => s.size - wr.iterPos w.heap.size)
  case atStart => exact ⟨0, Nat.zero_le _, .inl ⟨rfl, rfl⟩, World.iter_heap w s 0, Lib.hid (by simp [G.rest]), (Below.refl _ _).alloc (Nat.le_refl _) _⟩
  case round =>
    obtain ⟨pos, hp, hm, hk, hC, bw⟩ := hrel
    by_cases hlt : pos < s.size
    · have hnx : ∀ ty, (Instr.next (.pointer (some ⟨w.heap.size, 0, none⟩)) true ty).run Try.prog wr = _ := fun ty => Lib.run_next_any_at wr w.heap.size s pos ty hk hlt
      have hF := first_at s pos hlt
      have hwd := Lib.width_pos s pos
      have hle := G.first_le (s.data.toList.drop pos)
      have hst := Lib.hid (G.rest_stop G.char G.char pos (s.data.toList.drop pos))
      have hsp := Lib.hid (G.rest_step G.char G.char pos (s.data.toList.drop pos))
      have hr0 := Lib.decodeL_rune (s.data.toList.drop pos)
      rw [Lib.decodeL_drop] at hr0
      have hbad := isBroken_any (s.extract pos s.size)
      rw [drop_list, Lib.decodeL_drop] at hbad
      rw [List.length_drop, list_len] at hle
      have hk2 := Lib.iterAt_heap wr w.heap.size s pos (pos + (Utf8.decode s pos).2) hk
      have b2 := Lib.below_iterAt bw (k := w.heap.size) (Nat.le_refl _) s (pos + (Utf8.decode s pos).2)
      rcases hm with ⟨h0, rfl⟩ | ⟨h0, rfl⟩
      · subst h0
        rw [Nat.zero_add] at hk2 b2
        rw [extract_full] at hbad
        go_wp2_with fail
        (with_reducible refine (gChar_at _ _).mono ?_); rintro e w1 ⟨rfl, b3⟩
        have b4 := b2.trans (b3.mono b2.size)
        have hkl : w.heap.size < (wr.iterAt w.heap.size s ((Utf8.decode s 0).2)).heap.size := (Array.getElem?_eq_some_iff.1 hk2).1
        have hk4 := (b3.block w.heap.size hkl).trans hk2
        clear hk2 hkl hnx
        generalize Utf8.decode s 0 = d at *
        obtain ⟨r, n⟩ := d
        dsimp only at *
        cases hp : G.char r
        · have hq := Lib.hid (hst.out (fun _ => stop_rune hF hp) (fun h => absurd rfl h))
          have hp := Lib.hid hp
          clear hF hbad
          go_wp2
          go_ret
          exact ⟨ret_int (by rw [hC.out, hq.out]; rfl), b4⟩
        · have hp := Lib.hid hp
          go_wp2_with fail
          (with_reducible refine (hbad r _ rfl (by omega)).mono ?_); rintro e w2 ⟨rfl, rfl⟩
          by_cases hb : r = 65533 ∧ n = 1
          · have hq := Lib.hid (hst.out (fun _ => stop_bad hF hb) (fun h => absurd rfl h))
            have hd := decide_eq_true hb
            rw [hd]
            clear hF hb hd hbad
            go_wp2
            go_ret
            exact ⟨ret_int (by rw [hC.out, hq.out]; rfl), b4⟩
          · have hfr := go_rune hF hb
            have hq := Lib.hid (hsp.out (by rw [hfr]; omega) (fun _ => by rw [hfr]; exact hp.out) (fun h => absurd rfl h))
            rw [hfr] at hle
            have hd := decide_eq_false hb
            rw [hd]
            have hfr := Lib.hid hfr
            clear hF hb hd hbad
            go_wp2
            go_roundw
            case rel => exact ⟨n, by omega, .inr ⟨by omega, rfl⟩, hk4, Lib.hid (by rw [hC.out, hq.out, hfr.out, List.drop_drop]; simp only [Nat.zero_add]), b4⟩
            case measure => simp [World.iterPos, hk4, hk]; omega
      · have h0 := Lib.hid h0
        go_wp2_with fail
        (with_reducible refine (gChar_at _ _).mono ?_); rintro e w1 ⟨rfl, b3⟩
        have b4 := b2.trans (b3.mono b2.size)
        have hkl : w.heap.size < (wr.iterAt w.heap.size s (pos + (Utf8.decode s pos).2)).heap.size := (Array.getElem?_eq_some_iff.1 hk2).1
        have hk4 := (b3.block w.heap.size hkl).trans hk2
        clear hk2 hkl hnx
        generalize Utf8.decode s pos = d at *
        obtain ⟨r, n⟩ := d
        dsimp only at *
        cases hp : G.char r
        · have hq := Lib.hid (hst.out (fun h => absurd h h0.out) (fun _ => stop_rune hF hp))
          have hp := Lib.hid hp
          clear hF hbad
          go_wp2
          go_ret
          exact ⟨ret_int (by rw [hC.out, hq.out]; rfl), b4⟩
        · have hp := Lib.hid hp
          go_wp2_with fail
          (with_reducible refine (hbad r _ rfl (by simp; omega)).mono ?_); rintro e w2 ⟨rfl, rfl⟩
          by_cases hb : r = 65533 ∧ n = 1
          · have hq := Lib.hid (hst.out (fun h => absurd h h0.out) (fun _ => stop_bad hF hb))
            have hd := decide_eq_true hb
            rw [hd]
            clear hF hb hd hbad
            go_wp2
            go_ret
            exact ⟨ret_int (by rw [hC.out, hq.out]; rfl), b4⟩
          · have hfr := go_rune hF hb
            have hq := Lib.hid (hsp.out (by rw [hfr]; omega) (fun h => absurd h h0.out) (fun _ => by rw [hfr]; exact hp.out))
            rw [hfr] at hle
            have hd := decide_eq_false hb
            rw [hd]
            have hfr := Lib.hid hfr
            clear hF hb hd hbad
            go_wp2
            go_roundw
            case rel => exact ⟨pos + n, by omega, .inr ⟨by omega, rfl⟩, hk4, Lib.hid (by rw [hC.out, hq.out, hfr.out, List.drop_drop]; dsimp only; omega), b4⟩
            case measure => simp [World.iterPos, hk4, hk]; omega
    · have hnx : ∀ ty, (Instr.next (.pointer (some ⟨w.heap.size, 0, none⟩)) true ty).run Try.prog wr = _ := fun ty => Lib.run_next_end_at wr w.heap.size s pos ty hk hlt
      have hnil : s.data.toList.drop pos = [] := List.drop_of_length_le (by rw [list_len]; omega)
      rw [hnil] at hC
      have hz : G.rest G.char G.char pos [] = 0 := G.rest_stop _ _ _ _ (fun _ => .inl rfl) (fun _ => .inl rfl)
      rw [hz] at hC
      have hps := Lib.hid (show pos = s.size by omega)
      clear hnil hz
      rcases hm with ⟨h0, rfl⟩ | ⟨h0, rfl⟩
      all_goals
        have h0 := Lib.hid h0
        go_wp2
        go_ret
        exact ⟨ret_int (by rw [hC.out, hps.out]; rfl), bw⟩
end Go.Proofs.Ytmfmgbjkbadndaa
