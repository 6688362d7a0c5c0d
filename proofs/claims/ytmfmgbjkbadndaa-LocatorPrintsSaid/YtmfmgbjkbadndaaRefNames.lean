/-
  What the document's own words of texts come to: contracts of Check, Name, Plain.
-/
import Derived.Test.YtmfmgbjkbadndaaRefFirst
import Derived.Lib.Hide
namespace Go.Proofs.Ytmfmgbjkbadndaa
open Go.RowKit

namespace G
def checkN (l : List UInt8) : Int := if check l = true then 0 else 50
theorem checkN_nil : checkN [] = 0 := rfl
theorem check_stop (l : List UInt8) (hl : l ≠ []) (h : (first l).2 = 0 ∨ char (first l).1 = false) : check l = false := by
  unfold check
  rw [span_stop char l h]
  have := List.length_pos_iff.2 hl
  rw [decide_eq_false_iff_not]; omega
theorem checkN_stop (l : List UInt8) (hl : l ≠ []) (h : (first l).2 = 0 ∨ char (first l).1 = false) : checkN l = 50 := by
  unfold checkN; rw [check_stop l hl h]; rfl
theorem check_step (l : List UInt8) (h0 : (first l).2 ≠ 0) (hp : char (first l).1 = true) : check (l.drop (first l).2) = check l := by
  unfold check
  rw [span_step char l h0 hp, List.length_drop]
  have := first_le l
  rw [Bool.eq_iff_iff, decide_eq_true_eq, decide_eq_true_eq]
  omega
theorem checkN_step (l : List UInt8) (h0 : (first l).2 ≠ 0) (hp : char (first l).1 = true) : checkN (l.drop (first l).2) = checkN l := by
  unfold checkN; rw [check_step l h0 hp]
end G

theorem first_size (s : ByteArray) : (G.first s.data.toList).2 ≤ s.size := by
  have := G.first_le s.data.toList
  rw [list_len] at this; exact this

set_option maxRecDepth 100000 in
set_option maxHeartbeats 800000 in
theorem refCheck_any (s : ByteArray) (w : World) (hs : s.size ≤ maxLen) :
    Calls Try.prog 25 #[.string s] w fun e w' => e = .returned (.int .i64 (G.checkN s.data.toList)) ∧ Below w.heap.size w w' := by
  go_enter Try.func25, Try.ntmps25
  go_wp2_with fail
  go_loopw [0, 3, 4] (fun v c n w' => ∃ t : ByteArray, v = .string t ∧ t.size ≤ s.size ∧ Hid (G.checkN t.data.toList = G.checkN s.data.toList) ∧ Below w.heap.size w w') (fun v _ _ _ => strLen v)
  case atStart => exact ⟨s, rfl, Nat.le_refl _, Lib.hid rfl, Below.refl _ _⟩
  case round =>
    obtain ⟨t, rfl, ht, hc, bw⟩ := hrel
    have htm : t.size ≤ maxLen := by omega
    have hsm : s.size ≤ 9223372036854775807 := hs
    by_cases h0 : t.size = 0
    · obtain rfl : t = ByteArray.empty := ByteArray.size_eq_zero_iff.1 h0
      go_wp2
      go_ret
      exact ⟨ret_int (by rw [← hc.out]; rfl), bw⟩
    · have hne := lst_ne (s := t) (by omega)
      have hle := first_size t
      go_wp2_with fail
      (with_reducible refine (refFirst_any t _ htm).mono ?_); rintro e w1 ⟨rfl, rfl⟩
      have hstop := Lib.hid (G.checkN_stop t.data.toList hne)
      have hstep := Lib.hid (G.checkN_step t.data.toList)
      have hdl := Lib.hid (drop_list t (G.first t.data.toList).2)
      generalize G.first t.data.toList = r at *
      obtain ⟨c, n⟩ := r
      dsimp only at *
      clear hne
      by_cases hn : n = 0
      · have hr := Lib.hid (hstop.out (.inl hn))
        subst hn
        go_wp2
        go_ret
        exact ⟨ret_int (by rw [← hc.out, hr.out]), bw⟩
      · go_wp2_with fail
        (with_reducible refine (refChar_any c _).mono ?_); rintro e w2 ⟨rfl, b2⟩
        have b3 := bw.trans (b2.mono bw.size)
        cases hch : G.char c
        · have hr := Lib.hid (hstop.out (.inr hch))
          go_wp2
          go_ret
          exact ⟨ret_int (by rw [← hc.out, hr.out]), b3⟩
        · have hr := Lib.hid (hstep.out hn hch)
          go_wp2
          go_roundw
          case rel => exact ⟨_, rfl, by simp; omega, Lib.hid (by rw [← hc.out, ← hr.out, hdl.out]), b3⟩
          case measure => simp [strLen]; omega

namespace G
/-- Name's answers. -/
def nmA (s : ByteArray) : ByteArray := s.extract 0 (name s.data.toList)
def nmB (s : ByteArray) : ByteArray := if name s.data.toList = 0 then ByteArray.empty else s.extract (name s.data.toList) s.size
def nmE (s : ByteArray) : Int := if name s.data.toList = 0 then 51 else 0
theorem nm_none {s : ByteArray} (h : name s.data.toList = 0) : nmA s = ByteArray.empty ∧ nmB s = ByteArray.empty ∧ nmE s = 51 := by
  refine ⟨?_, ?_, ?_⟩
  · apply bytes_eq
    unfold nmA
    rw [h, take_list]; rfl
  · unfold nmB; rw [if_pos h]
  · unfold nmE; rw [if_pos h]
theorem nm_some {s : ByteArray} {k : Nat} (h : name s.data.toList = k) (h0 : k ≠ 0) : nmA s = s.extract 0 k ∧ nmB s = s.extract k s.size ∧ nmE s = 0 := by
  subst h
  exact ⟨rfl, if_neg h0, if_neg h0⟩

theorem name_nil : name [] = 0 := rfl
theorem name_stop (l : List UInt8) (h : (first l).2 = 0 ∨ start (first l).1 = false) : name l = 0 := by
  unfold name
  rw [if_neg]
  rintro ⟨h0, h1⟩
  rcases h with h | h
  · exact h0 h
  · rw [h] at h1; cases h1
theorem name_begin (l : List UInt8) (h0 : (first l).2 ≠ 0) (h1 : start (first l).1 = true) : name l = (first l).2 + span part (l.drop (first l).2) := by
  unfold name; rw [if_pos ⟨h0, h1⟩]
theorem start_no {c : Int} (h : part c = false) : start c = false := by
  cases hs : start c with
  | false => rfl
  | true => rw [part_of_start hs] at h; cases h
end G

/-- how far Name has come. -/
def NameAt (s t : ByteArray) (k : Nat) : Prop := s.size = k + t.size ∧ t.data.toList = s.data.toList.drop k ∧ (k = 0 ∨ G.name s.data.toList = k + G.span G.part t.data.toList)

theorem NameAt.same {s t : ByteArray} (h : NameAt s t 0) : t = s := by
  obtain ⟨_, h, _⟩ := h
  exact bytes_eq (by rw [h, List.drop_zero])

theorem NameAt.rest {s t : ByteArray} {k : Nat} (h : NameAt s t k) : t = s.extract k s.size := bytes_eq (by rw [drop_list]; exact h.2.1)

theorem NameAt.none {s t : ByteArray} (h : NameAt s t 0) (hs : (G.first t.data.toList).2 = 0 ∨ G.start (G.first t.data.toList).1 = false) : G.name s.data.toList = 0 := by
  rw [← h.same]; exact G.name_stop _ hs

theorem NameAt.stop {s t : ByteArray} {k : Nat} (h : NameAt s t k) (hk : k ≠ 0) (hs : (G.first t.data.toList).2 = 0 ∨ G.part (G.first t.data.toList).1 = false) : G.name s.data.toList = k := by
  rcases h.2.2 with h0 | h0
  · exact absurd h0 hk
  · rw [h0, G.span_stop _ _ hs]; rfl

theorem NameAt.step {s t : ByteArray} {k : Nat} (h : NameAt s t k) (h0 : (G.first t.data.toList).2 ≠ 0) (hp : G.part (G.first t.data.toList).1 = true) (hs : k = 0 → G.start (G.first t.data.toList).1 = true) :
    NameAt s (t.extract (G.first t.data.toList).2 t.size) (k + (G.first t.data.toList).2) := by
  have hle := first_size t
  obtain ⟨h1, h2, h3⟩ := h
  refine ⟨by simp; omega, by rw [drop_list, h2, List.drop_drop], .inr ?_⟩
  rw [drop_list]
  rcases h3 with rfl | h3
  · have e := G.name_begin t.data.toList h0 (hs rfl)
    rw [h2, List.drop_zero] at e ⊢
    rw [h2, List.drop_zero] at h0 
    rw [e]; omega
  · rw [h3, G.span_step _ _ h0 hp]; omega

theorem ret_name {a b : ByteArray} {e : Int} {s : ByteArray} (ha : a = G.nmA s) (hb : b = G.nmB s) (he : e = G.nmE s) : Ending.returned (.tuple #[.string a, .string b, .int .i64 e]) = .returned (.tuple #[.string (G.nmA s), .string (G.nmB s), .int .i64 (G.nmE s)]) := by
  rw [ha, hb, he]

end Go.Proofs.Ytmfmgbjkbadndaa
