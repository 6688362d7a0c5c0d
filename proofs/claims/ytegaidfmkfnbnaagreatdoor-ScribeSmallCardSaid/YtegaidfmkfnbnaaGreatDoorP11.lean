/-
  What the program's words of texts come to: contracts of Check, Name, Plain, Lines.
  What the folding of a text leans on: see ProgTexts.
  strings.EqualFold of a text and an ASCII word whose letters have no other case beyond ASCII: by bytes, also where the text has more than ASCII.
-/
import Derived.Test.YtegaidfmkfnbnaaGreatDoorP10
import Derived.WalkSmall
import Derived.Lib.Fold
import Derived.Laws.Strings3
namespace Go.Proofs.YtegaidfmkfnbnaaGreatDoor
open Go.RowKit

theorem check_yes {l : List UInt8} (h : ¬ G.span G.char l < l.length) : G.checkN l = 0 := by
  have := G.span_le G.char l
  unfold G.checkN G.check
  rw [if_pos (decide_eq_true (by omega))]
theorem check_no {l : List UInt8} (h : G.span G.char l < l.length) : G.checkN l = 50 := by
  unfold G.checkN G.check
  rw [if_neg (by rw [decide_eq_true_eq]; omega)]

set_option maxHeartbeats 800000 in
theorem gCheck_any (s : ByteArray) (w : World) (hs : s.size ≤ 1000000) (_ : Env w) : Calls Tryz.prog 82 #[.string s] w fun e w' => e = .returned (.int .i64 (G.checkN s.data.toList)) ∧ Below w.heap.size w w' := by
  have hy := Lib.hid (@check_yes s.data.toList)
  have hn := Lib.hid (@check_no s.data.toList)
  have hlen := Lib.hid (list_len s)
  go_enter Tryz.func82, Tryz.ntmps82
  go_wp2_with fail
  (with_reducible refine (head_chars s _ hs).mono ?_); rintro e w1 ⟨rfl, b1⟩
  rw [G.hd_span]
  generalize G.span G.char s.data.toList = k at *
  by_cases h : k < s.size
  · have hr := Lib.hid (hn.out (by rw [hlen.out]; exact h))
    go_wp2
    go_ret
    exact ⟨ret_int hr.out.symm, b1⟩
  · have hr := Lib.hid (hy.out (by rw [hlen.out]; exact h))
    go_wp2
    go_ret
    exact ⟨ret_int hr.out.symm, b1⟩

set_option maxHeartbeats 800000 in
theorem gName_any (s : ByteArray) (w : World) (hs : s.size ≤ 1000000) (_ : Env w) : Calls Tryz.prog 81 #[.string s] w fun e w' => e = .returned (.tuple #[.string (G.nmA s), .string (G.nmB s), .int .i64 (G.nmE s)]) ∧ Below w.heap.size w w' := by
  have hle := G.name_le s.data.toList
  rw [list_len] at hle
  have hno := Lib.hid (@G.nm_none s)
  have hso := Lib.hid (@G.nm_some s _ rfl)
  go_enter Tryz.func81, Tryz.ntmps81
  go_wp2_with fail
  (with_reducible refine (head_names s _ hs).mono ?_); rintro e w1 ⟨rfl, b1⟩
  rw [G.hd_name]
  generalize G.name s.data.toList = k at *
  by_cases h : k = 0
  · have hr := Lib.hid (hno.out h)
    subst h
    go_wp2
    go_ret3
    exact ⟨ret_name hr.out.1.symm hr.out.2.1.symm hr.out.2.2.symm, b1⟩
  · have hr := Lib.hid (hso.out h)
    go_wp2
    go_quiet (fail)
    go_wp2
    go_ret3
    exact ⟨ret_name hr.out.1.symm hr.out.2.1.symm hr.out.2.2.symm, below_drewN b1 _⟩

theorem lit_colon : (⟨#[58]⟩ : ByteArray).data.toList = [58] := rfl

set_option maxHeartbeats 1600000 in
theorem gPlain_any (s : ByteArray) (w : World) (hs : s.size ≤ 1000000) (hE : Env w) : Calls Tryz.prog 48 #[.string s] w fun e w' => e = .returned (.bool (G.plain s.data.toList)) ∧ Below w.heap.size w w' := by
  have hlen := list_len s
  have hle := G.name_le s.data.toList
  rw [hlen] at hle
  go_enter Tryz.func48, Tryz.ntmps48
  go_wp2_with fail
  (with_reducible refine (gName_any s _ hs hE).mono ?_); rintro e w1 ⟨rfl, b1⟩
  obtain ⟨m, hm⟩ := (hE.on b1).most
  by_cases h0 : G.name s.data.toList = 0
  · have hr := Lib.hid (G.plain_no s.data.toList (.inl h0))
    obtain ⟨e1, e2, e3⟩ := G.nm_none h0
    rw [e1, e2, e3]
    clear e1 e2 e3 h0 hle hlen
    go_wp2
    go_ret
    exact ⟨ret_bool' hr.out.symm, b1⟩
  · by_cases hk : G.name s.data.toList = s.size
    · obtain ⟨e1, e2, e3⟩ := G.nm_some rfl h0
      have hall := Lib.hid ((G.plain_all s.data.toList (by rw [hk, hlen]) h0).trans (G.contains_all _).symm)
      rw [e1, e2, e3, hk, extract_full]
      have e4 : s.extract s.size s.size = ByteArray.empty := bytes_eq (by rw [drop_list, List.drop_of_length_le (by rw [hlen]; exact Nat.le_refl _)]; rfl)
      rw [e4]
      have hlen := Lib.hid hlen
      clear e1 e2 e3 e4 h0 hle hk
      go_wp2_with fail
      (with_reducible refine (Tryz.strings_Contains s _ m _ (by omega) hm).mono ?_); rintro e w2 ⟨rfl, rfl⟩
      go_wp2
      all_goals
        go_ret
        exact ⟨ret_bool' hall.out.symm, b1⟩
    · have hr := Lib.hid (G.plain_no s.data.toList (.inr (by rw [hlen]; exact hk)))
      obtain ⟨e1, e2, e3⟩ := G.nm_some rfl h0
      rw [e1, e2, e3]
      generalize G.name s.data.toList = n at *
      have hsz : 0 < (s.extract n s.size).size := by simp; omega
      have hne := ne_empty hsz
      clear hlen
      generalize s.extract n s.size = t at *
      clear e1 e2 e3
      go_wp2
      go_ret
      exact ⟨ret_bool' hr.out.symm, b1⟩

theorem lit_crlf : (⟨#[13, 10]⟩ : ByteArray).data.toList = [13, 10] := rfl
theorem lit_cr : (⟨#[13]⟩ : ByteArray).data.toList = [13] := rfl
theorem lit_lf : (⟨#[10]⟩ : ByteArray).data.toList = [10] := rfl
theorem count_room (s old : ByteArray) (h1 : 1 ≤ old.size) (hs : s.size ≤ 1000000) : s.size + Lib.countB s old * (⟨#[10]⟩ : ByteArray).size ≤ 140737488355328 := by
  have := Lib.countB_mul_le old h1 s.size s (Nat.le_refl _)
  have h2 : Lib.countB s old ≤ Lib.countB s old * old.size := Nat.le_mul_of_pos_right _ h1
  have h3 : (⟨#[10]⟩ : ByteArray).size = 1 := rfl
  rw [h3]
  omega

end Go.Proofs.YtegaidfmkfnbnaaGreatDoor
namespace Go.Proofs.YtegaidfmkfnbnaaGreatDoor
open Go.RowKit

theorem decodeN_big {n b0 b1 b2 b3 : Nat} (h : 128 ≤ b0) : 128 ≤ (Lib.decodeN n b0 b1 b2 b3).1 := by
  unfold Lib.decodeN
  rw [if_neg (by omega)]
  split
  · split
    · assumption
    · decide
  · split
    · split
      · rename_i h'; dsimp only; omega
      · decide
    · split
      · split
        · rename_i h'; dsimp only; omega
        · decide
      · decide
theorem decode_big (s : ByteArray) (h0 : 0 < s.size) (h : 128 ≤ (s[0]).toNat) : 128 ≤ (Utf8.decode s 0).1 := by
  rw [Lib.decode_at]
  refine decodeN_big ?_
  have : s.get! 0 = s[0] := by simp [ByteArray.get!, getElem!_pos, h0, ByteArray.getElem_eq_getElem_data]
  rw [this]; exact h

set_option maxRecDepth 1000000 in
set_option maxHeartbeats 4000000 in
theorem decode_ascii (t : ByteArray) (c : Nat) (w : World) (h0 : 0 < t.size) (hc : (t[0]).toNat = c) (h : c < 128) :
    Calls Tryz.prog 87 #[.string t] w fun e w' => e = .returned (.tuple #[.int .i32 (c : Int), .int .i64 1]) ∧ w = w' := by
  have hne := ne_empty h0
  have hi : (c : Int) < 128 := by omega
  have h0i : (0 : Int) < (t.size : Int) := by omega
  go_enter Tryz.func87, Tryz.ntmps87
  go_wp2
  go_ret2
  exact ⟨rfl, rfl⟩

set_option maxRecDepth 1000000 in
set_option maxHeartbeats 4000000 in
/-- The other case of an ASCII letter. -/
theorem simpleFold_ascii (c : Nat) (w : World) (h : c < 128) (hE : Env w) :
    Calls Tryz.prog 88 #[.int .i32 (c : Int)] w fun e w' => e = .returned (.int .i32 (other c : Nat)) ∧ w = w' := by
  have hf := hE.at.2.2.2.2 c h
  have ho : other c < 65536 := by unfold other; split; omega; split; decide; split; decide; split <;> omega
  have hi : (c : Int) < 128 := by omega
  generalize other c = d at *
  clear hE
  go_enter Tryz.func88, Tryz.ntmps88
  go_wp2
  go_ret
  exact ⟨rfl, rfl⟩
end Go.Proofs.YtegaidfmkfnbnaaGreatDoor
