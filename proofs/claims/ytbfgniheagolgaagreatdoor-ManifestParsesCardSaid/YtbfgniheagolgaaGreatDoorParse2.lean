/-
  What Parse comes to.
-/
import Derived.Test.YtbfgniheagolgaaGreatDoorParse
namespace Go.Proofs.YtbfgniheagolgaaGreatDoor
open Go.RowKit

theorem row_some {l : List UInt8} {r : M.Row} (h : M.row l = some r) : r.name.size ≤ l.length ∧ r.file.size ≤ l.length ∧ M.num r.size = true ∧ M.num r.sum = true := by
  unfold M.row at h
  have hs := split_sum (min 5 (l.length + 1) - 1) l
  split at h
  · rename_i a b c d he
    unfold Lib.splitN at he
    rw [he] at hs
    split at h
    · rename_i hn
      simp only [Bool.and_eq_true] at hn
      cases h
      simp only [List.map_cons, List.map_nil, List.sum_cons, List.sum_nil] at hs
      refine ⟨?_, ?_, hn.1, hn.2⟩ <;> simp [ByteArray.size] <;> omega
    · cases h
  · cases h

theorem readRows_fit : ∀ (n : Nat) (l : List UInt8), l.length ≤ n → (M.readRows l).length ≤ l.length ∧ ∀ r ∈ M.readRows l, r.name.size ≤ l.length ∧ r.file.size ≤ l.length ∧ M.num r.size = true ∧ M.num r.sum = true := by
  intro n
  induction n with
  | zero =>
    intro l hl
    have : l = [] := List.eq_nil_of_length_eq_zero (by omega)
    subst this
    rw [M.readRows_none (by rw [show Lib.cut [] [10] = ([], [], false) from rfl]; exact M.row_nil)]
    simp
  | succ n ih =>
    intro l hl
    cases hr : M.row (Lib.cut l [10]).1 with
    | none => rw [M.readRows_none hr]; simp
    | some r =>
      obtain ⟨hne, he⟩ := M.readRows_some hr
      have hsh := M.cut_shrinks l hne
      have hcl := cut_len l
      obtain ⟨i1, i2⟩ := ih (Lib.cut l [10]).2.1 (by omega)
      obtain ⟨r1, r2, r3, r4⟩ := row_some hr
      rw [he]
      refine ⟨by simp; omega, fun x hx => ?_⟩
      rcases List.mem_cons.1 hx with rfl | hx
      · exact ⟨by omega, by omega, r3, r4⟩
      · obtain ⟨q1, q2, q3, q4⟩ := i2 x hx
        exact ⟨by omega, by omega, q3, q4⟩

theorem fit_read (l : List UInt8) (hl : l.length ≤ 1000000) : Fit (M.read l).2 := by
  obtain ⟨h1, h2⟩ := readRows_fit _ (Lib.cut l [10]).2.1 (Nat.le_refl _)
  have hcl := cut_len l
  refine ⟨by show (M.readRows (Lib.cut l [10]).2.1).length ≤ 1000000; omega, fun r hr => ?_⟩
  obtain ⟨q1, q2, q3, q4⟩ := h2 r hr
  simp only [M.num, Bool.and_eq_true, decide_eq_true_eq] at q3 q4
  unfold maxLen
  exact ⟨by omega, by omega, ⟨by omega, by omega⟩, ⟨by omega, by omega⟩⟩

/-- What Parse answers. -/
def Answers (s : List UInt8) (e : Ending) (w' : World) : Prop :=
  if M.parses s = true then ∃ ao cap, e = .returned (.tuple #[.int .i64 (M.read s).1, .slice ao (M.read s).2.length cap, .int .i64 0]) ∧ RowsAt w' ao (M.read s).2
  else e = .returned (.tuple #[.int .i64 0, .slice none 0 0, .int .i64 30])

set_option maxRecDepth 100000 in
set_option maxHeartbeats 1600000 in
theorem parse_any (s : ByteArray) (w : World) (hs : s.size ≤ 1000000) (hE : Env w.heap.size w) :
    Calls Tryz.prog 9 #[.string s] w fun e w' => Answers s.data.toList e w' ∧ Below w.heap.size w w' := by
  have hsl : s.data.toList.length = s.size := by simp
  have hfit := fit_read s.data.toList (by omega)
  go_enter Tryz.func9, Tryz.ntmps9
  go_wp2_with fail
  (with_reducible refine (read_any s _ hs hE).mono ?_)
  rintro e w1 ⟨ao, cap, rfl, hR, b1⟩
  have hp : M.parses s.data.toList = (M.good (M.read s.data.toList).1 (M.read s.data.toList).2 && (M.text (M.read s.data.toList).1 (M.read s.data.toList).2 == s.data.toList)) := rfl
  have hans : ∀ e w', Answers s.data.toList e w' = (if M.parses s.data.toList = true then ∃ ao cap, e = .returned (.tuple #[.int .i64 (M.read s.data.toList).1, .slice ao (M.read s.data.toList).2.length cap, .int .i64 0]) ∧ RowsAt w' ao (M.read s.data.toList).2
      else e = .returned (.tuple #[.int .i64 0, .slice none 0 0, .int .i64 30])) := fun _ _ => rfl
  generalize (M.read s.data.toList).1 = n at hp hans ⊢
  generalize (M.read s.data.toList).2 = l at hp hans hR hfit ⊢
  have hp := Lib.hid hp
  have hans := Lib.hid hans
  go_wp2_with fail
  (with_reducible refine (print_any n l _ hR hfit (hE.on b1 b1.size)).mono ?_)
  rintro e w2 ⟨rfl, b2⟩
  have b02 : Below w.heap.size w w2 := b1.trans (b2.mono b1.size)
  have hR2 := hR.below b2
  unfold told
  cases hg : M.good n l
  · have hno := Lib.hid (show M.parses s.data.toList = false by rw [hp.out, hg]; rfl)
    simp only [Bool.false_eq_true, if_false]
    go_wp2_with fail
    go_ret3
    exact ⟨by rw [hans.out, hno.out]; rfl, b02⟩
  · simp only [if_true]
    by_cases ht : M.text n l = s.data.toList
    · have hyes := Lib.hid (show M.parses s.data.toList = true by rw [hp.out, hg, ht, Bool.true_and, beq_self_eq_true])
      have hts : (⟨(M.text n l).toArray⟩ : ByteArray) = s := (congrArg (fun z : List UInt8 => (⟨z.toArray⟩ : ByteArray)) ht).trans (M.array_toList s)
      rw [hts]
      have heq : (s.toList == s.toList) = true := beq_self_eq_true _
      clear hts ht
      go_wp2_with fail
      go_ret3
      exact ⟨by rw [hans.out, hyes.out]; exact ⟨ao, cap, rfl, hR2⟩, b02⟩
    · have hno := Lib.hid (show M.parses s.data.toList = false by rw [hp.out, hg]; simpa using ht)
      have hne : ((⟨(M.text n l).toArray⟩ : ByteArray).toList == s.toList) = false := by
        rw [ByteArray.toList_eq, ByteArray.toList_eq]
        simpa using ht
      generalize (⟨(M.text n l).toArray⟩ : ByteArray) = t at hne ⊢
      clear ht
      go_wp2_with fail
      go_ret3
      exact ⟨by rw [hans.out, hno.out]; rfl, b02⟩
end Go.Proofs.YtbfgniheagolgaaGreatDoor
