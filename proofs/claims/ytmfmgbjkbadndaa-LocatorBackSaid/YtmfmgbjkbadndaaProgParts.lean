/-
  What the library says of one sign, and of several, in a reference's own words; how many bytes stand ahead of a sign between; the program's split.
-/
import Derived.Test.YtmfmgbjkbadndaaProgIndex
import Derived.Test.YtmfmgbjkbadndaaCut
namespace Go.Proofs.Ytmfmgbjkbadndaa
open Go.RowKit
namespace Lc
theorem any_cut (m : List UInt8) : ∀ l : List UInt8, Lib.indexAny l m = if rest l m = [] then -1 else ((cut l m).length : Int)
  | [] => rfl
  | b :: l => by
    have ih := any_cut m l
    unfold rest cut at *
    rw [Lib.indexAny, List.dropWhile_cons, List.takeWhile_cons]
    cases h : m.contains b
    · simp only [Bool.false_eq_true, if_false, Bool.not_false, if_true]
      rw [ih]
      split
      · rfl
      · rw [if_neg (fun e => by have := beq_iff_eq.1 e; omega), List.length_cons]
        omega
    · simp
theorem byte_cut (c : UInt8) (l : List UInt8) : Lib.indexByte l c = if rest l [c] = [] then -1 else ((cut l [c]).length : Int) := by
  rw [← Lib.indexAny_one, any_cut]
theorem begins_has (p s : List UInt8) : Lib.hasPrefix s p = begins p s := by
  rw [← Lib.hasPrefix_of_take, begins]
  cases h : (s.take p.length == p)
  · simp
  · have := congrArg List.length (beq_iff_eq.1 h)
    rw [List.length_take] at this
    rw [Bool.and_true, decide_eq_true_eq]
    omega
theorem cut_parts (c : UInt8) (l : List UInt8) : Lib.cut l [c] = (cut l [c], (rest l [c]).drop 1, !(rest l [c]).isEmpty) := by
  cases h : Cu.parts c l with
  | none =>
    have hn := Cu.parts_no h
    have hc := cut_full (t := l) (r := []) (m := [c]) (fun b hb => by have := hn b hb; simpa using this) (.inl rfl)
    rw [List.append_nil] at hc
    rw [Cu.cut_miss h, hc.1, hc.2]
    rfl
  | some x =>
    obtain ⟨a, r⟩ := x
    have e := Cu.parts_append h
    have ha := Cu.parts_ahead h
    have hc := cut_full (t := a) (r := c :: r) (m := [c]) (fun b hb => by have := ha b hb; simpa using this) (.inr ⟨c, r, rfl, by simp⟩)
    rw [← e] at hc
    rw [Cu.cut_hit h, hc.1, hc.2]
    rfl
end Lc
theorem pUpTo_any (s : ByteArray) (w : World) (hs : s.size ≤ maxLen) : Calls Try.prog 33 #[.string s] w fun e w' => e = .returned (.int .i64 ((Lc.cut s.data.toList [47]).length : Nat)) ∧ w = w' := by
  have hsm : s.size ≤ 9223372036854775807 := hs
  have hi := Lc.byte_cut 47 s.data.toList
  have he := Lib.hid (congrArg List.length (Lc.cut_rest s.data.toList [47]))
  have hlen := Lib.hid (list_len s)
  have hbk : ((47 : Int)).toNat.toUInt8 = 47 := rfl
  obtain ⟨n, hn⟩ : ∃ n, n = (Lc.cut s.data.toList [47]).length := ⟨_, rfl⟩
  rw [← hn] at hi ⊢
  by_cases hr : Lc.rest s.data.toList [47] = []
  · rw [if_pos hr] at hi
    have hns : Hid (s.size = n) := Lib.hid (by
      have := he.out
      rw [List.length_append, hr, ← hn, hlen.out] at this
      simpa using this.symm)
    replace hn := Lib.hid hn
    replace hr := Lib.hid hr
    replace hi := Lib.hid hi
    go_enter Try.func33, Try.ntmps33
    go_wp2_with fail
    (refine (Try.strings_IndexByte _ _ _).mono ?_); rintro e w1 ⟨rfl, hw⟩; obtain rfl := hw.symm
    rw [hbk, hi.out]
    go_wp2_with fail
    go_ret
    exact ⟨ret_int (by rw [hns.out]), rfl⟩
  · rw [if_neg hr] at hi
    replace hn := Lib.hid hn
    replace hr := Lib.hid hr
    replace hi := Lib.hid hi
    go_enter Try.func33, Try.ntmps33
    go_wp2_with fail
    (refine (Try.strings_IndexByte _ _ _).mono ?_); rintro e w1 ⟨rfl, hw⟩; obtain rfl := hw.symm
    rw [hbk, hi.out]
    go_wp2_with fail
    go_ret
    exact ⟨rfl, rfl⟩

theorem pCut_any (s p : ByteArray) (c : UInt8) (w : World) (hs : s.size ≤ 1000000) (hp : p.data.toList = [c]) (hE : Env w) :
    Calls Try.prog 41 #[.string s, .string p] w fun e w' => e = .returned (.tuple #[.string (Lc.str (Lc.cut s.data.toList [c])), .string (Lc.str ((Lc.rest s.data.toList [c]).drop 1)), .bool (!(Lc.rest s.data.toList [c]).isEmpty)]) ∧ Below w.heap.size w w' := by
  obtain ⟨m, hm⟩ := hE.most
  refine (Try.strings_Cut s p m w (by omega) hm).mono ?_
  rintro e w' ⟨rfl, n, rfl⟩
  rw [hp, Lc.cut_parts]
  exact ⟨rfl, Cu.below_drewN (Below.refl _ _) _⟩
theorem pCutPrefix_any (s p : ByteArray) (l : List UInt8) (w : World) (hp : p.data.toList = l) :
    Calls Try.prog 42 #[.string s, .string p] w fun e w' => e = .returned (.tuple #[.string (Lc.str (if Lc.begins l s.data.toList then s.data.toList.drop l.length else s.data.toList)), .bool (Lc.begins l s.data.toList)]) ∧ w' = w := by
  refine (Try.strings_CutPrefix s p w).mono ?_
  rintro e w' ⟨rfl, hw⟩
  refine ⟨?_, hw⟩
  rw [hp, Lib.trimPrefix, Lc.begins_has]
  rfl
end Go.Proofs.Ytmfmgbjkbadndaa
