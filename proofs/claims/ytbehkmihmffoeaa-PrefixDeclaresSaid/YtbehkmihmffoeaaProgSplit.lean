/-
  What the program's own Split comes to.
-/
import Derived.Test.YtbehkmihmffoeaaCut
import Derived.Test.YtbehkmihmffoeaaRefDeclare
import Derived.Test.YtbehkmihmffoeaaProgTexts
namespace Go.Proofs.Ytbehkmihmffoeaa
open Go.RowKit

theorem P.split_yes {s t u : ByteArray} (h : Cu.parts 58 s.data.toList = some (t.data.toList, u.data.toList)) : P.split s = if P.plainB t && P.plainB u then some (t, u) else none := by
  have e := Cu.parts_append h
  have hc : P.colon s.data.toList = t.size := by rw [e, P.colon_mk _ _ (Cu.parts_ahead h), list_len]
  have hz := Cu.parts_size h
  have e1 : s.extract 0 t.size = t := bytes_eq (by rw [take_list, e, ← list_len t, List.take_left])
  have e2 : s.extract (t.size + 1) s.size = u := bytes_eq (by rw [drop_list, e, ← list_len t, ← List.drop_drop, List.drop_left]; rfl)
  unfold P.split
  rw [hc, if_pos (by omega), e1, e2]
theorem P.split_no {s : ByteArray} (h : Cu.parts 58 s.data.toList = none) : P.split s = if P.plainB s then some (ByteArray.empty, s) else none := by
  unfold P.split
  rw [P.colon_no _ (Cu.parts_no h), list_len, if_neg (by omega)]

set_option maxRecDepth 100000 in
set_option maxHeartbeats 3200000 in
theorem pSplit_any (s : ByteArray) (w : World) (hs : s.size ≤ 1000000) (hE : Env w) : Calls Try.prog 9 #[.string s] w fun e w' => e = .returned (.tuple #[.string (P.spA s), .string (P.spB s), .int .i64 (P.spE s)]) ∧ Below w.heap.size w w' := by
  go_enter Try.func9, Try.ntmps9
  go_wp2_with fail
  cases hp : Cu.parts 58 s.data.toList with
  | some x =>
    obtain ⟨a, r⟩ := x
    obtain ⟨t, u, rfl, rfl⟩ := Cu.parted hp
    have hz := Cu.parts_size hp
    have hS := P.split_yes hp
    (with_reducible refine (Cu.yes (c := 58) rfl _ hs hE hp).mono ?_); rintro e w1 ⟨rfl, b1⟩
    clear hp
    have t0 : t.size ≤ 1000000 := by omega
    have u0 : u.size ≤ 1000000 := by omega
    go_wp2_with fail
    (with_reducible refine (gPlain_any t _ t0 (hE.on b1)).mono ?_); rintro e w2 ⟨rfl, b2⟩
    have c2 := b1.trans (b2.mono b1.size)
    cases hp1 : G.plain t.data.toList
    · obtain ⟨r1, r2, r3⟩ := P.sp_none (hS.trans (by unfold P.plainB; rw [hp1]; rfl))
      clear hp1 hS
      replace r1 := Lib.hid r1
      replace r2 := Lib.hid r2
      replace r3 := Lib.hid r3
      go_wp2
      go_ret3
      exact ⟨ret_three r1.out.symm r2.out.symm r3.out.symm, c2⟩
    · go_wp2_with fail
      (with_reducible refine (gPlain_any u _ u0 (hE.on c2)).mono ?_); rintro e w3 ⟨rfl, b3⟩
      have c3 := c2.trans (b3.mono c2.size)
      cases hp2 : G.plain u.data.toList
      · obtain ⟨r1, r2, r3⟩ := P.sp_none (hS.trans (by unfold P.plainB; rw [hp1, hp2]; rfl))
        clear hp1 hp2 hS
        replace r1 := Lib.hid r1
        replace r2 := Lib.hid r2
        replace r3 := Lib.hid r3
        go_wp2
        go_ret3
        exact ⟨ret_three r1.out.symm r2.out.symm r3.out.symm, c3⟩
      · obtain ⟨r1, r2, r3⟩ := P.sp_some (hS.trans (by unfold P.plainB; rw [hp1, hp2]; rfl))
        clear hp1 hp2 hS
        replace r1 := Lib.hid r1
        replace r2 := Lib.hid r2
        replace r3 := Lib.hid r3
        go_wp2
        go_ret3
        exact ⟨ret_three r1.out.symm r2.out.symm r3.out.symm, c3⟩
  | none =>
    have hS := P.split_no hp
    (with_reducible refine (Cu.no (c := 58) rfl _ hs hE hp).mono ?_); rintro e w1 ⟨rfl, b1⟩
    clear hp
    go_wp2_with fail
    (with_reducible refine (gPlain_any s _ hs (hE.on b1)).mono ?_); rintro e w2 ⟨rfl, b2⟩
    have c2 := b1.trans (b2.mono b1.size)
    cases hp1 : G.plain s.data.toList
    · obtain ⟨r1, r2, r3⟩ := P.sp_none (hS.trans (by unfold P.plainB; rw [hp1]; rfl))
      clear hp1 hS
      replace r1 := Lib.hid r1
      replace r2 := Lib.hid r2
      replace r3 := Lib.hid r3
      go_wp2
      go_ret3
      exact ⟨ret_three r1.out.symm r2.out.symm r3.out.symm, c2⟩
    · obtain ⟨r1, r2, r3⟩ := P.sp_some (hS.trans (by unfold P.plainB; rw [hp1]; rfl))
      clear hp1 hS
      replace r1 := Lib.hid r1
      replace r2 := Lib.hid r2
      replace r3 := Lib.hid r3
      go_wp2
      go_ret3
      exact ⟨ret_three r1.out.symm r2.out.symm r3.out.symm, c2⟩
end Go.Proofs.Ytbehkmihmffoeaa
