/-
  What few and awake come to.
-/
import Derived.Test.YtbfgniheagolgaaGreatDoorSame
namespace Go.Proofs.YtbfgniheagolgaaGreatDoor
open Go.RowKit

def short (r : M.Row) : Bool := decide (r.name.size ≤ 100) && decide (r.file.size ≤ 100)
def fewRows (l : List M.Row) : Bool := decide (l.length ≤ 100) && l.all short

theorem all_rows (l : List M.Row) (k : Nat) (h : k < l.length) : (l.take (k + 1)).all short = ((l.take k).all short && short l[k]) := by
  rw [List.take_succ_eq_append_getElem h, List.all_append, List.all_cons, List.all_nil, Bool.and_true]
theorem all_rows_not (l : List M.Row) (k : Nat) (h : k < l.length) (hn : short l[k] = false) : fewRows l = false := by
  unfold fewRows
  rw [Bool.and_eq_false_iff]; right
  rw [← Bool.not_eq_true, List.all_eq_true]
  intro x
  have := x l[k] (List.getElem_mem h)
  rw [hn] at this; cases this

set_option maxRecDepth 100000 in
set_option maxHeartbeats 1600000 in
theorem few_any {ao : Option Addr} {cap : Nat} (l : List M.Row) (w : World) (hl : RowsAt w ao l) (hln : l.length ≤ maxLen) :
    Calls Tryz.prog 5 #[.slice ao l.length cap] w fun e w' => e = .returned (.bool (fewRows l)) ∧ w = w' := by
  unfold maxLen at hln
  go_enter Tryz.func5, Tryz.ntmps5
  go_wp2_with fail
  go_loop [3] (fun i => ∃ k : Nat, k ≤ l.length ∧ k ≤ 101 ∧ i = .int .i64 k ∧ Hid ((l.take k).all short = true)) (fun i => l.length - (intOf i).toNat)
  case atStart => exact ⟨0, Nat.zero_le _, by decide, rfl, Lib.hid (by simp)⟩
  case round =>
    obtain ⟨k, hk, hk1, rfl, hall⟩ := hrel
    by_cases hlt : k < l.length
    · by_cases h100 : k ≤ 100
      · obtain ⟨b, off, rfl, c0, c1, _, _⟩ := hl k hlt
        have hst := Lib.hid (all_rows l k hlt)
        have hno := Lib.hid (all_rows_not l k hlt)
        have g3 : (k : Int) < (l.length : Int) := by omega
        generalize l[k] = x at c0 c1 hst hno
        by_cases z1 : x.name.size ≤ 100
        · by_cases z2 : x.file.size ≤ 100
          · have hsh := Lib.hid (show short x = true by simp [short, z1, z2])
            go_wp2
            go_round
            case rel => exact ⟨k + 1, by omega, by omega, by go_num, Lib.hid (by rw [hst.out, hall.out, hsh.out]; rfl)⟩
            case measure => simp [intOf]; omega
          · have hsh := Lib.hid (hno.out (by simp [short, z1, z2]))
            go_wp2
            go_ret
            exact ⟨ret_bool hsh.out.symm, rfl⟩
        · have hsh := Lib.hid (hno.out (by simp [short, z1]))
          go_wp2
          go_ret
          exact ⟨ret_bool hsh.out.symm, rfl⟩
      · have hf : Hid (fewRows l = false) := Lib.hid (by simp [fewRows]; omega)
        have h101 : ¬ l.length ≤ 100 := by omega
        clear hl
        go_wp2
        go_ret
        exact ⟨ret_bool (by rw [hf.out]; simp; omega), rfl⟩
    · have hkl : k = l.length := by omega
      have hf : Hid (fewRows l = decide (l.length ≤ 100)) := Lib.hid (by
        have := hall.out
        rw [hkl, List.take_length] at this
        simp only [fewRows, this, Bool.and_true])
      clear hl
      go_wp2
      all_goals go_ret
      all_goals exact ⟨ret_bool (by rw [hf.out, Bool.eq_iff_iff]; first | (simp; done) | (simp; omega)), rfl⟩

/-- The row of awake. -/
def row0 : M.Row := ⟨{ data := #[97] }, { data := #[98, 49] }, 3, 7⟩

theorem itoa_one : Lib.itoa 1 = [49] := by rw [M.itoa_nn (by decide)]; simp [Lib.decDigits]
theorem itoa_three : Lib.itoa 3 = [51] := by rw [M.itoa_nn (by decide)]; simp [Lib.decDigits]
theorem itoa_seven : Lib.itoa 7 = [55] := by rw [M.itoa_nn (by decide)]; simp [Lib.decDigits]
theorem body0 : M.body 1 [row0] = [103, 101, 110, 101, 114, 97, 116, 105, 111, 110, 32, 49, 10, 97, 32, 98, 49, 32, 51, 32, 55, 10] := by
  simp [M.body, M.line, M.rowLine, row0, itoa_one, itoa_three, itoa_seven, M.gen]
theorem adl0 : M.adl (M.body 1 [row0]) = 1465124432 := by rw [body0]; decide
theorem itoa_sum : Lib.itoa 1465124432 = [49, 52, 54, 53, 49, 50, 52, 52, 51, 50] := by rw [M.itoa_nn (by decide)]; simp [Lib.decDigits]
def text0 : List UInt8 := [103, 101, 110, 101, 114, 97, 116, 105, 111, 110, 32, 49, 10, 97, 32, 98, 49, 32, 51, 32, 55, 10, 115, 117, 109, 32, 49, 52, 54, 53, 49, 50, 52, 52, 51, 50, 10]
theorem text0_is : M.text 1 [row0] = text0 := by
  unfold M.text
  rw [adl0, body0, M.line_one, itoa_sum]; rfl
theorem good0 : M.good 1 [row0] = true := by decide

theorem head0 : ((({ data := #[103, 101, 110, 101, 114, 97, 116, 105, 111, 110, 32, 49, 10, 97, 32, 98, 49, 32, 51, 32, 55, 10, 115, 117, 109, 32, 49, 52, 54, 53, 49, 50, 52, 52, 51, 50, 10] } : ByteArray).extract 0 26).toList == [103, 101, 110, 101, 114, 97, 116, 105, 111, 110, 32, 49, 10, 97, 32, 98, 49, 32, 51, 32, 55, 10, 115, 117, 109, 32]) = true := by
  rw [ByteArray.toList_eq]; decide

theorem rows0 (w : World) : RowsAt (w.alloc (.cells #[.string { data := #[97] }, .string { data := #[98, 49] }, .int .i64 3, .int .i64 7] 34)) (some ⟨w.heap.size, 0, none⟩) [row0] := by
  have e := alloc_at (w := w) (.cells #[.string { data := #[97] }, .string { data := #[98, 49] }, .int .i64 3, .int .i64 7] 34) _ rfl
  obtain ⟨q0, q1, q2, q3⟩ := cells_at (rb := w.heap.size) e
  intro j hj
  have : j = 0 := by simpa using hj
  subst this
  exact ⟨_, 0, rfl, q0, q1, q2, q3⟩

theorem fit0 : Fit [row0] := by
  refine ⟨by decide, fun r hr => ?_⟩
  have : r = row0 := by simpa using hr
  subst this
  unfold maxLen
  exact ⟨by decide, by decide, by decide, by decide⟩

theorem told0 : told 1 [row0] = .tuple #[.string { data := #[103, 101, 110, 101, 114, 97, 116, 105, 111, 110, 32, 49, 10, 97, 32, 98, 49, 32, 51, 32, 55, 10, 115, 117, 109, 32, 49, 52, 54, 53, 49, 50, 52, 52, 51, 50, 10] }, .int .i64 0] := by
  unfold told
  rw [good0, text0_is]; rfl

theorem print0 {cap : Nat} (w : World) {ao : Option Addr} (hR : RowsAt w ao [row0]) (hE : Env w.heap.size w) :
    Calls Tryz.prog 7 #[.int .i64 1, .slice ao 1 cap] w fun e w' => e = .returned (.tuple #[.string { data := #[103, 101, 110, 101, 114, 97, 116, 105, 111, 110, 32, 49, 10, 97, 32, 98, 49, 32, 51, 32, 55, 10, 115, 117, 109, 32, 49, 52, 54, 53, 49, 50, 52, 52, 51, 50, 10] }, .int .i64 0]) ∧ Below w.heap.size w w' :=
  (print_any 1 [row0] w hR fit0 hE).mono fun _ _ ⟨he, hb⟩ => ⟨by rw [he, told0], hb⟩

theorem read0 : M.read text0 = (1, [row0]) := by rw [← text0_is]; exact M.read_text good0
theorem parses0 : M.parses text0 = true := by rw [← text0_is]; exact M.parses_text good0

theorem parse0 (w : World) (hE : Env w.heap.size w) :
    Calls Tryz.prog 9 #[.string { data := #[103, 101, 110, 101, 114, 97, 116, 105, 111, 110, 32, 49, 10, 97, 32, 98, 49, 32, 51, 32, 55, 10, 115, 117, 109, 32, 49, 52, 54, 53, 49, 50, 52, 52, 51, 50, 10] }] w fun e w' =>
      ∃ ao cap, e = .returned (.tuple #[.int .i64 1, .slice ao 1 cap, .int .i64 0]) ∧ RowsAt w' ao [row0] ∧ Below w.heap.size w w' :=
  (parse_any _ w (by decide) hE).mono fun e w' ⟨he, hb⟩ => by
    have he : Answers text0 e w' := he
    unfold Answers at he
    rw [parses0, if_pos rfl, read0] at he
    obtain ⟨ao, cap, he, hR⟩ := he
    exact ⟨ao, cap, he, hR, hb⟩

theorem same0 {ao bo : Option Addr} {ca cb : Nat} (w : World) (hl : RowsAt w ao [row0]) (hm : RowsAt w bo [row0]) :
    Calls Tryz.prog 11 #[.slice ao 1 ca, .slice bo 1 cb] w fun e w' => e = .returned (.bool true) ∧ Below w.heap.size w w' :=
  (same_any [row0] [row0] w hl hm (by decide)).mono fun _ _ ⟨he, hb⟩ => ⟨by rw [he]; simp, hb⟩

set_option maxRecDepth 100000 in
set_option maxHeartbeats 1600000 in
theorem awake_any (w : World) (hE : Env w.heap.size w) :
    Calls Tryz.prog 6 #[] w fun e w' => e = .returned (.bool true) ∧ Below w.heap.size w w' := by
  go_enter Tryz.func6, Tryz.ntmps6
  go_wp2_with fail
  have hR := rows0 w
  have b0 : Below w.heap.size w (w.alloc (.cells #[.string { data := #[97] }, .string { data := #[98, 49] }, .int .i64 3, .int .i64 7] 34)) := (Below.refl _ _).alloc (Nat.le_refl _) _
  (with_reducible refine (print0 _ hR (hE.on b0 b0.size)).mono ?_)
  rintro e w1 ⟨rfl, b1⟩
  have b01 := b0.trans (b1.mono b0.size)
  have hR1 := hR.below b1
  go_wp2_with fail
  (with_reducible refine (parse0 _ (hE.on b01 b01.size)).mono ?_)
  rintro e w2 ⟨ao, cap, rfl, hR2, b2⟩
  have b02 := b01.trans (b2.mono b01.size)
  have hR12 := hR1.below b2
  have hx := head0
  go_wp2_with fail
  (with_reducible refine (same0 _ hR12 hR2).mono ?_)
  rintro e w3 ⟨rfl, b3⟩
  go_wp2_with fail
  go_ret
  exact ⟨rfl, b02.trans (b3.mono b02.size)⟩

/-- Rows as a reading gives them: whatever numbers, names of whatever length. -/
def Wide (l : List M.Row) : Prop := l.length ≤ maxLen ∧ ∀ r ∈ l, r.name.size ≤ maxLen ∧ r.file.size ≤ maxLen ∧ (-9223372036854775808 ≤ r.size ∧ r.size ≤ 9223372036854775807) ∧ (-9223372036854775808 ≤ r.sum ∧ r.sum ≤ 9223372036854775807)

theorem Wide.len {l : List M.Row} (h : Wide l) : l.length ≤ maxLen := h.1

theorem Wide.fit {l : List M.Row} (h : Wide l) (hf : fewRows l = true) : Fit l := by
  simp only [fewRows, Bool.and_eq_true, decide_eq_true_eq] at hf
  exact ⟨by omega, h.2⟩

end Go.Proofs.YtbfgniheagolgaaGreatDoor
