/-
  A builder of text that a call has made itself: what its methods come to (copyCheck, WriteString, WriteByte, WriteRune), and that it stays what it is under what only makes memory.
  A byte written into a builder.
  What the program's escaping comes to.
-/
import Derived.Test.YtegaidfmkfnbnaaGreatDoorP06
import Derived.Test.YtegaidfmkfnbnaaGreatDoorShelf
import Derived.Lib.RuneBytes
import Derived.Lib.FrozenHead2
import Derived.Lib.OthersKept
import Derived.Test.YtegaidfmkfnbnaaGreatDoorP02
namespace Go.Proofs.YtegaidfmkfnbnaaGreatDoor
open Go.RowKit

theorem sizeBuilder : ∃ j, Tryz.prog.info? 44 = some j ∧ j.size ≠ 0 := by
  have h : (Tryz.prog.info? 44).map (·.size) = some 2 := by kernel_rfl
  obtain ⟨j, hj, hs⟩ := Option.map_eq_some_iff.1 h
  exact ⟨j, hj, by rw [hs]; decide⟩
theorem liesBuilder : liesAt Tryz.prog Tryz.prog.depth 44 (2 / Tryz.prog.cellsOf 44) 0 44 1 = true := by kernel_rfl

/-- A builder at block b, the call's own from B on, with these bytes. -/
def Builds (B b : Nat) (l : List UInt8) (w : World) : Prop := Lib.IsBuilderF 44 5 B b (Lib.byteCells l) w

theorem builds_new (w : World) : Builds w.heap.size w.heap.size [] (w.alloc (.cells #[.pointer none, .slice none 0 0] 44)) :=
  .inl ⟨Nat.le_refl _, .slice none 0 0, heap_alloc_new w _, World.ownsRowF_nil _ _ _ _, by simp [Value.ownBlock]⟩

theorem builds_lt {B b : Nat} {l : List UInt8} {w : World} (h : Builds B b l w) : b < w.heap.size := by
  rcases h with h | h
  · exact h.lt
  · exact h.lt

/-- What only makes memory leaves a builder as it is. -/
theorem builds_below {B b : Nat} {l : List UInt8} {w w' : World} (h : Builds B b l w) (hb : Below w.heap.size w w') : Builds B b l w' := by
  have key : ∀ p, Lib.BuilderAtF 44 5 B b p (Lib.byteCells l) w → Lib.BuilderAtF 44 5 B b p (Lib.byteCells l) w' := by
    rintro p ⟨hB, v, hbk, hown, hne⟩
    have hlt : b < w.heap.size := Lib.BuilderAtF.lt ⟨hB, v, hbk, hown, hne⟩
    refine ⟨hB, v, (hb.block b hlt).trans hbk, World.ownsRowF.kept hown (grown_of_below hb none) ?_, hne⟩
    cases h : v.ownBlock with
    | none => exact .inl rfl
    | some k => exact .inr (by simp)
  exact h.imp (key _) (key _)

set_option maxHeartbeats 1000000 in
set_option maxRecDepth 100000 in
theorem builder_check_used (b : Nat) (w : World) (h0 : w.cell? ⟨b, 0, none⟩ = some (.pointer (some ⟨b, 0, none⟩))) :
    Calls Tryz.prog 94 #[.pointer (some ⟨b, 0, none⟩)] w fun e w' => e = .returned (.tuple #[]) ∧ w' = w := by
  obtain ⟨j, hj, _⟩ := sizeBuilder
  have hsm := Lib.run_neq_ptr_same (P := Tryz.prog) w (tp := 42) (te := 44) ⟨b, 0, none⟩ Tryz.underlying42 hj
  go_enter Tryz.func94, Tryz.ntmps94
  go_wp2
  go_end0
  exact ⟨rfl, rfl⟩

set_option maxHeartbeats 1000000 in
set_option maxRecDepth 100000 in
theorem builder_check_fresh (b : Nat) (w : World) (h0 : w.cell? ⟨b, 0, none⟩ = some (.pointer none)) (hsh : w.shape? b = some (44, 2)) (hfz : w.frozen? ⟨b, 0, none⟩ = false) :
    Calls Tryz.prog 94 #[.pointer (some ⟨b, 0, none⟩)] w fun e w' => e = .returned (.tuple #[]) ∧ w' = w.setCell ⟨b, 0, none⟩ (.pointer (some ⟨b, 0, none⟩)) := by
  obtain ⟨j, hj, hjs⟩ := sizeBuilder
  go_enter Tryz.func94, Tryz.ntmps94
  go_wp2
  rw [Lib.run_to_unsafe w ⟨b, 0, none⟩ Tryz.underlying42 Tryz.underlying133 hj hjs hsh (Nat.zero_lt_succ 1)]
  simp only [Result.andThen]
  rw [Oper.upon_value]
  go_wp2
  rw [run_callFunc_extern Tryz.func116 (by kernel_rfl) (by kernel_rfl) (by kernel_rfl) (e := Extern.AbiNoEscape.same) (by kernel_rfl)]
  rw [Lib.run_noEscape]
  simp only [Result.andThen]
  rw [Oper.upon_value]
  go_wp2
  rw [Lib.run_from_unsafe w ⟨b, 0, none⟩ Tryz.underlying133 Tryz.underlying42 hj hsh liesBuilder]
  simp only [Result.andThen]
  rw [Oper.upon_value]
  go_wp2
  go_end0
  exact ⟨rfl, rfl⟩

theorem builder_check (B b : Nat) (bs : List Value) (w : World) (h : Lib.IsBuilderF 44 5 B b bs w) :
    Calls Tryz.prog 94 #[.pointer (some ⟨b, 0, none⟩)] w fun e w' => e = .returned (.tuple #[]) ∧ Lib.BuilderAtF 44 5 B b (.pointer (some ⟨b, 0, none⟩)) bs w' ∧ Below B w w' := by
  rcases h with h | h
  · refine (builder_check_fresh b w h.cell0 h.shape h.frozen0).mono ?_
    rintro e w' ⟨rfl, rfl⟩
    exact ⟨rfl, h.used _, (Below.refl B w).setCell (p := ⟨b, 0, none⟩) h.1 _⟩
  · refine (builder_check_used b w h.cell0).mono ?_
    rintro e w' ⟨rfl, rfl⟩
    exact ⟨rfl, h, Below.refl B _⟩

set_option maxHeartbeats 2000000 in
set_option maxRecDepth 100000 in
theorem builder_writeString (B b : Nat) (l : List UInt8) (s : ByteArray) (w : World) (h : Builds B b l w) (hlen : l.length + s.size ≤ 140737488355328) (hBw : B ≤ w.heap.size) :
    Calls Tryz.prog 59 #[.pointer (some ⟨b, 0, none⟩), .string s] w fun e w' => e = .returned (.tuple #[.int .i64 s.size, .nilIface]) ∧ Builds B b (l ++ s.data.toList) w' ∧ Below B w w' := by
  obtain ⟨i0, hi, hz0, hz1, hz2⟩ := info_parts infoByte
  have hl0 : (Lib.byteCells l).length = l.length := Lib.byteCells_length l
  unfold Builds at *
  rw [Lib.byteCells_append, ← Lib.strCells_eq]
  generalize Lib.byteCells l = bs at *
  replace hlen : bs.length + s.size ≤ 140737488355328 := by omega
  clear hl0
  go_enter Tryz.func59, Tryz.ntmps59
  go_wp2_with fail
  (with_reducible refine (builder_check B b bs _ h).mono ?_)
  rintro e w1 ⟨rfl, h1, hb1⟩
  obtain ⟨hB, v, hbk, hown, hne⟩ := h1
  have c0 : w1.cell? ⟨b, 0, none⟩ = some (.pointer (some ⟨b, 0, none⟩)) := by rw [Lib.cell_of_heap hbk]; rfl
  have c1 : w1.cell? ⟨b, 1, none⟩ = some v := by rw [Lib.cell_of_heap hbk]; rfl
  go_wp2_with (at_builtin; refine Lib.wpList_append_own_stringF _ rfl _ _ 36 9 rfl B 5 i0 Tryz.underlying36 Tryz.underlying9 hi hz0 hz1 hz2 _ _ _ rfl hown s rfl ?c3 ?c4 ?c5 ?_)
  case c3 => unfold maxLen; omega
  case c4 => omega
  case c5 => have := hb1.size; omega
  intro v' w2 hown' hgrow _
  have hlt : b < w1.heap.size := by
    rcases Nat.lt_or_ge b w1.heap.size with h' | h'
    · exact h'
    · simp [Array.getElem?_eq_none h'] at hbk
  have hb2 : w2.heap[b]? = some (.cells #[.pointer (some ⟨b, 0, none⟩), v] 44 (0, 0)) := by
    rw [hgrow.block b hlt (fun e => hne e.symm)]
    exact hbk
  have d0 : w2.cell? ⟨b, 0, none⟩ = some (.pointer (some ⟨b, 0, none⟩)) := by rw [Lib.cell_of_heap hb2]; rfl
  have d1 : w2.cell? ⟨b, 1, none⟩ = some v := by rw [Lib.cell_of_heap hb2]; rfl
  have f1 : w2.frozen? ⟨b, 1, none⟩ = false := Lib.frozen_of_heap hb2 1
  obtain ⟨ao, n', cap, rfl⟩ : ∃ ao n' cap, v' = .slice ao n' cap := by
    rcases hown'.2 with ⟨hv, _⟩ | ⟨g, cap, cur, fz, hv, _⟩
    · exact ⟨_, _, _, hv⟩
    · exact ⟨_, _, _, hv⟩
  go_wp2
  go_ret2
  refine ⟨rfl, .inr ?_, ?_⟩
  · exact Lib.BuilderAtF.put (T := 44) (e := 5) hB hb2 (bs' := bs ++ Lib.strCells s) (by simpa [Lib.strCells_length] using hown') (by decide)
  · exact (hb1.grown hgrow (by have := hb1.size; omega) (fun k hk => (hown.lt k hk).1)).setCell (p := ⟨b, 1, none⟩) hB _

/-- The text that a builder has. -/
theorem builder_string (B b : Nat) (l : List UInt8) (w : World) (h : Builds B b l w) (hBw : B ≤ w.heap.size) :
    Calls Tryz.prog 18 #[.pointer (some ⟨b, 0, none⟩)] w fun e w' => e = .returned (.string ⟨l.toArray⟩) ∧ Builds B b l w' ∧ Below B w w' :=
  (Tryz.Builder_String_any_f B b l w h hBw).mono fun _ _ h => h
end Go.Proofs.YtegaidfmkfnbnaaGreatDoor
namespace Go.Proofs.YtegaidfmkfnbnaaGreatDoor
open Go.RowKit

set_option maxHeartbeats 2000000 in
set_option maxRecDepth 100000 in
theorem builder_writeByte (B b : Nat) (l : List UInt8) (c : UInt8) (w : World) (h : Builds B b l w) (hlen : l.length + 1 ≤ 140737488355328) (hBw : B ≤ w.heap.size) :
    Calls Tryz.prog 61 #[.pointer (some ⟨b, 0, none⟩), .int .u8 (c.toNat : Int)] w fun e w' => e = .returned .nilIface ∧ Builds B b (l ++ [c]) w' ∧ Below B w w' := by
  obtain ⟨i0, hi, hz0, hz1, hz2⟩ := info_parts infoByte
  have hl0 : (Lib.byteCells l).length = l.length := Lib.byteCells_length l
  unfold Builds at *
  rw [Lib.byteCells_append, show Lib.byteCells [c] = [.int .u8 (c.toNat : Int)] from rfl]
  generalize Lib.byteCells l = bs at *
  generalize (c.toNat : Int) = c at *
  replace hlen : bs.length + 1 ≤ 140737488355328 := by omega
  clear hl0
  go_enter Tryz.func61, Tryz.ntmps61
  go_wp2_with fail
  (with_reducible refine (builder_check B b bs _ h).mono ?_)
  rintro e w1 ⟨rfl, h1, hb1⟩
  obtain ⟨hB, v, hbk, hown, hne⟩ := h1
  have c0 : w1.cell? ⟨b, 0, none⟩ = some (.pointer (some ⟨b, 0, none⟩)) := by rw [Lib.cell_of_heap hbk]; rfl
  have c1 : w1.cell? ⟨b, 1, none⟩ = some v := by rw [Lib.cell_of_heap hbk]; rfl
  go_wp2_with (at_builtin; refine wpList_append_ownF _ rfl _ _ 36 rfl B 5 i0 (.int .u8 0) 1 1 Tryz.underlying36 hi hz0 hz1 hz2 rfl (by decide) _ _ _ rfl (hown.alloc _) ⟨w1.heap.size, 0, none⟩ 1 1 [.int .u8 c] rfl rfl ?c1 ?c2 ?c3 ?c4 ?c5 ?_)
  case c1 =>
    intro j u hj
    match j, hj with
    | 0, hj => simp at hj; subst hj; simp [Addr.add]
  case c2 => intro u hu; simp at hu; subst hu; rfl
  case c3 => unfold maxLen; omega
  case c4 => omega
  case c5 => have := hb1.size; simp; omega
  intro v' w2 hown' hgrow _
  have hlt : b < w1.heap.size := by
    rcases Nat.lt_or_ge b w1.heap.size with h' | h'
    · exact h'
    · simp [Array.getElem?_eq_none h'] at hbk
  have hb2 : w2.heap[b]? = some (.cells #[.pointer (some ⟨b, 0, none⟩), v] 44 (0, 0)) := by
    rw [hgrow.block b (by simp; omega) (fun e => hne e.symm), Lib.alloc_old w1 _ b hlt]
    exact hbk
  have d0 : w2.cell? ⟨b, 0, none⟩ = some (.pointer (some ⟨b, 0, none⟩)) := by rw [Lib.cell_of_heap hb2]; rfl
  have d1 : w2.cell? ⟨b, 1, none⟩ = some v := by rw [Lib.cell_of_heap hb2]; rfl
  have f1 : w2.frozen? ⟨b, 1, none⟩ = false := Lib.frozen_of_heap hb2 1
  obtain ⟨g, cap, rfl⟩ : ∃ g cap, v' = .slice (some ⟨g, 0, none⟩) (bs.length + 1) cap := by
    rcases hown'.2 with ⟨_, h0⟩ | ⟨g, cap, cur, fz, hv, _⟩
    · omega
    · exact ⟨g, cap, hv⟩
  go_wp2
  go_ret
  refine ⟨rfl, .inr ?_, ?_⟩
  · exact Lib.BuilderAtF.put (T := 44) (e := 5) hB hb2 (bs' := bs ++ [.int .u8 c]) (by simpa using hown') (by decide)
  · exact ((hb1.alloc (by have := hb1.size; omega) _).grown hgrow (by have := hb1.size; simp; omega) (fun k hk => (hown.lt k hk).1)).setCell (p := ⟨b, 1, none⟩) hB _
end Go.Proofs.YtegaidfmkfnbnaaGreatDoor
namespace Go.Proofs.YtegaidfmkfnbnaaGreatDoor
open Go.RowKit

namespace E
/-- The reference in a byte's place; none: it stays. -/
def told (attr : Bool) (b : UInt8) : List UInt8 :=
  if b = 38 then [38, 97, 109, 112, 59] else if b = 60 then [38, 108, 116, 59] else if b = 62 then [38, 103, 116, 59] else if b = 13 then [38, 35, 120, 68, 59]
  else if attr = true ∧ b = 34 then [38, 113, 117, 111, 116, 59] else if attr = true ∧ b = 9 then [38, 35, 120, 57, 59] else if attr = true ∧ b = 10 then [38, 35, 120, 65, 59]
  else []
theorem told_esc (attr : Bool) (b : UInt8) : esc attr b = if told attr b = [] then [b] else told attr b := by
  unfold esc told
  repeat' split
  all_goals simp_all
theorem told_le (attr : Bool) (b : UInt8) : (told attr b).length ≤ 6 := by
  unfold told
  repeat' split
  all_goals decide
theorem esc_le (attr : Bool) (b : UInt8) : (esc attr b).length ≤ 6 := by
  unfold esc
  repeat' split
  all_goals simp
theorem escape_snoc (attr : Bool) (l : List UInt8) (b : UInt8) : escape attr (l ++ [b]) = escape attr l ++ esc attr b := by simp [escape]
theorem escape_le (attr : Bool) (l : List UInt8) : (escape attr l).length ≤ 6 * l.length := by
  induction l with
  | nil => simp [escape]
  | cons b t ih =>
    have := esc_le attr b
    simp only [escape, List.flatMap_cons, List.length_append, List.length_cons] at *
    omega
end E

theorem told_ret {r : List UInt8} {x : ByteArray} (h : r = x.data.toList) : Ending.returned (.string x) = .returned (.string ⟨r.toArray⟩) := by rw [h]

set_option maxRecDepth 100000 in
set_option maxHeartbeats 3200000 in
theorem escaped_any (b : UInt8) (attr : Bool) (w : World) : Calls Tryz.prog 60 #[.int .u8 (b.toNat : Int), .bool attr] w fun e w' => e = .returned (.string ⟨(E.told attr b).toArray⟩) ∧ w = w' := by
  have h1 := Lib.hid (show E.told attr b = if b.toNat = 38 then [38, 97, 109, 112, 59] else if b.toNat = 60 then [38, 108, 116, 59] else if b.toNat = 62 then [38, 103, 116, 59] else if b.toNat = 13 then [38, 35, 120, 68, 59] else if attr = true ∧ b.toNat = 34 then [38, 113, 117, 111, 116, 59] else if attr = true ∧ b.toNat = 9 then [38, 35, 120, 57, 59] else if attr = true ∧ b.toNat = 10 then [38, 35, 120, 65, 59] else [] by
    have e : ∀ n : UInt8, (b = n) = (b.toNat = n.toNat) := fun n => propext ⟨fun h => by rw [h], fun h => UInt8.toNat_inj.1 h⟩
    unfold E.told
    simp only [e]
    rfl)
  generalize E.told attr b = r at *
  have hb := b.toNat_lt
  generalize b.toNat = n at *
  cases attr with
  | false =>
    go_enter Tryz.func60, Tryz.ntmps60
    go_wp2
    all_goals go_ret
    all_goals refine ⟨told_ret ?_, rfl⟩
    all_goals rw [h1.out]
    all_goals simp only [beq_iff_eq, beq_eq_false_iff_ne, ne_eq] at *
    all_goals repeat' split
    all_goals first | rfl | (exfalso; simp_all; done) | (exfalso; omega)
  | true =>
    go_enter Tryz.func60, Tryz.ntmps60
    go_wp2
    all_goals go_ret
    all_goals refine ⟨told_ret ?_, rfl⟩
    all_goals rw [h1.out]
    all_goals simp only [beq_iff_eq, beq_eq_false_iff_ne, ne_eq, true_and] at *
    all_goals repeat' split
    all_goals first | rfl | (exfalso; simp_all; done) | (exfalso; omega)

set_option maxRecDepth 100000 in
set_option maxHeartbeats 3200000 in
theorem eEscape_at (s : ByteArray) (attr : Bool) (w : World) (hs : s.size ≤ 1000000) : Calls Tryz.prog 32 #[.string s, .bool attr] w fun e w' => e = .returned (.string ⟨(E.escape attr s.data.toList).toArray⟩) ∧ Below w.heap.size w w' := by
  have hlen := list_len s
  have hfull := Lib.hid (show s.data.toList.take s.size = s.data.toList from List.take_of_length_le (by omega))
  have hb0 := Lib.hid (builds_new w)
  have bb0 := Lib.hid ((Below.refl w.heap.size w).alloc (Nat.le_refl _) (.cells #[.pointer none, .slice none 0 0] 44))
  replace hlen := Lib.hid hlen
  go_enter Tryz.func32, Tryz.ntmps32
  go_wp2_with fail
  go_loopw [10] (fun v wr => ∃ k : Nat, k ≤ s.size ∧ v = .int .i64 (k : Int) ∧ Builds w.heap.size w.heap.size (E.escape attr (s.data.toList.take k)) wr ∧ Below w.heap.size w wr) (fun v _ => s.size - (intOf v).toNat)
  case atStart => exact ⟨0, Nat.zero_le _, rfl, by rw [List.take_zero]; exact hb0.out, bb0.out⟩
  case round =>
    obtain ⟨k, hk, rfl, hbd, bw⟩ := hrel
    have hle := E.escape_le attr (s.data.toList.take k)
    have htl : (s.data.toList.take k).length ≤ k := List.length_take_le _ _
    by_cases hlt : k < s.size
    · have hsn := Lib.hid (show E.escape attr (s.data.toList.take (k + 1)) = E.escape attr (s.data.toList.take k) ++ E.esc attr s[k] by
        rw [List.take_succ_eq_append_getElem (by rw [list_len]; exact hlt), E.escape_snoc]
        rfl)
      have hte := E.told_esc attr s[k]
      have htl6 := E.told_le attr s[k]
      have hesc := fun w => escaped_any s[k] attr w
      have hlt1 := bw.size
      by_cases h0 : E.told attr s[k] = []
      · rw [if_pos h0] at hte
        rw [h0] at hesc
        replace hte := Lib.hid hte
        replace hesc := Lib.hid hesc
        clear htl6
        go_wp2_with fail
        (with_reducible refine (hesc.out _).mono ?_)
        rintro e w1 ⟨rfl, rfl⟩
        go_wp2_with fail
        (with_reducible refine (builder_writeByte _ _ _ s[k] _ hbd (by omega) bw.size).mono ?_)
        rintro e w2 ⟨rfl, hbd2, b2⟩
        go_wp2
        go_roundw
        case rel => exact ⟨k + 1, by omega, by go_num, by rw [hsn.out, hte.out]; exact hbd2, bw.trans b2⟩
        case measure => simp [intOf]; omega
      · rw [if_neg h0] at hte
        replace hte := Lib.hid hte
        obtain ⟨r, hr⟩ : ∃ r : ByteArray, r = ⟨(E.told attr s[k]).toArray⟩ := ⟨_, rfl⟩
        have hrl : r.data.toList = E.told attr s[k] := by rw [hr]
        have hrz : r.size ≤ 6 := by rw [← list_len, hrl]; exact htl6
        have hrn : 0 < r.size := by rw [← list_len, hrl]; exact List.length_pos_iff.2 h0
        rw [← hr] at hesc
        rw [← hrl] at hte
        replace hesc := Lib.hid hesc
        have hne := ne_empty hrn
        clear htl6 hr hrl h0
        go_wp2_with fail
        (with_reducible refine (hesc.out _).mono ?_)
        rintro e w1 ⟨rfl, rfl⟩
        go_wp2_with fail
        (with_reducible refine (builder_writeString _ _ _ r _ hbd (by omega) bw.size).mono ?_)
        rintro e w2 ⟨rfl, hbd2, b2⟩
        go_wp2
        go_roundw
        case rel => exact ⟨k + 1, by omega, by go_num, by rw [hsn.out, hte.out]; exact hbd2, bw.trans b2⟩
        case measure => simp [intOf]; omega
    · obtain rfl : k = s.size := by omega
      rw [hfull.out] at hbd
      go_wp2_with fail
      (with_reducible refine (builder_string _ _ _ _ hbd bw.size).mono ?_)
      rintro e w2 ⟨rfl, hbd2, b2⟩
      go_wp2
      go_ret
      exact ⟨rfl, bw.trans b2⟩
end Go.Proofs.YtegaidfmkfnbnaaGreatDoor
