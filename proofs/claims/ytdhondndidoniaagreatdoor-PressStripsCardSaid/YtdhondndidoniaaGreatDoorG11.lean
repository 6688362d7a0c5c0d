/-
  A builder of text that a call has made itself: what its methods come to (copyCheck, WriteString, WriteByte, WriteRune), and that it stays what it is under what only makes memory.
  A builder of text that a call has made itself: what WriteString leaves of the other blocks.
  The program's own words of a node's text: Text, withoutSpace, trimmed.
-/
import Derived.Test.YtdhondndidoniaaGreatDoorG02
import Derived.Test.YtdhondndidoniaaGreatDoorShelf
import Derived.Lib.RuneBytes
import Derived.Lib.FrozenHead2
import Derived.Lib.OthersKept
import Derived.Test.YtdhondndidoniaaGreatDoorG08
import Derived.Test.YtdhondndidoniaaGreatDoorShelf2
import Derived.Lib.SlTrimSet
import Derived.Shelf.Strings.SlTrimAscii
namespace Go.Proofs.YtdhondndidoniaaGreatDoor
open Go.RowKit

theorem sizeBuilder : ∃ j, Tryz.prog.info? 139 = some j ∧ j.size ≠ 0 := by
  have h : (Tryz.prog.info? 139).map (·.size) = some 2 := by kernel_rfl
  obtain ⟨j, hj, hs⟩ := Option.map_eq_some_iff.1 h
  exact ⟨j, hj, by rw [hs]; decide⟩
theorem liesBuilder : liesAt Tryz.prog Tryz.prog.depth 139 (2 / Tryz.prog.cellsOf 139) 0 139 1 = true := by kernel_rfl

/-- A builder at block b, the call's own from B on, with these bytes. -/
def Builds (B b : Nat) (l : List UInt8) (w : World) : Prop := Lib.IsBuilderF 139 5 B b (Lib.byteCells l) w

theorem builds_new (w : World) : Builds w.heap.size w.heap.size [] (w.alloc (.cells #[.pointer none, .slice none 0 0] 139)) :=
  .inl ⟨Nat.le_refl _, .slice none 0 0, heap_alloc_new w _, World.ownsRowF_nil _ _ _ _, by simp [Value.ownBlock]⟩

theorem builds_lt {B b : Nat} {l : List UInt8} {w : World} (h : Builds B b l w) : b < w.heap.size := by
  rcases h with h | h
  · exact h.lt
  · exact h.lt

/-- What only makes memory leaves a builder as it is. -/
theorem builds_below {B b : Nat} {l : List UInt8} {w w' : World} (h : Builds B b l w) (hb : Below w.heap.size w w') : Builds B b l w' := by
  have key : ∀ p, Lib.BuilderAtF 139 5 B b p (Lib.byteCells l) w → Lib.BuilderAtF 139 5 B b p (Lib.byteCells l) w' := by
    rintro p ⟨hB, v, hbk, hown, hne⟩
    have hlt : b < w.heap.size := Lib.BuilderAtF.lt ⟨hB, v, hbk, hown, hne⟩
    refine ⟨hB, v, (hb.block b hlt).trans hbk, World.ownsRowF.kept hown (grown_of_below hb none) ?_, hne⟩
    cases h : v.ownBlock with
    | none => exact .inl rfl
    | some k => exact .inr (by simp)
  exact h.imp (key _) (key _)

set_option maxHeartbeats 1000000 in
set_option maxRecDepth 100000 in
theorem builder_check_used (b : Nat) (w : World) (h0 : w.cell? ⟨b, 0, none⟩ = some (.pointer (some ⟨b, 0, none⟩))) :
    Calls Tryz.prog 165 #[.pointer (some ⟨b, 0, none⟩)] w fun e w' => e = .returned (.tuple #[]) ∧ w' = w := by
  obtain ⟨j, hj, _⟩ := sizeBuilder
  have hsm := Lib.run_neq_ptr_same (P := Tryz.prog) w (tp := 137) (te := 139) ⟨b, 0, none⟩ Tryz.underlying137 hj
  go_enter Tryz.func165, Tryz.ntmps165
  go_wp2
  go_end0
  exact ⟨rfl, rfl⟩

set_option maxHeartbeats 1000000 in
set_option maxRecDepth 100000 in
theorem builder_check_fresh (b : Nat) (w : World) (h0 : w.cell? ⟨b, 0, none⟩ = some (.pointer none)) (hsh : w.shape? b = some (139, 2)) (hfz : w.frozen? ⟨b, 0, none⟩ = false) :
    Calls Tryz.prog 165 #[.pointer (some ⟨b, 0, none⟩)] w fun e w' => e = .returned (.tuple #[]) ∧ w' = w.setCell ⟨b, 0, none⟩ (.pointer (some ⟨b, 0, none⟩)) := by
  obtain ⟨j, hj, hjs⟩ := sizeBuilder
  go_enter Tryz.func165, Tryz.ntmps165
  go_wp2
  rw [Lib.run_to_unsafe w ⟨b, 0, none⟩ Tryz.underlying137 Tryz.underlying189 hj hjs hsh (Nat.zero_lt_succ 1)]
  simp only [Result.andThen]
  rw [Oper.upon_value]
  go_wp2
  rw [run_callFunc_extern Tryz.func192 (by kernel_rfl) (by kernel_rfl) (by kernel_rfl) (e := Extern.AbiNoEscape.same) (by kernel_rfl)]
  rw [Lib.run_noEscape]
  simp only [Result.andThen]
  rw [Oper.upon_value]
  go_wp2
  rw [Lib.run_from_unsafe w ⟨b, 0, none⟩ Tryz.underlying189 Tryz.underlying137 hj hsh liesBuilder]
  simp only [Result.andThen]
  rw [Oper.upon_value]
  go_wp2
  go_end0
  exact ⟨rfl, rfl⟩

theorem builder_check (B b : Nat) (bs : List Value) (w : World) (h : Lib.IsBuilderF 139 5 B b bs w) :
    Calls Tryz.prog 165 #[.pointer (some ⟨b, 0, none⟩)] w fun e w' => e = .returned (.tuple #[]) ∧ Lib.BuilderAtF 139 5 B b (.pointer (some ⟨b, 0, none⟩)) bs w' ∧ Below B w w' := by
  rcases h with h | h
  · refine (builder_check_fresh b w h.cell0 h.shape h.frozen0).mono ?_
    rintro e w' ⟨rfl, rfl⟩
    exact ⟨rfl, h.used _, (Below.refl B w).setCell (p := ⟨b, 0, none⟩) h.1 _⟩
  · refine (builder_check_used b w h.cell0).mono ?_
    rintro e w' ⟨rfl, rfl⟩
    exact ⟨rfl, h, Below.refl B _⟩

set_option maxHeartbeats 2000000 in
set_option maxRecDepth 100000 in
theorem builder_writeString (B b : Nat) (l : List UInt8) (s : ByteArray) (w : World) (h : Builds B b l w) (hlen : l.length + s.size ≤ 140737488355328) (hBw : B ≤ w.heap.size) :
    Calls Tryz.prog 133 #[.pointer (some ⟨b, 0, none⟩), .string s] w fun e w' => e = .returned (.tuple #[.int .i64 s.size, .nilIface]) ∧ Builds B b (l ++ s.data.toList) w' ∧ Below B w w' := by
  obtain ⟨i0, hi, hz0, hz1, hz2⟩ := info_parts infoByte
  have hl0 : (Lib.byteCells l).length = l.length := Lib.byteCells_length l
  unfold Builds at *
  rw [Lib.byteCells_append, ← Lib.strCells_eq]
  generalize Lib.byteCells l = bs at *
  replace hlen : bs.length + s.size ≤ 140737488355328 := by omega
  clear hl0
  go_enter Tryz.func133, Tryz.ntmps133
  go_wp2_with fail
  (with_reducible refine (builder_check B b bs _ h).mono ?_)
  rintro e w1 ⟨rfl, h1, hb1⟩
  obtain ⟨hB, v, hbk, hown, hne⟩ := h1
  have c0 : w1.cell? ⟨b, 0, none⟩ = some (.pointer (some ⟨b, 0, none⟩)) := by rw [Lib.cell_of_heap hbk]; rfl
  have c1 : w1.cell? ⟨b, 1, none⟩ = some v := by rw [Lib.cell_of_heap hbk]; rfl
  go_wp2_with (at_builtin; refine Lib.wpList_append_own_stringF _ rfl _ _ 123 9 rfl B 5 i0 Tryz.underlying123 Tryz.underlying9 hi hz0 hz1 hz2 _ _ _ rfl hown s rfl ?c3 ?c4 ?c5 ?_)
  case c3 => unfold maxLen; omega
  case c4 => omega
  case c5 => have := hb1.size; omega
  intro v' w2 hown' hgrow _
  have hlt : b < w1.heap.size := by
    rcases Nat.lt_or_ge b w1.heap.size with h' | h'
    · exact h'
    · simp [Array.getElem?_eq_none h'] at hbk
  have hb2 : w2.heap[b]? = some (.cells #[.pointer (some ⟨b, 0, none⟩), v] 139 (0, 0)) := by
    rw [hgrow.block b hlt (fun e => hne e.symm)]
    exact hbk
  have d0 : w2.cell? ⟨b, 0, none⟩ = some (.pointer (some ⟨b, 0, none⟩)) := by rw [Lib.cell_of_heap hb2]; rfl
  have d1 : w2.cell? ⟨b, 1, none⟩ = some v := by rw [Lib.cell_of_heap hb2]; rfl
  have f1 : w2.frozen? ⟨b, 1, none⟩ = false := Lib.frozen_of_heap hb2 1
  obtain ⟨ao, n', cap, rfl⟩ : ∃ ao n' cap, v' = .slice ao n' cap := by
    rcases hown'.2 with ⟨hv, _⟩ | ⟨g, cap, cur, fz, hv, _⟩
    · exact ⟨_, _, _, hv⟩
    · exact ⟨_, _, _, hv⟩
  go_wp2
  go_ret2
  refine ⟨rfl, .inr ?_, ?_⟩
  · exact Lib.BuilderAtF.put (T := 139) (e := 5) hB hb2 (bs' := bs ++ Lib.strCells s) (by simpa [Lib.strCells_length] using hown') (by decide)
  · exact (hb1.grown hgrow (by have := hb1.size; omega) (fun k hk => (hown.lt k hk).1)).setCell (p := ⟨b, 1, none⟩) hB _

/-- The text that a builder has. -/
theorem builder_string (B b : Nat) (l : List UInt8) (w : World) (h : Builds B b l w) (hBw : B ≤ w.heap.size) :
    Calls Tryz.prog 134 #[.pointer (some ⟨b, 0, none⟩)] w fun e w' => e = .returned (.string ⟨l.toArray⟩) ∧ Builds B b l w' ∧ Below B w w' :=
  (Tryz.Builder_String_any_f B b l w h hBw).mono fun _ _ h => h
end Go.Proofs.YtdhondndidoniaaGreatDoor
namespace Go.Proofs.YtdhondndidoniaaGreatDoor
open Go.RowKit

end Go.Proofs.YtdhondndidoniaaGreatDoor
namespace Go.Proofs.YtdhondndidoniaaGreatDoor
open Go.RowKit
set_option linter.unusedVariables false
set_option linter.unusedSimpArgs false

theorem Am.trimR_cons (b : UInt8) (t : List UInt8) : Am.trimR (b :: t) = if Am.trimR t = [] ∧ Am.space b = true then [] else b :: Am.trimR t := by
  unfold Am.trimR
  rw [List.reverse_cons, List.dropWhile_append]
  cases h : List.dropWhile Am.space t.reverse with
  | nil =>
    rw [if_pos (by rfl)]
    cases hb : Am.space b
    · rw [if_neg (by simp)]
      simp [hb]
    · rw [if_pos (by simp)]
      simp [hb]
  | cons x l =>
    rw [if_neg (by simp), if_neg (by simp)]
    simp
theorem Am.trim_turn : ∀ l : List UInt8, (Am.trimR l).dropWhile Am.space = Am.trimR (l.dropWhile Am.space)
  | [] => rfl
  | b :: t => by
    rw [Am.trimR_cons, List.dropWhile_cons]
    cases hb : Am.space b
    · rw [if_neg (by simp), if_neg (by simp), Am.trimR_cons, hb, if_neg (by simp), List.dropWhile_cons, hb]
      rfl
    · rw [if_pos rfl, ← Am.trim_turn t]
      by_cases h : Am.trimR t = []
      · rw [if_pos ⟨h, rfl⟩, h]
      · rw [if_neg (fun e => h e.1), List.dropWhile_cons, hb, if_pos rfl]
theorem Am.trim_lib (l : List UInt8) : Lib.trimS l [32, 9, 10, 13] = Am.trim l := by
  have e : (fun b : UInt8 => ([32, 9, 10, 13] : List UInt8).contains b) = Am.space := by
    funext b
    have : ∀ n, n < 256 → ([32, 9, 10, 13] : List UInt8).contains (UInt8.ofNat n) = Am.space (UInt8.ofNat n) := by decide +kernel
    have := this b.toNat b.toNat_lt
    rwa [UInt8.ofNat_toNat] at this
  unfold Lib.trimS Lib.trimLeftS Lib.trimRightS
  rw [e, Am.trim_is]
  exact Am.trim_turn l
theorem infoSpaces : (Tryz.prog.info? 131).map (fun i => (i.zero, i.size)) = some (some (.agg (Array.replicate 256 (.bool false))), 256) := by kernel_rfl
theorem trimSpaces_at (s : ByteArray) (w : World) (hs : s.size ≤ 1000000000) :
    Calls Tryz.prog 178 #[.string s, .string ⟨#[32, 9, 10, 13]⟩] w fun e w' => e = .returned (.string (trS s)) ∧ Below w.heap.size w w' := by
  refine (Any.strings_Trim_laid Tryz.lays160 infoSpaces s ⟨#[32, 9, 10, 13]⟩ w (by omega) (by decide) (Go.Proofs.ascii_of_all (by decide))).mono ?_
  rintro e w' ⟨rfl, b⟩
  rw [show (⟨#[32, 9, 10, 13]⟩ : ByteArray).data.toList = [32, 9, 10, 13] from rfl, Am.trim_lib]
  exact ⟨rfl, b⟩

set_option maxRecDepth 100000 in
set_option maxHeartbeats 1600000 in
theorem pWithout_any (s : ByteArray) (w : World) (hs : s.size ≤ 1000000000) :
    Calls Tryz.prog 151 #[.string s] w fun e w' => e = .returned (.string (trS s)) ∧ Below w.heap.size w w' := by
  have hc := trimSpaces_at s w hs
  generalize trS s = u at *
  go_enter Tryz.func151, Tryz.ntmps151
  go_wp2_with fail
  (with_reducible refine hc.mono ?_); rintro e w1 ⟨rfl, b1⟩
  go_wp2_with fail
  go_ret
  exact ⟨rfl, b1⟩

set_option maxRecDepth 100000 in
set_option maxHeartbeats 6400000 in
theorem pText_any (n : Gv.Node) {A : Array Value} (w : World) (h : Nd w A n) (hz : Gv.wt n ≤ 100000000000) :
    Calls Tryz.prog 104 #[.agg A] w fun e w' => e = .returned (.string (txS n)) ∧ Below w.heap.size w w' := by
  have ht := Am.text_wt n
  have hq0 : Hid (txS n = ⟨(Am.text n).toArray⟩) := Lib.hid rfl
  generalize txS n = QS at *
  obtain ⟨S, k, sp, nm, d, as', kids, ao, bo, ca, cb, rfl, rfl, hA, hK, h1, hl⟩ := h.form
  unfold maxLen at hl
  have hq : Hid (Am.text (.mk k sp nm as' kids d) = kids.flatMap Am.bit) := Lib.hid (Am.text_is _)
  have hz2 : (Am.text (.mk k sp nm as' kids d)).length ≤ 100000000000 := Nat.le_trans ht hz
  generalize Am.text (.mk k sp nm as' kids d) = Q at *
  have b1 := (Below.refl w.heap.size w).alloc (Nat.le_refl _) (.cells #[.int .i64 k, .string sp, .string nm, .slice ao as'.length ca, .slice bo kids.length cb, .string d] 27)
  have C0 := Lib.hid (Cells.new w 27 #[.int .i64 k, .string sp, .string nm, .slice ao as'.length ca, .slice bo kids.length cb, .string d])
  have hsA : (w.alloc (.cells #[.int .i64 k, .string sp, .string nm, .slice ao as'.length ca, .slice bo kids.length cb, .string d] 27)).heap.size = w.heap.size + 1 := by simp
  have hK0 := Lib.hid hK
  clear hA hK h ht hz
  go_enter Tryz.func104, Tryz.ntmps104
  go_upto_region 1 with fail
  generalize w.alloc (.cells #[.int .i64 k, .string sp, .string nm, .slice ao as'.length ca, .slice bo kids.length cb, .string d] 27) = wA at *
  have hb0 := builds_new wA
  have b2 := b1.trans (((Below.refl wA.heap.size wA).alloc (Nat.le_refl _) (.cells #[.pointer none, .slice none 0 0] 139)).mono b1.size)
  have C1 := Lib.hid (C0.out.on ((Below.refl wA.heap.size wA).alloc (Nat.le_refl _) (.cells #[.pointer none, .slice none 0 0] 139)))
  go_upto_region 2 with fail
  generalize wA.alloc (.cells #[.pointer none, .slice none 0 0] 139) = wB at *
  obtain ⟨-, -, -, -, c4, -⟩ := node_open (show Cells _ _ _ (nodeArr k sp nm (.slice ao as'.length ca) (.slice bo kids.length cb) d) from C1.out)
  obtain ⟨B, hB⟩ : ∃ B, B = w.heap.size + 1 := ⟨_, rfl⟩
  rw [hsA, ← hB] at hb0
  rw [← hB]
  replace hB := Lib.hid hB
  have hBw : Hid (w.heap.size ≤ B) := Lib.hid (by rw [hB.out]; omega)
  replace hsA := Lib.hid hsA
  replace hb0 := Lib.hid hb0
  replace b1 := Lib.hid b1
  replace b2 := Lib.hid b2
  go_wp2_with fail
  clear c4
  go_loopw [9] (fun i wr => ∃ j : Nat, j ≤ kids.length ∧ i = .int .i64 (j : Int) ∧ Hid (Builds B B ((kids.take j).flatMap Am.bit) wr) ∧ Hid (Below w.heap.size w wr) ∧ Hid (B ≤ wr.heap.size)) (fun i _ => kids.length - (intOf i).toNat)
  case atStart => exact ⟨0, Nat.zero_le _, rfl, Lib.hid hb0.out, b2, Lib.hid (Nat.le_of_lt (builds_lt hb0.out))⟩
  case round =>
    obtain ⟨j, hj, rfl, hD, bw, hs⟩ := hrel
    by_cases hlt : j < kids.length
    · obtain ⟨b, off, k', sp', nm', d', as2, kids2, po, qo, pc, qc, rfl, ek, d0, d1, d2, d3, d4, d5, -⟩ := (hK0.out.on bw.out).kid hlt
      have hji : (j : Int) < (kids.length : Int) := by omega
      have hm := Am.bits_more hlt
      have hle := Am.bits_le kids (j + 1)
      rw [← hq.out] at hle
      rw [ek] at hm
      have R := Cells.new wr 27 #[.int .i64 k', .string sp', .string nm', .slice po as2.length pc, .slice qo kids2.length qc, .string d']
      have q0 := R.cell (i := 0) rfl
      have q5 := R.cell (i := 5) rfl
      have bP := Lib.hid (bw.out.alloc (by have := bw.out.size; omega) (.cells #[.int .i64 k', .string sp', .string nm', .slice po as2.length pc, .slice qo kids2.length qc, .string d'] 27))
      have hD1 := Lib.hid (builds_below hD.out ((Below.refl wr.heap.size wr).alloc (Nat.le_refl _) (.cells #[.int .i64 k', .string sp', .string nm', .slice po as2.length pc, .slice qo kids2.length qc, .string d'] 27)))
      have hsP : Hid (B ≤ (wr.alloc (.cells #[.int .i64 k', .string sp', .string nm', .slice po as2.length pc, .slice qo kids2.length qc, .string d'] 27)).heap.size) := Lib.hid (by have := hs.out; simp; omega)
      by_cases h1 : k' = 1
      · subst h1
        have hm' : (kids.take (j + 1)).flatMap Am.bit = (kids.take j).flatMap Am.bit ++ d'.data.toList := hm
        have hsz : ((kids.take j).flatMap Am.bit).length + d'.size ≤ 140737488355328 := by
          have h2 := list_len d'
          have h3 := congrArg List.length hm'
          rw [List.length_append] at h3
          omega
        have hws := Lib.hid (builder_writeString B B _ d' _ hD1.out hsz hsP.out)
        rw [← hm'] at hws
        replace hm' := Lib.hid hm'
        clear hD ek hm hle hsz R
        go_wp2_with fail
        (with_reducible refine hws.out.mono ?_); rintro e w1 ⟨rfl, hD', b3⟩
        replace hD' := Lib.hid hD'
        have bF := Lib.hid (bP.out.trans (b3.mono hBw.out))
        have hs' : Hid (B ≤ w1.heap.size) := Lib.hid (Nat.le_trans hsP.out b3.size)
        clear hws b3 bP d0 d1 d2 d3 d4 d5 q0 q5
        go_wp2_with fail
        go_roundw
        case rel => exact ⟨j + 1, by omega, by go_num, hD', bF, hs'⟩
        case measure => simp [intOf]; omega
      · have e0 : (k' == 1) = false := beq_false_of_ne h1
        have hD' : Hid (Builds B B ((kids.take (j + 1)).flatMap Am.bit) (wr.alloc (.cells #[.int .i64 k', .string sp', .string nm', .slice po as2.length pc, .slice qo kids2.length qc, .string d'] 27))) := Lib.hid (by
          rw [hm]
          show Builds B B (_ ++ (if k' = 1 then _ else _)) _
          rw [if_neg h1, List.append_nil]
          exact hD1.out)
        clear hD hD1 ek hm hle h1 R
        go_wp2_with fail
        go_roundw
        case rel => exact ⟨j + 1, by omega, by go_num, hD', bP, hsP⟩
        case measure => simp [intOf]; omega
    · have hki : ¬ (j : Int) < (kids.length : Int) := by omega
      have hD' : Hid (Builds B B Q wr) := Lib.hid (by rw [hq.out]; have := hD.out; rwa [List.take_of_length_le (by omega)] at this)
      have hst := Lib.hid (builder_string B B Q wr hD'.out hs.out)
      clear hD
      go_wp2_with fail
      (with_reducible refine hst.out.mono ?_); rintro e w1 ⟨rfl, -, b3⟩
      have bF := Lib.hid (bw.out.trans (b3.mono hBw.out))
      clear hst b3
      go_wp2_with fail
      go_ret
      exact ⟨by rw [hq0.out]; rfl, bF.out⟩

set_option maxRecDepth 100000 in
set_option maxHeartbeats 1600000 in
theorem pTrimmed_any (n : Gv.Node) {A : Array Value} (w : World) (h : Nd w A n) (hz : Gv.wt n ≤ 1000000) :
    Calls Tryz.prog 118 #[.agg A] w fun e w' => e = .returned (.string (trS (txS n))) ∧ Below w.heap.size w w' := by
  have s1 := txS_size n
  have kT := Lib.hid (fun W A (hW : Nd W A n) => pText_any n W hW (by omega))
  have kR := Lib.hid (fun W => pWithout_any (txS n) W (by omega))
  generalize trS (txS n) = y at *
  generalize txS n = x at *
  clear s1
  obtain ⟨S, k, sp, nm, d, as', kids, ao, bo, ca, cb, hn, rfl, ha, hK, h1, h2⟩ := h.form
  have bA := (Below.refl w.heap.size w).alloc (Nat.le_refl _) (.cells #[.int .i64 k, .string sp, .string nm, .slice ao as'.length ca, .slice bo kids.length cb, .string d] 27)
  have hN := Lib.hid (h.on bA)
  have C0 := Lib.hid (Cells.new w 27 #[.int .i64 k, .string sp, .string nm, .slice ao as'.length ca, .slice bo kids.length cb, .string d])
  replace bA := Lib.hid bA
  clear h ha hK h1 h2 hn
  go_enter Tryz.func118, Tryz.ntmps118
  go_upto_region 1 with fail
  generalize w.alloc (.cells #[.int .i64 k, .string sp, .string nm, .slice ao as'.length ca, .slice bo kids.length cb, .string d] 27) = wA at *
  obtain ⟨x0, x1, x2, x3, x4, x5⟩ := node_open (show Cells _ _ _ (nodeArr k sp nm (.slice ao as'.length ca) (.slice bo kids.length cb) d) from C0.out)
  have cc := Lib.hid (kT.out wA _ hN.out)
  go_wp2_with fail
  (with_reducible refine (cc.out).mono ?_); rintro e w1 ⟨rfl, b1⟩
  have B1 := Lib.hid (bA.out.trans (b1.mono bA.out.size))
  clear x0 x1 x2 x3 x4 x5 cc b1
  go_wp2_with fail
  (with_reducible refine (kR.out _).mono ?_); rintro e w2 ⟨rfl, b2⟩
  have B2 := Lib.hid (B1.out.trans (b2.mono B1.out.size))
  clear b2
  go_wp2_with fail
  go_ret
  exact ⟨rfl, B2.out⟩
end Go.Proofs.YtdhondndidoniaaGreatDoor
