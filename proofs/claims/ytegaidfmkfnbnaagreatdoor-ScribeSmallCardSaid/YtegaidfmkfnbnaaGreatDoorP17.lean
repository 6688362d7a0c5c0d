/-
  The teller of trees, in which a builder is embedded: what its builder's methods come to, and its own tell.
  The teller of trees: what its tell comes to: texts, one behind the other.
  The teller of trees: what its words of attributes and instructions come to.
-/
import Derived.Test.YtegaidfmkfnbnaaGreatDoorP13
import Derived.Shelf.RegionOpen
import Derived.Test.YtegaidfmkfnbnaaGreatDoorP04
import Derived.Deep.LoopGhost
import Derived.Test.YtegaidfmkfnbnaaGreatDoorP15
namespace Go.Proofs.YtegaidfmkfnbnaaGreatDoor
open Go.RowKit

theorem liesTeller : liesAt Tryz.prog Tryz.prog.depth 46 (2 / Tryz.prog.cellsOf 46) 0 44 1 = true := by kernel_rfl
/-- A teller at block b, the call's own from B on, with these bytes told. -/
def Tells (B b : Nat) (l : List UInt8) (w : World) : Prop := Lib.IsBuilderF 46 5 B b (Lib.byteCells l) w
theorem tells_new (w : World) : Tells w.heap.size w.heap.size [] (w.alloc (.cells #[.pointer none, .slice none 0 0] 46)) :=
  .inl ⟨Nat.le_refl _, .slice none 0 0, heap_alloc_new w _, World.ownsRowF_nil _ _ _ _, by simp [Value.ownBlock]⟩
theorem tells_lt {B b : Nat} {l : List UInt8} {w : World} (h : Tells B b l w) : b < w.heap.size := by
  rcases h with h | h
  · exact h.lt
  · exact h.lt
/-- Only the teller's own block, rows of bytes and new blocks turn. -/
structure Keeps (b : Nat) (w w' : World) : Prop where
  os : w'.os = w.os
  size : w.heap.size ≤ w'.heap.size
  block : ∀ k, k < w.heap.size → k ≠ b → (∀ cur fz, w.heap[k]? ≠ some (.cells cur 5 fz)) → w'.heap[k]? = w.heap[k]?
theorem Keeps.refl (b : Nat) (w : World) : Keeps b w w := ⟨rfl, Nat.le_refl _, fun _ _ _ _ => rfl⟩
theorem Keeps.trans {b : Nat} {w w1 w2 : World} (h : Keeps b w w1) (h2 : Keeps b w1 w2) : Keeps b w w2 :=
  ⟨h2.os.trans h.os, Nat.le_trans h.size h2.size, fun k hk hb ht => by
    have e := h.block k hk hb ht
    exact (h2.block k (Nat.lt_of_lt_of_le hk h.size) hb (by rw [e]; exact ht)).trans e⟩
theorem Keeps.below {b : Nat} {w w' : World} (h : Below w.heap.size w w') : Keeps b w w' := ⟨h.os, h.size, fun k hk _ _ => h.block k hk⟩
theorem Keeps.set (b i : Nat) (w : World) (v : Value) : Keeps b w (w.setCell ⟨b, i, none⟩ v) := by
  have h := (Below.refl 0 w).setCell (p := ⟨b, i, none⟩) (Nat.zero_le _) v
  exact ⟨h.os, h.size, fun k hk hb _ => Below.heap_setCell w ⟨b, i, none⟩ v k hb⟩
theorem Keeps.grown {b : Nat} {w w' : World} {row : Option Nat} (h : w.grownBy w' row) (hr : ∀ g, row = some g → ∃ cur fz, w.heap[g]? = some (.cells cur 5 fz)) : Keeps b w w' :=
  ⟨h.os, h.size, fun k hk _ ht => h.block k hk (fun e => by obtain ⟨cur, fz, hc⟩ := hr k e.symm; exact ht cur fz hc)⟩
theorem own_bytes {w : World} {B : Nat} {v : Value} {n : Nat} {xs : List Value} (h : w.ownsRowF B 5 1 v n xs) : ∀ g, v.ownBlock = some g → ∃ cur fz, w.heap[g]? = some (.cells cur 5 fz) := by
  intro g hg
  rcases h.2 with ⟨rfl, _⟩ | ⟨g', cap, cur, fz, rfl, _, hc, _⟩
  · cases hg
  · cases hg; exact ⟨cur, fz, hc⟩
/-- What only makes memory leaves a teller as it is. -/
theorem tells_below {B b : Nat} {l : List UInt8} {w w' : World} (h : Tells B b l w) (hb : Below w.heap.size w w') : Tells B b l w' := by
  have key : ∀ p, Lib.BuilderAtF 46 5 B b p (Lib.byteCells l) w → Lib.BuilderAtF 46 5 B b p (Lib.byteCells l) w' := by
    rintro p ⟨hB, v, hbk, hown, hne⟩
    have hlt : b < w.heap.size := Lib.BuilderAtF.lt ⟨hB, v, hbk, hown, hne⟩
    refine ⟨hB, v, (hb.block b hlt).trans hbk, World.ownsRowF.kept hown (grown_of_below hb none) ?_, hne⟩
    cases h : v.ownBlock with
    | none => exact .inl rfl
    | some k => exact .inr (by simp)
  exact h.imp (key _) (key _)

set_option maxHeartbeats 1000000 in
set_option maxRecDepth 100000 in
theorem teller_check_used (b : Nat) (w : World) (h0 : w.cell? ⟨b, 0, none⟩ = some (.pointer (some ⟨b, 0, none⟩))) :
    Calls Tryz.prog 94 #[.pointer (some ⟨b, 0, none⟩)] w fun e w' => e = .returned (.tuple #[]) ∧ w' = w := by
  obtain ⟨j, hj, _⟩ := sizeBuilder
  have hsm := Lib.run_neq_ptr_same (P := Tryz.prog) w (tp := 42) (te := 44) ⟨b, 0, none⟩ Tryz.underlying42 hj
  go_enter Tryz.func94, Tryz.ntmps94
  go_wp2
  go_end0
  exact ⟨rfl, rfl⟩

set_option maxHeartbeats 1000000 in
set_option maxRecDepth 100000 in
theorem teller_check_fresh (b : Nat) (w : World) (h0 : w.cell? ⟨b, 0, none⟩ = some (.pointer none)) (hsh : w.shape? b = some (46, 2)) (hfz : w.frozen? ⟨b, 0, none⟩ = false) :
    Calls Tryz.prog 94 #[.pointer (some ⟨b, 0, none⟩)] w fun e w' => e = .returned (.tuple #[]) ∧ w' = w.setCell ⟨b, 0, none⟩ (.pointer (some ⟨b, 0, none⟩)) := by
  obtain ⟨j, hj, hjs⟩ := sizeBuilder
  go_enter Tryz.func94, Tryz.ntmps94
  go_wp2
  rw [Lib.run_to_unsafe w ⟨b, 0, none⟩ Tryz.underlying42 Tryz.underlying133 hj hjs hsh (Nat.zero_lt_succ 1)]
  simp only [Result.andThen]
  rw [Oper.upon_value]
  go_wp2
  rw [run_callFunc_extern Tryz.func116 (by kernel_rfl) (by kernel_rfl) (by kernel_rfl) (e := Extern.AbiNoEscape.same) (by kernel_rfl)]
  rw [Lib.run_noEscape]
  simp only [Result.andThen]
  rw [Oper.upon_value]
  go_wp2
  rw [Lib.run_from_unsafe w ⟨b, 0, none⟩ Tryz.underlying133 Tryz.underlying42 hj hsh liesTeller]
  simp only [Result.andThen]
  rw [Oper.upon_value]
  go_wp2
  go_end0
  exact ⟨rfl, rfl⟩

theorem teller_check (B b : Nat) (bs : List Value) (w : World) (h : Lib.IsBuilderF 46 5 B b bs w) :
    Calls Tryz.prog 94 #[.pointer (some ⟨b, 0, none⟩)] w fun e w' => e = .returned (.tuple #[]) ∧ Lib.BuilderAtF 46 5 B b (.pointer (some ⟨b, 0, none⟩)) bs w' ∧ Below B w w' ∧ Keeps b w w' := by
  rcases h with h | h
  · refine (teller_check_fresh b w h.cell0 h.shape h.frozen0).mono ?_
    rintro e w' ⟨rfl, rfl⟩
    exact ⟨rfl, h.used _, (Below.refl B w).setCell (p := ⟨b, 0, none⟩) h.1 _, Keeps.set _ _ _ _⟩
  · refine (teller_check_used b w h.cell0).mono ?_
    rintro e w' ⟨rfl, rfl⟩
    exact ⟨rfl, h, Below.refl B _, Keeps.refl _ _⟩

set_option maxHeartbeats 2000000 in
set_option maxRecDepth 100000 in
theorem teller_writeString (B b : Nat) (l : List UInt8) (s : ByteArray) (w : World) (h : Tells B b l w) (hlen : l.length + s.size ≤ 140737488355328) (hBw : B ≤ w.heap.size) :
    Calls Tryz.prog 59 #[.pointer (some ⟨b, 0, none⟩), .string s] w fun e w' => e = .returned (.tuple #[.int .i64 s.size, .nilIface]) ∧ Tells B b (l ++ s.data.toList) w' ∧ Below B w w' ∧ Keeps b w w' := by
  obtain ⟨i0, hi, hz0, hz1, hz2⟩ := info_parts infoByte
  have hl0 : (Lib.byteCells l).length = l.length := Lib.byteCells_length l
  unfold Tells at *
  rw [Lib.byteCells_append, ← Lib.strCells_eq]
  generalize Lib.byteCells l = bs at *
  replace hlen : bs.length + s.size ≤ 140737488355328 := by omega
  clear hl0
  go_enter Tryz.func59, Tryz.ntmps59
  go_wp2_with fail
  (with_reducible refine (teller_check B b bs _ h).mono ?_)
  rintro e w1 ⟨rfl, h1, hb1, hk1⟩
  obtain ⟨hB, v, hbk, hown, hne⟩ := h1
  have c0 : w1.cell? ⟨b, 0, none⟩ = some (.pointer (some ⟨b, 0, none⟩)) := by rw [Lib.cell_of_heap hbk]; rfl
  have c1 : w1.cell? ⟨b, 1, none⟩ = some v := by rw [Lib.cell_of_heap hbk]; rfl
  go_wp2_with (at_builtin; refine Lib.wpList_append_own_stringF _ rfl _ _ 36 9 rfl B 5 i0 Tryz.underlying36 Tryz.underlying9 hi hz0 hz1 hz2 _ _ _ rfl hown s rfl ?c3 ?c4 ?c5 ?_)
  case c3 => unfold maxLen; omega
  case c4 => omega
  case c5 => have := hb1.size; omega
  intro v' w2 hown' hgrow _
  have hlt : b < w1.heap.size := by
    rcases Nat.lt_or_ge b w1.heap.size with h' | h'
    · exact h'
    · simp [Array.getElem?_eq_none h'] at hbk
  have hb2 : w2.heap[b]? = some (.cells #[.pointer (some ⟨b, 0, none⟩), v] 46 (0, 0)) := by
    rw [hgrow.block b hlt (fun e => hne e.symm)]
    exact hbk
  have d0 : w2.cell? ⟨b, 0, none⟩ = some (.pointer (some ⟨b, 0, none⟩)) := by rw [Lib.cell_of_heap hb2]; rfl
  have d1 : w2.cell? ⟨b, 1, none⟩ = some v := by rw [Lib.cell_of_heap hb2]; rfl
  have f1 : w2.frozen? ⟨b, 1, none⟩ = false := Lib.frozen_of_heap hb2 1
  obtain ⟨ao, n', cap, rfl⟩ : ∃ ao n' cap, v' = .slice ao n' cap := by
    rcases hown'.2 with ⟨hv, _⟩ | ⟨g, cap, cur, fz, hv, _⟩
    · exact ⟨_, _, _, hv⟩
    · exact ⟨_, _, _, hv⟩
  go_wp2
  go_ret2
  refine ⟨rfl, .inr ?_, ?_, ?_⟩
  · exact Lib.BuilderAtF.put (T := 46) (e := 5) hB hb2 (bs' := bs ++ Lib.strCells s) (by simpa [Lib.strCells_length] using hown') (by decide)
  · exact (hb1.grown hgrow (by have := hb1.size; omega) (fun k hk => (hown.lt k hk).1)).setCell (p := ⟨b, 1, none⟩) hB _
  · exact (hk1.trans (Keeps.grown hgrow (own_bytes hown))).trans (Keeps.set _ _ _ _)

set_option maxHeartbeats 1000000 in
set_option maxRecDepth 100000 in
theorem teller_len (B b : Nat) (l : List UInt8) (w : World) (h : Tells B b l w) :
    Calls Tryz.prog 34 #[.pointer (some ⟨b, 0, none⟩)] w fun e w' => e = .returned (.int .i64 l.length) ∧ w' = w := by
  obtain ⟨p, hB, v, hbk, hown, hne⟩ : ∃ p, Lib.BuilderAtF 46 5 B b p (Lib.byteCells l) w := by
    rcases h with h | h
    · exact ⟨_, h⟩
    · exact ⟨_, h⟩
  rw [Lib.byteCells_length] at hown
  obtain ⟨ao, cap, rfl⟩ : ∃ ao cap, v = .slice ao l.length cap := by
    rcases hown.2 with ⟨hv, h0⟩ | ⟨g, cap, cur, fz, hv, _⟩
    · exact ⟨none, 0, by rw [hv, h0]⟩
    · exact ⟨_, _, hv⟩
  have c1 : w.cell? ⟨b, 1, none⟩ = some (.slice ao l.length cap) := by rw [Lib.cell_of_heap hbk]; rfl
  clear hown hbk h
  go_enter Tryz.func34, Tryz.ntmps34
  go_wp2
  go_ret
  exact ⟨rfl, rfl⟩

theorem tells_drew {B b : Nat} {l : List UInt8} {w : World} (h : Tells B b l w) : Tells B b l w.drew := h
set_option maxHeartbeats 2000000 in
set_option maxRecDepth 100000 in
/-- The text that is told. -/
theorem teller_string (B b : Nat) (l : List UInt8) (w : World) (h : Tells B b l w) (h0 : l ≠ []) :
    Calls Tryz.prog 18 #[.pointer (some ⟨b, 0, none⟩)] w fun e w' => e = .returned (.string ⟨l.toArray⟩) ∧ Below B w w' := by
  obtain ⟨p, hB, v, hbk, hown, hne⟩ : ∃ p, Lib.BuilderAtF 46 5 B b p (Lib.byteCells l) w := by
    rcases h with h | h
    · exact ⟨_, h⟩
    · exact ⟨_, h⟩
  have hl0 : l.length ≠ 0 := by simpa using h0
  rw [Lib.byteCells_length] at hown
  obtain ⟨g, cap, cur, fz, rfl, hbg, hg, hfz, hnc, hcm, hcs, htake⟩ : ∃ g cap cur fz, v = .slice (some ⟨g, 0, none⟩) l.length cap ∧ B ≤ g ∧ w.heap[g]? = some (.cells cur 5 fz) ∧ fz.2 ≤ l.length * 1 ∧ l.length ≤ cap ∧ cap ≤ maxLen ∧ cur.size = cap * 1 ∧ cur.toList.take (l.length * 1) = Lib.byteCells l := by
    rcases hown.2 with ⟨_, hz⟩ | ⟨g, cap, cur, fz, hv, r⟩
    · exact absurd hz hl0
    · exact ⟨g, cap, cur, fz, hv, r⟩
  have c1 : w.drew.cell? ⟨b, 1, none⟩ = some (.slice (some ⟨g, 0, none⟩) l.length cap) := by
    have : w.drew.heap[b]? = some (.cells #[p, .slice (some ⟨g, 0, none⟩) l.length cap] 46 (0, 0)) := hbk
    rw [Lib.cell_of_heap this]; rfl
  have hSD : (Builtin.unsafeSliceData_ #[36] 64 #[.slice (some ⟨g, 0, none⟩) l.length cap]).run Tryz.prog w.drew = .ok (.pointer (some ⟨g, 0, none⟩)) w.drew :=
    Lib.run_unsafeSliceData_row _ _ _ _ _ _ (by omega)
  have hUS : (Builtin.unsafeString_ #[64, 3] 9 #[.pointer (some ⟨g, 0, none⟩), .int .i64 l.length]).run Tryz.prog w.drew = .ok (.string ⟨l.toArray⟩) (w.drew.freeze ⟨g, 0, none⟩ l.length) := by
    refine Lib.run_unsafeString_row w.drew 64 3 9 5 (by kernel_rfl) (by kernel_rfl) g cur.size (by have hg' : w.drew.heap[g]? = some (.cells cur 5 fz) := hg; simp [World.shape?, hg']) l h0 (by omega) (by unfold maxLen at hcm; omega) ?_
    intro j x hx
    have := hown.cells (g := g) rfl j (.int .u8 x.toNat) (by simp [Lib.byteCells, hx])
    exact this
  replace hown := Lib.hid hown
  clear h htake hg hbk
  have mixed : Tryz.prog.follows Departure.mixedOrders = true := by kernel_rfl
  go_enter Tryz.func18, Tryz.ntmps18
  go_wp2
  go_region_o
  all_goals (go_wp2; go_ret; exact ⟨rfl, Lib.below_freeze (Below.drew (Below.refl B w)) (p := ⟨g, 0, none⟩) hbg _⟩)
end Go.Proofs.YtegaidfmkfnbnaaGreatDoor
namespace Go.Proofs.YtegaidfmkfnbnaaGreatDoor
open Go.RowKit

def lst (b : ByteArray) : List UInt8 := b.data.toList
def total (L : List ByteArray) : Nat := (L.flatMap lst).length
theorem total_take (L : List ByteArray) (k : Nat) (h : k < L.length) : ((L.take k).flatMap lst).length + L[k].size ≤ total L := by
  unfold total
  have e : L = L.take k ++ L[k] :: L.drop (k + 1) := by rw [← List.drop_eq_getElem_cons h, List.take_append_drop]
  have : (L.flatMap lst).length = ((L.take k ++ L[k] :: L.drop (k + 1)).flatMap lst).length := by rw [← e]
  rw [this, List.flatMap_append, List.flatMap_cons, List.length_append, List.length_append]
  have : (lst L[k]).length = L[k].size := list_len _
  omega
theorem flat_take (L : List ByteArray) (k : Nat) (h : k < L.length) : (L.take (k + 1)).flatMap lst = (L.take k).flatMap lst ++ L[k].data.toList := by
  rw [List.take_succ_eq_append_getElem h, List.flatMap_append]
  simp [lst]
/-- What a call of the teller leaves. -/
def Told (B b : Nat) (w : World) (l : List UInt8) (e : Ending) (w' : World) : Prop := e = .returned (.tuple #[]) ∧ Tells B b l w' ∧ Below B w w' ∧ Keeps b w w'
theorem tells_kept {B b : Nat} {l : List UInt8} {w w' : World} (h : Tells B b l w) (hb : Below w.heap.size w w') : Tells B b l w' := tells_below h hb

set_option maxRecDepth 100000 in
set_option maxHeartbeats 3200000 in
theorem tell_any (B b g cap : Nat) (fr : Nat × Nat) (l : List UInt8) (L : List ByteArray) (w : World) (h : Tells B b l w) (hB : B ≤ w.heap.size) (hT : w.heap[g]? = some (.cells (L.map Value.string).toArray 9 fr)) (hgb : g ≠ b) (hL : L.length ≤ 1000) (hlen : l.length + total L ≤ 140737488355328) :
    Calls Tryz.prog 31 #[.pointer (some ⟨b, 0, none⟩), .slice (some ⟨g, 0, none⟩) L.length cap] w (Told B b w (l ++ L.flatMap lst)) := by
  have hI := Lib.hid (show Tells B b (l ++ (L.take 0).flatMap lst) w by simpa using h)
  have hcells : ∀ (wr : World), Keeps b w wr → ∀ k (hk : k < L.length), wr.cell? ⟨g, k, none⟩ = some (.string L[k]) := fun wr hk k hkl => by
    have hlt : g < w.heap.size := (Array.getElem?_eq_some_iff.1 hT).1
    have e : wr.heap[g]? = some (.cells (L.map Value.string).toArray 9 fr) := (hk.block g hlt hgb (fun cur fz c => by rw [hT] at c; cases c)).trans hT
    rw [Lib.cell_of_heap e]
    simp [hkl]
  replace hcells := Lib.hid hcells
  clear h hT
  go_enter Tryz.func31, Tryz.ntmps31
  go_wp2_with fail
  go_loopg [5, 8] L.length (fun gg _ s8 wr => ∃ kk : Nat, kk ≤ L.length ∧ L.length - kk ≤ gg ∧ s8 = .int .i64 kk ∧ Hid (Tells B b (l ++ (L.take kk).flatMap lst) wr) ∧ Hid (Below B w wr) ∧ Hid (Keeps b w wr))
  case atStart => exact ⟨0, Nat.zero_le _, by omega, rfl, hI, Lib.hid (Below.refl _ _), Lib.hid (Keeps.refl _ _)⟩
  case round =>
    obtain ⟨kk, hkk, hg, rfl, hT, hW, hK⟩ := hrel
    clear hI
    by_cases hlt : kk < L.length
    · have hltz : (kk : Int) < (L.length : Int) := by omega
      have p0 := hcells.out wr hK.out kk hlt
      have hsz := total_take L kk hlt
      have hcall := teller_writeString B b (l ++ (L.take kk).flatMap lst) L[kk] wr hT.out (by rw [List.length_append]; omega) (by have := hW.out.size; omega)
      rw [List.append_assoc, ← flat_take L kk hlt] at hcall
      clear hsz
      generalize L[kk] = s at *
      go_wp2_with fail
      (with_reducible refine hcall.mono ?_); rintro e w' ⟨rfl, hT', hb', hk'⟩
      have q1 := Lib.hid (hW.out.trans hb')
      have q2 := Lib.hid (hK.out.trans hk')
      replace hT' := Lib.hid hT'
      clear hT hW hK hb' hk'
      go_wp2_with fail
      go_roundg (L.length - (kk + 1))
      case measure => omega
      case rel => exact ⟨kk + 1, by omega, by omega, by go_num, hT', q1, q2⟩
    · have hltz : ¬ (kk : Int) < (L.length : Int) := by omega
      have hx := hT.out
      rw [List.take_of_length_le (by omega)] at hx
      replace hx := Lib.hid hx
      clear hlt hT
      go_wp2_with fail
      go_end0
      exact ⟨rfl, hx.out, hW.out, hK.out⟩
end Go.Proofs.YtegaidfmkfnbnaaGreatDoor
namespace Go.Proofs.YtegaidfmkfnbnaaGreatDoor
open Go.RowKit

theorem told_after {B b : Nat} {w w1 w' : World} {l : List UInt8} {e : Ending} (hb : Below w.heap.size w w1) (hB : B ≤ w.heap.size) (h : Told B b w1 l e w') : Told B b w l e w' :=
  ⟨h.1, h.2.1, (hb.mono hB).trans h.2.2.1, (Keeps.below hb).trans h.2.2.2⟩
theorem told_then {B b : Nat} {w w1 w' : World} {l l1 : List UInt8} {e e1 : Ending} (h1 : Told B b w l1 e1 w1) (h : Told B b w1 l e w') : Told B b w l e w' :=
  ⟨h.1, h.2.1, h1.2.2.1.trans h.2.2.1, h1.2.2.2.trans h.2.2.2⟩
theorem apart_of {B b g : Nat} {l : List UInt8} {w : World} {cur : Array Value} {fr : Nat × Nat} (h : Tells B b l w) (hT : w.heap[g]? = some (.cells cur 9 fr)) : g ≠ b := by
  rintro rfl
  obtain ⟨p, hB, v, hbk, _⟩ : ∃ p, Lib.BuilderAtF 46 5 B g p (Lib.byteCells l) w := by
    rcases h with h | h
    · exact ⟨_, h⟩
    · exact ⟨_, h⟩
  rw [hbk] at hT
  cases hT
/-- tell of texts that the caller has just put together. -/
theorem tell_new {B b : Nat} {l : List UInt8} {w : World} (L : List ByteArray) (h : Tells B b l w) (hB : B ≤ w.heap.size) (hL : L.length ≤ 1000) (hlen : l.length + total L ≤ 140737488355328) :
    Calls Tryz.prog 31 #[.pointer (some ⟨b, 0, none⟩), .slice (some ⟨w.heap.size, 0, none⟩) L.length L.length] (w.alloc (.cells (L.map Value.string).toArray 9)) (Told B b w (l ++ L.flatMap lst)) := by
  have b0 := (Below.refl w.heap.size w).alloc (Nat.le_refl _) (.cells (L.map Value.string).toArray 9)
  have hT := heap_alloc_new w (.cells (L.map Value.string).toArray 9)
  have h' := tells_below h b0
  exact (tell_any B b w.heap.size L.length _ l L _ h' (Nat.le_trans hB b0.size) hT (apart_of h' hT) hL hlen).mono fun e w' h2 => told_after b0 hB h2

theorem one_texts (nm v : ByteArray) (x : List UInt8) (hx : x = E.escape true v.data.toList) : ([⟨#[32]⟩, nm, ⟨#[61, 34]⟩, ⟨x.toArray⟩, ⟨#[34]⟩] : List ByteArray).flatMap lst = Sc.one (nm.data.toList, v.data.toList) := by
  subst hx
  simp [lst, Sc.one]

set_option maxRecDepth 100000 in
set_option maxHeartbeats 3200000 in
theorem attribute_any (B b : Nat) (l : List UInt8) (nm v : ByteArray) (w : World) (h : Tells B b l w) (hB : B ≤ w.heap.size) (hl : l.length ≤ 100000000000) (h1 : nm.size ≤ 10000000) (h2 : v.size ≤ 1000000) :
    Calls Tryz.prog 57 #[.pointer (some ⟨b, 0, none⟩), .string nm, .string v] w (Told B b w (l ++ Sc.one (nm.data.toList, v.data.toList))) := by
  have c0 := eEscape_at v true w h2
  have hle := E.escape_le true v.data.toList
  rw [list_len] at hle
  have c1 := fun w1 (b1 : Below w.heap.size w w1) => tell_new [⟨#[32]⟩, nm, ⟨#[61, 34]⟩, ⟨(E.escape true v.data.toList).toArray⟩, ⟨#[34]⟩] (tells_below h b1) (Nat.le_trans hB b1.size) (by simp) (by
    unfold total
    rw [one_texts nm v _ rfl]
    unfold Sc.one
    simp only [List.length_cons, List.length_append, list_len, List.length_nil]
    omega)
  rw [one_texts nm v _ rfl] at c1
  simp only [List.map_cons, List.map_nil, List.length_cons, List.length_nil] at c1
  generalize (⟨(E.escape true v.data.toList).toArray⟩ : ByteArray) = x at *
  clear hle h h1 h2 hl
  go_enter Tryz.func57, Tryz.ntmps57
  go_wp2_with fail
  (with_reducible refine c0.mono ?_); rintro e w1 ⟨rfl, b1⟩
  have c2 := c1 w1 b1
  clear c1 c0
  go_wp2_with fail
  (with_reducible refine c2.mono ?_); rintro e w2 ⟨rfl, d1, d2, d3⟩
  go_wp2_with fail
  go_end0
  exact told_after b1 hB ⟨rfl, d1, d2, d3⟩

theorem dig_of {i : Nat} (h : i < 24) : (⟨(Lib.decDigits i).toArray⟩ : ByteArray) = Gv.str (Sc.dig i) := by
  have e : Lib.decDigits i = Sc.dig i := by
    unfold Sc.dig
    by_cases h1 : i < 10
    · rw [Lib.decDigits, dif_pos h1, if_pos h1]
    · rw [Lib.decDigits, dif_neg h1, Lib.decDigits, dif_pos (by omega), if_neg h1]
      rfl
  rw [e]; rfl
theorem dig_len {i : Nat} : (Sc.dig i).length ≤ 2 := by unfold Sc.dig; split <;> simp
theorem lit_list (l : List UInt8) : (⟨l.toArray⟩ : ByteArray).data.toList = l := by simp
theorem app_list (a b : ByteArray) : (a ++ b).data.toList = a.data.toList ++ b.data.toList := ByteArray.toList_data_append

set_option maxRecDepth 100000 in
set_option maxHeartbeats 6400000 in
/-- ONE ATTRIBUTE, its space declared if that has to be. -/
theorem attrSpace_any (B b i : Nat) (l : List UInt8) (a : Gv.Att) (w : World) (h : Tells B b l w) (hB : B ≤ w.heap.size) (hi : i < 24) (hl : l.length ≤ 10000000000) (h1 : a.space.size ≤ 1000000) (h2 : a.name.size ≤ 1000000) (h3 : a.value.size ≤ 1000000) :
    Calls Tryz.prog 58 #[.pointer (some ⟨b, 0, none⟩), .int .i64 (i : Int), .agg (attArr a)] w (Told B b w (l ++ (Sc.rawAtt i a).flatMap Sc.one)) := by
  obtain ⟨xs, xn, xv⟩ := a
  dsimp only at *
  have b0 := (Below.refl w.heap.size w).alloc (Nat.le_refl _) (.cells #[.string xs, .string xn, .string xv] 40)
  have kA := Cells.new w 40 #[.string xs, .string xn, .string xv]
  have x0 := kA.cell (i := 0) (v := .string xs) rfl
  have x1 := kA.cell (i := 1) (v := .string xn) rfl
  have x2 := kA.cell (i := 2) (v := .string xv) rfl
  have hbk : (w.alloc (.cells #[.string xs, .string xn, .string xv] 40)).heap[w.heap.size]? = some (.cells #[.string xs, .string xn, .string xv] 40 (0, 0)) := heap_alloc_new w _
  have hlt := tells_lt h
  have h0 := tells_below h b0
  have hB0 := Nat.le_trans hB b0.size
  replace kA := Lib.hid kA
  unfold attArr
  rcases nil_is (s := xs) with ⟨e, z, y⟩ | ⟨e, z, y⟩
  · have hs : xs = ByteArray.empty := by simpa using e
    have hx : xs ≠ P.xmlS := by rw [hs]; decide
    have ht : (Sc.rawAtt i ⟨xs, xn, xv⟩).flatMap Sc.one = Sc.one (xn.data.toList, xv.data.toList) := by
      unfold Sc.rawAtt Sc.rawDecl Sc.rawName
      rw [if_neg hx, if_neg (fun c => c hs), if_neg hx, if_neg (fun c => c hs)]
      simp
    rw [ht]
    have c := attribute_any B b l xn xv _ h0 hB0 (by omega) (by omega) h3
    clear e hs hx ht h h0 hl h1 h2 h3 hbk
    go_enter Tryz.func58, Tryz.ntmps58
    go_wp2_with fail
    (with_reducible refine c.mono ?_); rintro e w1 ⟨rfl, d⟩
    go_wp2_with fail
    go_end0
    exact told_after b0 hB ⟨rfl, d⟩
  · rcases two_is xs P.xmlS with ⟨e2, m1, m2, m3⟩ | ⟨e2, m1, m2, m3⟩
    · have hs : xs ≠ ByteArray.empty := by simpa using e
      have hx : xs ≠ P.xmlS := by simpa using e2
      have ht : (Sc.rawAtt i ⟨xs, xn, xv⟩).flatMap Sc.one = Sc.one ([120, 109, 108, 110, 115] ++ 58 :: Sc.nI i, xs.data.toList) ++ Sc.one (Sc.nI i ++ 58 :: xn.data.toList, xv.data.toList) := by
        unfold Sc.rawAtt Sc.rawDecl Sc.rawName
        rw [if_neg hx, if_pos hs, if_neg hx, if_pos hs]
        simp
      rw [ht, ← List.append_assoc]
      rw [xmlS_lit] at m1 m2 m3
      have hd := dig_len (i := i)
      have i0 := Tryz.strconv_Itoa_small i (by omega) (w.alloc (.cells #[.string xs, .string xn, .string xv] 40))
      rw [dig_of hi] at i0
      have s1 : ((⟨#[120, 109, 108, 110, 115, 58]⟩ : ByteArray) ++ (⟨#[110]⟩ ++ Gv.str (Sc.dig i))).data.toList = [120, 109, 108, 110, 115] ++ 58 :: Sc.nI i := by
        rw [app_list, app_list, Gv.str_list]; rfl
      have s2 : ((⟨#[110]⟩ : ByteArray) ++ Gv.str (Sc.dig i) ++ ⟨#[58]⟩ ++ xn).data.toList = Sc.nI i ++ 58 :: xn.data.toList := by
        rw [app_list, app_list, app_list, Gv.str_list]
        simp [Sc.nI]
      have c1 := attribute_any B b l ((⟨#[120, 109, 108, 110, 115, 58]⟩ : ByteArray) ++ (⟨#[110]⟩ ++ Gv.str (Sc.dig i))) xs _ h0 hB0 (by omega) (by rw [← list_len, s1]; simp [Sc.nI]; omega) h1
      have c2 := fun (w1 : World) (t1 : Tells B b (l ++ Sc.one ([120, 109, 108, 110, 115] ++ 58 :: Sc.nI i, xs.data.toList)) w1) (hb : B ≤ w1.heap.size) => attribute_any B b (l ++ Sc.one ([120, 109, 108, 110, 115] ++ 58 :: Sc.nI i, xs.data.toList)) ((⟨#[110]⟩ : ByteArray) ++ Gv.str (Sc.dig i) ++ ⟨#[58]⟩ ++ xn) xv w1 t1 hb (by
        have hle := E.escape_le true xs.data.toList
        rw [list_len] at hle
        unfold Sc.one
        simp only [List.length_append, List.length_cons, List.length_nil, Sc.nI]
        omega) (by rw [← list_len, s2]; simp only [List.length_append, List.length_cons, Sc.nI, list_len]; omega) h3
      rw [s1] at c1
      rw [s2] at c2
      have hkeep : ∀ (w1 : World), Keeps b (w.alloc (.cells #[.string xs, .string xn, .string xv] 40)) w1 → w1.cell? ⟨w.heap.size, 1, none⟩ = some (.string xn) ∧ w1.cell? ⟨w.heap.size, 2, none⟩ = some (.string xv) := fun w1 hk => by
        have e := (hk.block w.heap.size (by simp) (by omega) (fun cur fz c => by rw [hbk] at c; cases c)).trans hbk
        exact ⟨by rw [Lib.cell_of_heap e]; rfl, by rw [Lib.cell_of_heap e]; rfl⟩
      replace hkeep := Lib.hid hkeep
      replace hbk := Lib.hid hbk
      have hdg : (Gv.str (Sc.dig i)).size ≤ 2 := by rw [← list_len, Gv.str_list]; exact hd
      generalize Gv.str (Sc.dig i) = dg at *
      generalize Sc.one ([120, 109, 108, 110, 115] ++ 58 :: Sc.nI i, xs.data.toList) = t1 at *
      generalize Sc.one (Sc.nI i ++ 58 :: xn.data.toList, xv.data.toList) = t2 at *
      clear e e2 hs hx ht h h0 hl h1 h3 s1 s2 hd
      replace c2 := Lib.hid c2
      go_enter Tryz.func58, Tryz.ntmps58
      go_wp2_with fail
      (with_reducible refine i0.mono ?_); rintro e w1 ⟨rfl, rfl⟩
      go_wp2_with fail
      (with_reducible refine c1.mono ?_); rintro e w1 ⟨rfl, d1, d2, d3⟩
      obtain ⟨y1, y2⟩ := hkeep.out w1 d3
      have c3 := c2.out w1 d1 (by have := d2.size; omega)
      have hd := Lib.hid (show Told B b _ _ _ w1 from ⟨rfl, d1, d2, d3⟩)
      clear d1 d2 d3 c1 x0 x1 x2
      go_wp2_with fail
      (with_reducible refine c3.mono ?_); rintro e w2 ⟨rfl, k⟩
      go_wp2_with fail
      go_end0
      exact told_after b0 hB (told_then hd.out ⟨rfl, k⟩)
    · have hx : xs = P.xmlS := by simpa using e2
      have ht : (Sc.rawAtt i ⟨xs, xn, xv⟩).flatMap Sc.one = Sc.one ([120, 109, 108] ++ 58 :: xn.data.toList, xv.data.toList) := by
        unfold Sc.rawAtt Sc.rawDecl Sc.rawName
        rw [if_pos hx, if_pos hx]
        simp
      have s1 : ((⟨#[120, 109, 108, 58]⟩ : ByteArray) ++ xn).data.toList = [120, 109, 108] ++ 58 :: xn.data.toList := by
        rw [app_list]; rfl
      rw [xmlS_lit] at m1 m2 m3
      have c := attribute_any B b l ((⟨#[120, 109, 108, 58]⟩ : ByteArray) ++ xn) xv _ h0 hB0 (by omega) (by rw [← list_len, s1]; simp only [List.length_append, List.length_cons, List.length_nil, list_len]; omega) h3
      rw [s1, ← ht] at c
      clear e e2 hx ht h h0 hl h1 h3 hbk s1
      go_enter Tryz.func58, Tryz.ntmps58
      go_wp2_with fail
      (with_reducible refine c.mono ?_); rintro e w1 ⟨rfl, d⟩
      go_wp2_with fail
      go_end0
      exact told_after b0 hB ⟨rfl, d⟩
end Go.Proofs.YtegaidfmkfnbnaaGreatDoor
