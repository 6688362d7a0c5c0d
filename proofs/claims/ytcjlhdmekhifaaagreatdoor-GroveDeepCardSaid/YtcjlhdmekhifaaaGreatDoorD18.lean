/-
  What the program's own bound comes to: a range backwards over a slice of pairs, through the library's iterator.
  What the program's own Resolve comes to.
-/
import Derived.RangeFuncNested
import Derived.RangeFuncBound
import Derived.RangeFuncCalls
import Derived.RangeFuncLeaves
import Derived.Shelf.Abstract
import Derived.Shelf.RegionOpen
import Derived.WalkKit
import Derived.OwnWalkIn
import Derived.TacticsInMore
import Derived.LoopNIn
import Derived.LoopIn
import Derived.Test.YtcjlhdmekhifaaaGreatDoorD17
namespace Go.Proofs.YtcjlhdmekhifaaaGreatDoor
open Go.RowKit Go.Shelf

attribute [local go_sem] Oper.semAt_some

namespace P
/-- What has come when all from the m-th on have come, the last one first. -/
def back (l : List Pair) (m : Nat) : List (Nat × Pair) := ((List.range' m (l.length - m)).reverse).map (fun j => (j, l[j]?.getD default))
theorem back_step {l : List Pair} {m : Nat} (h : m < l.length) : back l m = back l (m + 1) ++ [(m, l[m])] := by
  unfold back
  have e : l.length - m = (l.length - (m + 1)) + 1 := by omega
  rw [e, List.range'_succ]
  simp [h]
theorem back_end (l : List Pair) : back l l.length = [] := by unfold back; simp
theorem back_length (l : List Pair) (m : Nat) : (back l m).length = l.length - m := by unfold back; simp
theorem back_mem {l : List Pair} {m j : Nat} (h : j < l.length) (hm : m ≤ j) : (j, l[j]) ∈ back l m := by
  unfold back
  rw [List.mem_map]
  refine ⟨j, ?_, by simp [h]⟩
  rw [List.mem_reverse, List.mem_range'_1]
  omega
theorem back_none {l : List Pair} {p : ByteArray} (h : ∀ x ∈ back l 0, x.2.name ≠ p) : last p l = none := by
  refine last_none p l fun x hx => ?_
  obtain ⟨j, hj, rfl⟩ := List.mem_iff_getElem.1 hx
  exact h _ (back_mem hj (Nat.zero_le _))
theorem back_some {l : List Pair} {p : ByteArray} {m : Nat} {ini : List (Nat × Pair)} {x : Nat × Pair} (e : back l m = ini ++ [x]) (h : ∀ y ∈ ini, y.2.name ≠ p) (hx : x.2.name = p) : last p l = some x.2.value := by
  have hm : m < l.length := by
    have := congrArg List.length e
    rw [back_length] at this
    simp at this
    omega
  rw [back_step hm] at e
  obtain ⟨e1, e2⟩ := List.append_inj' e rfl
  obtain rfl : (m, l[m]) = x := by simpa using e2
  refine last_found hm (last_none p _ fun y hy => ?_) hx
  obtain ⟨j, hj, rfl⟩ := List.mem_iff_getElem.1 hy
  rw [List.length_drop] at hj
  rw [List.getElem_drop]
  exact h (m + 1 + j, _) (by rw [← e1]; exact back_mem (by omega) (by omega))
/-- what a prefix is bound to; empty without. -/
def bnd (l : List Pair) (p : ByteArray) : ByteArray := (last p l).getD ByteArray.empty
end P

def encPair (x : Nat × Pair) : Array Value := #[Value.int .i64 (x.1 : Int), .agg #[.string x.2.name, .string x.2.value]]

set_option maxRecDepth 100000 in
set_option maxHeartbeats 2000000 in
theorem back1_in (F : Fence) (n : Nat) (h7 : F.fn 168) (hro : F.round = none) (hn : 1 ≤ n) (q Bs : Nat) (ao : Option Addr) (cap k n₀ : Nat) (l : List Pair) (hk : l.length = k) (hk2 : k ≤ 1000000) (J Jx : List (Nat × Pair) → World → Prop)
    (hY : ∀ pre x W, J pre W → pre.length < k → YieldAt F (n - 1) Tryz.prog q (encPair x) W fun e W' =>
      (e = .returned (.bool true) ∧ J (pre ++ [x]) W' ∧ Below n₀ W W') ∨ (e = .returned (.bool false) ∧ Jx (pre ++ [x]) W'))
    (W : World) (hBs : W.cell? ⟨Bs, 0, none⟩ = some (.slice ao k cap)) (hB : Bs < n₀) (hl : ∀ W', Below n₀ W W' → PairsIn W' ao l) (h0 : J [] W) :
    CallsIn F n Tryz.prog 168 #[.func (.yield q) #[] #[], .pointer (some ⟨Bs, 0, none⟩)] W fun e W' => (∃ v, e = .returned v) ∧
      ((∃ ys, ys = P.back l 0 ∧ J ys W') ∨ (∃ pre, (∃ m, m ≤ k ∧ pre = P.back l m) ∧ Jx pre W')) := by
  have hk := Lib.hid hk
  refine callsIn_of_wp Tryz.func168 rfl h7 ?_ hro
  simp only [Tryz.ntmps168, List.size_toArray, List.length_cons, List.length_nil, Nat.reduceAdd, Nat.reduceSub, Array.replicate_succ, Array.replicate_zero, List.push_toArray, List.append_toArray, List.nil_append, List.cons_append]
  gi_wp2
  gi_loopw [3] (fun i wr => ∃ m : Nat, m ≤ k ∧ i = .int .i64 ((m : Int) - 1) ∧ J (P.back l m) wr ∧ Below n₀ W wr)
    (fun i _ => (intOf i + 1).toNat)
  case atStart => exact ⟨k, Nat.le_refl _, by go_num, by rw [show P.back l k = [] by rw [← hk.out]; exact P.back_end l]; exact h0, Below.refl _ _⟩
  case round =>
    obtain ⟨m, hm, rfl, hJs, hnx⟩ := hrel
    have hbx : wr.cell? ⟨Bs, 0, none⟩ = some (.slice ao k cap) := (hnx.cell (p := ⟨Bs, 0, none⟩) hB).trans hBs
    cases m with
    | zero =>
      gi_wp2
      go_end0
      exact ⟨⟨_, rfl⟩, .inl ⟨_, rfl, hJs⟩⟩
    | succ m =>
      have hml : m < l.length := by rw [hk.out]; omega
      have hst := P.back_step hml
      obtain ⟨b, off, rfl, c0, c1⟩ := (hl _ hnx) m hml
      have hi : ((m + 1 : Nat) : Int) - 1 = (m : Int) := by omega
      have hkn : (m : Int) < (k : Int) := by omega
      rw [hi]
      generalize l[m] = x at *
      obtain ⟨fn, tmps, assign, body, hy, hR⟩ := hY _ (m, x) wr hJs (by rw [P.back_length, hk.out]; omega)
      rw [← hst] at hR
      unfold encPair at hy
      dsimp only at hy
      gi_wp2
      refine hR.mono ?_
      rintro e W3 (⟨rfl, hJ3, hk3⟩ | ⟨rfl, hJx3⟩)
      · gi_wp2
        go_roundw
        case rel => exact ⟨m, by omega, by go_num, hJ3, hnx.trans hk3⟩
        case measure => simp [intOf] <;> omega
      · gi_wp2
        refine bodyPost_ret (results_none rfl _ _ _) rfl ?_
        exact ⟨⟨_, rfl⟩, .inr ⟨_, ⟨m, by omega, rfl⟩, hJx3⟩⟩

set_option maxHeartbeats 1000000 in
theorem backward_in (F : Fence) (n : Nat) (h6 : F.fn 159) (hro : F.round = none) (a : Option Addr) (len cap : Nat) (w : World) :
    CallsIn F n Tryz.prog 159 #[.slice a len cap] w fun e w' => e = .returned (.func (.func 168) #[] #[.pointer (some ⟨w.heap.size, 0, none⟩)]) ∧ w' = w.alloc (.cells #[.slice a len cap] 39) := by
  refine callsIn_of_wp Tryz.func159 rfl h6 ?_ hro
  simp only [Tryz.ntmps159, List.size_toArray, List.length_cons, List.length_nil, Nat.reduceAdd, Nat.reduceSub, Array.replicate_succ, Array.replicate_zero, List.push_toArray, List.append_toArray, List.nil_append, List.cons_append]
  gi_wp2
  go_ret
  exact ⟨rfl, rfl⟩

theorem back_stops (F : Fence) (n : Nat) (h7 : F.fn 168) (hro : F.round = none) (hn : 1 ≤ n) (Bs : Nat) (ao : Option Addr) (cap k : Nat) (l : List Pair) (hk : l.length = k) (hk2 : k ≤ 1000000) (w1 w : World) (hBs : Bs < w.heap.size) (hB : w1.heap.size ≤ Bs)
    (hb : Below w1.heap.size w1 w) (hc : w.cell? ⟨Bs, 0, none⟩ = some (.slice ao k cap)) (hl : PairsIn w1 ao l) :
    SeqStopsK F n Tryz.prog 168 #[.pointer (some ⟨Bs, 0, none⟩)] encPair (Below (Bs + 1)) (fun ys => ys = P.back l 0) (fun pre => ∃ m, m ≤ k ∧ pre = P.back l m) k w := fun q J Jx W hW _ _ hY h0 => by
  have hc' := (hW.cell (p := ⟨Bs, 0, none⟩) hBs).trans hc
  exact back1_in F n h7 hro hn q Bs ao cap k (Bs + 1) l hk hk2 J Jx hY W hc' (by omega) (fun W' h' => hl.below (hb.trans ((hW.mono hb.size).trans (h'.mono (by omega))))) h0

set_option maxRecDepth 100000 in
set_option maxHeartbeats 4000000 in
theorem bound_in (F : Fence) (n : Nat) (h3 : F.fn 144) (h4 : F.fn 159) (h5 : F.fn 168) (hro : F.round = none) (hn : 3 ≤ n) (ao : Option Addr) (cap k : Nat) (l : List Pair) (hk : l.length = k) (hk2 : k ≤ 1000000) (p : ByteArray) (w : World) (hl : PairsIn w ao l) :
    CallsIn F n Tryz.prog 144 #[.slice ao k cap, .string p] w fun e W' => e = .returned (.string (P.bnd l p)) ∧ Below w.heap.size w W' := by
  have h1 : 1 ≤ n := by omega
  have hk := Lib.hid hk
  refine callsIn_of_wp_marks Tryz.func144 rfl h3 ?_ hro
  simp only [Tryz.ntmps144, List.size_toArray, List.length_cons, List.length_nil, Nat.reduceAdd, Nat.reduceSub, Array.replicate_succ, Array.replicate_zero, List.push_toArray, List.append_toArray, List.nil_append, List.cons_append]
  gi_wp2_with (gi_at_call 159; refine (backward_in F (n - 1) h4 hro _ _ _ _).mono ?_; rintro e w' ⟨rfl, rfl⟩)
  have bP := ((Boxed.new w 9 (.string p)).alloc (.cells #[.string { data := #[] }] 9)).alloc (.cells #[.slice ao k cap] 39)
  have bR := (Boxed.new (w.alloc (.cells #[.string p] 9)) 9 (.string { data := #[] })).alloc (.cells #[.slice ao k cap] 39)
  have bS := Boxed.new ((w.alloc (.cells #[.string p] 9)).alloc (.cells #[.string { data := #[] }] 9)) 39 (.slice ao k cap)
  simp only [World.size_alloc] at bR bS
  have hB0 : Below w.heap.size w (((w.alloc (.cells #[.string p] 9)).alloc (.cells #[.string { data := #[] }] 9)).alloc (.cells #[.slice ao k cap] 39)) := (((Below.refl _ w).alloc (Nat.le_refl _) _).alloc (by simp) _).alloc (by simp; omega) _
  have hsz : (((w.alloc (.cells #[.string p] 9)).alloc (.cells #[.string { data := #[] }] 9)).alloc (.cells #[.slice ao k cap] 39)).heap.size = w.heap.size + 3 := by simp
  obtain ⟨W0, hW0⟩ : ∃ W0, ((w.alloc (.cells #[.string p] 9)).alloc (.cells #[.string { data := #[] }] 9)).alloc (.cells #[.slice ao k cap] 39) = W0 := ⟨_, rfl⟩
  rw [hW0] at bP bR bS hB0 hsz ⊢
  clear hW0
  refine wpIn_rangeFunc_ownH hro h1 (gf := 168) (lb := #[.pointer (some ⟨w.heap.size + 1 + 1, 0, none⟩)]) rfl h5 (enters_of Tryz.func168 (by kernel_rfl) rfl)
    (back_stops F (n - 1) h5 hro (by omega) (w.heap.size + 1 + 1) ao cap k l hk.out hk2 w W0 (by omega) (by omega) hB0 bS.cell hl) belowK_t (belowK_b (by omega)) (Below.refl _ _) (fun _ => rfl)
    (fun pre W => ((Hid (∀ x ∈ pre, x.2.name ≠ p) ∧ Boxed W w.heap.size 9 (.string p)) ∧ Boxed W (w.heap.size + 1) 9 (.string { data := #[] }) ∧ Boxed W (w.heap.size + 1 + 1) 39 (.slice ao k cap)) ∧ Below w.heap.size w W)
    (fun c pre W => (c = .ret ∧ ∃ v, Hid (∃ ini x, pre = ini ++ [x] ∧ (∀ y ∈ ini, y.2.name ≠ p) ∧ x.2.name = p ∧ v = x.2.value) ∧ Boxed W (w.heap.size + 1) 9 (.string v)) ∧ Below w.heap.size w W)
    (OwnFrom.and (Own.from (fun s X Y row hs hg hr => ⟨⟨hs.1.1, boxed_own _ _ (fun (_ : Unit) => Value.string p) () X Y row hs.1.2 hg hr⟩, boxed_own _ _ (fun (_ : Unit) => Value.string { data := #[] }) () X Y row hs.2.1 hg hr, boxed_own _ _ (fun (_ : Unit) => Value.slice ao k cap) () X Y row hs.2.2 hg hr⟩) _) (ownFrom_below (Nat.le_refl _) (by omega)))
    (fun c => OwnFrom.and (Own.from (fun s X Y row hs hg hr => by obtain ⟨h1, v, h2, h3⟩ := hs; exact ⟨h1, v, h2, boxed_own _ _ (fun (_ : Unit) => Value.string v) () X Y row h3 hg hr⟩) _) (ownFrom_below (Nat.le_refl _) (by omega)))
    ⟨⟨⟨Lib.hid (by simp), bP⟩, bR, bS⟩, hB0⟩
    (fun x a' W => ∃ Bx, w.heap.size + 1 + 1 < Bx ∧ W.heap[Bx]? = some (.cells #[.string x.2.name, .string x.2.value] 86 (0, 0)) ∧ a' = { tmps := #[.slice ao k cap, .string p, undef, .pointer (some ⟨w.heap.size, 0, none⟩), .pointer (some ⟨w.heap.size + 1, 0, none⟩), undef, .pointer (some ⟨Bx, 0, none⟩), .slice ao k cap, .func (.func 168) #[] #[.pointer (some ⟨w.heap.size + 1 + 1, 0, none⟩)], .int .i64 (x.1 : Int), .agg #[.string x.2.name, .string x.2.value], undef, undef, undef, undef, undef, undef], defers := [] })
    (fun x a' _ X Y row hs hg hr => by
      obtain ⟨Bx, h1, h2, h3⟩ := hs
      refine ⟨Bx, h1, ?_, h3⟩
      refine (hg.block Bx (Array.getElem?_eq_some_iff.1 h2).1 (fun e => ?_)).trans h2
      obtain ⟨_, o, ho, hc⟩ := hr Bx e.symm
      rw [h2] at ho; cases ho; cases hc)
    ?assign ?body ?done ?stop
  case assign =>
    rintro q pre x W K ⟨⟨⟨hh, bP1⟩, bR1, bS1⟩, hB1⟩ hK
    have hlt := bS1.lt
    unfold encPair
    gi_wp2
    exact hK _ _ ((KeepsOthers.alloc _ _).from _) ((Below.refl _ W).alloc (by omega) _) ⟨⟨⟨hh, bP1.alloc _⟩, bR1.alloc _, bS1.alloc _⟩, hB1.alloc hB1.size _⟩ ⟨W.heap.size, by omega, World.alloc_heap_new _ _, rfl⟩
  case body =>
    rintro q pre x a' W hq _ ⟨⟨⟨hh, bP1⟩, bR1, bS1⟩, hB1⟩ ⟨Bx, hBx, bX, rfl⟩ hlt
    have cP := bP1.cell
    have cR := bR1.cell
    have fR := bR1.frozen
    have x0 : W.cell? ⟨Bx, 0, none⟩ = some (.string x.2.name) := by simp [World.cell?, bX]
    have x1 : W.cell? ⟨Bx, 1, none⟩ = some (.string x.2.value) := by simp [World.cell?, bX]
    gi_wp2
    · rename_i hx
      have hxp : x.2.name = p := bytes_eq (by rw [← ByteArray.toList_eq, ← ByteArray.toList_eq]; exact eq_of_beq hx)
      exact ⟨(KeepsOthers.setCell _ _ _).from _, ⟨rfl, x.2.value, Lib.hid ⟨pre, x, rfl, hh.out, hxp, rfl⟩, bR1.set _⟩, hB1.setCell (p := ⟨w.heap.size + 1, 0, none⟩) (by simp) _⟩
    · rename_i hx
      have hxp : x.2.name ≠ p := fun e => by rw [e, beq_self_eq_true] at hx; cases hx
      exact ⟨KeepsFrom.refl _ _, Below.refl _ _, ⟨⟨Lib.hid (fun y hy => (List.mem_append.1 hy).elim (hh.out y) (fun e => by simp at e; subst e; exact hxp)), bP1⟩, bR1, bS1⟩, hB1⟩
  case done =>
    rintro D ys W hD rfl ⟨⟨⟨hh, bP1⟩, bR1, bS1⟩, hB1⟩ hK
    have cR := bR1.cell
    have fR := bR1.frozen
    have hres := Lib.hid (show P.bnd l p = ⟨#[]⟩ by unfold P.bnd; rw [P.back_none hh.out]; rfl)
    gi_wp2
    have hK' := (KeepsOthers.setCell W ⟨w.heap.size + 1, 0, none⟩ (.string ⟨#[]⟩)).same D _ hK rfl
    refine ⟨by simp, .inl ⟨_, _, rfl, run_takeDeferred hK', ?_⟩⟩
    have hc5 := cell_kept (World.cell?_setCell_same' W ⟨w.heap.size + 1, 0, none⟩ (.string ⟨#[]⟩) (by rw [cR]; rfl)) (grownBy_putObj' _ D (.deferred none)) (fun r e => by cases e; exact ⟨_, hK', rfl⟩)
    refine ⟨.string ⟨#[]⟩, ?_, by rw [hres.out], (hB1.setCell (p := ⟨w.heap.size + 1, 0, none⟩) (by simp) _).trans (belowK_b (w := w) (Nat.le_refl _) _ D _ _ (by omega) hK' rfl rfl)⟩
    simp [results, Tryz.f144, go_sem, hc5]
  case stop =>
    rintro D c pre W hD ⟨m, hm, rfl⟩ ⟨⟨rfl, v, hv, bR1⟩, hB1⟩ hK
    have hres := Lib.hid (show P.bnd l p = v by
      obtain ⟨ini, x, e1, e2, e3, rfl⟩ := hv.out
      unfold P.bnd; rw [P.back_some e1 e2 e3]; rfl)
    gi_wp2
    refine ⟨by simp, .inl ⟨_, _, rfl, run_takeDeferred hK, ?_⟩⟩
    have hc5 := cell_kept bR1.cell (grownBy_putObj' _ D (.deferred none)) (fun r e => by cases e; exact ⟨_, hK, rfl⟩)
    refine ⟨.string v, ?_, by rw [hres.out], hB1.trans (belowK_b (w := w) (Nat.le_refl _) _ D _ _ (by omega) hK rfl rfl)⟩
    simp [results, Tryz.f144, go_sem, hc5]

theorem pBound_any {ao : Option Addr} {cap k : Nat} (l : List Pair) (p : ByteArray) (w : World) (hl : PairsIn w ao l) (hk : l.length = k) (hk2 : k ≤ 1000000) :
    Calls Tryz.prog 144 #[.slice ao k cap, .string p] w fun e W' => e = .returned (.string (P.bnd l p)) ∧ Below w.heap.size w W' :=
  callsIn_wide.1 (bound_in Fence.wide 3 trivial trivial trivial rfl (Nat.le_refl _) ao cap k l hk hk2 p w hl)
end Go.Proofs.YtcjlhdmekhifaaaGreatDoor
namespace Go.Proofs.YtcjlhdmekhifaaaGreatDoor
open Go.RowKit

namespace P
/-- the space that a prefix means, and whether it means one. -/
def soA (l : List Pair) (p : ByteArray) : ByteArray := if p = xmlns then ByteArray.empty else if p = xml then xmlS else bnd l p
def soB (l : List Pair) (p : ByteArray) : Bool := if p = xmlns then false else if p = xml then true else decide (p = ByteArray.empty) || decide (bnd l p ≠ ByteArray.empty)
end P
theorem ret_sb {a a' : ByteArray} {b b' : Bool} (h1 : a = a') (h2 : b = b') : Ending.returned (.tuple #[.string a, .bool b]) = .returned (.tuple #[.string a', .bool b']) := by rw [h1, h2]

set_option maxRecDepth 100000 in
set_option maxHeartbeats 3200000 in
theorem spaceOf_any {ao : Option Addr} {cap k : Nat} (l : List Pair) (p : ByteArray) (w : World) (hl : PairsIn w ao l) (hk : l.length = k) (hk2 : k ≤ 1000000) :
    Calls Tryz.prog 119 #[.slice ao k cap, .string p] w fun e W' => e = .returned (.tuple #[.string (P.soA l p), .bool (P.soB l p)]) ∧ Below w.heap.size w W' := by
  have hk := Lib.hid hk
  go_enter Tryz.func119, Tryz.ntmps119
  by_cases h1 : p = P.xmlns
  · have r1 := Lib.hid (show P.soA l p = ByteArray.empty by unfold P.soA; rw [if_pos h1])
    have r2 := Lib.hid (show P.soB l p = false by unfold P.soB; rw [if_pos h1])
    have n1 : (p.toList == [120, 109, 108, 110, 115]) = true := str_is (by rw [h1]; rfl)
    clear h1 hl
    go_wp2
    go_ret2
    exact ⟨ret_sb r1.out.symm r2.out.symm, Below.refl _ _⟩
  have n1 : (p.toList == [120, 109, 108, 110, 115]) = false := str_ne (fun e => h1 (bytes_eq e))
  by_cases h2 : p = P.xml
  · have r1 := Lib.hid (show P.soA l p = P.xmlS by unfold P.soA; rw [if_neg h1, if_pos h2])
    have r2 := Lib.hid (show P.soB l p = true by unfold P.soB; rw [if_neg h1, if_pos h2])
    have n2 : (p.toList == [120, 109, 108]) = true := str_is (by rw [h2]; rfl)
    clear h1 h2 hl
    go_wp2
    go_ret2
    exact ⟨ret_sb r1.out.symm r2.out.symm, Below.refl _ _⟩
  have n2 : (p.toList == [120, 109, 108]) = false := str_ne (fun e => h2 (bytes_eq e))
  have r1 := Lib.hid (show P.soA l p = P.bnd l p by unfold P.soA; rw [if_neg h1, if_neg h2])
  have r2 := Lib.hid (show P.soB l p = (decide (p = ByteArray.empty) || decide (P.bnd l p ≠ ByteArray.empty)) by unfold P.soB; rw [if_neg h1, if_neg h2])
  clear h1 h2
  go_wp2_with fail
  (with_reducible refine (pBound_any l p _ hl hk.out hk2).mono ?_); rintro e w1 ⟨rfl, b1⟩
  generalize hv : P.bnd l p = v at *
  have hv := Lib.hid hv
  clear hl
  by_cases h3 : p = ByteArray.empty
  · have n3 : p.toList.isEmpty = true := by rw [h3]; exact pempty_is
    have r3 := Lib.hid (r2.out.trans (by rw [decide_eq_true h3, Bool.true_or]))
    clear h3
    go_wp2
    go_ret2
    exact ⟨ret_sb r1.out.symm r3.out.symm, b1⟩
  · have n3 := empty_no h3
    by_cases h4 : v = ByteArray.empty
    · have n4 : v.toList.isEmpty = true := by rw [h4]; exact pempty_is
      have r3 := Lib.hid (r2.out.trans (show _ = false by rw [decide_eq_false h3, h4]; rfl))
      clear h3 h4
      go_wp2
      go_ret2
      exact ⟨ret_sb r1.out.symm r3.out.symm, b1⟩
    · have n4 := empty_no h4
      have r3 := Lib.hid (r2.out.trans (show _ = true by rw [decide_eq_true h4, Bool.or_true]))
      clear h3 h4
      go_wp2
      go_ret2
      exact ⟨ret_sb r1.out.symm r3.out.symm, b1⟩

theorem P.resolve_so {l : List Pair} {s p n : ByteArray} {attr : Bool} (h : P.split s = some (p, n)) (h3 : ¬ (p = ByteArray.empty ∧ attr = true)) : P.resolve l s attr = if P.soB l p then some (P.soA l p, n) else none := by
  rw [P.resolve_of h]
  unfold P.soA P.soB P.bnd
  by_cases h1 : p = P.xml
  · subst h1
    have hne : P.xml ≠ P.xmlns := by decide
    simp [hne]
  rw [if_neg h1]
  by_cases h2 : p = P.xmlns
  · rw [if_pos h2, if_pos h2]; rfl
  rw [if_neg h2, if_neg h3, if_neg h2, if_neg h1, if_neg h2, if_neg h1]
  by_cases h4 : p = ByteArray.empty
  · cases P.last p l <;> simp [h4]
  · cases P.last p l with
    | none => simp [h4]
    | some v => by_cases h5 : v = ByteArray.empty <;> simp [h4, h5]

set_option maxRecDepth 100000 in
set_option maxHeartbeats 3200000 in
theorem pResolve_any {ao : Option Addr} {cap n : Nat} (l : List Pair) (s : ByteArray) (attr : Bool) (w : World) (hl : PairsIn w ao l) (hn : l.length = n) (hnl : n ≤ 100000) (hs : s.size ≤ 1000000) (hE : Env w) :
    Calls Tryz.prog 79 #[.slice ao n cap, .string s, .bool attr] w fun e w' => e = .returned (.tuple #[.string (P.reA l s attr), .string (P.reB l s attr), .int .i64 (P.reE l s attr)]) ∧ Below w.heap.size w w' := by
  have hn := Lib.hid hn
  go_enter Tryz.func79, Tryz.ntmps79
  go_wp2_with fail
  (with_reducible refine (pSplit_any s _ hs hE).mono ?_); rintro e w1 ⟨rfl, b1⟩
  cases hsp : P.split s with
  | none =>
    obtain ⟨e1, e2, e3⟩ := P.sp_none hsp
    obtain ⟨r1, r2, r3⟩ := P.re_none (l := l) (s := s) (attr := attr) (by unfold P.resolve; rw [hsp])
    rw [e1, e2, e3]
    clear e1 e2 e3 hl hsp
    replace r1 := Lib.hid r1
    replace r2 := Lib.hid r2
    replace r3 := Lib.hid r3
    go_wp2
    go_ret3
    exact ⟨ret_three r1.out.symm r2.out.symm r3.out.symm, b1⟩
  | some x =>
    obtain ⟨p, m⟩ := x
    obtain ⟨e1, e2, e3⟩ := P.sp_some hsp
    rw [e1, e2, e3]
    clear e1 e2 e3
    have go : ∀ h3 : ¬ (p = ByteArray.empty ∧ attr = true), Hid (P.resolve l s attr = if P.soB l p then some (P.soA l p, m) else none) := fun h3 => Lib.hid (P.resolve_so hsp h3)
    by_cases h3 : p = ByteArray.empty
    · have n3 : p.toList.isEmpty = true := by rw [h3]; exact pempty_is
      cases attr
      · have hR := go (fun c => by cases c.2)
        clear go h3 hsp
        go_wp2_with fail
        (with_reducible refine (spaceOf_any l p _ (hl.below b1) hn.out (by omega)).mono ?_); rintro e w2 ⟨rfl, b2⟩
        have c2 := b1.trans (b2.mono b1.size)
        generalize P.soA l p = v at *
        cases hb : P.soB l p
        · obtain ⟨r1, r2, r3⟩ := P.re_none (hR.out.trans (by rw [hb]; rfl))
          clear hR hl hb
          replace r1 := Lib.hid r1
          replace r2 := Lib.hid r2
          replace r3 := Lib.hid r3
          go_wp2
          go_ret3
          exact ⟨ret_three r1.out.symm r2.out.symm r3.out.symm, c2⟩
        · obtain ⟨r1, r2, r3⟩ := P.re_some (hR.out.trans (by rw [hb]; rfl))
          clear hR hl hb
          replace r1 := Lib.hid r1
          replace r2 := Lib.hid r2
          replace r3 := Lib.hid r3
          go_wp2
          go_ret3
          exact ⟨ret_three r1.out.symm r2.out.symm r3.out.symm, c2⟩
      · obtain ⟨r1, r2, r3⟩ := P.re_some (l := l) (attr := true) (by rw [P.resolve_of hsp, if_neg (by rw [h3]; decide), if_neg (by rw [h3]; decide), if_pos ⟨h3, rfl⟩])
        clear go h3 hsp hl
        replace r1 := Lib.hid r1
        replace r2 := Lib.hid r2
        replace r3 := Lib.hid r3
        go_wp2
        go_ret3
        exact ⟨ret_three r1.out.symm r2.out.symm r3.out.symm, b1⟩
    · have n3 := empty_no h3
      have hR := go (fun c => h3 c.1)
      clear go h3 hsp
      go_wp2_with fail
      (with_reducible refine (spaceOf_any l p _ (hl.below b1) hn.out (by omega)).mono ?_); rintro e w2 ⟨rfl, b2⟩
      have c2 := b1.trans (b2.mono b1.size)
      generalize P.soA l p = v at *
      cases hb : P.soB l p
      · obtain ⟨r1, r2, r3⟩ := P.re_none (hR.out.trans (by rw [hb]; rfl))
        clear hR hl hb
        replace r1 := Lib.hid r1
        replace r2 := Lib.hid r2
        replace r3 := Lib.hid r3
        go_wp2
        go_ret3
        exact ⟨ret_three r1.out.symm r2.out.symm r3.out.symm, c2⟩
      · obtain ⟨r1, r2, r3⟩ := P.re_some (hR.out.trans (by rw [hb]; rfl))
        clear hR hl hb
        replace r1 := Lib.hid r1
        replace r2 := Lib.hid r2
        replace r3 := Lib.hid r3
        go_wp2
        go_ret3
        exact ⟨ret_three r1.out.symm r2.out.symm r3.out.symm, c2⟩
end Go.Proofs.YtcjlhdmekhifaaaGreatDoor
