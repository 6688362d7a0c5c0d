/-
  The statements' walks: awake, DateParses, DatePrints.
-/
import Derived.Test.YtdkephbfehlodaaDoorDateDone
import Derived.Laws.StructEq
import Derived.BigQuiet
import Derived.Deep.QuietTactic
import Derived.Deep.RegionHeld3
import Derived.StillTailTactics
namespace Go.Proofs.YtdkephbfehlodaaDoor
open Go.RowKit

/-- Two numbers at the head of a block. -/
structure PairIn (w : World) (b : Nat) (x y : Value) : Prop where
  c0 : w.cell? ⟨b, 0, none⟩ = some x
  c1 : w.cell? ⟨b, 1, none⟩ = some y
theorem pair_new (w : World) (x y : Value) (T : TypeId) : PairIn (w.alloc (.cells #[x, y] T)) w.heap.size x y :=
  ⟨by unfold World.cell?; rw [heap_alloc_new]; rfl, by unfold World.cell?; rw [heap_alloc_new]; rfl⟩
theorem PairIn.on {w w' : World} {b : Nat} {x y : Value} (h : PairIn w b x y) (hb : Below w.heap.size w w') : PairIn w' b x y :=
  ⟨(hb.cell (World.block_lt_of_cell? w _ h.c0)).trans h.c0, (hb.cell (World.block_lt_of_cell? w _ h.c1)).trans h.c1⟩

namespace D
theorem text_0 : text 0 0 = [49, 57, 55, 48, 45, 48, 49, 45, 48, 49, 84, 48, 48, 58, 48, 48, 58, 48, 48, 90] := by
  have h := found (day := 0) (y := 1970) (m := 1) (by decide) (by decide) (by decide) (by decide) (by decide) (by decide) (by decide) (by decide)
  unfold text
  rw [if_pos (by decide)]
  unfold head
  rw [show (0 : Int) / 86400 = 0 from rfl, h.1, h.2.1, h.2.2.1]
  decide +kernel
theorem textE_0 : textE 0 0 = 0 := by decide
end D

set_option maxRecDepth 100000 in
set_option maxHeartbeats 1600000 in
theorem awake_any (w : World) (hE : Env w) : Calls Tryd.prog 10 #[] w fun e w' => e = .returned (.bool true) ∧ Below w.heap.size w w' := by
  obtain ⟨a1, a2, a3⟩ := D.pa_some (l := (#[49, 57, 55, 48, 45, 48, 49, 45, 48, 50, 84, 48, 48, 58, 48, 48, 58, 48, 48, 46, 53, 43, 48, 49, 58, 48, 48] : Array UInt8).toList) (x := 82800) (y := 500000000) (by decide +kernel)
  obtain ⟨a4, a5, a6⟩ := D.pa_none (l := (#[49, 57, 55, 48, 45, 48, 50, 45, 50, 57, 84, 48, 48, 58, 48, 48, 58, 48, 48, 90] : Array UInt8).toList) (by decide +kernel)
  have a7 : D.cmp 82800 500000000 0 0 = 1 := by decide
  go_enter Tryd.func10, Tryd.ntmps10
  go_wp2_with fail
  (with_reducible refine (dParse_any _ _ (by decide) hE).mono ?_); rintro e w1 ⟨rfl, b1⟩
  rw [a1, a2, a3]
  go_wp2_with fail
  have x1 := b1.alloc b1.size (.cells #[.int .i64 82800, .int .i64 500000000] 24)
  have p1 := pair_new w1 (.int .i64 82800) (.int .i64 500000000) 24
  (with_reducible refine (dPrint_any 0 0 _ (hE.on x1)).mono ?_); rintro e w2 ⟨rfl, b2⟩
  have x2 := x1.trans (b2.mono x1.size)
  have p2 := p1.on b2
  rw [D.text_0, D.textE_0]
  clear p1 b2
  go_wp2_with fail
  (with_reducible refine (dParse_any _ _ (by decide) (hE.on x2)).mono ?_); rintro e w3 ⟨rfl, b3⟩
  have x3 := x2.trans (b3.mono x2.size)
  have p3 := p2.on b3
  rw [a4, a5, a6]
  clear p2 b3
  have x4 := x3.alloc x3.size (.cells #[.int .i64 0, .int .i64 0] 24)
  have p4 := p3.on ((Below.refl _ w3).alloc (Nat.le_refl _) (.cells #[.int .i64 0, .int .i64 0] 24))
  obtain ⟨c0, c1⟩ := p4
  clear p3
  go_wp2_with fail
  (with_reducible refine (dCmp_any 82800 500000000 0 0 _ (hE.on x4)).mono ?_); rintro e w5 ⟨rfl, b5⟩
  rw [a7]
  have x5 := x4.trans (b5.mono x4.size)
  go_wp2
  go_ret
  exact ⟨rfl, x5⟩

set_option maxHeartbeats 1600000 in
theorem parses_any (s : ByteArray) (w : World) (_ : s.size ≤ maxLen) (hE : Env w) : Calls Tryd.prog 3 #[.string s] w fun e w' => e = .returned (.bool true) ∧ Below w.heap.size w w' := by
  by_cases hl : 300 < s.size
  · go_enter Tryd.func3, Tryd.ntmps3
    go_wp2_with fail
    (with_reducible refine (awake_any _ hE).mono ?_); rintro e w1 ⟨rfl, b1⟩
    go_wp2
    go_ret
    exact ⟨rfl, b1⟩
  · go_enter Tryd.func3, Tryd.ntmps3
    go_wp2_with fail
    (with_reducible refine (dParse_any s _ (by omega) hE).mono ?_); rintro e w1 ⟨rfl, b1⟩
    have hpar := refParse_any s
    generalize D.paS s.data.toList = x at *
    generalize D.paN s.data.toList = y at *
    generalize D.paE s.data.toList = z at *
    go_wp2_with fail
    have x1 := b1.alloc b1.size (.cells #[.int .i64 x, .int .i64 y] 24)
    have p1 := pair_new w1 (.int .i64 x) (.int .i64 y) 24
    (with_reducible refine (hpar _ (by omega)).mono ?_); rintro e w2 ⟨rfl, b2⟩
    have x2 := x1.trans (b2.mono x1.size)
    have p2 := p1.on b2
    have hlt : w1.heap.size < w2.heap.size := World.block_lt_of_cell? w2 _ p2.c0
    clear p1 b2 hpar
    have x3 := x2.alloc x2.size (.cells #[.int .i64 x, .int .i64 y] 24)
    have q3 := pair_new w2 (.int .i64 x) (.int .i64 y) 24
    have p3 := p2.on ((Below.refl _ w2).alloc (Nat.le_refl _) (.cells #[.int .i64 x, .int .i64 y] 24))
    go_wp2_with fail
    (with_reducible refine (awake_any _ (hE.on x3)).mono ?_); rintro e w4 ⟨rfl, b4⟩
    have x4 := x3.trans (b4.mono x3.size)
    obtain ⟨c0, c1⟩ := p3.on b4
    obtain ⟨d0, d1⟩ := q3.on b4
    clear p3 q3 b4 p2
    go_wp2
    go_ret
    exact ⟨rfl, x4⟩

theorem keep_of {f : FuncId} {args : Array Value} {v : Value} {W w0 : World} {b1 b2 : Nat} {x1 y1 x2 y2 : Value} (hC : ∀ W, Below w0.heap.size w0 W → Calls Tryd.prog f args W fun e w' => e = .returned v ∧ Below W.heap.size W w')
    (h : W.cell? ⟨b1, 0, none⟩ = some x1 ∧ W.cell? ⟨b1, 1, none⟩ = some y1 ∧ W.cell? ⟨b2, 0, none⟩ = some x2 ∧ W.cell? ⟨b2, 1, none⟩ = some y2 ∧ Below w0.heap.size w0 W) :
    Calls Tryd.prog f args W fun e w' => e = .returned v ∧ (w'.cell? ⟨b1, 0, none⟩ = some x1 ∧ w'.cell? ⟨b1, 1, none⟩ = some y1 ∧ w'.cell? ⟨b2, 0, none⟩ = some x2 ∧ w'.cell? ⟨b2, 1, none⟩ = some y2 ∧ Below w0.heap.size w0 w') := by
  obtain ⟨a, b, c, d, e⟩ := h
  refine (hC W e).mono fun _ _ ⟨he, hb⟩ => ⟨he, ?_⟩
  obtain ⟨a', b'⟩ := (PairIn.mk a b).on hb
  obtain ⟨c', d'⟩ := (PairIn.mk c d).on hb
  exact ⟨a', b', c', d', e.trans (hb.mono e.size)⟩

set_option maxHeartbeats 1600000 in
theorem prints_any (a b c d : Int) (w : World) (hE : Env w) : Calls Tryd.prog 4 #[.agg #[.int .i64 a, .int .i64 b], .agg #[.int .i64 c, .int .i64 d]] w fun e w' => e = .returned (.bool true) ∧ Below w.heap.size w w' := by
  go_enter Tryd.func4, Tryd.ntmps4
  have x1 := ((Below.refl w.heap.size w).alloc (Nat.le_refl _) (.cells #[.int .i64 a, .int .i64 b] 24)).alloc (by simp) (.cells #[.int .i64 c, .int .i64 d] 24)
  have p0 := pair_new w (.int .i64 a) (.int .i64 b) 24
  have q1 := pair_new (w.alloc (.cells #[.int .i64 a, .int .i64 b] 24)) (.int .i64 c) (.int .i64 d) 24
  have p1 := p0.on ((Below.refl _ _).alloc (Nat.le_refl _) (.cells #[.int .i64 c, .int .i64 d] 24))
  have hsz : (w.alloc (.cells #[.int .i64 a, .int .i64 b] 24)).heap.size = w.heap.size + 1 := by simp
  rw [hsz] at q1
  clear p0 hsz
  obtain ⟨c0, c1⟩ := p1
  obtain ⟨d0, d1⟩ := q1
  go_wp2_with fail
  (with_reducible refine (dPrint_any a b _ (hE.on x1)).mono ?_); rintro e w1 ⟨rfl, b1⟩
  have hp := refPrint_any a b
  have hcm := dCmp_any a b c d
  have hcr := refCmp_any a b c d
  generalize D.text a b = t at *
  generalize D.textE a b = u at *
  generalize D.cmp a b c d = v at *
  have x2 := x1.trans (b1.mono x1.size)
  obtain ⟨c0', c1'⟩ := (PairIn.mk c0 c1).on b1
  obtain ⟨d0', d1'⟩ := (PairIn.mk d0 d1).on b1
  clear c0 c1 d0 d1 b1
  go_wp2_with fail
  (with_reducible refine (hp _).mono ?_); rintro e w2 ⟨rfl, b2⟩
  have x3 := x2.trans (b2.mono x2.size)
  obtain ⟨c0, c1⟩ := (PairIn.mk c0' c1').on b2
  obtain ⟨d0, d1⟩ := (PairIn.mk d0' d1').on b2
  clear c0' c1' d0' d1' b2 hp x1 x2
  generalize ({ data := t.toArray } : ByteArray) = t at *
  go_wp2_with fail
  go_region_held3 (fun w' => w'.cell? ⟨w.heap.size, 0, none⟩ = some (.int .i64 a) ∧ w'.cell? ⟨w.heap.size, 1, none⟩ = some (.int .i64 b) ∧ w'.cell? ⟨w.heap.size + 1, 0, none⟩ = some (.int .i64 c) ∧ w'.cell? ⟨w.heap.size + 1, 1, none⟩ = some (.int .i64 d) ∧ Below w.heap.size w w') (first | exact ⟨c0, c1, d0, d1, x3.drew⟩ | assumption)
    (first
      | (go_at_call 10; refine (keep_of (w0 := w) (b1 := w.heap.size) (b2 := w.heap.size + 1) (x1 := .int .i64 a) (y1 := .int .i64 b) (x2 := .int .i64 c) (y2 := .int .i64 d) (fun W hb => awake_any W (hE.on hb)) ?_).mono ?_; assumption; rintro e w' ⟨rfl, hcb⟩)
      | (go_at_call 15; refine (keep_of (w0 := w) (b1 := w.heap.size) (b2 := w.heap.size + 1) (x1 := .int .i64 a) (y1 := .int .i64 b) (x2 := .int .i64 c) (y2 := .int .i64 d) (fun W hb => hcm W (hE.on hb)) ?_).mono ?_; assumption; rintro e w' ⟨rfl, hcb⟩)
      | (go_at_call 16; refine (keep_of (w0 := w) (b1 := w.heap.size) (b2 := w.heap.size + 1) (x1 := .int .i64 a) (y1 := .int .i64 b) (x2 := .int .i64 c) (y2 := .int .i64 d) (fun W _ => hcr W) ?_).mono ?_; assumption; rintro e w' ⟨rfl, hcb⟩))
  all_goals
    go_wp2
    go_ret
    exact ⟨rfl, hcb.2.2.2.2⟩
end Go.Proofs.YtdkephbfehlodaaDoor
