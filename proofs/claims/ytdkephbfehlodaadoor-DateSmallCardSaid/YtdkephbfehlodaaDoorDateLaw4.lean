/-
  The statements' walks: DateOrder.
-/
import Derived.Test.YtdkephbfehlodaaDoorDateLaw3
namespace Go.Proofs.YtdkephbfehlodaaDoor
open Go.RowKit

namespace D
theorem cmp_bd (a b c d : Int) : -1 ≤ cmp a b c d ∧ cmp a b c d ≤ 1 := by
  unfold cmp; repeat' split
  all_goals omega
theorem cmp_le {a b c d : Int} : cmp a b c d ≤ 0 ↔ (a < c ∨ a = c ∧ b ≤ d) := by
  unfold cmp; repeat' split
  all_goals omega
theorem cmp_trans {a b c d e f : Int} (h1 : cmp a b c d ≤ 0) (h2 : cmp c d e f ≤ 0) : cmp a b e f ≤ 0 := by
  rw [cmp_le] at *; omega
theorem cmp_neg {a c : Int} : (cmp a 0 c 0 < 0) = (a < c) := by
  unfold cmp; repeat' split
  all_goals (refine propext ⟨fun _ => ?_, fun _ => ?_⟩ <;> omega)
end D

theorem keep3_of {f : FuncId} {args : Array Value} {v : Value} {W w0 : World} {b1 b2 b3 : Nat} {x1 y1 x2 y2 x3 y3 : Value} (hC : ∀ W, Below w0.heap.size w0 W → Calls Tryd.prog f args W fun e w' => e = .returned v ∧ Below W.heap.size W w')
    (h : W.cell? ⟨b1, 0, none⟩ = some x1 ∧ W.cell? ⟨b1, 1, none⟩ = some y1 ∧ W.cell? ⟨b2, 0, none⟩ = some x2 ∧ W.cell? ⟨b2, 1, none⟩ = some y2 ∧ W.cell? ⟨b3, 0, none⟩ = some x3 ∧ W.cell? ⟨b3, 1, none⟩ = some y3 ∧ Below w0.heap.size w0 W) :
    Calls Tryd.prog f args W fun e w' => e = .returned v ∧ (w'.cell? ⟨b1, 0, none⟩ = some x1 ∧ w'.cell? ⟨b1, 1, none⟩ = some y1 ∧ w'.cell? ⟨b2, 0, none⟩ = some x2 ∧ w'.cell? ⟨b2, 1, none⟩ = some y2 ∧ w'.cell? ⟨b3, 0, none⟩ = some x3 ∧ w'.cell? ⟨b3, 1, none⟩ = some y3 ∧ Below w0.heap.size w0 w') := by
  obtain ⟨a, b, c, d, m, n, e⟩ := h
  refine (hC W e).mono fun _ _ ⟨he, hb⟩ => ⟨he, ?_⟩
  obtain ⟨a', b'⟩ := (PairIn.mk a b).on hb
  obtain ⟨c', d'⟩ := (PairIn.mk c d).on hb
  obtain ⟨m', n'⟩ := (PairIn.mk m n).on hb
  exact ⟨a', b', c', d', m', n', e.trans (hb.mono e.size)⟩

/-- A box of two numbers. -/
def BoxIn (w : World) (b : Nat) (x y : Value) : Prop := w.heap[b]? = some (.cells #[x, y] 24 (0, 0))
theorem BoxIn.new (w : World) (x y : Value) : BoxIn (w.alloc (.cells #[x, y] 24)) w.heap.size x y := heap_alloc_new w _
theorem BoxIn.lt {w : World} {b : Nat} {x y : Value} (h : BoxIn w b x y) : b < w.heap.size := (Array.getElem?_eq_some_iff.1 h).1
theorem BoxIn.on {w w' : World} {b : Nat} {x y : Value} (h : BoxIn w b x y) (hb : Below w.heap.size w w') : BoxIn w' b x y := (hb.block b h.lt).trans h
theorem BoxIn.c0 {w : World} {b : Nat} {x y : Value} (h : BoxIn w b x y) : w.cell? ⟨b, 0, none⟩ = some x := by unfold World.cell?; rw [show w.heap[b]? = _ from h]; rfl
theorem BoxIn.c1 {w : World} {b : Nat} {x y : Value} (h : BoxIn w b x y) : w.cell? ⟨b, 1, none⟩ = some y := by unfold World.cell?; rw [show w.heap[b]? = _ from h]; rfl
theorem BoxIn.free {w : World} {b : Nat} {x y : Value} (h : BoxIn w b x y) (i : Nat) : w.frozen? ⟨b, i, none⟩ = false := by simp [World.frozen?, show w.heap[b]? = _ from h]

set_option maxRecDepth 100000 in
set_option maxHeartbeats 12800000 in
theorem order_any (a b c d m n : Int) (w : World) (hE : Env w) : Calls Tryd.prog 7 #[.agg #[.int .i64 a, .int .i64 b], .agg #[.int .i64 c, .int .i64 d], .agg #[.int .i64 m, .int .i64 n]] w fun e w' => e = .returned (.bool true) ∧ Below w.heap.size w w' := by
  go_enter Tryd.func7, Tryd.ntmps7
  have x1 := (((Below.refl w.heap.size w).alloc (Nat.le_refl _) (.cells #[.int .i64 a, .int .i64 b] 24)).alloc (by simp) (.cells #[.int .i64 c, .int .i64 d] 24)).alloc (by simp; omega) (.cells #[.int .i64 m, .int .i64 n] 24)
  have p0 := BoxIn.new w (.int .i64 a) (.int .i64 b)
  have q1 := BoxIn.new (w.alloc (.cells #[.int .i64 a, .int .i64 b] 24)) (.int .i64 c) (.int .i64 d)
  have r2 := BoxIn.new ((w.alloc (.cells #[.int .i64 a, .int .i64 b] 24)).alloc (.cells #[.int .i64 c, .int .i64 d] 24)) (.int .i64 m) (.int .i64 n)
  have p2 := (p0.on ((Below.refl _ _).alloc (Nat.le_refl _) (.cells #[.int .i64 c, .int .i64 d] 24))).on ((Below.refl _ _).alloc (Nat.le_refl _) (.cells #[.int .i64 m, .int .i64 n] 24))
  have q2 := q1.on ((Below.refl _ _).alloc (Nat.le_refl _) (.cells #[.int .i64 m, .int .i64 n] 24))
  have hsz : (w.alloc (.cells #[.int .i64 a, .int .i64 b] 24)).heap.size = w.heap.size + 1 := by simp
  have hsz2 : ((w.alloc (.cells #[.int .i64 a, .int .i64 b] 24)).alloc (.cells #[.int .i64 c, .int .i64 d] 24)).heap.size = w.heap.size + 1 + 1 := by simp
  rw [hsz] at q2
  rw [hsz2] at r2
  clear p0 q1 hsz hsz2
  go_wp2_with fail
  (with_reducible refine (awake_any _ (hE.on x1)).mono ?_); rintro e w1 ⟨rfl, b1⟩
  have x2 := Lib.hid (x1.trans (b1.mono x1.size))
  have p3 := p2.on b1
  have q3 := q2.on b1
  have r3 := r2.on b1
  clear p2 q2 r2 b1 x1
  have hE1 := hE.on x2.out
  obtain c0 := p3.c0
  obtain c1 := p3.c1
  obtain d0 := q3.c0
  obtain d1 := q3.c1
  obtain e0 := r3.c0
  obtain e1 := r3.c1
  replace p3 := Lib.hid p3
  replace q3 := Lib.hid q3
  clear r3
  go_wp2_with fail
  go_region_held3 (fun w' => w'.cell? ⟨w.heap.size, 0, none⟩ = some (.int .i64 a) ∧ w'.cell? ⟨w.heap.size, 1, none⟩ = some (.int .i64 b) ∧ w'.cell? ⟨w.heap.size + 1, 0, none⟩ = some (.int .i64 c) ∧ w'.cell? ⟨w.heap.size + 1, 1, none⟩ = some (.int .i64 d) ∧ w'.cell? ⟨w.heap.size + 1 + 1, 0, none⟩ = some (.int .i64 m) ∧ w'.cell? ⟨w.heap.size + 1 + 1, 1, none⟩ = some (.int .i64 n) ∧ Below w1.heap.size w1 w') (first | exact ⟨c0, c1, d0, d1, e0, e1, (Below.refl _ _).drew⟩ | assumption)
    (first | (go_at_call 15; refine (keep3_of (w0 := w1) (b1 := w.heap.size) (b2 := w.heap.size + 1) (b3 := w.heap.size + 1 + 1) (x1 := .int .i64 a) (y1 := .int .i64 b) (x2 := .int .i64 c) (y2 := .int .i64 d) (x3 := .int .i64 m) (y3 := .int .i64 n) (fun W hb => dCmp_any _ _ _ _ W (hE1.on hb)) ?_).mono ?_; assumption; rintro e w' ⟨rfl, hcb⟩))
  obtain ⟨-, -, -, -, -, -, b3⟩ := hcb
  have x3 := Lib.hid (x2.out.trans (b3.mono x2.out.size))
  have p4 := p3.out.on b3
  have q4 := q3.out.on b3
  have hE2 := hE1.on b3
  clear c0 c1 d0 d1 e0 e1 p3 q3 b3 x2 hE1
  have c0 := p4.c0
  have c1 := p4.c1
  have d0 := q4.c0
  have d1 := q4.c1
  replace p4 := Lib.hid p4
  replace q4 := Lib.hid q4
  have hx := D.cmp_bd a b c d
  have htr := Lib.hid (@D.cmp_trans a b c d m n)
  have hback := dCmp_any c d a b
  have hc : (a < c ∧ ¬ a = c) ∨ (c < a ∧ ¬ a = c) ∨ (a = c ∧ b < d ∧ ¬ b = d) ∨ (a = c ∧ d < b ∧ ¬ b = d) ∨ (a = c ∧ b = d) := by omega
  have h1 : Hid (a < c ∨ a = c ∧ b < d → D.cmp a b c d = -1 ∧ D.cmp c d a b = 1) := Lib.hid (fun h => ⟨D.cmp_lt h, D.cmp_gt (by omega)⟩)
  have h2 : Hid (c < a ∨ a = c ∧ d < b → D.cmp a b c d = 1 ∧ D.cmp c d a b = -1) := Lib.hid (fun h => ⟨D.cmp_gt h, D.cmp_lt (by omega)⟩)
  have h3 : Hid (a = c ∧ b = d → D.cmp a b c d = 0 ∧ D.cmp c d a b = 0) := Lib.hid (fun h => by obtain ⟨rfl, rfl⟩ := h; exact ⟨D.cmp_eq, D.cmp_eq⟩)
  generalize D.cmp a b c d = X at *
  generalize D.cmp c d a b = X' at *
  generalize D.cmp c d m n = Y at *
  generalize D.cmp a b m n = Z at *
  clear hx
  go_wp2_with fail
  (with_reducible refine (hback _ hE2).mono ?_); rintro e w4 ⟨rfl, b4⟩
  have x4 := Lib.hid (x3.out.trans (b4.mono x3.out.size))
  have p5 := p4.out.on b4
  have q5 := q4.out.on b4
  clear c0 c1 d0 d1 p4 q4 b4 hback x3 hE2
  have c0 := p5.c0
  have c1 := p5.c1
  have d0 := q5.c0
  have d1 := q5.c1
  have f0 := p5.free 1
  have f1 := q5.free 1
  have x5 := Lib.hid ((x4.out.setCell (p := ⟨w.heap.size, 1, none⟩) (Nat.le_refl _) (.int .i64 0)).setCell (p := ⟨w.heap.size + 1, 1, none⟩) (Nat.le_succ _) (.int .i64 0))
  have p6 : Hid (PairIn ((w4.setCell ⟨w.heap.size, 1, none⟩ (.int .i64 0)).setCell ⟨w.heap.size + 1, 1, none⟩ (.int .i64 0)) w.heap.size (.int .i64 a) (.int .i64 0)) := Lib.hid
    ⟨by rw [World.cell?_setCell_other _ _ _ _ (by simp), World.cell?_setCell_other _ _ _ _ (by simp)]; exact c0, by rw [World.cell?_setCell_other _ _ _ _ (by simp)]; exact World.cell?_setCell_same _ _ _ c1⟩
  have q6 : Hid (PairIn ((w4.setCell ⟨w.heap.size, 1, none⟩ (.int .i64 0)).setCell ⟨w.heap.size + 1, 1, none⟩ (.int .i64 0)) (w.heap.size + 1) (.int .i64 c) (.int .i64 0)) := Lib.hid
    ⟨by rw [World.cell?_setCell_other _ _ _ _ (by simp), World.cell?_setCell_other _ _ _ _ (by simp)]; exact d0, World.cell?_setCell_same _ _ _ (u := .int .i64 d) (by rw [World.cell?_setCell_other _ _ _ _ (by simp)]; exact d1)⟩
  clear p5 q5
  have hyz : (Y ≤ 0 ∧ (X ≤ 0 → Z ≤ 0)) ∨ ¬ Y ≤ 0 := by
    by_cases hy : Y ≤ 0
    · exact .inl ⟨hy, fun h => htr.out h hy⟩
    · exact .inr hy
  have hfin : (D.textE a 0 = 0 ∧ D.textE c 0 = 0 ∧ Op.bytesLess (⟨(D.text a 0).toArray⟩ : ByteArray).toList (⟨(D.text c 0).toArray⟩ : ByteArray).toList = decide (D.cmp a 0 c 0 < 0)) ∨ D.textE a 0 = 110 ∨ (D.textE a 0 = 0 ∧ D.textE c 0 = 110) := by
    rcases Bool.eq_false_or_eq_true (D.okB a 0) with ok | ok
    · rcases Bool.eq_false_or_eq_true (D.okB c 0) with ok2 | ok2
      · refine .inl ⟨(D.told_back ok).1, (D.told_back ok2).1, ?_⟩
        rw [ByteArray.toList_eq, ByteArray.toList_eq]
        exact (D.text_less ok ok2).trans (by simp only [D.cmp_neg])
      · exact .inr (.inr ⟨(D.told_back ok).1, (D.told_no ok2).1⟩)
    · exact .inr (.inl (D.told_no ok).1)
  have hcm := dCmp_any a 0 c 0
  have hpa := dPrint_any a 0
  have hpc := dPrint_any c 0
  generalize D.cmp a 0 c 0 = V at *
  generalize (⟨(D.text a 0).toArray⟩ : ByteArray) = sa at *
  generalize (⟨(D.text c 0).toArray⟩ : ByteArray) = sc at *
  generalize D.textE a 0 = ea at *
  generalize D.textE c 0 = ec at *
  clear htr
  rcases hc with ⟨g1, g2⟩ | ⟨g1, g2⟩ | ⟨rfl, g1, g2⟩ | ⟨rfl, g1, g2⟩ | ⟨rfl, rfl⟩
  case' inl =>
    obtain ⟨rfl, rfl⟩ := h1.out (.inl g1)
  case' inr.inl =>
    obtain ⟨rfl, rfl⟩ := h2.out (.inl g1)
  case' inr.inr.inl =>
    obtain ⟨rfl, rfl⟩ := h1.out (.inr ⟨rfl, g1⟩)
  case' inr.inr.inr.inl =>
    obtain ⟨rfl, rfl⟩ := h2.out (.inr ⟨rfl, g1⟩)
  case' inr.inr.inr.inr =>
    obtain ⟨rfl, rfl⟩ := h3.out ⟨rfl, rfl⟩
  all_goals
    clear h1 h2 h3
    rcases hyz with ⟨hy, hz⟩ | hy
  all_goals
    try have hz := hz (by omega)
    go_wp2_with fail
    (with_reducible refine (hpa _ (hE.on x5.out)).mono ?_); rintro e w6 ⟨rfl, b6⟩
    have x6 := Lib.hid (x5.out.trans (b6.mono x5.out.size))
    have p7 := p6.out.on b6
    have q7 := q6.out.on b6
    clear c0 c1 d0 d1 f0 f1 p6 q6 x5 x4 b6
    obtain ⟨c0, c1⟩ := p7
    obtain ⟨d0, d1⟩ := q7
    go_wp2_with fail
    (with_reducible refine (hpc _ (hE.on x6.out)).mono ?_); rintro e w7 ⟨rfl, b7⟩
    have x7 := Lib.hid (x6.out.trans (b7.mono x6.out.size))
    have p8 := (PairIn.mk c0 c1).on b7
    have q8 := (PairIn.mk d0 d1).on b7
    clear c0 c1 d0 d1 x6 b7
    obtain ⟨c0, c1⟩ := p8
    obtain ⟨d0, d1⟩ := q8
    rcases hfin with ⟨rfl, rfl, hs⟩ | rfl | ⟨rfl, rfl⟩
    · go_wp2_with ((with_reducible refine (hcm _ (hE.on x7.out)).mono ?_); rintro e w8 ⟨rfl, b8⟩)
      go_ret
      exact ⟨ret_bool (by simp), x7.out.trans (b8.mono x7.out.size)⟩
    · go_wp2
      go_ret
      exact ⟨rfl, x7.out⟩
    · go_wp2
      go_ret
      exact ⟨rfl, x7.out⟩
end Go.Proofs.YtdkephbfehlodaaDoor
