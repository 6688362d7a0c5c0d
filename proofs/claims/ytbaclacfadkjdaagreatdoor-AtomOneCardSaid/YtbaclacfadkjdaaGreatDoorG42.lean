/-
  AtomSmall, AtomOne: entries that the law makes of numbers.
-/
import Derived.Test.YtbaclacfadkjdaaGreatDoorG33
import Derived.Test.YtbaclacfadkjdaaGreatDoorG41
namespace Go.Proofs.YtbaclacfadkjdaaGreatDoor
open Go.RowKit
set_option maxRecDepth 100000 in
set_option maxHeartbeats 12800000 in
theorem small_any {ao : Option Addr} {cap : Nat} (L : List (Nat × Nat × Nat)) (bare stored : Bool) (w : World) (hL : BitsIn w ao L) (hlen : L.length ≤ 9223372036854775807) (hE : Env w) :
    Calls Tryz.prog 4 #[.slice ao L.length cap, .bool bare, .bool stored] w fun e w' => e = .returned (.bool true) ∧ Below w.heap.size w w' := by
  have hmade := Lib.hid (made_any (cap := cap) L bare w hL hlen)
  replace hE := Lib.hid hE
  clear hL
  go_enter Tryz.func4, Tryz.ntmps4
  go_wp2_with fail
  (refine (hmade.out).mono ?_); rintro e w2 ⟨b2, A, n, rfl, hnd, hz, -⟩
  obtain ⟨S, hN⟩ := hnd
  obtain ⟨k, sp, nm, d, as', kids, no, bo, ca, cb, cs, en, ec, -⟩ := hN.open'
  have hnd2 : Nd w2 A n := ⟨S, hN⟩
  obtain rfl : A = nodeArr k sp nm (.slice no as'.length ca) (.slice bo kids.length cb) d := by apply Array.toList_inj.1; exact ec
  unfold nodeArr at *
  have bx := (Below.refl w2.heap.size w2).alloc (Nat.le_refl _) (.cells #[.int .i64 k, .string sp, .string nm, .slice no as'.length ca, .slice bo kids.length cb, .string d] 25)
  have kA := Cells.new w2 25 (nodeArr k sp nm (.slice no as'.length ca) (.slice bo kids.length cb) d)
  have g3 := Lib.hid ((b2).trans (bx.mono (b2).size))
  have hnd3 := hnd2.on bx
  have hz1 : Gv.wt n ≤ 100000 := by omega
  clear en ec hN hnd2 hz
  unfold nodeArr at kA
  go_upto_region 2 with fail
  generalize w2.alloc (.cells #[.int .i64 k, .string sp, .string nm, .slice no as'.length ca, .slice bo kids.length cb, .string d] 25) = w3 at *
  obtain ⟨x0, x1, x2, x3, x4, x5⟩ := node_open (show Cells w3 _ _ (nodeArr k sp nm (.slice no as'.length ca) (.slice bo kids.length cb) d) from kA)
  have c0 := Lib.hid (fun W (hb : Below w3.heap.size w3 W) => awake_any W (hE.out.on (g3.out.trans (hb.mono g3.out.size))))
  have c3 := Lib.hid (fun W (hb : Below w3.heap.size w3 W) => aCheck_any n stored W (hnd3.on hb) hz1 (hE.out.on (g3.out.trans (hb.mono g3.out.size))))
  have c4 := Lib.hid (fun W (hb : Below w3.heap.size w3 W) => nd_check n stored W (hnd3.on hb) hz1)
  clear kA bx b2 hnd3 hz1
  generalize ckE n stored = ck at *
  go_region_held3 (fun w' => w'.cell? ⟨w2.heap.size, 0, none⟩ = some (.int .i64 k) ∧ w'.cell? ⟨w2.heap.size, 1, none⟩ = some (.string sp) ∧ w'.cell? ⟨w2.heap.size, 2, none⟩ = some (.string nm) ∧ w'.cell? ⟨w2.heap.size, 3, none⟩ = some (.slice no as'.length ca) ∧ w'.cell? ⟨w2.heap.size, 4, none⟩ = some (.slice bo kids.length cb) ∧ w'.cell? ⟨w2.heap.size, 5, none⟩ = some (.string d) ∧ Below w3.heap.size w3 w') (first | exact ⟨x0, x1, x2, x3, x4, x5, (Below.refl _ _).drew⟩ | assumption)
    (first
      | (go_at_call 9; refine (amKeep6 (w0 := w3) (a0 := ⟨w2.heap.size, 0, none⟩) (a1 := ⟨w2.heap.size, 1, none⟩) (a2 := ⟨w2.heap.size, 2, none⟩) (a3 := ⟨w2.heap.size, 3, none⟩) (a4 := ⟨w2.heap.size, 4, none⟩) (a5 := ⟨w2.heap.size, 5, none⟩) (x0 := .int .i64 k) (x1 := .string sp) (x2 := .string nm) (x3 := .slice no as'.length ca) (x4 := .slice bo kids.length cb) (x5 := .string d) (fun W hb => c0.out W hb) ?_).mono ?_; (first | exact ⟨x0, x1, x2, x3, x4, x5, (Below.refl _ _).drew⟩ | assumption); rintro e w' ⟨rfl, hcb⟩)
      | (go_at_call 10; refine (amKeep6 (w0 := w3) (a0 := ⟨w2.heap.size, 0, none⟩) (a1 := ⟨w2.heap.size, 1, none⟩) (a2 := ⟨w2.heap.size, 2, none⟩) (a3 := ⟨w2.heap.size, 3, none⟩) (a4 := ⟨w2.heap.size, 4, none⟩) (a5 := ⟨w2.heap.size, 5, none⟩) (x0 := .int .i64 k) (x1 := .string sp) (x2 := .string nm) (x3 := .slice no as'.length ca) (x4 := .slice bo kids.length cb) (x5 := .string d) (fun W hb => c3.out W hb) ?_).mono ?_; (first | exact ⟨x0, x1, x2, x3, x4, x5, (Below.refl _ _).drew⟩ | assumption); rintro e w' ⟨rfl, hcb⟩)
      | (go_at_call 11; refine (amKeep6 (w0 := w3) (a0 := ⟨w2.heap.size, 0, none⟩) (a1 := ⟨w2.heap.size, 1, none⟩) (a2 := ⟨w2.heap.size, 2, none⟩) (a3 := ⟨w2.heap.size, 3, none⟩) (a4 := ⟨w2.heap.size, 4, none⟩) (a5 := ⟨w2.heap.size, 5, none⟩) (x0 := .int .i64 k) (x1 := .string sp) (x2 := .string nm) (x3 := .slice no as'.length ca) (x4 := .slice bo kids.length cb) (x5 := .string d) (fun W hb => c4.out W hb) ?_).mono ?_; (first | exact ⟨x0, x1, x2, x3, x4, x5, (Below.refl _ _).drew⟩ | assumption); rintro e w' ⟨rfl, hcb⟩))
  all_goals
    obtain ⟨-, -, -, -, -, -, b6⟩ := hcb
    go_wp2_with fail
    go_ret
    exact ⟨by first | rfl | simp, g3.out.trans (b6.mono g3.out.size)⟩
set_option maxRecDepth 100000 in
set_option maxHeartbeats 12800000 in
theorem one_any (p0 p1 p2 : Nat) (h0 : p0 < 256) (h1 : p1 < 256) (h2 : p2 < 256) (stored : Bool) (w : World) (hE : Env w) :
    Calls Tryz.prog 5 #[.agg #[.int .u8 (p0 : Int), .int .u8 (p1 : Int), .int .u8 (p2 : Int)], .bool stored] w fun e w' => e = .returned (.bool true) ∧ Below w.heap.size w w' := by
  have bb := (Below.refl w.heap.size w).alloc (Nat.le_refl _) (.cells #[.int .u8 (p0 : Int), .int .u8 (p1 : Int), .int .u8 (p2 : Int)] 36)
  have kb := Cells.new w 36 #[.int .u8 (p0 : Int), .int .u8 (p1 : Int), .int .u8 (p2 : Int)]
  replace hE := Lib.hid hE
  go_enter Tryz.func5, Tryz.ntmps5
  go_upto_region 1 with fail
  generalize w.alloc (.cells #[.int .u8 (p0 : Int), .int .u8 (p1 : Int), .int .u8 (p2 : Int)] 36) = w0 at *
  have c0' := kb.cell (i := 0) rfl
  have c1' := kb.cell (i := 1) rfl
  have c2' := kb.cell (i := 2) rfl
  have kc := Cells.new w0 36 #[.int .u8 (p0 : Int), .int .u8 (p1 : Int), .int .u8 (p2 : Int)]
  have ba := (Below.refl w0.heap.size w0).alloc (Nat.le_refl _) (.cells #[.int .u8 (p0 : Int), .int .u8 (p1 : Int), .int .u8 (p2 : Int)] 36)
  have hb1 := Lib.hid (bb.trans (ba.mono bb.size))
  have hL : BitsIn (w0.alloc (.cells #[.int .u8 (p0 : Int), .int .u8 (p1 : Int), .int .u8 (p2 : Int)] 36)) (some ⟨w0.heap.size, 0, none⟩) [(p0, p1, p2)] := fun j hj => by
    have hj0 : j = 0 := by simp at hj; exact hj
    subst hj0
    exact ⟨w0.heap.size, 0, rfl, kc.cell (i := 0) rfl, kc.cell (i := 1) rfl, kc.cell (i := 2) rfl, h0, h1, h2⟩
  have hmade := Lib.hid (made_any (cap := 1) [(p0, p1, p2)] false _ hL (by simp))
  clear hL kc ba
  go_wp2_with fail
  (refine (hmade.out).mono ?_); rintro e w2 ⟨b2, A, n, rfl, hnd, hz, -⟩
  obtain ⟨S, hN⟩ := hnd
  obtain ⟨k, sp, nm, d, as', kids, no, bo, ca, cb, cs, en, ec, -⟩ := hN.open'
  have hnd2 : Nd w2 A n := ⟨S, hN⟩
  obtain rfl : A = nodeArr k sp nm (.slice no as'.length ca) (.slice bo kids.length cb) d := by apply Array.toList_inj.1; exact ec
  unfold nodeArr at *
  have bx := (Below.refl w2.heap.size w2).alloc (Nat.le_refl _) (.cells #[.int .i64 k, .string sp, .string nm, .slice no as'.length ca, .slice bo kids.length cb, .string d] 25)
  have kA := Cells.new w2 25 (nodeArr k sp nm (.slice no as'.length ca) (.slice bo kids.length cb) d)
  have g3 := Lib.hid ((hb1.out.trans (b2.mono hb1.out.size)).trans (bx.mono (hb1.out.trans (b2.mono hb1.out.size)).size))
  have hnd3 := hnd2.on bx
  have hz1 : Gv.wt n ≤ 100000 := by omega
  clear en ec hN hnd2 hz
  unfold nodeArr at kA
  go_upto_region 2 with fail
  generalize w2.alloc (.cells #[.int .i64 k, .string sp, .string nm, .slice no as'.length ca, .slice bo kids.length cb, .string d] 25) = w3 at *
  obtain ⟨x0, x1, x2, x3, x4, x5⟩ := node_open (show Cells w3 _ _ (nodeArr k sp nm (.slice no as'.length ca) (.slice bo kids.length cb) d) from kA)
  have c0 := Lib.hid (fun W (hb : Below w3.heap.size w3 W) => awake_any W (hE.out.on (g3.out.trans (hb.mono g3.out.size))))
  have c3 := Lib.hid (fun W (hb : Below w3.heap.size w3 W) => aCheck_any n stored W (hnd3.on hb) hz1 (hE.out.on (g3.out.trans (hb.mono g3.out.size))))
  have c4 := Lib.hid (fun W (hb : Below w3.heap.size w3 W) => nd_check n stored W (hnd3.on hb) hz1)
  clear kA bx b2 hnd3 hz1
  generalize ckE n stored = ck at *
  go_region_held3 (fun w' => w'.cell? ⟨w2.heap.size, 0, none⟩ = some (.int .i64 k) ∧ w'.cell? ⟨w2.heap.size, 1, none⟩ = some (.string sp) ∧ w'.cell? ⟨w2.heap.size, 2, none⟩ = some (.string nm) ∧ w'.cell? ⟨w2.heap.size, 3, none⟩ = some (.slice no as'.length ca) ∧ w'.cell? ⟨w2.heap.size, 4, none⟩ = some (.slice bo kids.length cb) ∧ w'.cell? ⟨w2.heap.size, 5, none⟩ = some (.string d) ∧ Below w3.heap.size w3 w') (first | exact ⟨x0, x1, x2, x3, x4, x5, (Below.refl _ _).drew⟩ | assumption)
    (first
      | (go_at_call 9; refine (amKeep6 (w0 := w3) (a0 := ⟨w2.heap.size, 0, none⟩) (a1 := ⟨w2.heap.size, 1, none⟩) (a2 := ⟨w2.heap.size, 2, none⟩) (a3 := ⟨w2.heap.size, 3, none⟩) (a4 := ⟨w2.heap.size, 4, none⟩) (a5 := ⟨w2.heap.size, 5, none⟩) (x0 := .int .i64 k) (x1 := .string sp) (x2 := .string nm) (x3 := .slice no as'.length ca) (x4 := .slice bo kids.length cb) (x5 := .string d) (fun W hb => c0.out W hb) ?_).mono ?_; (first | exact ⟨x0, x1, x2, x3, x4, x5, (Below.refl _ _).drew⟩ | assumption); rintro e w' ⟨rfl, hcb⟩)
      | (go_at_call 10; refine (amKeep6 (w0 := w3) (a0 := ⟨w2.heap.size, 0, none⟩) (a1 := ⟨w2.heap.size, 1, none⟩) (a2 := ⟨w2.heap.size, 2, none⟩) (a3 := ⟨w2.heap.size, 3, none⟩) (a4 := ⟨w2.heap.size, 4, none⟩) (a5 := ⟨w2.heap.size, 5, none⟩) (x0 := .int .i64 k) (x1 := .string sp) (x2 := .string nm) (x3 := .slice no as'.length ca) (x4 := .slice bo kids.length cb) (x5 := .string d) (fun W hb => c3.out W hb) ?_).mono ?_; (first | exact ⟨x0, x1, x2, x3, x4, x5, (Below.refl _ _).drew⟩ | assumption); rintro e w' ⟨rfl, hcb⟩)
      | (go_at_call 11; refine (amKeep6 (w0 := w3) (a0 := ⟨w2.heap.size, 0, none⟩) (a1 := ⟨w2.heap.size, 1, none⟩) (a2 := ⟨w2.heap.size, 2, none⟩) (a3 := ⟨w2.heap.size, 3, none⟩) (a4 := ⟨w2.heap.size, 4, none⟩) (a5 := ⟨w2.heap.size, 5, none⟩) (x0 := .int .i64 k) (x1 := .string sp) (x2 := .string nm) (x3 := .slice no as'.length ca) (x4 := .slice bo kids.length cb) (x5 := .string d) (fun W hb => c4.out W hb) ?_).mono ?_; (first | exact ⟨x0, x1, x2, x3, x4, x5, (Below.refl _ _).drew⟩ | assumption); rintro e w' ⟨rfl, hcb⟩))
  all_goals
    obtain ⟨-, -, -, -, -, -, b6⟩ := hcb
    go_wp2_with fail
    go_ret
    exact ⟨by first | rfl | simp, g3.out.trans (b6.mono g3.out.size)⟩
end Go.Proofs.YtbaclacfadkjdaaGreatDoor
