/-
  What the program's own Parse answers, in one form; awake.
-/
import Derived.Test.YtcjlhdmekhifaaaGreatDoorD41
import Derived.Test.YtcjlhdmekhifaaaGreatDoorD07
namespace Go.Proofs.YtcjlhdmekhifaaaGreatDoor
open Go.RowKit

namespace Gv
def zero : Node := .mk 0 ⟨#[]⟩ ⟨#[]⟩ [] [] ⟨#[]⟩
def nodeOf (l : List UInt8) : Node := match parse l with | .ok n => n | .error _ => zero
def errOf (l : List UInt8) : Int := match parse l with | .ok _ => 0 | .error e => (e : Int)
theorem of_ok {l : List UInt8} {n : Node} (h : parse l = .ok n) : nodeOf l = n ∧ errOf l = 0 := by unfold nodeOf errOf; rw [h]; exact ⟨rfl, rfl⟩
theorem of_err {l : List UInt8} {e : Nat} (h : parse l = .error e) : nodeOf l = zero ∧ errOf l = (e : Int) := by unfold nodeOf errOf; rw [h]; exact ⟨rfl, rfl⟩
theorem awake_parse : parse [60, 97, 32, 120, 109, 108, 110, 115, 61, 39, 117, 39, 32, 98, 61, 39, 49, 39, 62, 120, 60, 33, 45, 45, 99, 45, 45, 62, 60, 47, 97, 62] = .ok (.mk 0 ⟨#[117]⟩ ⟨#[97]⟩ [⟨⟨#[]⟩, ⟨#[98]⟩, ⟨#[49]⟩⟩] [.mk 1 ⟨#[]⟩ ⟨#[]⟩ [] [] ⟨#[120]⟩, .mk 2 ⟨#[]⟩ ⟨#[]⟩ [] [] ⟨#[99]⟩] ⟨#[]⟩) := by rfl
theorem awake_nest : parse [60, 97, 62, 60, 98, 62, 60, 47, 97, 62, 60, 47, 98, 62] = .error 90 := by rfl
end Gv

theorem gParse_form (s : ByteArray) (w : World) (hs : s.size ≤ 1000000) (hE : Env w) : Calls Tryz.prog 5 #[.string s] w fun x w' => ∃ (k : Int) (sp nm d : ByteArray) (ao bo : Option Addr) (n1 c1 n2 c2 : Nat),
    x = .returned (.tuple #[.agg #[.int .i64 k, .string sp, .string nm, .slice ao n1 c1, .slice bo n2 c2, .string d], .int .i64 (Gv.errOf s.data.toList)]) ∧ NodeAt (fun _ => True) w' [.int .i64 k, .string sp, .string nm, .slice ao n1 c1, .slice bo n2 c2, .string d] (Gv.nodeOf s.data.toList) ∧ Below w.heap.size w w' := by
  refine (gParse_any s w hs hE).mono ?_
  rintro x w' ⟨b, h⟩
  cases hp : Gv.parse s.data.toList with
  | error e =>
    rw [hp] at h
    obtain ⟨e1, e2⟩ := Gv.of_err hp
    rw [e1, e2]
    exact ⟨0, ⟨#[]⟩, ⟨#[]⟩, ⟨#[]⟩, none, none, 0, 0, 0, 0, h, node_plain _ _ 0 ⟨#[]⟩ ⟨#[]⟩ ⟨#[]⟩, b⟩
  | ok n =>
    rw [hp] at h
    obtain ⟨e1, e2⟩ := Gv.of_ok hp
    rw [e1, e2]
    obtain ⟨k, sp, nm, d, va, vk, rfl, hN⟩ := h
    obtain ⟨k', sp', nm', d', as', kids', ao', bo', ca', cb', cs', -, e3, -⟩ := hN.open'
    simp only [List.cons.injEq, and_true] at e3
    obtain ⟨-, -, -, e6, e7, -⟩ := e3
    subst e6 e7
    exact ⟨k, sp, nm, d, ao', bo', _, ca', _, cb', rfl, hN, b⟩

/-- the tree that awake writes down. -/
theorem lit_awake (w : World) : NodeAt (fun _ => True) ((w.alloc (.cells #[.string ⟨#[]⟩, .string ⟨#[98]⟩, .string ⟨#[49]⟩] 47)).alloc (.cells #[.int .i64 1, .string ⟨#[]⟩, .string ⟨#[]⟩, .slice none 0 0, .slice none 0 0, .string ⟨#[120]⟩, .int .i64 2, .string ⟨#[]⟩, .string ⟨#[]⟩, .slice none 0 0, .slice none 0 0, .string ⟨#[99]⟩] 26))
    [.int .i64 0, .string ⟨#[117]⟩, .string ⟨#[97]⟩, .slice (some ⟨w.heap.size, 0, none⟩) 1 1, .slice (some ⟨w.heap.size + 1, 0, none⟩) 2 2, .string ⟨#[]⟩] (.mk 0 ⟨#[117]⟩ ⟨#[97]⟩ [⟨⟨#[]⟩, ⟨#[98]⟩, ⟨#[49]⟩⟩] [.mk 1 ⟨#[]⟩ ⟨#[]⟩ [] [] ⟨#[120]⟩, .mk 2 ⟨#[]⟩ ⟨#[]⟩ [] [] ⟨#[99]⟩] ⟨#[]⟩) := by
  have k1 := (Cells.new w 47 #[.string ⟨#[]⟩, .string ⟨#[98]⟩, .string ⟨#[49]⟩]).alloc (.cells #[.int .i64 1, .string ⟨#[]⟩, .string ⟨#[]⟩, .slice none 0 0, .slice none 0 0, .string ⟨#[120]⟩, .int .i64 2, .string ⟨#[]⟩, .string ⟨#[]⟩, .slice none 0 0, .slice none 0 0, .string ⟨#[99]⟩] 26)
  have k2 := Cells.new (w.alloc (.cells #[.string ⟨#[]⟩, .string ⟨#[98]⟩, .string ⟨#[49]⟩] 47)) 26 #[.int .i64 1, .string ⟨#[]⟩, .string ⟨#[]⟩, .slice none 0 0, .slice none 0 0, .string ⟨#[120]⟩, .int .i64 2, .string ⟨#[]⟩, .string ⟨#[]⟩, .slice none 0 0, .slice none 0 0, .string ⟨#[99]⟩]
  rw [World.size_alloc] at k2
  refine .mk (fun j => if j = 0 then [.int .i64 1, .string ⟨#[]⟩, .string ⟨#[]⟩, .slice none 0 0, .slice none 0 0, .string ⟨#[120]⟩] else [.int .i64 2, .string ⟨#[]⟩, .string ⟨#[]⟩, .slice none 0 0, .slice none 0 0, .string ⟨#[99]⟩]) ⟨by unfold maxLen; simp, by unfold maxLen; simp⟩ ⟨_, 1, rfl, by simp, fun j hj => ⟨w.heap.size, 0, rfl, trivial, fun i u hu => ?_⟩⟩ ⟨_, 2, rfl, fun j hj => ⟨by dsimp only; split <;> rfl, w.heap.size + 1, 0, rfl, trivial, fun i u hu => ?_⟩⟩ (fun j hj => ?_)
  · obtain rfl : j = 0 := by simp at hj; exact hj
    refine k1.cell ?_
    match i, hu with
    | 0, hu => exact hu
    | 1, hu => exact hu
    | 2, hu => exact hu
  · have : j = 0 ∨ j = 1 := by simp at hj; omega
    rcases this with rfl | rfl
    · refine k2.cell ?_
      match i, hu with
      | 0, hu => exact hu
      | 1, hu => exact hu
      | 2, hu => exact hu
      | 3, hu => exact hu
      | 4, hu => exact hu
      | 5, hu => exact hu
    · refine k2.cell ?_
      match i, hu with
      | 0, hu => exact hu
      | 1, hu => exact hu
      | 2, hu => exact hu
      | 3, hu => exact hu
      | 4, hu => exact hu
      | 5, hu => exact hu
  · have : j = 0 ∨ j = 1 := by simp at hj; omega
    rcases this with rfl | rfl
    · exact node_plain _ _ 1 ⟨#[]⟩ ⟨#[]⟩ ⟨#[120]⟩
    · exact node_plain _ _ 2 ⟨#[]⟩ ⟨#[]⟩ ⟨#[99]⟩

set_option maxRecDepth 100000 in
set_option maxHeartbeats 3200000 in
theorem awake_any (w : World) (hE : Env w) : Calls Tryz.prog 7 #[] w fun e w' => e = .returned (.bool true) ∧ Below w.heap.size w w' := by
  have a1 := Lib.hid (Gv.of_ok Gv.awake_parse)
  have a2 := Lib.hid (Gv.of_err Gv.awake_nest)
  go_enter Tryz.func7, Tryz.ntmps7
  have t0 := Below.refl w.heap.size w
  go_wp2_with fail
  (with_reducible refine (gParse_form _ _ (by decide) hE).mono ?_)
  rintro x w1 ⟨k, sp, nm, d, ao, bo, n1, c1, n2, c2, rfl, hN, b1⟩
  rw [show Gv.errOf _ = 0 from a1.out.2]
  rw [show Gv.nodeOf _ = _ from a1.out.1] at hN
  have t1 := t0.trans (b1.mono t0.size)
  have bN := (Below.refl w1.heap.size w1).alloc (Nat.le_refl _) (.cells #[.int .i64 k, .string sp, .string nm, .slice ao n1 c1, .slice bo n2 c2, .string d] 26)
  have kA := Cells.new w1 26 #[.int .i64 k, .string sp, .string nm, .slice ao n1 c1, .slice bo n2 c2, .string d]
  have t2 := t1.trans (bN.mono t1.size)
  have hN1 := hN.on bN
  clear b1 hN
  go_wp2_with fail
  (with_reducible refine (gParse_form _ _ (by decide) (hE.on t2)).mono ?_)
  rintro x w3 ⟨k2, sp2, nm2, d2, ao2, bo2, m1, e1, m2, e2, rfl, -, b3⟩
  rw [show Gv.errOf _ = ((90 : Nat) : Int) from a2.out.2]
  have t3 := t2.trans (b3.mono t2.size)
  have kA3 := kA.on b3
  have hN3 := hN1.on b3
  have hw3 : w1.heap.size < w3.heap.size := kA3.lt
  clear b3 kA hN1 bN t1
  have b4 := (Below.refl w3.heap.size w3).alloc (Nat.le_refl _) (.cells #[.int .i64 k2, .string sp2, .string nm2, .slice ao2 m1 e1, .slice bo2 m2 e2, .string d2] 26)
  have x0 := kA3.cell (i := 0) (v := .int .i64 k) rfl
  have x1 := kA3.cell (i := 1) (v := .string sp) rfl
  have x2 := kA3.cell (i := 2) (v := .string nm) rfl
  have x3 := kA3.cell (i := 3) (v := .slice ao n1 c1) rfl
  have x4 := kA3.cell (i := 4) (v := .slice bo n2 c2) rfl
  have x5 := kA3.cell (i := 5) (v := .string d) rfl
  have hne : ¬ w1.heap.size = w3.heap.size := by omega
  have hlit := lit_awake (w3.alloc (.cells #[.int .i64 k2, .string sp2, .string nm2, .slice ao2 m1 e1, .slice bo2 m2 e2, .string d2] 26))
  have b5 := (b4.alloc b4.size (.cells #[.string ⟨#[]⟩, .string ⟨#[98]⟩, .string ⟨#[49]⟩] 47)).alloc (by simp; omega) (.cells #[.int .i64 1, .string ⟨#[]⟩, .string ⟨#[]⟩, .slice none 0 0, .slice none 0 0, .string ⟨#[120]⟩, .int .i64 2, .string ⟨#[]⟩, .string ⟨#[]⟩, .slice none 0 0, .slice none 0 0, .string ⟨#[99]⟩] 26)
  rw [World.size_alloc] at hlit
  have t5 := t3.trans (b5.mono t3.size)
  have hsame := Lib.hid (refSameNode_any hN3 _ b5 _ _ _ hlit)
  clear hN3 hlit b4 b5 kA3
  go_wp2_with fail
  (refine hsame.out.mono ?_); rintro e w6 ⟨⟨r, rfl, hr⟩, b6⟩
  obtain rfl : r = true := hr.2 rfl
  have t6 := t5.trans (b6.mono t5.size)
  clear hsame b6 t5
  go_wp2_with fail
  go_ret
  exact ⟨rfl, t6⟩
end Go.Proofs.YtcjlhdmekhifaaaGreatDoor
