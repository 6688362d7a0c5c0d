/-
  What the program's words of references come to: Char, first; and errors.Is of the one error that is thrown.
-/
import Derived.Test.YtmeliljioagipaaGreatDoorProgRef
import Derived.LaidEql
import Derived.Stop.Asserts
import Derived.RowKitTokens
namespace Go.Proofs.YtmeliljioagipaaGreatDoor
open Go.RowKit Go.Extern.Stop Go.Stop Go.Extern

/-! ### cut at a byte -/
theorem below_drewN {B : Nat} {a w : World} (h : Below B a w) (n : Nat) : Below B a (w.drewN n) := ⟨h.os, h.tape, h.output, h.size, h.block⟩
theorem cut_yes {s p : ByteArray} {c : UInt8} (hp : p.data.toList = [c]) {t u : ByteArray} (w : World) (hs : s.size ≤ 1000000) (hE : Env w) (h : E.parts c s.data.toList = some (t.data.toList, u.data.toList)) :
    Calls Tryz.prog 45 #[.string s, .string p] w fun e w' => e = .returned (.tuple #[.string t, .string u, .bool true]) ∧ Below w.heap.size w w' := by
  obtain ⟨⟨m, hm⟩, _⟩ := hE.at
  refine (Tryz.strings_Cut s p m w (by omega) hm).mono ?_
  rintro e w' ⟨rfl, n, rfl⟩
  rw [hp, E.cut_hit h]
  exact ⟨rfl, below_drewN (Below.refl _ _) _⟩
theorem cut_no {s p : ByteArray} {c : UInt8} (hp : p.data.toList = [c]) (w : World) (hs : s.size ≤ 1000000) (hE : Env w) (h : E.parts c s.data.toList = none) :
    Calls Tryz.prog 45 #[.string s, .string p] w fun e w' => e = .returned (.tuple #[.string s, .string ⟨#[]⟩, .bool false]) ∧ Below w.heap.size w w' := by
  obtain ⟨⟨m, hm⟩, _⟩ := hE.at
  refine (Tryz.strings_Cut s p m w (by omega) hm).mono ?_
  rintro e w' ⟨rfl, n, rfl⟩
  rw [hp, E.cut_miss h]
  exact ⟨rfl, below_drewN (Below.refl _ _) _⟩
theorem parted {s : ByteArray} {c : UInt8} {a r : List UInt8} (h : E.parts c s.data.toList = some (a, r)) :
    ∃ t u : ByteArray, t.data.toList = a ∧ u.data.toList = r ∧ t.size + 1 + u.size = s.size := by
  refine ⟨⟨a.toArray⟩, ⟨r.toArray⟩, rfl, rfl, ?_⟩
  have e := congrArg List.length (E.parts_append h)
  rw [list_len] at e
  simp at e
  show a.toArray.size + 1 + r.toArray.size = s.size
  simp
  omega

/-! ### first -/
/-- What is thrown. -/
def thrown (a : Addr) : List PanicEntry := [{ v := .iface 161 (.pointer (some a)), recovered := false }]

set_option maxRecDepth 100000 in
set_option maxHeartbeats 1600000 in
theorem first_yes (s t u : ByteArray) (w : World) (hs : s.size ≤ 1000000) (hE : Env w) (h : E.semi s.data.toList = some (t.data.toList, u.data.toList)) (ht : t.size ≤ 1000000) (hc : G.char (E.pointN t.data.toList : Nat) = true) :
    Calls Tryz.prog 86 #[.string s] w fun e w' => e = .returned (.tuple #[.int .i32 (E.pointN t.data.toList : Nat), .string u]) ∧ Below w.heap.size w w' := by
  rw [E.semi_parts] at h
  have c1 := cut_yes (p := ⟨#[59]⟩) (c := 59) rfl w hs hE h
  have c2 := fun w (hE : Env w) => point_any t w ht hE
  have hle : E.pointN t.data.toList ≤ 1114111 := by
    simp [G.char, G.inR] at hc
    omega
  generalize E.pointN t.data.toList = n at *
  have hc := Lib.hid hc
  clear h
  go_enter Tryz.func86, Tryz.ntmps86
  go_wp2_with fail
  (with_reducible refine c1.mono ?_)
  rintro e w1 ⟨rfl, b1⟩
  go_wp2_with fail
  (with_reducible refine (c2 _ (hE.on b1)).mono ?_)
  rintro e w2 ⟨rfl, b2⟩
  replace b2 := b1.trans (b2.mono b1.size)
  go_wp2_with fail
  (with_reducible refine (gChar_at _ _).mono ?_)
  rintro e w3 ⟨rfl, b3⟩
  rw [hc.out]
  replace b3 := b2.trans (b3.mono b2.size)
  go_wp2
  go_ret2
  exact ⟨rfl, b3⟩

set_option maxRecDepth 100000 in
set_option maxHeartbeats 1600000 in
theorem first_odd (s t u : ByteArray) (a : Addr) (w : World) (hs : s.size ≤ 1000000) (hE : Env w) (hv : w.cell? ⟨6, 0, none⟩ = some (.iface 161 (.pointer (some a)))) (h : E.semi s.data.toList = some (t.data.toList, u.data.toList)) (ht : t.size ≤ 1000000) (hc : G.char (E.pointN t.data.toList : Nat) = false) :
    Calls Tryz.prog 86 #[.string s] w fun e w' => e = .panicked (thrown a) ∧ Below w.heap.size w w' := by
  rw [E.semi_parts] at h
  have c1 := cut_yes (p := ⟨#[59]⟩) (c := 59) rfl w hs hE h
  have c2 := fun w (hE : Env w) => point_any t w ht hE
  have hb := World.block_lt_of_cell? w _ hv
  generalize E.pointN t.data.toList = n at *
  have hc := Lib.hid hc
  clear h
  go_enter Tryz.func86, Tryz.ntmps86
  go_wp2_with fail
  (with_reducible refine c1.mono ?_)
  rintro e w1 ⟨rfl, b1⟩
  go_wp2_with fail
  (with_reducible refine (c2 _ (hE.on b1)).mono ?_)
  rintro e w2 ⟨rfl, b2⟩
  replace b2 := b1.trans (b2.mono b1.size)
  go_wp2_with fail
  (with_reducible refine (gChar_at _ _).mono ?_)
  rintro e w3 ⟨rfl, b3⟩
  rw [hc.out]
  replace b3 := b2.trans (b3.mono b2.size)
  have hv3 := (b3.cell hb).trans hv
  go_wp2
  exact ⟨rfl, rfl, b3⟩

set_option maxRecDepth 100000 in
set_option maxHeartbeats 1600000 in
theorem first_none (s : ByteArray) (a : Addr) (w : World) (hs : s.size ≤ 1000000) (hE : Env w) (hv : w.cell? ⟨6, 0, none⟩ = some (.iface 161 (.pointer (some a)))) (h : E.semi s.data.toList = none) :
    Calls Tryz.prog 86 #[.string s] w fun e w' => e = .panicked (thrown a) ∧ Below w.heap.size w w' := by
  rw [E.semi_parts] at h
  have c1 := cut_no (p := ⟨#[59]⟩) (c := 59) rfl w hs hE h
  have c2 := fun w (hE : Env w) => point_any s w hs hE
  have hb := World.block_lt_of_cell? w _ hv
  generalize E.pointN s.data.toList = n at *
  clear h
  go_enter Tryz.func86, Tryz.ntmps86
  go_wp2_with fail
  (with_reducible refine c1.mono ?_)
  rintro e w1 ⟨rfl, b1⟩
  go_wp2_with fail
  (with_reducible refine (c2 _ (hE.on b1)).mono ?_)
  rintro e w2 ⟨rfl, b2⟩
  replace b2 := b1.trans (b2.mono b1.size)
  have hv2 := (b2.cell hb).trans hv
  go_wp2
  exact ⟨rfl, rfl, b2⟩

/-! ### errors.Is of the error itself -/
theorem isTypeOf (v : Value) (w : World) : (Extern.ReflectliteType.typeOf #[.iface 161 v]).run Tryz.prog w = .ok (.iface 138 (.agg #[typeHandle Tryz.prog 161])) w := by kernel_rfl
theorem isComparable (w : World) : ((Extern.ReflectliteType.method fun t => do Extern.Rtype.noPackHeld "Comparable" t; (fun a => Value.bool a.comparable) <$> typeInfo t) #[.agg #[typeHandle Tryz.prog 161]]).run Tryz.prog w = .ok (.bool true) w := by kernel_rfl
theorem isMethodComparable (n : Nat) (v : Value) (w : World) : (Go.method (n + 1) 138 v "Comparable").run Tryz.prog w = .ok (150, v) w := by kernel_rfl
theorem isComp : (Tryz.prog.info? 161).map (·.comparable) = some true := by kernel_rfl
theorem isSize : (Tryz.prog.info? 163).map (·.size) = some 1 := by kernel_rfl

set_option maxRecDepth 100000 in
set_option maxHeartbeats 1600000 in
theorem is_same (a : Addr) (w : World) :
    Calls Tryz.prog 95 #[.iface 161 (.pointer (some a)), .iface 161 (.pointer (some a))] w fun e w' => e = .returned (.bool true) ∧ w = w' := by
  obtain ⟨i, hi, hcmp⟩ := Option.map_eq_some_iff.1 isComp
  obtain ⟨j, hj, hjs⟩ := Option.map_eq_some_iff.1 isSize
  have h8 := @run_callFunc_extern Tryz.prog 100 _ Extern.ReflectliteType.typeOf Tryz.func100 (by kernel_rfl) (by kernel_rfl) (by kernel_rfl) (by kernel_rfl)
  have h32 := @run_callFunc_extern Tryz.prog 150 _ (Extern.ReflectliteType.method fun t => do Extern.Rtype.noPackHeld "Comparable" t; pure (Value.bool (← typeInfo t).comparable)) Tryz.func150 (by kernel_rfl) (by kernel_rfl) (by kernel_rfl) (by kernel_rfl)
  have tT := isTypeOf
  have cT := isComparable
  have mR := isMethodComparable
  have heq := run_eql_iface_ptr_same (P := Tryz.prog) w a Tryz.underlying80 Tryz.underlying161 hi hcmp hj
  go_enter Tryz.func95, Tryz.ntmps95
  go_wp2
  refine wp_loop_rounds 1 ?_
  rw [rounds_succ]
  go_wp2
  go_ret
  exact ⟨rfl, rfl⟩
end Go.Proofs.YtmeliljioagipaaGreatDoor
