/-
  What the program's words of references come to: Char, first; and errors.Is of the one error that is thrown.
-/
import Derived.Test.YtddpkfdmfoehiaaDoorProgRef
import Derived.LaidEql
import Derived.Stop.Asserts
import Derived.RowKitTokens
namespace Go.Proofs.YtddpkfdmfoehiaaDoor
open Go.RowKit Go.Extern.Stop Go.Stop Go.Extern

set_option maxRecDepth 100000 in
set_option maxHeartbeats 800000 in
theorem isWithin_any (c : Int) (L : List (Int × Int)) (b n cap : Nat) (w : World) (hL : PairsAt b L w) (hn : L.length ≤ 1000) (hln : L.length = n) :
    Calls Tryd.prog 46 #[.int .i64 c, .slice (some ⟨b, 0, none⟩) n cap] w fun e w' => e = .returned (.bool (G.any c L)) ∧ Below w.heap.size w w' := by
  have hln := Lib.hid hln
  go_enter Tryd.func46, Tryd.ntmps46
  go_wp2_with fail
  go_loopw [9] (fun i wr => ∃ k : Nat, k ≤ n ∧ i = .int .i64 (k : Int) ∧ Hid (G.any c (L.take k) = false) ∧ Below w.heap.size w wr) (fun i _ => n - (intOf i).toNat)
  case atStart => exact ⟨0, Nat.zero_le _, rfl, Lib.hid rfl, Below.refl _ _⟩
  case round =>
    obtain ⟨k, hk, rfl, hall, bw⟩ := hrel
    by_cases hlt : k < n
    · obtain ⟨c0, c1⟩ := hL k (by rw [hln.out]; exact hlt)
      have d0 := (bw.cell (World.block_lt_of_cell? w _ c0)).trans c0
      have d1 := (bw.cell (World.block_lt_of_cell? w _ c1)).trans c1
      have hkl : k < L.length := by rw [hln.out]; exact hlt
      have hst := Lib.hid (G.any_take c L k hkl)
      have hat := Lib.hid (G.any_at c L k hkl)
      generalize L[k].1 = x at c0 d0 hst hat
      generalize L[k].2 = y at c1 d1 hst hat
      rw [Nat.mul_comm] at d0 d1
      clear c0 c1 hL
      by_cases hx : x ≤ c
      · by_cases hy : c ≤ y
        · have hr := Lib.hid (hat.out (by simp [G.inR, hx, hy]))
          go_wp2
          go_ret
          exact ⟨ret_bool hr.out.symm, bw.alloc bw.size _⟩
        · have hr := Lib.hid (show G.any c (L.take (k + 1)) = false by rw [hst.out, hall.out]; simp [G.inR, hx, hy])
          go_wp2
          go_roundw
          case rel => exact ⟨k + 1, by omega, by go_num, hr, bw.alloc bw.size _⟩
          case measure => simp [intOf]; omega
      · have hr := Lib.hid (show G.any c (L.take (k + 1)) = false by rw [hst.out, hall.out]; simp [G.inR, hx])
        go_wp2
        go_roundw
        case rel => exact ⟨k + 1, by omega, by go_num, hr, bw.alloc bw.size _⟩
        case measure => simp [intOf]; omega
    · have hfull : L.take k = L := List.take_of_length_le (by rw [hln.out]; omega)
      rw [hfull] at hall
      clear hfull
      go_wp2
      go_ret
      exact ⟨ret_bool hall.out.symm, bw⟩

set_option maxRecDepth 100000 in
set_option maxHeartbeats 1600000 in
theorem gChar_at (c : Int) (w : World) :
    Calls Tryd.prog 35 #[.int .i64 c] w fun e w' => e = .returned (.bool (G.char c)) ∧ Below w.heap.size w w' := by
  have hm : G.char c = G.any c [(9, 10), (13, 13), (32, 55295), (57344, 65533), (65536, 1114111)] := by simp [G.any, G.char, Bool.or_assoc]
  rw [hm]
  clear hm
  go_enter Tryd.func35, Tryd.ntmps35
  go_wp2_with fail
  (with_reducible refine (isWithin_any c [(9, 10), (13, 13), (32, 55295), (57344, 65533), (65536, 1114111)] w.heap.size 5 _ _ ?_ (by decide) rfl).mono ?_)
  · exact pairsAt_cells (heap_alloc_new w _)
  rintro e w1 ⟨rfl, b1⟩
  have b0 := (Below.refl w.heap.size w).alloc (Nat.le_refl _)
  go_wp2
  go_ret
  exact ⟨rfl, (b0 _).trans (b1.mono (b0 _).size)⟩

/-! ### cut at a byte -/
theorem below_drewN {B : Nat} {a w : World} (h : Below B a w) (n : Nat) : Below B a (w.drewN n) := ⟨h.os, h.tape, h.output, h.size, h.block⟩
theorem cut_yes {s p : ByteArray} {c : UInt8} (hp : p.data.toList = [c]) {t u : ByteArray} (w : World) (hs : s.size ≤ 1000000) (hE : Env w) (h : E.parts c s.data.toList = some (t.data.toList, u.data.toList)) :
    Calls Tryd.prog 26 #[.string s, .string p] w fun e w' => e = .returned (.tuple #[.string t, .string u, .bool true]) ∧ Below w.heap.size w w' := by
  obtain ⟨⟨m, hm⟩, _⟩ := hE.at
  refine (Tryd.strings_Cut s p m w (by omega) hm).mono ?_
  rintro e w' ⟨rfl, n, rfl⟩
  rw [hp, E.cut_hit h]
  exact ⟨rfl, below_drewN (Below.refl _ _) _⟩
theorem cut_no {s p : ByteArray} {c : UInt8} (hp : p.data.toList = [c]) (w : World) (hs : s.size ≤ 1000000) (hE : Env w) (h : E.parts c s.data.toList = none) :
    Calls Tryd.prog 26 #[.string s, .string p] w fun e w' => e = .returned (.tuple #[.string s, .string ⟨#[]⟩, .bool false]) ∧ Below w.heap.size w w' := by
  obtain ⟨⟨m, hm⟩, _⟩ := hE.at
  refine (Tryd.strings_Cut s p m w (by omega) hm).mono ?_
  rintro e w' ⟨rfl, n, rfl⟩
  rw [hp, E.cut_miss h]
  exact ⟨rfl, below_drewN (Below.refl _ _) _⟩
theorem parted {s : ByteArray} {c : UInt8} {a r : List UInt8} (h : E.parts c s.data.toList = some (a, r)) :
    ∃ t u : ByteArray, t.data.toList = a ∧ u.data.toList = r ∧ t.size + 1 + u.size = s.size := by
  refine ⟨⟨a.toArray⟩, ⟨r.toArray⟩, rfl, rfl, ?_⟩
  have e := congrArg List.length (E.parts_append h)
  rw [list_len] at e
  simp at e
  show a.toArray.size + 1 + r.toArray.size = s.size
  simp
  omega

/-! ### first -/
/-- What is thrown. -/
def thrown (a : Addr) : List PanicEntry := [{ v := .iface 108 (.pointer (some a)), recovered := false }]

set_option maxRecDepth 100000 in
set_option maxHeartbeats 1600000 in
theorem first_yes (s t u : ByteArray) (w : World) (hs : s.size ≤ 1000000) (hE : Env w) (h : E.semi s.data.toList = some (t.data.toList, u.data.toList)) (ht : t.size ≤ 1000000) (hc : G.char (E.pointN t.data.toList : Nat) = true) :
    Calls Tryd.prog 27 #[.string s] w fun e w' => e = .returned (.tuple #[.int .i32 (E.pointN t.data.toList : Nat), .string u]) ∧ Below w.heap.size w w' := by
  rw [E.semi_parts] at h
  have c1 := cut_yes (p := ⟨#[59]⟩) (c := 59) rfl w hs hE h
  have c2 := fun w (hE : Env w) => point_any t w ht hE
  have hle : E.pointN t.data.toList ≤ 1114111 := by
    simp [G.char, G.inR] at hc
    omega
  generalize E.pointN t.data.toList = n at *
  have hc := Lib.hid hc
  clear h
  go_enter Tryd.func27, Tryd.ntmps27
  go_wp2_with fail
  (with_reducible refine c1.mono ?_)
  rintro e w1 ⟨rfl, b1⟩
  go_wp2_with fail
  (with_reducible refine (c2 _ (hE.on b1)).mono ?_)
  rintro e w2 ⟨rfl, b2⟩
  replace b2 := b1.trans (b2.mono b1.size)
  go_wp2_with fail
  (with_reducible refine (gChar_at _ _).mono ?_)
  rintro e w3 ⟨rfl, b3⟩
  rw [hc.out]
  replace b3 := b2.trans (b3.mono b2.size)
  go_wp2
  go_ret2
  exact ⟨rfl, b3⟩

set_option maxRecDepth 100000 in
set_option maxHeartbeats 1600000 in
theorem first_odd (s t u : ByteArray) (a : Addr) (w : World) (hs : s.size ≤ 1000000) (hE : Env w) (hv : w.cell? ⟨0, 0, none⟩ = some (.iface 108 (.pointer (some a)))) (h : E.semi s.data.toList = some (t.data.toList, u.data.toList)) (ht : t.size ≤ 1000000) (hc : G.char (E.pointN t.data.toList : Nat) = false) :
    Calls Tryd.prog 27 #[.string s] w fun e w' => e = .panicked (thrown a) ∧ Below w.heap.size w w' := by
  rw [E.semi_parts] at h
  have c1 := cut_yes (p := ⟨#[59]⟩) (c := 59) rfl w hs hE h
  have c2 := fun w (hE : Env w) => point_any t w ht hE
  have hb := World.block_lt_of_cell? w _ hv
  generalize E.pointN t.data.toList = n at *
  have hc := Lib.hid hc
  clear h
  go_enter Tryd.func27, Tryd.ntmps27
  go_wp2_with fail
  (with_reducible refine c1.mono ?_)
  rintro e w1 ⟨rfl, b1⟩
  go_wp2_with fail
  (with_reducible refine (c2 _ (hE.on b1)).mono ?_)
  rintro e w2 ⟨rfl, b2⟩
  replace b2 := b1.trans (b2.mono b1.size)
  go_wp2_with fail
  (with_reducible refine (gChar_at _ _).mono ?_)
  rintro e w3 ⟨rfl, b3⟩
  rw [hc.out]
  replace b3 := b2.trans (b3.mono b2.size)
  have hv3 := (b3.cell hb).trans hv
  go_wp2
  exact ⟨rfl, rfl, b3⟩

set_option maxRecDepth 100000 in
set_option maxHeartbeats 1600000 in
theorem first_none (s : ByteArray) (a : Addr) (w : World) (hs : s.size ≤ 1000000) (hE : Env w) (hv : w.cell? ⟨0, 0, none⟩ = some (.iface 108 (.pointer (some a)))) (h : E.semi s.data.toList = none) :
    Calls Tryd.prog 27 #[.string s] w fun e w' => e = .panicked (thrown a) ∧ Below w.heap.size w w' := by
  rw [E.semi_parts] at h
  have c1 := cut_no (p := ⟨#[59]⟩) (c := 59) rfl w hs hE h
  have c2 := fun w (hE : Env w) => point_any s w hs hE
  have hb := World.block_lt_of_cell? w _ hv
  generalize E.pointN s.data.toList = n at *
  clear h
  go_enter Tryd.func27, Tryd.ntmps27
  go_wp2_with fail
  (with_reducible refine c1.mono ?_)
  rintro e w1 ⟨rfl, b1⟩
  go_wp2_with fail
  (with_reducible refine (c2 _ (hE.on b1)).mono ?_)
  rintro e w2 ⟨rfl, b2⟩
  replace b2 := b1.trans (b2.mono b1.size)
  have hv2 := (b2.cell hb).trans hv
  go_wp2
  exact ⟨rfl, rfl, b2⟩

/-! ### errors.Is of the error itself -/
theorem isTypeOf (v : Value) (w : World) : (Extern.ReflectliteType.typeOf #[.iface 108 v]).run Tryd.prog w = .ok (.iface 78 (.agg #[typeHandle Tryd.prog 108])) w := by kernel_rfl
theorem isComparable (w : World) : ((Extern.ReflectliteType.method fun t => do Extern.Rtype.noPackHeld "Comparable" t; (fun a => Value.bool a.comparable) <$> typeInfo t) #[.agg #[typeHandle Tryd.prog 108]]).run Tryd.prog w = .ok (.bool true) w := by kernel_rfl
theorem isMethodComparable (n : Nat) (v : Value) (w : World) : (Go.method (n + 1) 78 v "Comparable").run Tryd.prog w = .ok (103, v) w := by kernel_rfl
theorem isComp : (Tryd.prog.info? 108).map (·.comparable) = some true := by kernel_rfl
theorem isSize : (Tryd.prog.info? 110).map (·.size) = some 1 := by kernel_rfl

set_option maxRecDepth 100000 in
set_option maxHeartbeats 1600000 in
theorem is_same (a : Addr) (w : World) :
    Calls Tryd.prog 32 #[.iface 108 (.pointer (some a)), .iface 108 (.pointer (some a))] w fun e w' => e = .returned (.bool true) ∧ w = w' := by
  obtain ⟨i, hi, hcmp⟩ := Option.map_eq_some_iff.1 isComp
  obtain ⟨j, hj, hjs⟩ := Option.map_eq_some_iff.1 isSize
  have h8 := @run_callFunc_extern Tryd.prog 40 _ Extern.ReflectliteType.typeOf Tryd.func40 (by kernel_rfl) (by kernel_rfl) (by kernel_rfl) (by kernel_rfl)
  have h32 := @run_callFunc_extern Tryd.prog 103 _ (Extern.ReflectliteType.method fun t => do Extern.Rtype.noPackHeld "Comparable" t; pure (Value.bool (← typeInfo t).comparable)) Tryd.func103 (by kernel_rfl) (by kernel_rfl) (by kernel_rfl) (by kernel_rfl)
  have tT := isTypeOf
  have cT := isComparable
  have mR := isMethodComparable
  have heq := run_eql_iface_ptr_same (P := Tryd.prog) w a Tryd.underlying42 Tryd.underlying108 hi hcmp hj
  go_enter Tryd.func32, Tryd.ntmps32
  go_wp2
  refine wp_loop_rounds 1 ?_
  rw [rounds_succ]
  go_wp2
  go_ret
  exact ⟨rfl, rfl⟩
end Go.Proofs.YtddpkfdmfoehiaaDoor
