/-
  What the program's words of references come to: Char, first; and errors.Is of the one error that is thrown.
  A deferred call's region that draws its order, where it recovers: whatever order is drawn.
-/
import Derived.Test.YtcjlhdmekhifaaaGreatDoorD28
import Derived.LaidEql
import Derived.Stop.Asserts
import Derived.RowKitTokens
import Derived.Test.YtcjlhdmekhifaaaGreatDoorProg
import Derived.Recover
import Derived.Orders
namespace Go.Proofs.YtcjlhdmekhifaaaGreatDoor
open Go.RowKit Go.Extern.Stop Go.Stop Go.Extern

/-! ### cut at a byte -/
theorem below_drewN {B : Nat} {a w : World} (h : Below B a w) (n : Nat) : Below B a (w.drewN n) := ⟨h.os, h.tape, h.output, h.size, h.block⟩
theorem cut_yes {s p : ByteArray} {c : UInt8} (hp : p.data.toList = [c]) {t u : ByteArray} (w : World) (hs : s.size ≤ 1000000) (hE : Env w) (h : E.parts c s.data.toList = some (t.data.toList, u.data.toList)) :
    Calls Tryz.prog 106 #[.string s, .string p] w fun e w' => e = .returned (.tuple #[.string t, .string u, .bool true]) ∧ Below w.heap.size w w' := by
  obtain ⟨⟨m, hm⟩, _⟩ := hE.at
  refine (Tryz.strings_Cut s p m w (by omega) hm).mono ?_
  rintro e w' ⟨rfl, n, rfl⟩
  rw [hp, E.cut_hit h]
  exact ⟨rfl, below_drewN (Below.refl _ _) _⟩
theorem cut_no {s p : ByteArray} {c : UInt8} (hp : p.data.toList = [c]) (w : World) (hs : s.size ≤ 1000000) (hE : Env w) (h : E.parts c s.data.toList = none) :
    Calls Tryz.prog 106 #[.string s, .string p] w fun e w' => e = .returned (.tuple #[.string s, .string ⟨#[]⟩, .bool false]) ∧ Below w.heap.size w w' := by
  obtain ⟨⟨m, hm⟩, _⟩ := hE.at
  refine (Tryz.strings_Cut s p m w (by omega) hm).mono ?_
  rintro e w' ⟨rfl, n, rfl⟩
  rw [hp, E.cut_miss h]
  exact ⟨rfl, below_drewN (Below.refl _ _) _⟩
theorem parted {s : ByteArray} {c : UInt8} {a r : List UInt8} (h : E.parts c s.data.toList = some (a, r)) :
    ∃ t u : ByteArray, t.data.toList = a ∧ u.data.toList = r ∧ t.size + 1 + u.size = s.size := by
  refine ⟨⟨a.toArray⟩, ⟨r.toArray⟩, rfl, rfl, ?_⟩
  have e := congrArg List.length (E.parts_append h)
  rw [list_len] at e
  simp at e
  show a.toArray.size + 1 + r.toArray.size = s.size
  simp
  omega

/-! ### first -/
/-- What is thrown. -/
def thrown (a : Addr) : List PanicEntry := [{ v := .iface 222 (.pointer (some a)), recovered := false }]

set_option maxRecDepth 100000 in
set_option maxHeartbeats 1600000 in
theorem first_yes (s t u : ByteArray) (w : World) (hs : s.size ≤ 1000000) (hE : Env w) (h : E.semi s.data.toList = some (t.data.toList, u.data.toList)) (ht : t.size ≤ 1000000) (hc : G.char (E.pointN t.data.toList : Nat) = true) :
    Calls Tryz.prog 151 #[.string s] w fun e w' => e = .returned (.tuple #[.int .i32 (E.pointN t.data.toList : Nat), .string u]) ∧ Below w.heap.size w w' := by
  rw [E.semi_parts] at h
  have c1 := cut_yes (p := ⟨#[59]⟩) (c := 59) rfl w hs hE h
  have c2 := fun w (hE : Env w) => point_any t w ht hE
  have hle : E.pointN t.data.toList ≤ 1114111 := by
    simp [G.char, G.inR] at hc
    omega
  generalize E.pointN t.data.toList = n at *
  have hc := Lib.hid hc
  clear h
  go_enter Tryz.func151, Tryz.ntmps151
  go_wp2_with fail
  (with_reducible refine c1.mono ?_)
  rintro e w1 ⟨rfl, b1⟩
  go_wp2_with fail
  (with_reducible refine (c2 _ (hE.on b1)).mono ?_)
  rintro e w2 ⟨rfl, b2⟩
  replace b2 := b1.trans (b2.mono b1.size)
  go_wp2_with fail
  (with_reducible refine (gChar_at _ _).mono ?_)
  rintro e w3 ⟨rfl, b3⟩
  rw [hc.out]
  replace b3 := b2.trans (b3.mono b2.size)
  go_wp2
  go_ret2
  exact ⟨rfl, b3⟩

set_option maxRecDepth 100000 in
set_option maxHeartbeats 1600000 in
theorem first_odd (s t u : ByteArray) (a : Addr) (w : World) (hs : s.size ≤ 1000000) (hE : Env w) (hv : w.cell? ⟨6, 0, none⟩ = some (.iface 222 (.pointer (some a)))) (h : E.semi s.data.toList = some (t.data.toList, u.data.toList)) (ht : t.size ≤ 1000000) (hc : G.char (E.pointN t.data.toList : Nat) = false) :
    Calls Tryz.prog 151 #[.string s] w fun e w' => e = .panicked (thrown a) ∧ Below w.heap.size w w' := by
  rw [E.semi_parts] at h
  have c1 := cut_yes (p := ⟨#[59]⟩) (c := 59) rfl w hs hE h
  have c2 := fun w (hE : Env w) => point_any t w ht hE
  have hb := World.block_lt_of_cell? w _ hv
  generalize E.pointN t.data.toList = n at *
  have hc := Lib.hid hc
  clear h
  go_enter Tryz.func151, Tryz.ntmps151
  go_wp2_with fail
  (with_reducible refine c1.mono ?_)
  rintro e w1 ⟨rfl, b1⟩
  go_wp2_with fail
  (with_reducible refine (c2 _ (hE.on b1)).mono ?_)
  rintro e w2 ⟨rfl, b2⟩
  replace b2 := b1.trans (b2.mono b1.size)
  go_wp2_with fail
  (with_reducible refine (gChar_at _ _).mono ?_)
  rintro e w3 ⟨rfl, b3⟩
  rw [hc.out]
  replace b3 := b2.trans (b3.mono b2.size)
  have hv3 := (b3.cell hb).trans hv
  go_wp2
  exact ⟨rfl, rfl, b3⟩

set_option maxRecDepth 100000 in
set_option maxHeartbeats 1600000 in
theorem first_none (s : ByteArray) (a : Addr) (w : World) (hs : s.size ≤ 1000000) (hE : Env w) (hv : w.cell? ⟨6, 0, none⟩ = some (.iface 222 (.pointer (some a)))) (h : E.semi s.data.toList = none) :
    Calls Tryz.prog 151 #[.string s] w fun e w' => e = .panicked (thrown a) ∧ Below w.heap.size w w' := by
  rw [E.semi_parts] at h
  have c1 := cut_no (p := ⟨#[59]⟩) (c := 59) rfl w hs hE h
  have c2 := fun w (hE : Env w) => point_any s w hs hE
  have hb := World.block_lt_of_cell? w _ hv
  generalize E.pointN s.data.toList = n at *
  clear h
  go_enter Tryz.func151, Tryz.ntmps151
  go_wp2_with fail
  (with_reducible refine c1.mono ?_)
  rintro e w1 ⟨rfl, b1⟩
  go_wp2_with fail
  (with_reducible refine (c2 _ (hE.on b1)).mono ?_)
  rintro e w2 ⟨rfl, b2⟩
  replace b2 := b1.trans (b2.mono b1.size)
  have hv2 := (b2.cell hb).trans hv
  go_wp2
  exact ⟨rfl, rfl, b2⟩

/-! ### errors.Is of the error itself -/
theorem isTypeOf (v : Value) (w : World) : (Extern.ReflectliteType.typeOf #[.iface 222 v]).run Tryz.prog w = .ok (.iface 200 (.agg #[typeHandle Tryz.prog 222])) w := by kernel_rfl
theorem isComparable (w : World) : ((Extern.ReflectliteType.method fun t => do Extern.Rtype.noPackHeld "Comparable" t; (fun a => Value.bool a.comparable) <$> typeInfo t) #[.agg #[typeHandle Tryz.prog 222]]).run Tryz.prog w = .ok (.bool true) w := by kernel_rfl
theorem isMethodComparable (n : Nat) (v : Value) (w : World) : (Go.method (n + 1) 200 v "Comparable").run Tryz.prog w = .ok (220, v) w := by kernel_rfl
theorem isComp : (Tryz.prog.info? 222).map (·.comparable) = some true := by kernel_rfl
theorem isSize : (Tryz.prog.info? 224).map (·.size) = some 1 := by kernel_rfl

set_option maxRecDepth 100000 in
set_option maxHeartbeats 1600000 in
theorem is_same (a : Addr) (w : World) :
    Calls Tryz.prog 163 #[.iface 222 (.pointer (some a)), .iface 222 (.pointer (some a))] w fun e w' => e = .returned (.bool true) ∧ w = w' := by
  obtain ⟨i, hi, hcmp⟩ := Option.map_eq_some_iff.1 isComp
  obtain ⟨j, hj, hjs⟩ := Option.map_eq_some_iff.1 isSize
  have h8 := @run_callFunc_extern Tryz.prog 170 _ Extern.ReflectliteType.typeOf Tryz.func170 (by kernel_rfl) (by kernel_rfl) (by kernel_rfl) (by kernel_rfl)
  have h32 := @run_callFunc_extern Tryz.prog 220 _ (Extern.ReflectliteType.method fun t => do Extern.Rtype.noPackHeld "Comparable" t; pure (Value.bool (← typeInfo t).comparable)) Tryz.func220 (by kernel_rfl) (by kernel_rfl) (by kernel_rfl) (by kernel_rfl)
  have tT := isTypeOf
  have cT := isComparable
  have mR := isMethodComparable
  have heq := run_eql_iface_ptr_same (P := Tryz.prog) w a Tryz.underlying134 Tryz.underlying222 hi hcmp hj
  go_enter Tryz.func163, Tryz.ntmps163
  go_wp2
  refine wp_loop_rounds 1 ?_
  rw [rounds_succ]
  go_wp2
  go_ret
  exact ⟨rfl, rfl⟩
end Go.Proofs.YtcjlhdmekhifaaaGreatDoor
namespace Go.Proofs.YtcjlhdmekhifaaaGreatDoor
open Go

variable {P : Program} {ops : Array Oper} {Q : Exit → Act → List Frame → World → Prop} {md : Region.Mode}

def wpOpS (P : Program) (ops : Array Oper) (Q : Exit → Act → List Frame → World → Prop) (i : Nat) (K : Act → List Frame → World → Prop) (a : Act) (cs : List Frame) (w : World) : Prop :=
  match ops[i]? with
  | none => K a cs w
  | some o =>
    if Region.wanted o (yielded ops a.tmps) then
      match (execOp a.eval o).run P w with
      | .ok .recover w' =>
        match recoverD cs with
        | some (v, cs') => K (a.put o.dst v) cs' w'
        | none => K (a.put o.dst .nilIface) cs w'
      | r => o.upon P a (fun a' w' => K a' cs w') (fun e a' w' => Q e a' cs w') r
    else K (a.put o.dst undef) cs w

theorem wpOpsS_cons (i : Nat) (rest : List Nat) (a : Act) (cs : List Frame) (w : World) :
    wpOpsS P ops Q (i :: rest) a cs w = wpOpS P ops Q i (wpOpsS P ops Q rest) a cs w := by
  cases h : ops[i]? with
  | none => simp [wpOpsS, wpOpS, h]
  | some o =>
    simp only [wpOpsS, wpOpS, h]
    rfl

theorem upon_mono {o : Oper} {a : Act} {K K' : Act → World → Prop} {R : Exit → Act → World → Prop} {r : Result Next} (h : ∀ a w, K a w → K' a w) (hh : o.upon P a K R r) : o.upon P a K' R r := by
  cases r with
  | ok n w' =>
    cases n <;> simp only [Oper.upon] at hh ⊢ <;>
      first
        | exact h _ _ hh
        | exact Calls.mono hh (fun e w'' he => by cases e <;> first | exact h _ _ he | exact he)
        | exact Rows.mono hh (fun _ _ he => h _ _ he)
  | halt x w' => cases x <;> simp only [Oper.upon] at hh ⊢ <;> exact hh

theorem wpOpS_mono {i : Nat} {a : Act} {cs : List Frame} {w : World} {K K' : Act → List Frame → World → Prop} (h : ∀ a cs w, K a cs w → K' a cs w)
    (hh : wpOpS P ops Q i K a cs w) : wpOpS P ops Q i K' a cs w := by
  unfold wpOpS at *
  split
  · exact h _ _ _ (by simpa [*] using hh)
  · rename_i o ho
    simp only [ho] at hh
    split
    · rename_i hw
      simp only [hw, if_true] at hh
      split
      · rename_i w' hr
        rw [hr] at hh
        simp only at hh
        split
        · rename_i v cs' hrec
          rw [hrec] at hh
          exact h _ _ _ hh
        · rename_i hrec
          rw [hrec] at hh
          exact h _ _ _ hh
      · rename_i r hnot
        split at hh
        · rename_i w' hr
          exact absurd hr (hnot w')
        · exact upon_mono (fun a w => h a cs w) hh
    · rename_i hw
      simp only [hw] at hh
      exact h _ _ _ hh

def wpAnyS (P : Program) (md : Region.Mode) (ops : Array Oper) (Q : Exit → Act → List Frame → World → Prop) : Nat → Array Bool → Act → List Frame → World → Prop
  | 0, listed, a, cs, w => Region.ready md ops listed = [] ∧ Q .normal a cs w
  | fuel + 1, listed, a, cs, w =>
    (Region.ready md ops listed = [] → Q .normal a cs w) ∧
    ∀ i ∈ Region.ready md ops listed, wpOpS P ops Q i (wpAnyS P md ops Q fuel (listed.setIfInBounds i true)) a cs w

theorem wpAnyS_sound : ∀ (fuel t : Nat) (listed : Array Bool) (a : Act) (cs : List Frame) (w : World), wpAnyS P md ops Q fuel listed a cs w →
    wpOpsS P ops Q (Region.linearise.go md ops fuel t listed []) a cs w := by
  intro fuel
  induction fuel with
  | zero => intro t listed a cs w h; simpa [Region.linearise.go, wpOpsS] using h.2
  | succ fuel ih =>
    intro t listed a cs w h
    obtain ⟨h₀, h₁⟩ := h
    simp only [Region.linearise.go]
    change wpOpsS P ops Q (match (Region.ready md ops listed)[t % (Region.ready md ops listed).length]? with
      | some i => Region.linearise.go md ops fuel (t / (Region.ready md ops listed).length) (listed.setIfInBounds i true) [i]
      | none => [].reverse) a cs w
    cases hi : (Region.ready md ops listed)[t % (Region.ready md ops listed).length]? with
    | none =>
      have hnil : Region.ready md ops listed = [] := by
        cases hr : Region.ready md ops listed with
        | nil => rfl
        | cons x xs =>
          rw [hr] at hi
          have hlt : t % (x :: xs).length < (x :: xs).length := Nat.mod_lt _ (by simp)
          simp at hi
          simp at hlt
          omega
      simpa [wpOpsS] using h₀ hnil
    | some i =>
      simp only []
      rw [linearise_go_acc, List.reverse_singleton, List.singleton_append, wpOpsS_cons]
      exact wpOpS_mono (fun a cs w => ih _ _ a cs w) (h₁ i (List.mem_of_getElem? hi))

/-- Whatever order is drawn. -/
theorem wpS_region_any {id : Nat} {a : Act} {cs : List Frame} {w : World} (hm : P.follows .mixedOrders = true)
    (h : wpAnyS P .any ops Q ops.size (Array.replicate ops.size false) a cs { w with drawn := w.drawn + 1 }) : (Code.region id ops true).wpS P Q a cs w := by
  intro b k hb hr
  have h2 : ∀ t, wpOpsS P ops Q (Region.schedule (P.follows .mixedOrders) ops t) a cs { w with drawn := w.drawn + 1 } := fun t => by
    simp only [Region.schedule, hm, Bool.true_or, if_true]
    exact wpAnyS_sound ops.size t _ a cs _ h
  obtain ⟨e, a', cs', w', q, r⟩ := wp_opsS _ a cs _ (h2 _) b k hb hr
  exact ⟨e, a', cs', w', q, .of_steps (.one step_region_draw) r⟩

theorem wpAnyS_ready {fuel : Nat} {listed : Array Bool} {a : Act} {cs : List Frame} {w : World} {rs : List Nat} (hr : Region.ready md ops listed = rs) (hne : rs ≠ [])
    (h : ∀ i ∈ rs, wpOpS P ops Q i (wpAnyS P md ops Q fuel (listed.setIfInBounds i true)) a cs w) : wpAnyS P md ops Q (fuel + 1) listed a cs w := by
  subst hr
  exact ⟨fun e => absurd e hne, h⟩

theorem wpAnyS_done {listed : Array Bool} {a : Act} {cs : List Frame} {w : World} (hr : Region.ready md ops listed = []) (h : Q .normal a cs w) : ∀ fuel, wpAnyS P md ops Q fuel listed a cs w
  | 0 => ⟨hr, h⟩
  | _ + 1 => ⟨fun _ => h, fun i hi => by rw [hr] at hi; cases hi⟩
end Go.Proofs.YtcjlhdmekhifaaaGreatDoor
