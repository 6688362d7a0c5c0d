/-
  What the program's own Parse answers, in one form; awake.
  Documents as trees, in plain Lean: what the law of two kids asks of a text's bytes; a document has two bytes at least.
  From a reading of the arguments to what the walks ask: bytes in memory; a builder that hands on the listed variables and the world's shape.
  The environment's facts, out of the world's shape and of what the rows list.
-/
import Derived.Test.YtcoeijjmahneeaaGreatDoorG45
import Derived.Test.YtcoeijjmahneeaaGreatDoorG08
import Derived.Test.YtcoeijjmahneeaaGreatDoorG01
import Derived.ProofKit
import Derived.OpenShut
import Derived.ShutString
import Derived.ChangeOld
import Derived.LaidMore
import Derived.Lay
import Derived.Handed
import Derived.SizedLaws
import Derived.Deep.Slices
import Derived.Lib.SmallJoins
import Derived.Lib.LaidTab
import Derived.Stop.LaidErr
import Derived.Stop.Joined
import Derived.Shelf.Vars
namespace Go.Proofs.YtcoeijjmahneeaaGreatDoor
open Go.RowKit

namespace Gv
def zero : Node := .mk 0 ⟨#[]⟩ ⟨#[]⟩ [] [] ⟨#[]⟩
def nodeOf (l : List UInt8) : Node := match parse l with | .ok n => n | .error _ => zero
def errOf (l : List UInt8) : Int := match parse l with | .ok _ => 0 | .error e => (e : Int)
theorem of_ok {l : List UInt8} {n : Node} (h : parse l = .ok n) : nodeOf l = n ∧ errOf l = 0 := by unfold nodeOf errOf; rw [h]; exact ⟨rfl, rfl⟩
theorem of_err {l : List UInt8} {e : Nat} (h : parse l = .error e) : nodeOf l = zero ∧ errOf l = (e : Int) := by unfold nodeOf errOf; rw [h]; exact ⟨rfl, rfl⟩
theorem steps_err {e : Nat} : ∀ (l : List T.Tok) (st : St), steps st l = .error e → e ≠ 0
  | [], st, h => by unfold steps at h; cases h
  | t :: l, st, h => by
    unfold steps at h
    cases hs : step st t with
    | error e2 => rw [hs] at h; cases h; exact step_err hs
    | ok st' => rw [hs] at h; exact steps_err l st' h
theorem parse_ne {l : List UInt8} {e : Nat} (h : parse l = .error e) : e ≠ 0 := by
  unfold parse at h
  split at h
  · rename_i h2; cases h; exact T.tokens_err h2
  · unfold tree at h
    split at h
    · rename_i h2; cases h; exact steps_err _ _ h2
    · unfold final at h
      split at h
      · cases h
      · cases h; omega
theorem awake_parse : parse [60, 97, 32, 120, 109, 108, 110, 115, 61, 39, 117, 39, 32, 98, 61, 39, 49, 39, 62, 120, 60, 33, 45, 45, 99, 45, 45, 62, 60, 47, 97, 62] = .ok (.mk 0 ⟨#[117]⟩ ⟨#[97]⟩ [⟨⟨#[]⟩, ⟨#[98]⟩, ⟨#[49]⟩⟩] [.mk 1 ⟨#[]⟩ ⟨#[]⟩ [] [] ⟨#[120]⟩, .mk 2 ⟨#[]⟩ ⟨#[]⟩ [] [] ⟨#[99]⟩] ⟨#[]⟩) := by rfl
theorem awake_nest : parse [60, 97, 62, 60, 98, 62, 60, 47, 97, 62, 60, 47, 98, 62] = .error 90 := by rfl
end Gv

theorem gParse_form (s : ByteArray) (w : World) (hs : s.size ≤ 1000000) (hE : Env w) : Calls Tryz.prog 8 #[.string s] w fun x w' => ∃ (k : Int) (sp nm d : ByteArray) (ao bo : Option Addr) (n1 c1 n2 c2 : Nat),
    x = .returned (.tuple #[.agg #[.int .i64 k, .string sp, .string nm, .slice ao n1 c1, .slice bo n2 c2, .string d], .int .i64 (Gv.errOf s.data.toList)]) ∧ NodeAt (fun _ => True) w' [.int .i64 k, .string sp, .string nm, .slice ao n1 c1, .slice bo n2 c2, .string d] (Gv.nodeOf s.data.toList) ∧ Below w.heap.size w w' := by
  refine (gParse_any s w hs hE).mono ?_
  rintro x w' ⟨b, h⟩
  cases hp : Gv.parse s.data.toList with
  | error e =>
    rw [hp] at h
    obtain ⟨e1, e2⟩ := Gv.of_err hp
    rw [e1, e2]
    exact ⟨0, ⟨#[]⟩, ⟨#[]⟩, ⟨#[]⟩, none, none, 0, 0, 0, 0, h, node_plain _ _ 0 ⟨#[]⟩ ⟨#[]⟩ ⟨#[]⟩, b⟩
  | ok n =>
    rw [hp] at h
    obtain ⟨e1, e2⟩ := Gv.of_ok hp
    rw [e1, e2]
    obtain ⟨k, sp, nm, d, va, vk, rfl, hN⟩ := h
    obtain ⟨k', sp', nm', d', as', kids', ao', bo', ca', cb', cs', -, e3, -⟩ := hN.open'
    simp only [List.cons.injEq, and_true] at e3
    obtain ⟨-, -, -, e6, e7, -⟩ := e3
    subst e6 e7
    exact ⟨k, sp, nm, d, ao', bo', _, ca', _, cb', rfl, hN, b⟩

/-- the tree that awake writes down. -/
theorem lit_awake (w : World) : NodeAt (fun _ => True) ((w.alloc (.cells #[.string ⟨#[]⟩, .string ⟨#[98]⟩, .string ⟨#[49]⟩] 50)).alloc (.cells #[.int .i64 1, .string ⟨#[]⟩, .string ⟨#[]⟩, .slice none 0 0, .slice none 0 0, .string ⟨#[120]⟩, .int .i64 2, .string ⟨#[]⟩, .string ⟨#[]⟩, .slice none 0 0, .slice none 0 0, .string ⟨#[99]⟩] 26))
    [.int .i64 ((0 : Nat) : Int), .string ⟨#[117]⟩, .string ⟨#[97]⟩, .slice (some ⟨w.heap.size, 0, none⟩) 1 1, .slice (some ⟨w.heap.size + 1, 0, none⟩) 2 2, .string ⟨#[]⟩] (.mk 0 ⟨#[117]⟩ ⟨#[97]⟩ [⟨⟨#[]⟩, ⟨#[98]⟩, ⟨#[49]⟩⟩] [.mk 1 ⟨#[]⟩ ⟨#[]⟩ [] [] ⟨#[120]⟩, .mk 2 ⟨#[]⟩ ⟨#[]⟩ [] [] ⟨#[99]⟩] ⟨#[]⟩) := by
  have k1 := (Cells.new w 50 #[.string ⟨#[]⟩, .string ⟨#[98]⟩, .string ⟨#[49]⟩]).alloc (.cells #[.int .i64 1, .string ⟨#[]⟩, .string ⟨#[]⟩, .slice none 0 0, .slice none 0 0, .string ⟨#[120]⟩, .int .i64 2, .string ⟨#[]⟩, .string ⟨#[]⟩, .slice none 0 0, .slice none 0 0, .string ⟨#[99]⟩] 26)
  have k2 := Cells.new (w.alloc (.cells #[.string ⟨#[]⟩, .string ⟨#[98]⟩, .string ⟨#[49]⟩] 50)) 26 #[.int .i64 1, .string ⟨#[]⟩, .string ⟨#[]⟩, .slice none 0 0, .slice none 0 0, .string ⟨#[120]⟩, .int .i64 2, .string ⟨#[]⟩, .string ⟨#[]⟩, .slice none 0 0, .slice none 0 0, .string ⟨#[99]⟩]
  rw [World.size_alloc] at k2
  refine .mk (fun j => if j = 0 then [.int .i64 ((1 : Nat) : Int), .string ⟨#[]⟩, .string ⟨#[]⟩, .slice none 0 0, .slice none 0 0, .string ⟨#[120]⟩] else [.int .i64 ((2 : Nat) : Int), .string ⟨#[]⟩, .string ⟨#[]⟩, .slice none 0 0, .slice none 0 0, .string ⟨#[99]⟩]) ⟨by unfold maxLen; simp, by unfold maxLen; simp⟩ ⟨_, 1, rfl, fun j hj => ⟨w.heap.size, 0, rfl, trivial, fun i u hu => ?_⟩⟩ ⟨_, 2, rfl, fun j hj => ⟨by dsimp only; split <;> rfl, w.heap.size + 1, 0, rfl, trivial, fun i u hu => ?_⟩⟩ (fun j hj => ?_)
  · obtain rfl : j = 0 := by simp at hj; exact hj
    refine k1.cell ?_
    match i, hu with
    | 0, hu => exact hu
    | 1, hu => exact hu
    | 2, hu => exact hu
  · have : j = 0 ∨ j = 1 := by simp at hj; omega
    rcases this with rfl | rfl
    · refine k2.cell ?_
      match i, hu with
      | 0, hu => exact hu
      | 1, hu => exact hu
      | 2, hu => exact hu
      | 3, hu => exact hu
      | 4, hu => exact hu
      | 5, hu => exact hu
    · refine k2.cell ?_
      match i, hu with
      | 0, hu => exact hu
      | 1, hu => exact hu
      | 2, hu => exact hu
      | 3, hu => exact hu
      | 4, hu => exact hu
      | 5, hu => exact hu
  · have : j = 0 ∨ j = 1 := by simp at hj; omega
    rcases this with rfl | rfl
    · exact node_plain _ _ 1 ⟨#[]⟩ ⟨#[]⟩ ⟨#[120]⟩
    · exact node_plain _ _ 2 ⟨#[]⟩ ⟨#[]⟩ ⟨#[99]⟩

set_option maxRecDepth 100000 in
set_option maxHeartbeats 3200000 in
theorem awake_any (w : World) (hE : Env w) : Calls Tryz.prog 10 #[] w fun e w' => e = .returned (.bool true) ∧ Below w.heap.size w w' := by
  have a1 := Lib.hid (Gv.of_ok Gv.awake_parse)
  have a2 := Lib.hid (Gv.of_err Gv.awake_nest)
  go_enter Tryz.func10, Tryz.ntmps10
  have t0 := Below.refl w.heap.size w
  go_wp2_with fail
  (with_reducible refine (gParse_form _ _ (by decide) hE).mono ?_)
  rintro x w1 ⟨k, sp, nm, d, ao, bo, n1, c1, n2, c2, rfl, hN, b1⟩
  rw [show Gv.errOf _ = 0 from a1.out.2]
  rw [show Gv.nodeOf _ = _ from a1.out.1] at hN
  have t1 := t0.trans (b1.mono t0.size)
  have bN := (Below.refl w1.heap.size w1).alloc (Nat.le_refl _) (.cells #[.int .i64 k, .string sp, .string nm, .slice ao n1 c1, .slice bo n2 c2, .string d] 26)
  have kA := Cells.new w1 26 #[.int .i64 k, .string sp, .string nm, .slice ao n1 c1, .slice bo n2 c2, .string d]
  have t2 := t1.trans (bN.mono t1.size)
  have hN1 := hN.on bN
  clear b1 hN
  go_wp2_with fail
  (with_reducible refine (gParse_form _ _ (by decide) (hE.on t2)).mono ?_)
  rintro x w3 ⟨k2, sp2, nm2, d2, ao2, bo2, m1, e1, m2, e2, rfl, -, b3⟩
  rw [show Gv.errOf _ = ((90 : Nat) : Int) from a2.out.2]
  have t3 := t2.trans (b3.mono t2.size)
  have kA3 := kA.on b3
  have hN3 := hN1.on b3
  have hw3 : w1.heap.size < w3.heap.size := kA3.lt
  clear b3 kA hN1 bN t1
  have b4 := (Below.refl w3.heap.size w3).alloc (Nat.le_refl _) (.cells #[.int .i64 k2, .string sp2, .string nm2, .slice ao2 m1 e1, .slice bo2 m2 e2, .string d2] 26)
  have x0 := kA3.cell (i := 0) (v := .int .i64 k) rfl
  have x1 := kA3.cell (i := 1) (v := .string sp) rfl
  have x2 := kA3.cell (i := 2) (v := .string nm) rfl
  have x3 := kA3.cell (i := 3) (v := .slice ao n1 c1) rfl
  have x4 := kA3.cell (i := 4) (v := .slice bo n2 c2) rfl
  have x5 := kA3.cell (i := 5) (v := .string d) rfl
  have hne : ¬ w1.heap.size = w3.heap.size := by omega
  have hlit := lit_awake (w3.alloc (.cells #[.int .i64 k2, .string sp2, .string nm2, .slice ao2 m1 e1, .slice bo2 m2 e2, .string d2] 26))
  have b5 := (b4.alloc b4.size (.cells #[.string ⟨#[]⟩, .string ⟨#[98]⟩, .string ⟨#[49]⟩] 50)).alloc (by simp; omega) (.cells #[.int .i64 1, .string ⟨#[]⟩, .string ⟨#[]⟩, .slice none 0 0, .slice none 0 0, .string ⟨#[120]⟩, .int .i64 2, .string ⟨#[]⟩, .string ⟨#[]⟩, .slice none 0 0, .slice none 0 0, .string ⟨#[99]⟩] 26)
  rw [World.size_alloc] at hlit
  have t5 := t3.trans (b5.mono t3.size)
  have hsame := Lib.hid (refSameNode_any hN3 _ b5 _ _ _ hlit)
  clear hN3 hlit b4 b5 kA3
  go_wp2_with fail
  (refine hsame.out.mono ?_); rintro e w6 ⟨⟨r, rfl, hr⟩, b6⟩
  obtain rfl : r = true := hr.2 rfl
  have t6 := t5.trans (b6.mono t5.size)
  clear hsame b6 t5
  go_wp2_with fail
  go_ret
  exact ⟨rfl, t6⟩
end Go.Proofs.YtcoeijjmahneeaaGreatDoor
namespace Go.Proofs.YtcoeijjmahneeaaGreatDoor
namespace Gv
def isOk (x : Except Nat Node) : Bool := match x with | .ok _ => true | .error _ => false
theorem parse_one : ∀ n, n < 256 → isOk (parse [UInt8.ofNat n]) = false := by decide +kernel
theorem parse_two {l : List UInt8} {n : Node} (h : parse l = .ok n) : 2 ≤ l.length := by
  match l, h with
  | [], h => cases h
  | [b], h =>
    have := parse_one b.toNat b.toNat_lt
    rw [UInt8.ofNat_toNat, h] at this
    cases this
  | _ :: _ :: _, _ => simp
end Gv
theorem get_list {s : ByteArray} {k : Nat} (h : k < s.size) : s.data.toList[k]'(by rw [list_len]; exact h) = s[k] := by
  rw [Array.getElem_toList]; rfl
theorem bare_mk {s : ByteArray} (h2 : 2 ≤ s.size) (h0 : (s[0]'(by omega)).toNat = 60) (h1 : (s[1]'(by omega)).toNat ≠ 63) (h1' : (s[1]'(by omega)).toNat ≠ 33) (hz : (s[s.size - 1]'(by omega)).toNat = 62)
    (hy : (s[s.size - 2]'(by omega)).toNat ≠ 63) (hy' : (s[s.size - 2]'(by omega)).toNat ≠ 45) : Gv.Bare s.data.toList := by
  have hl := list_len s
  have e : ∀ {a : UInt8} {k : Nat}, k < 256 → a.toNat = k → a = UInt8.ofNat k := by
    intro a k hk h
    apply UInt8.toNat_inj.1
    rw [h]; simp; omega
  constructor
  · refine ⟨s[1]'(by omega), s.data.toList.drop 2, ?_, fun h => h1 (by rw [h]; rfl), fun h => h1' (by rw [h]; rfl)⟩
    have d0 := List.drop_eq_getElem_cons (l := s.data.toList) (i := 0) (by omega)
    have d1 := List.drop_eq_getElem_cons (l := s.data.toList) (i := 1) (by omega)
    rw [List.drop_zero, get_list (by omega)] at d0
    rw [get_list (by omega)] at d1
    rw [d0, d1, e (by omega) h0]
    rfl
  · refine ⟨s.data.toList.take (s.size - 2), s[s.size - 2]'(by omega), ?_, fun h => hy (by rw [h]; rfl), fun h => hy' (by rw [h]; rfl)⟩
    have t1 := List.take_append_drop (s.size - 2) s.data.toList
    have d0 := List.drop_eq_getElem_cons (l := s.data.toList) (i := s.size - 2) (by omega)
    have d1 := List.drop_eq_getElem_cons (l := s.data.toList) (i := s.size - 2 + 1) (by omega)
    have d2 : s.data.toList.drop (s.size - 2 + 1 + 1) = [] := List.drop_eq_nil_of_le (by omega)
    rw [get_list (by omega)] at d0
    rw [get_list (by omega), d2] at d1
    have hi : s.size - 2 + 1 = s.size - 1 := by omega
    have hz2 : s[s.size - 2 + 1]'(by omega) = 62 := by
      have : s[s.size - 2 + 1]'(by omega) = s[s.size - 1]'(by omega) := by congr 1
      rw [this, e (by omega) hz]
      rfl
    rw [d1, hz2] at d0
    rw [d0] at t1
    rw [← t1]
    simp
end Go.Proofs.YtcoeijjmahneeaaGreatDoor
namespace Go.Proofs.YtcoeijjmahneeaaGreatDoor
open Go.ChangeShapes Go.WideShapes Go.ChangeAt Go.RowKit Go.Deep

theorem own : ownKnob Tryz.prog.godebug = none := by kernel_rfl
theorem laidOut : laidOutB Tryz.prog = true := by kernel_rfl

/-- The listed variables, and the world's shape, are handed on to the contract. -/
theorem handed_on {H : Type} {enc : TypeId × Value → H} {a : Assume} {C : Checked} {os : Os} {f : FuncId} {fn : Func} {s : ChangeSpec} {conds : List PathCond} {apart fresh handsOn again : Bool} {X : World → Array Value → Prop}
    (hX : ∀ (w w' : World) (args : Array Value), w.heap = w'.heap → X w args → X w' args)
    (ownK : ownKnob C.prog.godebug = none) (started : os.Started) (noInit : C.prog.inits.idxOf? f = none) (hfn : C.prog.funcs[f]? = some fn)
    (witness : ∃ (w : World) (tape : Tape) (i : Input), w.os = os ∧ (w.forCall tape i).Shaped C.prog ∧ i.vars = [] ∧ Input.okWide C.prog (w.forCall tape i) .any w.heap.size f i ∧
      ((s.pre enc C.prog fn conds apart (w.forCall tape i).memory i.args ∧ X (w.forCall tape i).memory i.args) ∧ sizedMet enc C.prog fn (OpenSpec.ofChange s) apart (w.forCall tape i).memory i.args) ∧ a.holds C.prog (lone (Frame.enter C.prog f i.args .normal) [] (w.forCall tape i)))
    (contract : ∀ (W : World) (base : Nat) (args : Array Value) (ds gs : List (DataW H)) (before : List MemPlace),
      (∀ (j : Nat) t v, fn.params[j]? = some t → args[j]? = some v → Value.okWide C.prog W .any base t v) →
      DataW.Whole enc C.prog fn.params.toList s.vars apart W args.toList ds gs before →
      (DataW.weightsEach C.prog (fn.params.toList ++ s.plain.varTypes C.prog) (ds ++ gs)).all (· ≤ reachBytes) = true → X W args → W.ShapedOpen C.prog →
      Calls C.prog f args W fun e W' => ∃ v, e = .returned v ∧ s.post enc C.prog fn apart fresh handsOn again W args v W') :
    ReturnsInHanded a C os f .any (fun w args => (s.pre enc C.prog fn conds apart w args ∧ X w args) ∧ sizedMet enc C.prog fn (OpenSpec.ofChange s) apart w args) (s.post enc C.prog fn apart fresh handsOn again) := by
  refine returnsInHanded_of_calls ownK started noInit witness ?_
  intro w tape i _ hsh _ hok hpre _
  obtain ⟨_, _, _, fn', hfn', _, _, _, _, hval⟩ := hok
  obtain rfl : fn' = fn := Option.some.inj (hfn'.symm.trans hfn)
  obtain ⟨⟨⟨ds, gs, before, hw, _⟩, hx⟩, hz⟩ := hpre
  refine (contract (w.forCall tape i) w.heap.size i.args ds gs before hval (DataW.Whole.of_heap (w' := w.forCall tape i) (by rfl) hw) (hz.weights hw) (hX _ _ _ (by rfl) hx) hsh).mono fun e W' ⟨v, he, hp⟩ => ?_
  subst he
  exact ChangeSpec.post_blind hp

theorem bytes_open {H : Type} {enc : TypeId × Value → H} {W : World} {spare : Nat → Bool} {held : Bool} {v : Value} {d : DataW H} {p : List MemPlace} (hv : ∃ a len cap, v = .slice a len cap) (h : DataW.Trod enc Tryz.prog W 0 spare held 81 v d p) :
    ∃ (ao : Option Addr) (cap : Nat) (L : List UInt8), v = .slice ao L.length cap ∧ BytesAt ao L W ∧ L.length ≤ maxLen := by
  obtain ⟨a, len, cap, rfl⟩ := hv
  obtain ⟨fuel, hf⟩ := h
  rcases open_slice Tryz.underlying81 hf with ⟨hcs, _⟩ | ⟨a', len', cap', m, n, D, Pl, hcs, _, hl, hm, hmm, _, hall⟩
  · simp [Value.cells] at hcs
    obtain ⟨rfl, rfl, rfl⟩ := hcs
    exact ⟨none, 0, [], rfl, fun j hj => by simp at hj, by unfold maxLen; simp⟩
  · simp [Value.cells] at hcs
    obtain ⟨rfl, rfl, rfl⟩ := hcs
    have hlm : len ≤ m := by rw [hmm]; split <;> omega
    have c1 : Tryz.prog.cellsOf 5 = 1 := by kernel_rfl
    have hrow : ∀ i, i < len → ∃ b : UInt8, W.cell? (a'.add i) = some (.int .u8 (b.toNat : Int)) := fun i hi => by
      obtain ⟨cs, hc, ht⟩ := hall i (by omega)
      rw [c1, Nat.mul_one] at hc
      obtain ⟨n2, e2, _, z2⟩ := DataW.trod_int Tryz.underlying5 ht
      subst e2
      obtain ⟨_, _, hat⟩ := World.cells?_some hc
      have h1 := hat 0 (by rw [c1] at *; simp)
      have hb : 0 ≤ n2 ∧ n2 ≤ 255 := by
        simp [Lit.wf, IntKind.min, IntKind.max, IntKind.signed, IntKind.bits] at z2
        omega
      refine ⟨UInt8.ofNat n2.toNat, ?_⟩
      rw [show ((UInt8.ofNat n2.toNat).toNat : Int) = n2 by simp; omega]
      simpa [Addr.add] using h1
    obtain ⟨R, hR⟩ := choose_lt hrow
    refine ⟨some a', cap, (List.range len).map R, by simp, fun j hj => ?_, by simp; omega⟩
    have hj' : j < len := by simpa using hj
    obtain ⟨b, off, sp⟩ := a'
    have h0 := hR j hj'
    have hsp : sp = none := by
      cases sp with
      | none => rfl
      | some q =>
        exfalso
        by_cases hj0 : j = 0
        · subst hj0
          simp only [Addr.add, if_true] at h0
          unfold World.cell? at h0
          split at h0 <;> simp at h0
        · have h00 := hR 0 (by omega)
          simp only [Addr.add, if_true] at h00
          unfold World.cell? at h00
          split at h00 <;> simp at h00
    subst hsp
    simp only [add_plain] at h0
    simp only [List.getElem_map, List.getElem_range]
    exact ⟨b, off, rfl, h0⟩
end Go.Proofs.YtcoeijjmahneeaaGreatDoor
namespace Go.Proofs.YtcoeijjmahneeaaGreatDoor
open Go.ChangeShapes Go.WideShapes Go.ChangeAt Go.RowKit Go.Deep Go.Stop

/-- What the rows list. -/
abbrev listed : List (String × DataW Unit) := Rows.groveAboutRow.laid

theorem errorRow (u : TypeId) (h : Tryz.prog.typeName? 3 u = some "*errors.errorString") : u = 224 :=
  typeName_ptr_named (nm := "errors.errorString") (by kernel_rfl) (by kernel_rfl) (by decide) u h

theorem mostCell {w : World} (h : w.ShapedOpen Tryz.prog) : ∃ m, w.cell? ⟨3, 0, none⟩ = some (.int .i64 m) :=
  cell_of_shapedOpen_int (zero := #[.int .i64 0]) (t := 3) h (of_decide_eq_true (by kernel_rfl)) (by kernel_rfl) (by kernel_rfl) (by kernel_rfl) (by kernel_rfl) (by kernel_rfl)

theorem cell_of_var {W : World} {n : String} {g : Nat} {v : Value} (hg : Tryz.prog.globalNamed n = some g) (h : W.var? Tryz.prog n = some #[v]) : W.cell? ⟨g, 0, none⟩ = some v := by
  have h0 := World.var?_cell hg h 0
  simpa using h0

/-- The table of letters. -/
def foldTab : List Int := (List.range 128).map fun n => ((other n : Nat) : Int)
theorem foldTab_at {n : Nat} (h : n < 128) : (foldTab.map fun z => Value.int .u16 z).toArray[n]? = some (.int .u16 (other n : Nat)) := by
  unfold foldTab
  simp [h]

theorem envAt_of {W : World} (h : laidMetH Tryz.prog listed W) (hs : W.ShapedOpen Tryz.prog) : EnvAt W := by
  rw [MakeChecks.laidMetH_plain _ _ _ (by kernel_rfl)] at h
  have hr := h.tail.tail.tail.tail
  obtain ⟨a1, s1, hv1, -, -, -⟩ := laid_sentinel hr (show Tryz.prog.globalNamed "strconv.ErrRange" = some 8 by kernel_rfl) (show (Tryz.prog.globals[8]?).map (·.type) = some 136 by kernel_rfl) Tryz.underlying136 errorRow Tryz.underlying224 Tryz.underlying226 rfl rfl Tryz.underlying9 (by kernel_rfl) (by kernel_rfl)
  obtain ⟨a0, s0, hv0, -, -, -⟩ := laid_sentinel hr.tail (show Tryz.prog.globalNamed "strconv.ErrSyntax" = some 7 by kernel_rfl) (show (Tryz.prog.globals[7]?).map (·.type) = some 136 by kernel_rfl) Tryz.underlying136 errorRow Tryz.underlying224 Tryz.underlying226 rfl rfl Tryz.underlying9 (by kernel_rfl) (by kernel_rfl)
  have ht : Lib.TabIs Tryz.prog W "unicode.asciiFold" .u16 foldTab := Lib.tabIs_of_head (g := 0) (t := 147) (e := 146) (n := 128) (by kernel_rfl) (by kernel_rfl) Tryz.underlying147 Tryz.underlying146 (by kernel_rfl) (by kernel_rfl) hr.tail.tail
  obtain ⟨a2, s2, hv2, -, -, -⟩ := laid_sentinel hr.tail.tail.tail.tail (show Tryz.prog.globalNamed "broadsheet/escape.errNoReference" = some 6 by kernel_rfl) (show (Tryz.prog.globals[6]?).map (·.type) = some 136 by kernel_rfl) Tryz.underlying136 errorRow Tryz.underlying224 Tryz.underlying226 rfl rfl Tryz.underlying9 (by kernel_rfl) (by kernel_rfl)
  refine ⟨mostCell hs, ⟨_, cell_of_var (by kernel_rfl) hv2⟩, ⟨_, _, cell_of_var (by kernel_rfl) hv0⟩, ⟨_, _, cell_of_var (by kernel_rfl) hv1⟩, fun n hn => ?_⟩
  have := World.var?_cell (show Tryz.prog.globalNamed "unicode.asciiFold" = some 0 by kernel_rfl) ht n
  rw [foldTab_at hn] at this
  exact this
end Go.Proofs.YtcoeijjmahneeaaGreatDoor
