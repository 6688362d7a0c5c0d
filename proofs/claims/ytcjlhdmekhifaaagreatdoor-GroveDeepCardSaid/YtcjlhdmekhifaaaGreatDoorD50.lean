/-
  The statements' walks: GroveDeep.
  From a reading of the arguments to what the walks ask: bytes in memory; a builder that hands on the listed variables and the world's shape.
  The environment's facts, out of the world's shape and of what the rows list.
-/
import Derived.Test.YtcjlhdmekhifaaaGreatDoorD49
import Derived.Test.YtcjlhdmekhifaaaGreatDoorD48
import Derived.Test.YtcjlhdmekhifaaaGreatDoorD01
import Derived.ProofKit
import Derived.OpenShut
import Derived.ShutString
import Derived.ChangeOld
import Derived.LaidMore
import Derived.Lay
import Derived.Handed
import Derived.SizedLaws
import Derived.Deep.Slices
import Derived.Lib.SmallJoins
import Derived.Lib.LaidTab
import Derived.Stop.LaidErr
import Derived.Stop.Joined
import Derived.Shelf.Vars
namespace Go.Proofs.YtcjlhdmekhifaaaGreatDoor
open Go.RowKit

theorem refParse_form (s : ByteArray) (w : World) (hs : s.size ≤ 1000000) : Calls Tryz.prog 6 #[.string s] w fun x w' => ∃ (k : Int) (sp nm d : ByteArray) (ao bo : Option Addr) (n1 c1 n2 c2 : Nat),
    x = .returned (.tuple #[.agg #[.int .i64 k, .string sp, .string nm, .slice ao n1 c1, .slice bo n2 c2, .string d], .int .i64 (Gv.errOf s.data.toList)]) ∧ NodeAt (fun _ => True) w' [.int .i64 k, .string sp, .string nm, .slice ao n1 c1, .slice bo n2 c2, .string d] (Gv.nodeOf s.data.toList) ∧ Below w.heap.size w w' := by
  refine (refParse_any s w hs).mono ?_
  rintro x w' ⟨b, ⟨c, n, rfl, hp, hN⟩ | ⟨e, rfl, he, hp⟩⟩
  · obtain ⟨e1, e2⟩ := Gv.of_ok hp
    rw [e1, e2]
    have hN' := hN.mono (S' := fun _ => True) (fun _ _ _ => trivial)
    obtain ⟨k, sp, nm, d, as', kids, ao, bo, ca, cb, cs, -, rfl, -⟩ := hN.open'
    exact ⟨k, sp, nm, d, ao, bo, _, ca, _, cb, rfl, hN', b⟩
  · obtain ⟨e1, e2⟩ := Gv.of_err hp
    rw [e1, e2]
    exact ⟨0, ⟨#[]⟩, ⟨#[]⟩, ⟨#[]⟩, none, none, 0, 0, 0, 0, rfl, node_plain _ _ 0 ⟨#[]⟩ ⟨#[]⟩ ⟨#[]⟩, b⟩

/-- A text, so many times: no longer than that. -/
def ManyTold (n : Nat) (w : World) (e : Ending) (w' : World) : Prop := (∃ t : ByteArray, e = .returned (.string t) ∧ t.size ≤ 10 * n) ∧ w = w'
set_option maxHeartbeats 1600000 in
theorem many_any (s : ByteArray) (x : Int) (n : Nat) (w : World) (hx : x = (n : Int)) (hs : s.size ≤ 10) (hn : n ≤ 100) : Calls Tryz.prog 4 #[.string s, .int .i64 x] w (ManyTold n w) := by
  subst hx
  go_enter Tryz.func4, Tryz.ntmps4
  go_wp2_with fail
  go_loop [5, 6] (fun t i => ∃ (k : Nat) (t' : ByteArray), k ≤ n ∧ i = .int .i64 k ∧ t = .string t' ∧ t'.size ≤ 10 * k) (fun _ i => n - (intOf i).toNat)
  case atStart => exact ⟨0, ⟨#[]⟩, Nat.zero_le _, rfl, rfl, by decide⟩
  case round =>
    obtain ⟨k, t', hk, rfl, rfl, ht⟩ := hrel
    by_cases hlt : k < n
    · have hi : (k : Int) < (n : Int) := by omega
      have hq : ¬ 9223372036854775807 < t'.size + s.size := by omega
      go_wp2_with fail
      go_round
      case rel => exact ⟨k + 1, t' ++ s, by omega, by go_num, rfl, by rw [ByteArray.size_append]; omega⟩
      case measure => simp [intOf]; omega
    · have hi : ¬ (k : Int) < (n : Int) := by omega
      go_wp2_with fail
      go_ret
      exact ⟨⟨t', rfl, by omega⟩, rfl⟩

/-- The ten letters. -/
abbrev ten : ByteArray := ⟨#[97, 98, 99, 100, 101, 102, 103, 104, 105, 106]⟩
theorem ten_cut (a : Nat) (h : a < 10) : (ten.extract a (a + 1)).size = 1 := by rw [ByteArray.size_extract]; have : ten.size = 10 := rfl; omega

set_option maxRecDepth 100000 in
set_option maxHeartbeats 12800000 in
theorem deep_any (n0 k0 : Nat) (w : World) (hE : Env w) (hn : n0 ≤ 255) (hk : k0 ≤ 255) : Calls Tryz.prog 3 #[.int .u8 n0, .int .u8 k0] w fun e w' => e = .returned (.bool true) ∧ Below w.heap.size w w' := by
  obtain ⟨d, hd, hd1⟩ : ∃ d : Nat, d < 10 ∧ (n0 : Int) % 10 = (d : Int) := ⟨n0 % 10, by omega, by omega⟩
  obtain ⟨f, hf, hf1⟩ : ∃ f : Nat, f < 10 ∧ (k0 : Int) % 10 = (f : Int) := ⟨k0 % 10, by omega, by omega⟩
  replace hE := Lib.hid hE
  go_enter Tryz.func3, Tryz.ntmps3
  go_wp2_with fail
  (refine (many_any _ _ (25 + d) _ (by omega) (by decide) (by omega)).mono ?_); rintro e w1 ⟨⟨t1, rfl, h1⟩, rfl⟩
  have q1 : ¬ 9223372036854775807 < t1.size + 1 := by omega
  go_wp2_with fail
  (refine (many_any _ _ (25 + d) _ (by omega) (by decide) (by omega)).mono ?_); rintro e w1 ⟨⟨t2, rfl, h2⟩, rfl⟩
  have q2 : ¬ 9223372036854775807 < t1.size + 1 + t2.size := by omega
  have q3 : (t1 ++ (⟨#[120]⟩ : ByteArray) ++ t2).size ≤ 1000000 := by rw [ByteArray.size_append, ByteArray.size_append]; show t1.size + 1 + t2.size ≤ _; omega
  replace q3 := Lib.hid q3
  go_wp2_with fail
  generalize t1 ++ (⟨#[120]⟩ : ByteArray) ++ t2 = s at *
  clear h1 h2 q1 q2 hd1
  obtain ⟨e1, he1⟩ : ∃ e, e = Gv.errOf s.data.toList := ⟨_, rfl⟩
  replace he1 := Lib.hid he1
  go_loopg [7, 8] 60 (fun gg s7 s8 wr => ∃ (q : Nat) (t' : ByteArray), q ≤ 45 + f ∧ 60 - q ≤ gg ∧ s7 = .string t' ∧ s8 = .int .i64 q ∧ t'.size ≤ 2 + 20 * q ∧ Hid (Below w.heap.size w wr))
  case atStart => exact ⟨0, _, by omega, by omega, rfl, rfl, by decide, Lib.hid (Below.refl _ _)⟩
  case round =>
    obtain ⟨q, t', hq, hg, rfl, rfl, ht, hbw⟩ := hrel
    by_cases hlt : q < 45 + f
    · have hi : (q : Int) < 45 + (f : Int) := by omega
      obtain ⟨a, b, ha, hb, hqa, hqb⟩ : ∃ a b : Nat, a < 10 ∧ b < 10 ∧ (q : Int) / 10 = (a : Int) ∧ (q : Int) % 10 = (b : Int) := ⟨q / 10, q % 10, by omega, by omega, by omega, by omega⟩
      have hsz : Hid ((t' ++ (⟨#[32, 98]⟩ : ByteArray) ++ ten.extract a (a + 1) ++ ten.extract b (b + 1) ++ (⟨#[61, 39, 49, 39]⟩ : ByteArray)).size ≤ 2 + 20 * (q + 1)) := Lib.hid (by
        rw [ByteArray.size_append, ByteArray.size_append, ByteArray.size_append, ByteArray.size_append, ten_cut a ha, ten_cut b hb]
        show t'.size + 2 + 1 + 1 + 4 ≤ _
        omega)
      have hbd := Lib.hid (Cells.below_drewN hbw.out 1)
      go_wp2_with fail
      go_region
      go_wp2_with fail
      go_roundg (60 - (q + 1))
      case measure => omega
      case rel => exact ⟨q + 1, _, by omega, by omega, rfl, by go_num, hsz.out, hbd⟩
    · have hi : ¬ (q : Int) < 45 + (f : Int) := by omega
      have hE5 := hE.out.on hbw.out
      have g0 := hbw.out
      have hz5 : (t' ++ (⟨#[47, 62]⟩ : ByteArray)).size ≤ 1000000 := by rw [ByteArray.size_append]; show t'.size + 2 ≤ _; omega
      have hq5 : ¬ 9223372036854775807 < t'.size + 2 := by omega
      replace hz5 := Lib.hid hz5
      obtain ⟨e2, he2⟩ : ∃ e, e = Gv.errOf (t' ++ (⟨#[47, 62]⟩ : ByteArray)).data.toList := ⟨_, rfl⟩
      replace he2 := Lib.hid he2
      clear hlt hbw hg ht
      go_wp2_with fail
      (with_reducible refine (gParse_form s _ q3.out (hE.out.on g0)).mono ?_)
      rintro x vA ⟨kA, spA, nmA, dA, aoA, boA, n1A, c1A, n2A, c2A, rfl, hNA, bA⟩
      rw [← he1.out]
      have gA := g0.trans (bA.mono g0.size)
      have lA := (Below.refl vA.heap.size vA).alloc (Nat.le_refl _) (.cells #[.int .i64 kA, .string spA, .string nmA, .slice aoA n1A c1A, .slice boA n2A c2A, .string dA] 26)
      have pA := Lib.hid (fun W (hb : Below _ _ W) => And.intro (node_open ((Cells.new vA 26 #[.int .i64 kA, .string spA, .string nmA, .slice aoA n1A c1A, .slice boA n2A c2A, .string dA]).on (w' := W) hb)) ((hNA.on lA).on (w' := W) hb))
      have mA := gA.trans (lA.mono gA.size)
      clear hNA bA gA lA g0 hE5
      go_wp2_with fail
      (with_reducible refine (refParse_form s _ q3.out).mono ?_)
      rintro x vB ⟨kB, spB, nmB, dB, aoB, boB, n1B, c1B, n2B, c2B, rfl, hNB, bB⟩
      rw [← he1.out]
      have gB := mA.trans (bB.mono mA.size)
      have lB := (Below.refl vB.heap.size vB).alloc (Nat.le_refl _) (.cells #[.int .i64 kB, .string spB, .string nmB, .slice aoB n1B c1B, .slice boB n2B c2B, .string dB] 26)
      have pB := Lib.hid (fun W (hb : Below _ _ W) => And.intro (node_open ((Cells.new vB 26 #[.int .i64 kB, .string spB, .string nmB, .slice aoB n1B c1B, .slice boB n2B c2B, .string dB]).on (w' := W) hb)) ((hNB.on lB).on (w' := W) hb))
      have mB := gB.trans (lB.mono gB.size)
      replace pA := Lib.hid (fun W (hb : Below _ _ W) => pA.out W ((bB.trans (lB.mono bB.size)).trans (Below.mono hb (by have := (bB.trans (lB.mono bB.size)).size; omega))))
      clear hNB bB gB lB mA
      go_wp2_with fail
      (with_reducible refine (gParse_form (t' ++ (⟨#[47, 62]⟩ : ByteArray)) _ hz5.out (hE.out.on mB)).mono ?_)
      rintro x vC ⟨kC, spC, nmC, dC, aoC, boC, n1C, c1C, n2C, c2C, rfl, hNC, bC⟩
      rw [← he2.out]
      have gC := mB.trans (bC.mono mB.size)
      have lC := (Below.refl vC.heap.size vC).alloc (Nat.le_refl _) (.cells #[.int .i64 kC, .string spC, .string nmC, .slice aoC n1C c1C, .slice boC n2C c2C, .string dC] 26)
      have pC := Lib.hid (fun W (hb : Below _ _ W) => And.intro (node_open ((Cells.new vC 26 #[.int .i64 kC, .string spC, .string nmC, .slice aoC n1C c1C, .slice boC n2C c2C, .string dC]).on (w' := W) hb)) ((hNC.on lC).on (w' := W) hb))
      have mC := gC.trans (lC.mono gC.size)
      replace pA := Lib.hid (fun W (hb : Below _ _ W) => pA.out W ((bC.trans (lC.mono bC.size)).trans (Below.mono hb (by have := (bC.trans (lC.mono bC.size)).size; omega))))
      replace pB := Lib.hid (fun W (hb : Below _ _ W) => pB.out W ((bC.trans (lC.mono bC.size)).trans (Below.mono hb (by have := (bC.trans (lC.mono bC.size)).size; omega))))
      clear hNC bC gC lC mB
      go_wp2_with fail
      (with_reducible refine (refParse_form (t' ++ (⟨#[47, 62]⟩ : ByteArray)) _ hz5.out).mono ?_)
      rintro x vD ⟨kD, spD, nmD, dD, aoD, boD, n1D, c1D, n2D, c2D, rfl, hND, bD⟩
      rw [← he2.out]
      have gD := mC.trans (bD.mono mC.size)
      have lD := (Below.refl vD.heap.size vD).alloc (Nat.le_refl _) (.cells #[.int .i64 kD, .string spD, .string nmD, .slice aoD n1D c1D, .slice boD n2D c2D, .string dD] 26)
      have pD := Lib.hid (fun W (hb : Below _ _ W) => And.intro (node_open ((Cells.new vD 26 #[.int .i64 kD, .string spD, .string nmD, .slice aoD n1D c1D, .slice boD n2D c2D, .string dD]).on (w' := W) hb)) ((hND.on lD).on (w' := W) hb))
      have mD := gD.trans (lD.mono gD.size)
      replace pA := Lib.hid (fun W (hb : Below _ _ W) => pA.out W ((bD.trans (lD.mono bD.size)).trans (Below.mono hb (by have := (bD.trans (lD.mono bD.size)).size; omega))))
      replace pB := Lib.hid (fun W (hb : Below _ _ W) => pB.out W ((bD.trans (lD.mono bD.size)).trans (Below.mono hb (by have := (bD.trans (lD.mono bD.size)).size; omega))))
      replace pC := Lib.hid (fun W (hb : Below _ _ W) => pC.out W ((bD.trans (lD.mono bD.size)).trans (Below.mono hb (by have := (bD.trans (lD.mono bD.size)).size; omega))))
      clear hND bD gD lD mC
      go_wp2_with fail
      (with_reducible refine (awake_any _ (hE.out.on mD)).mono ?_); rintro e w5 ⟨rfl, b5⟩
      have g5 := mD.trans (b5.mono mD.size)
      obtain ⟨⟨x0, x1, x2, x3, x4, x5⟩, hA⟩ := pA.out _ b5
      obtain ⟨⟨y0, y1, y2, y3, y4, y5⟩, hB⟩ := pB.out _ b5
      have hsame := Lib.hid (refSameNode_any hA _ (Below.refl _ _) (fun _ => True) _ _ hB)
      clear hA hB mD
      go_wp2_with fail
      (refine hsame.out.mono ?_); rintro e w6 ⟨⟨r1, rfl, hr1⟩, b6⟩
      obtain rfl : r1 = true := hr1.2 rfl
      have g6 := g5.trans (b6.mono g5.size)
      obtain ⟨⟨u0, u1, u2, u3, u4, u5⟩, hC⟩ := pC.out _ (b5.trans (b6.mono b5.size))
      obtain ⟨⟨z0, z1, z2, z3, z4, z5⟩, hD⟩ := pD.out _ (b5.trans (b6.mono b5.size))
      have hsame2 := Lib.hid (refSameNode_any hC _ (Below.refl _ _) (fun _ => True) _ _ hD)
      clear hC hD hsame b5 b6 g5 x0 x1 x2 x3 x4 x5 y0 y1 y2 y3 y4 y5 hr1
      go_wp2_with fail
      (refine hsame2.out.mono ?_); rintro e w7 ⟨⟨r2, rfl, hr2⟩, b7⟩
      obtain rfl : r2 = true := hr2.2 rfl
      have g7 := g6.trans (b7.mono g6.size)
      clear hsame2 b7 g6 hr2
      go_wp2_with fail
      go_ret
      exact ⟨rfl, g7⟩
end Go.Proofs.YtcjlhdmekhifaaaGreatDoor
namespace Go.Proofs.YtcjlhdmekhifaaaGreatDoor
open Go.ChangeShapes Go.WideShapes Go.ChangeAt Go.RowKit Go.Deep

theorem own : ownKnob Tryz.prog.godebug = none := by kernel_rfl
theorem laidOut : laidOutB Tryz.prog = true := by kernel_rfl

/-- The listed variables, and the world's shape, are handed on to the contract. -/
theorem handed_on {H : Type} {enc : TypeId × Value → H} {a : Assume} {C : Checked} {os : Os} {f : FuncId} {fn : Func} {s : ChangeSpec} {conds : List PathCond} {apart fresh handsOn again : Bool} {X : World → Array Value → Prop}
    (hX : ∀ (w w' : World) (args : Array Value), w.heap = w'.heap → X w args → X w' args)
    (ownK : ownKnob C.prog.godebug = none) (started : os.Started) (noInit : C.prog.inits.idxOf? f = none) (hfn : C.prog.funcs[f]? = some fn)
    (witness : ∃ (w : World) (tape : Tape) (i : Input), w.os = os ∧ (w.forCall tape i).Shaped C.prog ∧ i.vars = [] ∧ Input.okWide C.prog (w.forCall tape i) .any w.heap.size f i ∧
      ((s.pre enc C.prog fn conds apart (w.forCall tape i).memory i.args ∧ X (w.forCall tape i).memory i.args) ∧ sizedMet enc C.prog fn (OpenSpec.ofChange s) apart (w.forCall tape i).memory i.args) ∧ a.holds C.prog (lone (Frame.enter C.prog f i.args .normal) [] (w.forCall tape i)))
    (contract : ∀ (W : World) (base : Nat) (args : Array Value) (ds gs : List (DataW H)) (before : List MemPlace),
      (∀ (j : Nat) t v, fn.params[j]? = some t → args[j]? = some v → Value.okWide C.prog W .any base t v) →
      DataW.Whole enc C.prog fn.params.toList s.vars apart W args.toList ds gs before →
      (DataW.weightsEach C.prog (fn.params.toList ++ s.plain.varTypes C.prog) (ds ++ gs)).all (· ≤ reachBytes) = true → X W args → W.ShapedOpen C.prog →
      Calls C.prog f args W fun e W' => ∃ v, e = .returned v ∧ s.post enc C.prog fn apart fresh handsOn again W args v W') :
    ReturnsInHanded a C os f .any (fun w args => (s.pre enc C.prog fn conds apart w args ∧ X w args) ∧ sizedMet enc C.prog fn (OpenSpec.ofChange s) apart w args) (s.post enc C.prog fn apart fresh handsOn again) := by
  refine returnsInHanded_of_calls ownK started noInit witness ?_
  intro w tape i _ hsh _ hok hpre _
  obtain ⟨_, _, _, fn', hfn', _, _, _, _, hval⟩ := hok
  obtain rfl : fn' = fn := Option.some.inj (hfn'.symm.trans hfn)
  obtain ⟨⟨⟨ds, gs, before, hw, _⟩, hx⟩, hz⟩ := hpre
  refine (contract (w.forCall tape i) w.heap.size i.args ds gs before hval (DataW.Whole.of_heap (w' := w.forCall tape i) (by rfl) hw) (hz.weights hw) (hX _ _ _ (by rfl) hx) hsh).mono fun e W' ⟨v, he, hp⟩ => ?_
  subst he
  exact ChangeSpec.post_blind hp

end Go.Proofs.YtcjlhdmekhifaaaGreatDoor
namespace Go.Proofs.YtcjlhdmekhifaaaGreatDoor
open Go.ChangeShapes Go.WideShapes Go.ChangeAt Go.RowKit Go.Deep Go.Stop

/-- What the rows list. -/
abbrev listed : List (String × DataW Unit) := Rows.groveDeepRow.laid

theorem errorRow (u : TypeId) (h : Tryz.prog.typeName? 3 u = some "*errors.errorString") : u = 222 :=
  typeName_ptr_named (nm := "errors.errorString") (by kernel_rfl) (by kernel_rfl) (by decide) u h

theorem mostCell {w : World} (h : w.ShapedOpen Tryz.prog) : ∃ m, w.cell? ⟨3, 0, none⟩ = some (.int .i64 m) :=
  cell_of_shapedOpen_int (zero := #[.int .i64 0]) (t := 3) h (of_decide_eq_true (by kernel_rfl)) (by kernel_rfl) (by kernel_rfl) (by kernel_rfl) (by kernel_rfl) (by kernel_rfl)

theorem cell_of_var {W : World} {n : String} {g : Nat} {v : Value} (hg : Tryz.prog.globalNamed n = some g) (h : W.var? Tryz.prog n = some #[v]) : W.cell? ⟨g, 0, none⟩ = some v := by
  have h0 := World.var?_cell hg h 0
  simpa using h0

/-- The table of letters. -/
def foldTab : List Int := (List.range 128).map fun n => ((other n : Nat) : Int)
theorem foldTab_at {n : Nat} (h : n < 128) : (foldTab.map fun z => Value.int .u16 z).toArray[n]? = some (.int .u16 (other n : Nat)) := by
  unfold foldTab
  simp [h]

theorem envAt_of {W : World} (h : laidMetH Tryz.prog listed W) (hs : W.ShapedOpen Tryz.prog) : EnvAt W := by
  rw [MakeChecks.laidMetH_plain _ _ _ (by kernel_rfl)] at h
  have hr := h.tail.tail.tail.tail
  obtain ⟨a1, s1, hv1, -, -, -⟩ := laid_sentinel hr (show Tryz.prog.globalNamed "strconv.ErrRange" = some 8 by kernel_rfl) (show (Tryz.prog.globals[8]?).map (·.type) = some 134 by kernel_rfl) Tryz.underlying134 errorRow Tryz.underlying222 Tryz.underlying224 rfl rfl Tryz.underlying9 (by kernel_rfl) (by kernel_rfl)
  obtain ⟨a0, s0, hv0, -, -, -⟩ := laid_sentinel hr.tail (show Tryz.prog.globalNamed "strconv.ErrSyntax" = some 7 by kernel_rfl) (show (Tryz.prog.globals[7]?).map (·.type) = some 134 by kernel_rfl) Tryz.underlying134 errorRow Tryz.underlying222 Tryz.underlying224 rfl rfl Tryz.underlying9 (by kernel_rfl) (by kernel_rfl)
  have ht : Lib.TabIs Tryz.prog W "unicode.asciiFold" .u16 foldTab := Lib.tabIs_of_head (g := 0) (t := 145) (e := 144) (n := 128) (by kernel_rfl) (by kernel_rfl) Tryz.underlying145 Tryz.underlying144 (by kernel_rfl) (by kernel_rfl) hr.tail.tail
  obtain ⟨a2, s2, hv2, -, -, -⟩ := laid_sentinel hr.tail.tail.tail.tail (show Tryz.prog.globalNamed "broadsheet/escape.errNoReference" = some 6 by kernel_rfl) (show (Tryz.prog.globals[6]?).map (·.type) = some 134 by kernel_rfl) Tryz.underlying134 errorRow Tryz.underlying222 Tryz.underlying224 rfl rfl Tryz.underlying9 (by kernel_rfl) (by kernel_rfl)
  refine ⟨mostCell hs, ⟨_, cell_of_var (by kernel_rfl) hv2⟩, ⟨_, _, cell_of_var (by kernel_rfl) hv0⟩, ⟨_, _, cell_of_var (by kernel_rfl) hv1⟩, fun n hn => ?_⟩
  have := World.var?_cell (show Tryz.prog.globalNamed "unicode.asciiFold" = some 0 by kernel_rfl) ht n
  rw [foldTab_at hn] at this
  exact this
end Go.Proofs.YtcjlhdmekhifaaaGreatDoor
