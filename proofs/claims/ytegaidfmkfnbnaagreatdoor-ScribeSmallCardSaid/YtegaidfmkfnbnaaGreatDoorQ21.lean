/-
  THE STAGE's THEOREM: what is told is parsed as that tree: the law's walk.
  THE STAGE's THEOREM: what is parsed, and may be told, is told, and parsed again as it was: the law's walk.
  From a reading of the arguments to what the walks ask: bytes in memory; a builder that hands on the listed variables and the world's shape.
  From a reading of a tree handed over to what the walks ask: a node in memory, its texts no longer than memory reaches.
  The environment's facts, out of the world's shape and of what the rows list.
-/
import Derived.Test.YtegaidfmkfnbnaaGreatDoorP19
import Derived.Test.YtegaidfmkfnbnaaGreatDoorP20
import Derived.Test.YtegaidfmkfnbnaaGreatDoorQ17
import Derived.Test.YtegaidfmkfnbnaaGreatDoorQ20
import Derived.Test.YtegaidfmkfnbnaaGreatDoorP01
import Derived.ProofKit
import Derived.OpenShut
import Derived.ShutString
import Derived.ChangeOld
import Derived.LaidMore
import Derived.Lay
import Derived.Handed
import Derived.SizedLaws
import Derived.Deep.Slices
import Derived.Lib.SmallJoins
import Derived.Lib.LaidTab
import Derived.Stop.LaidErr
import Derived.Stop.Joined
import Derived.Shelf.Vars
namespace Go.Proofs.YtegaidfmkfnbnaaGreatDoor
open Go.RowKit

set_option maxRecDepth 100000 in
set_option maxHeartbeats 12800000 in
theorem back_any {c : List Value} {n : Gv.Node} (w : World) (hN : NodeAt (fun _ => True) w c n) (hs1 : Sized n) (hE : Env w) :
    Calls Tryz.prog 4 #[.agg c.toArray] w fun e w' => e = .returned (.bool true) ∧ Below w.heap.size w w' := by
  obtain ⟨k, sp, nm, d, as', kids, ao, bo, ca, cb, cs, en, ec, u1, u2, u3, u4, u5⟩ := hN.open'
  clear en u1 u2 u3 u4 u5
  have hc : c.toArray = nodeArr k sp nm (.slice ao as'.length ca) (.slice bo kids.length cb) d := by rw [ec]; rfl
  have b0 := (Below.refl w.heap.size w).alloc (Nat.le_refl _) (.cells (nodeArr k sp nm (.slice ao as'.length ca) (.slice bo kids.length cb) d) 25)
  have kA := Cells.new w 25 (nodeArr k sp nm (.slice ao as'.length ca) (.slice bo kids.length cb) d)
  have c0 := fun W (hb : Below w.heap.size w W) => awake_any W (hE.on hb)
  have c1 := fun W (hb : Below w.heap.size w W) => refSize_any hN hs1 W hb 3000 (by omega) (by omega)
  have c3 := fun (hz : Gv.wt n ≤ 1000000) W (hb : Below w.heap.size w W) => sPrint_any c n W (hN.on hb) (fits_of_wt n hz) (hE.on hb)
  have c4 := fun (hz : Gv.wt n ≤ 1000000) W (hb : Below w.heap.size w W) => refRight_any c n W (hN.on hb) (trim_of_wt n hz)
  have c5 := fun W (hb : Below w.heap.size w W) c' (hM : NodeAt (fun _ => True) W c' n) => refSameNode_any hN W hb (fun _ => True) c' n hM
  rw [hc] at c1 c3 c4 c5
  rw [hc]
  have hca := Lib.hid (fun W hb => node_open (kA.on (w' := W) hb))
  obtain ⟨x0, x1, x2, x3, x4, x5⟩ := node_open kA
  replace kA := Lib.hid kA
  replace c0 := Lib.hid c0
  replace c1 := Lib.hid c1
  replace c3 := Lib.hid c3
  replace c4 := Lib.hid c4
  replace c5 := Lib.hid c5
  clear hN hs1 hE ec hc
  have h0 : ByteArray.empty.toList = [] := by rw [ByteArray.toList_eq]; rfl
  unfold SizeTold SameTold nodeArr at *
  go_enter Tryz.func4, Tryz.ntmps4
  go_wp2_with fail
  (with_reducible refine (c0.out _ b0).mono ?_); rintro e w1 ⟨rfl, b1⟩
  have f1 := b1
  have g1 := b0.trans (b1.mono b0.size)
  clear x0 x1 x2 x3 x4 x5 c0 b1
  obtain ⟨x0, x1, x2, x3, x4, x5⟩ := hca.out _ f1
  go_wp2_with fail
  (with_reducible refine (c1.out _ g1).mono ?_); rintro e w2 ⟨⟨k1, rfl, q1, q2, q3⟩, b2⟩
  have f2 := f1.trans (b2.mono f1.size)
  have g2 := g1.trans (b2.mono g1.size)
  clear x0 x1 x2 x3 x4 x5 c1 b2
  obtain ⟨x0, x1, x2, x3, x4, x5⟩ := hca.out _ f2
  by_cases hk1 : k1 ≤ 3000
  case neg =>
    have z1 : (3000 : Int) < k1 := by omega
    clear hk1 q3
    go_wp2_with fail
    go_ret
    exact ⟨rfl, g2⟩
  have z1 : ¬ (3000 : Int) < k1 := by omega
  have z1' : decide ((3000 : Int) < k1) = false := by simpa using hk1
  have hz1 := Lib.hid (show Gv.wt n ≤ 1000000 by have := q3 hk1; omega)
  clear q3 hk1
  go_wp2_with fail
  (with_reducible refine (c3.out hz1.out _ g2).mono ?_); rintro e w4 ⟨rfl, b4⟩
  have f4 := f2.trans (b4.mono f2.size)
  have g4 := g2.trans (b4.mono g2.size)
  clear x0 x1 x2 x3 x4 x5 c3 b4 f2 g2 f1 g1
  obtain ⟨x0, x1, x2, x3, x4, x5⟩ := hca.out _ f4
  rcases Sc.pr_cases n with ⟨e1, e2, e3, e4⟩ | ⟨e1, e2, e3⟩ | ⟨e1, e2, e3⟩
  · have hp := Lib.hid (Sc.parse_str e2 e3)
    have hsz : (Gv.str (Sc.text n)).size ≤ 1000000 := by rw [Sc.str_size]; omega
    rw [e1, e4]
    generalize Gv.str (Sc.text n) = t at *
    have c6 := fun W => refParse_any t W hsz
    replace c6 := Lib.hid c6
    clear e1 e2 e3 e4 hsz c4
    go_wp2_with fail
    (with_reducible refine (c6.out _).mono ?_)
    rintro x w5 ⟨b5, ⟨c', m, rfl, hpm, hM⟩ | ⟨e, rfl, he0, hpm⟩⟩
    case inr => rw [hp.out] at hpm; cases hpm
    obtain rfl : n = m := by
      have := hp.out.symm.trans hpm
      injection this
    obtain ⟨k', sp', nm', d', as2, kids', ao', bo', ca', cb', cs', -, ec', -, -, -, -, -⟩ := hM.open'
    have hM2 := hM.mono (S' := fun _ => True) (fun _ _ _ => trivial)
    have f5 := f4.trans (b5.mono f4.size)
    have g5 := g4.trans (b5.mono g4.size)
    subst ec'
    clear x0 x1 x2 x3 x4 x5 b5 f4 g4 hpm hp hM c6
    have bB := (Below.refl w5.heap.size w5).alloc (Nat.le_refl _) (.cells #[.int .i64 k', .string sp', .string nm', .slice ao' as2.length ca', .slice bo' kids'.length cb', .string d'] 25)
    have kB := Cells.new w5 25 #[.int .i64 k', .string sp', .string nm', .slice ao' as2.length ca', .slice bo' kids'.length cb', .string d']
    have g6 := g5.trans (bB.mono g5.size)
    have c7 := Lib.hid (c5.out _ g6 _ (hM2.on bB))
    obtain ⟨x0, x1, x2, x3, x4, x5⟩ := hca.out _ (f5.trans (bB.mono f5.size))
    obtain ⟨y0, y1, y2, y3, y4, y5⟩ := node_open kB
    clear c5 hM2 kB bB f5 g5
    go_wp2_with fail
    (with_reducible refine c7.out.mono ?_); rintro e w7 ⟨⟨r, rfl, hr⟩, b7⟩
    obtain rfl : r = true := hr.2 trivial
    clear hr
    go_wp2_with fail
    go_ret
    exact ⟨rfl, g6.trans (b7.mono g6.size)⟩
  · rw [e1, e2]
    have c6 := Lib.hid (c4.out hz1.out _ g4)
    rw [e3] at c6
    clear e1 e2 e3 c4 c5
    go_wp2_with fail
    (with_reducible refine c6.out.mono ?_); rintro e w7 ⟨rfl, b7⟩
    go_wp2_with fail
    go_ret
    exact ⟨rfl, g4.trans (b7.mono g4.size)⟩
  · rw [e1, e2]
    have c6 := Lib.hid (c4.out hz1.out _ g4)
    rw [e3] at c6
    clear e1 e2 e3 c4 c5
    go_wp2_with fail
    (with_reducible refine c6.out.mono ?_); rintro e w7 ⟨rfl, b7⟩
    go_wp2_with fail
    go_ret
    exact ⟨rfl, g4.trans (b7.mono g4.size)⟩
end Go.Proofs.YtegaidfmkfnbnaaGreatDoor
namespace Go.Proofs.YtegaidfmkfnbnaaGreatDoor
open Go.RowKit

set_option maxRecDepth 100000 in
set_option maxHeartbeats 12800000 in
theorem again_any (s : ByteArray) (w : World) (hE : Env w) :
    Calls Tryz.prog 5 #[.string s] w fun e w' => e = .returned (.bool true) ∧ Below w.heap.size w w' := by
  have c0 := awake_any w hE
  have h0 : ByteArray.empty.toList = [] := by rw [ByteArray.toList_eq]; rfl
  replace hE := Lib.hid hE
  go_enter Tryz.func5, Tryz.ntmps5
  go_wp2_with fail
  (with_reducible refine c0.mono ?_); rintro e w1 ⟨rfl, g1⟩
  clear c0
  by_cases hs : s.size ≤ 2000
  case neg =>
    have z1 : (2000 : Int) < (s.size : Int) := by omega
    clear hs
    go_wp2_with fail
    go_ret
    exact ⟨rfl, g1⟩
  have z1 : ¬ (2000 : Int) < (s.size : Int) := by omega
  have z1' : decide ((2000 : Int) < (s.size : Int)) = false := by simpa using z1
  have c1 := fun W => refParse_any s W (by omega)
  replace c1 := Lib.hid c1
  replace hs := Lib.hid hs
  go_wp2_with fail
  (with_reducible refine (c1.out _).mono ?_)
  rintro x w2 ⟨b2, ⟨c, n, rfl, hpn, hN⟩ | ⟨e, rfl, he0, hpm⟩⟩
  case inr =>
    have v1 : ((e : Int) != 0) = true := by rw [bne_iff_ne]; omega
    have v2 : ¬ (e : Int) = 0 := by omega
    have bK := (Below.refl w2.heap.size w2).alloc (Nat.le_refl _) (.cells #[.int .i64 0, .string ⟨#[]⟩, .string ⟨#[]⟩, .slice none 0 0, .slice none 0 0, .string ⟨#[]⟩] 25)
    have g2 := g1.trans (b2.mono g1.size)
    have g3 := Lib.hid (g2.trans (bK.mono g2.size))
    clear hpm he0 b2 bK c1 g2
    unfold nodeArr
    go_wp2_with fail
    go_ret
    exact ⟨rfl, g3.out⟩
  have htr := Gv.parse_trim hpn (by rw [list_len]; exact hs.out)
  have hfz := fits_of_trim htr
  obtain ⟨k, sp, nm, d, as', kids, ao, bo, ca, cb, cs, -, ec, -, -, -, -, -⟩ := hN.open'
  have hN1 := hN.mono (S' := fun _ => True) (fun _ _ _ => trivial)
  subst ec
  have bA := (Below.refl w2.heap.size w2).alloc (Nat.le_refl _) (.cells #[.int .i64 k, .string sp, .string nm, .slice ao as'.length ca, .slice bo kids.length cb, .string d] 25)
  have kA := Cells.new w2 25 #[.int .i64 k, .string sp, .string nm, .slice ao as'.length ca, .slice bo kids.length cb, .string d]
  have hN2 := hN1.on bA
  have g2 := g1.trans (b2.mono g1.size)
  have g3 := g2.trans (bA.mono g2.size)
  clear hN hN1 b2 bA g2 g1 c1
  obtain ⟨x0, x1, x2, x3, x4, x5⟩ := node_open kA
  generalize hW3 : w2.alloc (.cells #[.int .i64 k, .string sp, .string nm, .slice ao as'.length ca, .slice bo kids.length cb, .string d] 25) = w3 at *
  have hca := Lib.hid (fun W hb => node_open (kA.on (w' := W) hb))
  replace kA := Lib.hid kA
  have c3 := fun W (hb : Below w3.heap.size w3 W) => sPrint_any _ n W (hN2.on hb) hfz (hE.out.on (g3.trans (hb.mono g3.size)))
  have c4 := fun W (hb : Below w3.heap.size w3 W) => refRight_any _ n W (hN2.on hb) htr
  have c5 := fun W (hb : Below w3.heap.size w3 W) c' (hM : NodeAt (fun _ => True) W c' n) => refSameNode_any hN2 W hb (fun _ => True) c' n hM
  have c8 := fun W c' (hb : Below w3.heap.size w3 W) (hM : NodeAt (fun _ => True) W c' n) => sPrint_any c' n W hM hfz (hE.out.on (g3.trans (hb.mono g3.size)))
  unfold SameTold at c5
  replace c3 := Lib.hid c3
  replace c4 := Lib.hid c4
  replace c5 := Lib.hid c5
  replace c8 := Lib.hid c8
  replace hN2 := Lib.hid hN2
  clear hpn htr hfz
  go_wp2_with fail
  (with_reducible refine (c3.out _ (Below.refl _ _)).mono ?_); rintro e w4 ⟨rfl, b4⟩
  have g4 := g3.trans (b4.mono g3.size)
  clear x0 x1 x2 x3 x4 x5 c3 hW3
  obtain ⟨x0, x1, x2, x3, x4, x5⟩ := hca.out _ b4
  rcases Sc.pr_cases n with ⟨e1, e2, e3, e4⟩ | ⟨e1, e2, e3⟩ | ⟨e1, e2, e3⟩
  · have hp := Lib.hid (Sc.parse_str e2 e3)
    have hsz : (Gv.str (Sc.text n)).size ≤ 1000000 := by rw [Sc.str_size]; omega
    have hr := Lib.hid (show Sc.prA n = Gv.str (Sc.text n) ∧ Sc.prE n = 0 from ⟨e4, e1⟩)
    rw [e1, e4]
    generalize Gv.str (Sc.text n) = t at *
    have c6 := fun W => refParse_any t W hsz
    replace c6 := Lib.hid c6
    clear e1 e2 e3 e4 hsz c4
    go_wp2_with fail
    (with_reducible refine (c6.out _).mono ?_)
    rintro x w5 ⟨b5, ⟨c', m, rfl, hpm, hM⟩ | ⟨e, rfl, he0, hpm⟩⟩
    case inr => rw [hp.out] at hpm; cases hpm
    obtain rfl : n = m := by
      have := hp.out.symm.trans hpm
      injection this
    obtain ⟨k', sp', nm', d', as2, kids', ao', bo', ca', cb', cs', -, ec', -, -, -, -, -⟩ := hM.open'
    have hM2 := hM.mono (S' := fun _ => True) (fun _ _ _ => trivial)
    have f5 := b4.trans (b5.mono b4.size)
    have g5 := g4.trans (b5.mono g4.size)
    subst ec'
    clear x0 x1 x2 x3 x4 x5 b5 b4 g4 hpm hp hM c6
    have bB := (Below.refl w5.heap.size w5).alloc (Nat.le_refl _) (.cells #[.int .i64 k', .string sp', .string nm', .slice ao' as2.length ca', .slice bo' kids'.length cb', .string d'] 25)
    have kB := Cells.new w5 25 #[.int .i64 k', .string sp', .string nm', .slice ao' as2.length ca', .slice bo' kids'.length cb', .string d']
    have g6 := g5.trans (bB.mono g5.size)
    have f6 := f5.trans (bB.mono f5.size)
    have hM3 := hM2.on bB
    clear hM2 bB f5 g5
    obtain ⟨x0, x1, x2, x3, x4, x5⟩ := hca.out _ f6
    obtain ⟨y0, y1, y2, y3, y4, y5⟩ := node_open kB
    generalize hW6 : w5.alloc (.cells #[.int .i64 k', .string sp', .string nm', .slice ao' as2.length ca', .slice bo' kids'.length cb', .string d'] 25) = w6 at *
    have hcb := Lib.hid (fun W hb => node_open (kB.on (w' := W) hb))
    have c9 := Lib.hid (c8.out w6 _ f6 hM3)
    have c7 := Lib.hid (fun W (hb : Below w6.heap.size w6 W) => c5.out W (f6.trans (hb.mono f6.size)) _ (hM3.on hb))
    rw [hr.out.1, hr.out.2] at c9
    clear c5 c8 kB hM3 hr
    go_wp2_with fail
    (with_reducible refine c9.out.mono ?_); rintro e w7 ⟨rfl, b7⟩
    have f7 := f6.trans (b7.mono f6.size)
    have g7 := g6.trans (b7.mono g6.size)
    clear x0 x1 x2 x3 x4 x5 y0 y1 y2 y3 y4 y5 c9 hW6
    obtain ⟨x0, x1, x2, x3, x4, x5⟩ := hca.out _ f7
    obtain ⟨y0, y1, y2, y3, y4, y5⟩ := hcb.out _ b7
    have c10 := Lib.hid (c7.out w7 b7)
    clear c7 f6 g6 f7
    go_wp2_with fail
    (with_reducible refine c10.out.mono ?_); rintro e w8 ⟨⟨r, rfl, hr⟩, b8⟩
    obtain rfl : r = true := hr.2 trivial
    clear hr
    go_wp2_with fail
    go_ret
    exact ⟨rfl, g7.trans (b8.mono g7.size)⟩
  · rw [e1, e2]
    have c6 := Lib.hid (c4.out _ b4)
    rw [e3] at c6
    clear e1 e2 e3 c4 c5 c8
    go_wp2_with fail
    (with_reducible refine c6.out.mono ?_); rintro e w7 ⟨rfl, b7⟩
    go_wp2_with fail
    go_ret
    exact ⟨rfl, g4.trans (b7.mono g4.size)⟩
  · rw [e1, e2]
    clear e1 e2 e3 c4 c5 c8
    go_wp2_with fail
    go_ret
    exact ⟨rfl, g4⟩
end Go.Proofs.YtegaidfmkfnbnaaGreatDoor
namespace Go.Proofs.YtegaidfmkfnbnaaGreatDoor
open Go.ChangeShapes Go.WideShapes Go.ChangeAt Go.RowKit Go.Deep

theorem own : ownKnob Tryz.prog.godebug = none := by kernel_rfl
theorem laidOut : laidOutB Tryz.prog = true := by kernel_rfl

/-- The listed variables, and the world's shape, are handed on to the contract. -/
theorem handed_on {H : Type} {enc : TypeId × Value → H} {a : Assume} {C : Checked} {os : Os} {f : FuncId} {fn : Func} {s : ChangeSpec} {conds : List PathCond} {apart fresh handsOn again : Bool} {X : World → Array Value → Prop}
    (hX : ∀ (w w' : World) (args : Array Value), w.heap = w'.heap → X w args → X w' args)
    (ownK : ownKnob C.prog.godebug = none) (started : os.Started) (noInit : C.prog.inits.idxOf? f = none) (hfn : C.prog.funcs[f]? = some fn)
    (witness : ∃ (w : World) (tape : Tape) (i : Input), w.os = os ∧ (w.forCall tape i).Shaped C.prog ∧ i.vars = [] ∧ Input.okWide C.prog (w.forCall tape i) .any w.heap.size f i ∧
      ((s.pre enc C.prog fn conds apart (w.forCall tape i).memory i.args ∧ X (w.forCall tape i).memory i.args) ∧ sizedMet enc C.prog fn (OpenSpec.ofChange s) apart (w.forCall tape i).memory i.args) ∧ a.holds C.prog (lone (Frame.enter C.prog f i.args .normal) [] (w.forCall tape i)))
    (contract : ∀ (W : World) (base : Nat) (args : Array Value) (ds gs : List (DataW H)) (before : List MemPlace),
      (∀ (j : Nat) t v, fn.params[j]? = some t → args[j]? = some v → Value.okWide C.prog W .any base t v) →
      DataW.Whole enc C.prog fn.params.toList s.vars apart W args.toList ds gs before →
      (DataW.weightsEach C.prog (fn.params.toList ++ s.plain.varTypes C.prog) (ds ++ gs)).all (· ≤ reachBytes) = true → X W args → W.ShapedOpen C.prog →
      Calls C.prog f args W fun e W' => ∃ v, e = .returned v ∧ s.post enc C.prog fn apart fresh handsOn again W args v W') :
    ReturnsInHanded a C os f .any (fun w args => (s.pre enc C.prog fn conds apart w args ∧ X w args) ∧ sizedMet enc C.prog fn (OpenSpec.ofChange s) apart w args) (s.post enc C.prog fn apart fresh handsOn again) := by
  refine returnsInHanded_of_calls ownK started noInit witness ?_
  intro w tape i _ hsh _ hok hpre _
  obtain ⟨_, _, _, fn', hfn', _, _, _, _, hval⟩ := hok
  obtain rfl : fn' = fn := Option.some.inj (hfn'.symm.trans hfn)
  obtain ⟨⟨⟨ds, gs, before, hw, _⟩, hx⟩, hz⟩ := hpre
  refine (contract (w.forCall tape i) w.heap.size i.args ds gs before hval (DataW.Whole.of_heap (w' := w.forCall tape i) (by rfl) hw) (hz.weights hw) (hX _ _ _ (by rfl) hx) hsh).mono fun e W' ⟨v, he, hp⟩ => ?_
  subst he
  exact ChangeSpec.post_blind hp

theorem bytes_open {H : Type} {enc : TypeId × Value → H} {W : World} {spare : Nat → Bool} {held : Bool} {v : Value} {d : DataW H} {p : List MemPlace} (hv : ∃ a len cap, v = .slice a len cap) (h : DataW.Trod enc Tryz.prog W 0 spare held 36 v d p) :
    ∃ (ao : Option Addr) (cap : Nat) (L : List UInt8), v = .slice ao L.length cap ∧ BytesAt ao L W ∧ L.length ≤ maxLen := by
  obtain ⟨a, len, cap, rfl⟩ := hv
  obtain ⟨fuel, hf⟩ := h
  rcases open_slice Tryz.underlying36 hf with ⟨hcs, _⟩ | ⟨a', len', cap', m, n, D, Pl, hcs, _, hl, hm, hmm, _, hall⟩
  · simp [Value.cells] at hcs
    obtain ⟨rfl, rfl, rfl⟩ := hcs
    exact ⟨none, 0, [], rfl, fun j hj => by simp at hj, by unfold maxLen; simp⟩
  · simp [Value.cells] at hcs
    obtain ⟨rfl, rfl, rfl⟩ := hcs
    have hlm : len ≤ m := by rw [hmm]; split <;> omega
    have c1 : Tryz.prog.cellsOf 5 = 1 := by kernel_rfl
    have hrow : ∀ i, i < len → ∃ b : UInt8, W.cell? (a'.add i) = some (.int .u8 (b.toNat : Int)) := fun i hi => by
      obtain ⟨cs, hc, ht⟩ := hall i (by omega)
      rw [c1, Nat.mul_one] at hc
      obtain ⟨n2, e2, _, z2⟩ := DataW.trod_int Tryz.underlying5 ht
      subst e2
      obtain ⟨_, _, hat⟩ := World.cells?_some hc
      have h1 := hat 0 (by rw [c1] at *; simp)
      have hb : 0 ≤ n2 ∧ n2 ≤ 255 := by
        simp [Lit.wf, IntKind.min, IntKind.max, IntKind.signed, IntKind.bits] at z2
        omega
      refine ⟨UInt8.ofNat n2.toNat, ?_⟩
      rw [show ((UInt8.ofNat n2.toNat).toNat : Int) = n2 by simp; omega]
      simpa [Addr.add] using h1
    obtain ⟨R, hR⟩ := choose_lt hrow
    refine ⟨some a', cap, (List.range len).map R, by simp, fun j hj => ?_, by simp; omega⟩
    have hj' : j < len := by simpa using hj
    obtain ⟨b, off, sp⟩ := a'
    have h0 := hR j hj'
    have hsp : sp = none := by
      cases sp with
      | none => rfl
      | some q =>
        exfalso
        by_cases hj0 : j = 0
        · subst hj0
          simp only [Addr.add, if_true] at h0
          unfold World.cell? at h0
          split at h0 <;> simp at h0
        · have h00 := hR 0 (by omega)
          simp only [Addr.add, if_true] at h00
          unfold World.cell? at h00
          split at h00 <;> simp at h00
    subst hsp
    simp only [add_plain] at h0
    simp only [List.getElem_map, List.getElem_range]
    exact ⟨b, off, rfl, h0⟩
end Go.Proofs.YtegaidfmkfnbnaaGreatDoor
namespace Go.Proofs.YtegaidfmkfnbnaaGreatDoor
open Go.ChangeShapes Go.WideShapes Go.ChangeAt Go.RowKit Go.Deep

theorem weights_in {H : Type} {P : Program} {e : TypeId} {d : DataW H} {k : Nat} (hk : k ∈ d.weights P e) : ∀ {l : List (DataW H)}, d ∈ l → k ∈ DataW.weightsAll P e l
  | [], h => by cases h
  | c :: l, h => by
    unfold DataW.weightsAll
    rw [List.mem_append]
    rcases List.mem_cons.1 h with rfl | h
    · exact .inl hk
    · exact .inr (weights_in hk h)
/-- a row's cells. -/
theorem row_at {W : World} {a : Addr} {k : Nat} {cs : List Value} (h : W.cells? 0 a k = some cs) : cs.length = k ∧ (∀ i u, cs[i]? = some u → W.cell? (a.add i) = some u) := by
  obtain ⟨_, hlen, hat⟩ := World.cells?_some h
  refine ⟨hlen, fun i u hu => ?_⟩
  have hi : i < k := by rw [← hlen]; exact (List.getElem?_eq_some_iff.1 hu).1
  rw [hat i hi, hu]
theorem plain_of {W : World} {a : Addr} {u : Value} (h : W.cell? a = some u) : ∃ b off, a = ⟨b, off, none⟩ := by
  obtain ⟨b, off, sp⟩ := a
  cases sp with
  | none => exact ⟨b, off, rfl⟩
  | some q =>
    unfold World.cell? at h
    split at h <;> simp at h
theorem add_zero' (a : Addr) : a.add 0 = a := by
  obtain ⟨b, off, sp⟩ := a
  simp [Addr.add]
theorem trod_struct6 {H : Type} {enc : TypeId × Value → H} {P : Program} {w : World} {base : Nat} {spare : Nat → Bool} {held : Bool} {t : TypeId} {f0 f1 f2 f3 f4 f5 : Field} {fuel : Nat} {cs : List Value} {x : DataW H × List MemPlace} (ht : P.underlying t = some (.struct #[f0, f1, f2, f3, f4, f5])) (h : DataW.trod enc P w base spare held fuel t cs = some x) :
    ∃ y0 y1 y2 y3 y4 y5 n, fuel = n + 1 ∧ x.1 = .agg [y0.1, y1.1, y2.1, y3.1, y4.1, y5.1] ∧ cs.length = P.cellsOf t ∧ DataW.trod enc P w base spare held n f0.type ((cs.drop f0.offset).take (P.cellsOf f0.type)) = some y0 ∧
      DataW.trod enc P w base spare held n f1.type ((cs.drop f1.offset).take (P.cellsOf f1.type)) = some y1 ∧ DataW.trod enc P w base spare held n f2.type ((cs.drop f2.offset).take (P.cellsOf f2.type)) = some y2 ∧
      DataW.trod enc P w base spare held n f3.type ((cs.drop f3.offset).take (P.cellsOf f3.type)) = some y3 ∧ DataW.trod enc P w base spare held n f4.type ((cs.drop f4.offset).take (P.cellsOf f4.type)) = some y4 ∧
      DataW.trod enc P w base spare held n f5.type ((cs.drop f5.offset).take (P.cellsOf f5.type)) = some y5 := by
  obtain ⟨xs, n, hn, rfl, hl, hlen, hf⟩ := DataW.trod_struct ht h
  match xs, hlen with
  | [y0, y1, y2, y3, y4, y5], _ => exact ⟨y0, y1, y2, y3, y4, y5, n, hn, by simp, hl, by simpa using hf 0 f0 rfl, by simpa using hf 1 f1 rfl, by simpa using hf 2 f2 rfl, by simpa using hf 3 f3 rfl, by simpa using hf 4 f4 rfl, by simpa using hf 5 f5 rfl⟩

set_option maxRecDepth 100000 in
theorem att_open {H : Type} {enc : TypeId × Value → H} {W : World} {spare : Nat → Bool} {held : Bool} {n : Nat} {cs : List Value} {x : DataW H × List MemPlace}
    (h : DataW.trod enc Tryz.prog W 0 spare held n 40 cs = some x) (hw : ∀ k ∈ x.1.weights Tryz.prog 40, k ≤ reachBytes) :
    ∃ r : Gv.Att, cs = attCells r ∧ r.space.size ≤ 140737488355328 ∧ r.name.size ≤ 140737488355328 ∧ r.value.size ≤ 140737488355328 := by
  obtain ⟨y0, y1, y2, m, hx, hlen, h0, h1, h2⟩ := Deep.trod_struct3 Tryz.underlying40 h
  have c3 : Tryz.prog.cellsOf 40 = 3 := by kernel_rfl
  have c9 : Tryz.prog.cellsOf 9 = 1 := by kernel_rfl
  rw [c3] at hlen
  match cs, hlen with
  | [x0, x1, x2], _ =>
    simp only [c9] at h0 h1 h2
    obtain ⟨s0, e0, f0, _⟩ := DataW.trod_string Tryz.underlying9 h0
    obtain ⟨s1, e1, f1, _⟩ := DataW.trod_string Tryz.underlying9 h1
    obtain ⟨s2, e2, f2, _⟩ := DataW.trod_string Tryz.underlying9 h2
    simp at e0 e1 e2
    subst e0; subst e1; subst e2
    rw [hx] at hw
    simp only [DataW.weights, Tryz.underlying40] at hw
    have hlt := reachBytes_lt
    have a0 := hw s0.data.toList.length (by rw [f0]; simp [DataW.weightsEach, DataW.weights])
    have a1 := hw s1.data.toList.length (by rw [f1]; simp [DataW.weightsEach, DataW.weights])
    have a2 := hw s2.data.toList.length (by rw [f2]; simp [DataW.weightsEach, DataW.weights])
    rw [list_len] at a0 a1 a2
    exact ⟨⟨s0, s1, s2⟩, rfl, show s0.size ≤ _ by omega, show s1.size ≤ _ by omega, show s2.size ≤ _ by omega⟩

set_option maxRecDepth 100000 in
theorem atts_open {H : Type} {enc : TypeId × Value → H} {W : World} {spare : Nat → Bool} {held : Bool} {v : Value} {n : Nat} {x : DataW H × List MemPlace} (h : DataW.trod enc Tryz.prog W 0 spare held n 22 [v] = some x)
    (hw : ∀ k ∈ x.1.weights Tryz.prog 22, k ≤ reachBytes) :
    ∃ l : List Gv.Att, AttsAt (fun _ => True) W v l ∧ l.length ≤ maxLen ∧ l.length ≤ 140737488355328 ∧ ∀ a ∈ l, a.space.size ≤ 140737488355328 ∧ a.name.size ≤ 140737488355328 ∧ a.value.size ≤ 140737488355328 := by
  rcases DataW.trod_slice Tryz.underlying22 h with ⟨hcs, _⟩ | ⟨a', len, cap, elems, rest, m, _, hcs, hx, _, hl, hm, hel, hall, _, _⟩
  · simp at hcs
    subst hcs
    exact ⟨[], ⟨none, 0, rfl, Nat.le_refl _, fun j hj => by simp at hj⟩, by unfold maxLen; simp, by simp, fun r hr => by cases hr⟩
  · simp at hcs
    subst hcs
    have c3 : Tryz.prog.cellsOf 40 = 3 := by kernel_rfl
    have c48 : Tryz.prog.bytesOf 40 = 48 := by kernel_rfl
    rw [hx] at hw
    simp only [DataW.weights, Tryz.underlying22] at hw
    have hlen := hw _ (List.mem_cons_self)
    rw [c48, List.length_map, List.length_map] at hlen
    have hlt := reachBytes_lt
    have hrow : ∀ i, i < len → ∃ r : Gv.Att, (∀ j u, (attCells r)[j]? = some u → W.cell? ((a'.add (i * 3)).add j) = some u) ∧ r.space.size ≤ 140737488355328 ∧ r.name.size ≤ 140737488355328 ∧ r.value.size ≤ 140737488355328 := fun i hi => by
      have hi' := hall i hi
      rw [List.getElem?_eq_getElem (by omega), Option.bind_eq_some_iff] at hi'
      obtain ⟨cs, hc, ht⟩ := hi'
      rw [c3] at hc
      obtain ⟨_, hat⟩ := row_at hc
      obtain ⟨r, e, z⟩ := att_open ht (fun k hk => hw k (by
        rw [List.mem_cons, List.mem_append]
        exact .inr (.inl (weights_in hk (List.mem_map.2 ⟨_, List.getElem_mem _, rfl⟩)))))
      exact ⟨r, fun j u hu => hat j u (by rw [e]; exact hu), z⟩
    have : Inhabited Gv.Att := ⟨⟨ByteArray.empty, ByteArray.empty, ByteArray.empty⟩⟩
    obtain ⟨R, hR⟩ := choose_lt hrow
    refine ⟨(List.range len).map R, ⟨some a', cap, by simp, by simpa using hl, fun j hj => ?_⟩, by simp; omega, by simp; omega, fun r hr => ?_⟩
    · have hj' : j < len := by simpa using hj
      have h0 := (hR 0 (by omega)).1 0 _ rfl
      rw [Nat.zero_mul, add_zero', add_zero'] at h0
      obtain ⟨b, off, rfl⟩ := plain_of h0
      refine ⟨b, off, rfl, trivial, fun i u hu => ?_⟩
      simp only [List.getElem_map, List.getElem_range] at hu
      have := (hR j hj').1 i u hu
      simpa only [WideShapes.add_plain] using this
    · obtain ⟨i, hi, rfl⟩ := List.mem_map.1 hr
      exact (hR i (List.mem_range.1 hi)).2

set_option maxRecDepth 100000 in
set_option maxHeartbeats 1600000 in
theorem node_trod {H : Type} {enc : TypeId × Value → H} {W : World} {spare : Nat → Bool} {held : Bool} : ∀ (n : Nat) (cs : List Value) (x : DataW H × List MemPlace), DataW.trod enc Tryz.prog W 0 spare held n 25 cs = some x → (∀ k ∈ x.1.weights Tryz.prog 25, k ≤ reachBytes) →
    ∃ nd : Gv.Node, NodeAt (fun _ => True) W cs nd ∧ Sized nd := by
  intro n
  induction n using Nat.strongRecOn with
  | _ n ih =>
    intro cs x h hw
    obtain ⟨y0, y1, y2, y3, y4, y5, m, rfl, hx, hlen, h0, h1, h2, h3, h4, h5⟩ := trod_struct6 Tryz.underlying25 h
    have c6 : Tryz.prog.cellsOf 25 = 6 := by kernel_rfl
    have c9 : Tryz.prog.cellsOf 9 = 1 := by kernel_rfl
    have ci : Tryz.prog.cellsOf 3 = 1 := by kernel_rfl
    have ca : Tryz.prog.cellsOf 22 = 1 := by kernel_rfl
    have cn : Tryz.prog.cellsOf 23 = 1 := by kernel_rfl
    rw [c6] at hlen
    match cs, hlen with
    | [x0, x1, x2, x3, x4, x5], _ =>
      simp only [c9, ci, ca, cn] at h0 h1 h2 h3 h4 h5
      obtain ⟨k0, e0, f0, _⟩ := DataW.trod_int Tryz.underlying3 h0
      obtain ⟨s1, e1, f1, _⟩ := DataW.trod_string Tryz.underlying9 h1
      obtain ⟨s2, e2, f2, _⟩ := DataW.trod_string Tryz.underlying9 h2
      obtain ⟨s5, e5, f5, _⟩ := DataW.trod_string Tryz.underlying9 h5
      simp at e0 e1 e2 e5
      subst e0; subst e1; subst e2; subst e5
      rw [hx] at hw
      simp only [DataW.weights, Tryz.underlying25] at hw
      have hlt := reachBytes_lt
      have a1 := hw s1.data.toList.length (by rw [f1]; simp [DataW.weightsEach, DataW.weights])
      have a2 := hw s2.data.toList.length (by rw [f2]; simp [DataW.weightsEach, DataW.weights])
      have a5 := hw s5.data.toList.length (by rw [f5]; simp [DataW.weightsEach, DataW.weights])
      rw [list_len] at a1 a2 a5
      have w3 : ∀ k ∈ y3.1.weights Tryz.prog 22, k ≤ reachBytes := fun k hk => hw k (by
        simp only [DataW.weightsEach, List.mem_append, List.map_cons, List.map_nil]
        exact .inr (.inr (.inr (.inl hk))))
      have w4 : ∀ k ∈ y4.1.weights Tryz.prog 23, k ≤ reachBytes := fun k hk => hw k (by
        simp only [DataW.weightsEach, List.mem_append, List.map_cons, List.map_nil]
        exact .inr (.inr (.inr (.inr (.inl hk)))))
      obtain ⟨as', hat, l1, l2, l3⟩ := atts_open (v := x3) (by simpa using h3) w3
      have hkids : ∃ (kids : List Gv.Node) (rows : Nat → List Value), RowsAt (fun _ => True) W x4 kids.length rows ∧ kids.length ≤ maxLen ∧ (∀ j (h : j < kids.length), NodeAt (fun _ => True) W (rows j) kids[j]) ∧ ∀ c ∈ kids, Sized c := by
        rcases DataW.trod_slice (cs := [x4]) Tryz.underlying23 (by simpa using h4) with ⟨hcs, _⟩ | ⟨a', len, cap, elems, rest, m2, hm2, hcs, hx4, _, hl, hm, hel, hall, _, _⟩
        · simp at hcs
          subst hcs
          exact ⟨[], fun _ => [], ⟨none, 0, rfl, fun j hj => by simp at hj⟩, by unfold maxLen; simp, fun j hj => by simp at hj, fun r hr => by cases hr⟩
        · simp at hcs
          subst hcs
          rw [hx4] at w4
          simp only [DataW.weights, Tryz.underlying23] at w4
          have hrow : ∀ i, i < len → ∃ r : Gv.Node × List Value, r.2.length = 6 ∧ (∀ j u, r.2[j]? = some u → W.cell? ((a'.add (i * 6)).add j) = some u) ∧ NodeAt (fun _ => True) W r.2 r.1 ∧ Sized r.1 := fun i hi => by
            have hi' := hall i hi
            rw [List.getElem?_eq_getElem (by omega), Option.bind_eq_some_iff] at hi'
            obtain ⟨cs, hc, ht⟩ := hi'
            rw [c6] at hc
            obtain ⟨hl6, hat'⟩ := row_at hc
            obtain ⟨nd, q1, q2⟩ := ih m2 (by omega) cs _ ht (fun k hk => w4 k (by
              rw [List.mem_cons, List.mem_append]
              exact .inr (.inl (weights_in hk (List.mem_map.2 ⟨_, List.getElem_mem _, rfl⟩)))))
            exact ⟨(nd, cs), hl6, hat', q1, q2⟩
          have : Inhabited (Gv.Node × List Value) := ⟨(.mk 0 ByteArray.empty ByteArray.empty [] [] ByteArray.empty, [])⟩
          obtain ⟨R, hR⟩ := choose_lt hrow
          refine ⟨(List.range len).map fun i => (R i).1, fun i => (R i).2, ⟨some a', cap, by simp, fun j hj => ?_⟩, by simp; omega, fun j hj => ?_, fun r hr => ?_⟩
          · have hj' : j < len := by simpa using hj
            obtain ⟨q6, _⟩ := hR j hj'
            refine ⟨q6, ?_⟩
            obtain ⟨r6, r1, _⟩ := hR 0 (by omega)
            obtain ⟨u0, hu0⟩ : ∃ u, (R 0).2[0]? = some u := ⟨_, List.getElem?_eq_getElem (by omega)⟩
            have h0 := r1 0 _ hu0
            rw [Nat.zero_mul, add_zero', add_zero'] at h0
            obtain ⟨b, off, rfl⟩ := plain_of h0
            refine ⟨b, off, rfl, trivial, fun i u hu => ?_⟩
            have := (hR j hj').2.1 i u hu
            simpa only [WideShapes.add_plain] using this
          · have hj' : j < len := by simpa using hj
            simpa using (hR j hj').2.2.1
          · obtain ⟨i, hi, rfl⟩ := List.mem_map.1 hr
            exact (hR i (List.mem_range.1 hi)).2.2.2
      obtain ⟨kids, rows, hrw, hk1, hk2, hk3⟩ := hkids
      exact ⟨.mk k0 s1 s2 as' kids s5, .mk rows ⟨l1, hk1⟩ hat hrw hk2, .mk l2 (by omega) (by omega) (by omega) l3 hk3⟩

set_option maxRecDepth 100000 in
theorem node_read {H : Type} {enc : TypeId × Value → H} {W : World} {spare : Nat → Bool} {held : Bool} {base : Nat} {v : Value} {d : DataW H} {p : List MemPlace} (hv : Value.okWide Tryz.prog W .any base 25 v) (h : DataW.Trod enc Tryz.prog W 0 spare held 25 v d p)
    (hw : ∀ k ∈ d.weights Tryz.prog 25, k ≤ reachBytes) : ∃ (c : List Value) (n : Gv.Node), v = .agg c.toArray ∧ NodeAt (fun _ => True) W c n ∧ Sized n := by
  obtain ⟨cs, rfl, hsz⟩ := okWide_struct Tryz.underlying25 hv
  obtain ⟨fuel, hf⟩ := h
  obtain ⟨n, h1, h2⟩ := node_trod fuel cs.toList (d, p) (by simpa [Value.cells] using hf) hw
  exact ⟨cs.toList, n, by simp, h1, h2⟩
end Go.Proofs.YtegaidfmkfnbnaaGreatDoor
namespace Go.Proofs.YtegaidfmkfnbnaaGreatDoor
open Go.ChangeShapes Go.WideShapes Go.ChangeAt Go.RowKit Go.Deep Go.Stop

/-- What the rows list. -/
abbrev listed : List (String × DataW Unit) := Rows.scribeBackRow.laid

theorem mostCell {w : World} (h : w.ShapedOpen Tryz.prog) : ∃ m, w.cell? ⟨3, 0, none⟩ = some (.int .i64 m) :=
  cell_of_shapedOpen_int (zero := #[.int .i64 0]) (t := 3) h (of_decide_eq_true (by kernel_rfl)) (by kernel_rfl) (by kernel_rfl) (by kernel_rfl) (by kernel_rfl) (by kernel_rfl)

/-- The table of letters. -/
def foldTab : List Int := (List.range 128).map fun n => ((other n : Nat) : Int)
theorem foldTab_at {n : Nat} (h : n < 128) : (foldTab.map fun z => Value.int .u16 z).toArray[n]? = some (.int .u16 (other n : Nat)) := by
  unfold foldTab
  simp [h]

theorem envAt_of {W : World} (h : laidMetH Tryz.prog listed W) (hs : W.ShapedOpen Tryz.prog) : EnvAt W := by
  rw [MakeChecks.laidMetH_plain _ _ _ (by kernel_rfl)] at h
  have hr := h.tail.tail.tail.tail
  have ht : Lib.TabIs Tryz.prog W "unicode.asciiFold" .u16 foldTab := Lib.tabIs_of_head (g := 0) (t := 122) (e := 121) (n := 128) (by kernel_rfl) (by kernel_rfl) Tryz.underlying122 Tryz.underlying121 (by kernel_rfl) (by kernel_rfl) hr
  refine ⟨mostCell hs, trivial, trivial, trivial, fun n hn => ?_⟩
  have := World.var?_cell (show Tryz.prog.globalNamed "unicode.asciiFold" = some 0 by kernel_rfl) ht n
  rw [foldTab_at hn] at this
  exact this
end Go.Proofs.YtegaidfmkfnbnaaGreatDoor
