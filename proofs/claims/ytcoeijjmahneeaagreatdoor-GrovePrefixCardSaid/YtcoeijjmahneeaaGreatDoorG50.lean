/-
  From a reading of the arguments to what the walks ask: bytes in memory; a builder that hands on the listed variables and the world's shape.
  The environment's facts, out of the world's shape and of what the rows list.
  The statements' walks: GroveAbout.
-/
import Derived.Test.YtcoeijjmahneeaaGreatDoorG01
import Derived.ProofKit
import Derived.OpenShut
import Derived.ShutString
import Derived.ChangeOld
import Derived.LaidMore
import Derived.Lay
import Derived.Handed
import Derived.SizedLaws
import Derived.Deep.Slices
import Derived.Lib.SmallJoins
import Derived.Lib.LaidTab
import Derived.Stop.LaidErr
import Derived.Stop.Joined
import Derived.Shelf.Vars
import Derived.Test.YtcoeijjmahneeaaGreatDoorG49
namespace Go.Proofs.YtcoeijjmahneeaaGreatDoor
open Go.ChangeShapes Go.WideShapes Go.ChangeAt Go.RowKit Go.Deep

theorem own : ownKnob Tryz.prog.godebug = none := by kernel_rfl
theorem laidOut : laidOutB Tryz.prog = true := by kernel_rfl

/-- The listed variables, and the world's shape, are handed on to the contract. -/
theorem handed_on {H : Type} {enc : TypeId × Value → H} {a : Assume} {C : Checked} {os : Os} {f : FuncId} {fn : Func} {s : ChangeSpec} {conds : List PathCond} {apart fresh handsOn again : Bool} {X : World → Array Value → Prop}
    (hX : ∀ (w w' : World) (args : Array Value), w.heap = w'.heap → X w args → X w' args)
    (ownK : ownKnob C.prog.godebug = none) (started : os.Started) (noInit : C.prog.inits.idxOf? f = none) (hfn : C.prog.funcs[f]? = some fn)
    (witness : ∃ (w : World) (tape : Tape) (i : Input), w.os = os ∧ (w.forCall tape i).Shaped C.prog ∧ i.vars = [] ∧ Input.okWide C.prog (w.forCall tape i) .any w.heap.size f i ∧
      ((s.pre enc C.prog fn conds apart (w.forCall tape i).memory i.args ∧ X (w.forCall tape i).memory i.args) ∧ sizedMet enc C.prog fn (OpenSpec.ofChange s) apart (w.forCall tape i).memory i.args) ∧ a.holds C.prog (lone (Frame.enter C.prog f i.args .normal) [] (w.forCall tape i)))
    (contract : ∀ (W : World) (base : Nat) (args : Array Value) (ds gs : List (DataW H)) (before : List MemPlace),
      (∀ (j : Nat) t v, fn.params[j]? = some t → args[j]? = some v → Value.okWide C.prog W .any base t v) →
      DataW.Whole enc C.prog fn.params.toList s.vars apart W args.toList ds gs before →
      (DataW.weightsEach C.prog (fn.params.toList ++ s.plain.varTypes C.prog) (ds ++ gs)).all (· ≤ reachBytes) = true → X W args → W.ShapedOpen C.prog →
      Calls C.prog f args W fun e W' => ∃ v, e = .returned v ∧ s.post enc C.prog fn apart fresh handsOn again W args v W') :
    ReturnsInHanded a C os f .any (fun w args => (s.pre enc C.prog fn conds apart w args ∧ X w args) ∧ sizedMet enc C.prog fn (OpenSpec.ofChange s) apart w args) (s.post enc C.prog fn apart fresh handsOn again) := by
  refine returnsInHanded_of_calls ownK started noInit witness ?_
  intro w tape i _ hsh _ hok hpre _
  obtain ⟨_, _, _, fn', hfn', _, _, _, _, hval⟩ := hok
  obtain rfl : fn' = fn := Option.some.inj (hfn'.symm.trans hfn)
  obtain ⟨⟨⟨ds, gs, before, hw, _⟩, hx⟩, hz⟩ := hpre
  refine (contract (w.forCall tape i) w.heap.size i.args ds gs before hval (DataW.Whole.of_heap (w' := w.forCall tape i) (by rfl) hw) (hz.weights hw) (hX _ _ _ (by rfl) hx) hsh).mono fun e W' ⟨v, he, hp⟩ => ?_
  subst he
  exact ChangeSpec.post_blind hp

theorem bytes_open {H : Type} {enc : TypeId × Value → H} {W : World} {spare : Nat → Bool} {held : Bool} {v : Value} {d : DataW H} {p : List MemPlace} (hv : ∃ a len cap, v = .slice a len cap) (h : DataW.Trod enc Tryz.prog W 0 spare held 81 v d p) :
    ∃ (ao : Option Addr) (cap : Nat) (L : List UInt8), v = .slice ao L.length cap ∧ BytesAt ao L W ∧ L.length ≤ maxLen := by
  obtain ⟨a, len, cap, rfl⟩ := hv
  obtain ⟨fuel, hf⟩ := h
  rcases open_slice Tryz.underlying81 hf with ⟨hcs, _⟩ | ⟨a', len', cap', m, n, D, Pl, hcs, _, hl, hm, hmm, _, hall⟩
  · simp [Value.cells] at hcs
    obtain ⟨rfl, rfl, rfl⟩ := hcs
    exact ⟨none, 0, [], rfl, fun j hj => by simp at hj, by unfold maxLen; simp⟩
  · simp [Value.cells] at hcs
    obtain ⟨rfl, rfl, rfl⟩ := hcs
    have hlm : len ≤ m := by rw [hmm]; split <;> omega
    have c1 : Tryz.prog.cellsOf 5 = 1 := by kernel_rfl
    have hrow : ∀ i, i < len → ∃ b : UInt8, W.cell? (a'.add i) = some (.int .u8 (b.toNat : Int)) := fun i hi => by
      obtain ⟨cs, hc, ht⟩ := hall i (by omega)
      rw [c1, Nat.mul_one] at hc
      obtain ⟨n2, e2, _, z2⟩ := DataW.trod_int Tryz.underlying5 ht
      subst e2
      obtain ⟨_, _, hat⟩ := World.cells?_some hc
      have h1 := hat 0 (by rw [c1] at *; simp)
      have hb : 0 ≤ n2 ∧ n2 ≤ 255 := by
        simp [Lit.wf, IntKind.min, IntKind.max, IntKind.signed, IntKind.bits] at z2
        omega
      refine ⟨UInt8.ofNat n2.toNat, ?_⟩
      rw [show ((UInt8.ofNat n2.toNat).toNat : Int) = n2 by simp; omega]
      simpa [Addr.add] using h1
    obtain ⟨R, hR⟩ := choose_lt hrow
    refine ⟨some a', cap, (List.range len).map R, by simp, fun j hj => ?_, by simp; omega⟩
    have hj' : j < len := by simpa using hj
    obtain ⟨b, off, sp⟩ := a'
    have h0 := hR j hj'
    have hsp : sp = none := by
      cases sp with
      | none => rfl
      | some q =>
        exfalso
        by_cases hj0 : j = 0
        · subst hj0
          simp only [Addr.add, if_true] at h0
          unfold World.cell? at h0
          split at h0 <;> simp at h0
        · have h00 := hR 0 (by omega)
          simp only [Addr.add, if_true] at h00
          unfold World.cell? at h00
          split at h00 <;> simp at h00
    subst hsp
    simp only [add_plain] at h0
    simp only [List.getElem_map, List.getElem_range]
    exact ⟨b, off, rfl, h0⟩
end Go.Proofs.YtcoeijjmahneeaaGreatDoor
namespace Go.Proofs.YtcoeijjmahneeaaGreatDoor
open Go.ChangeShapes Go.WideShapes Go.ChangeAt Go.RowKit Go.Deep Go.Stop

/-- What the rows list. -/
abbrev listed : List (String × DataW Unit) := Rows.groveAboutRow.laid

theorem errorRow (u : TypeId) (h : Tryz.prog.typeName? 3 u = some "*errors.errorString") : u = 224 :=
  typeName_ptr_named (nm := "errors.errorString") (by kernel_rfl) (by kernel_rfl) (by decide) u h

theorem mostCell {w : World} (h : w.ShapedOpen Tryz.prog) : ∃ m, w.cell? ⟨3, 0, none⟩ = some (.int .i64 m) :=
  cell_of_shapedOpen_int (zero := #[.int .i64 0]) (t := 3) h (of_decide_eq_true (by kernel_rfl)) (by kernel_rfl) (by kernel_rfl) (by kernel_rfl) (by kernel_rfl) (by kernel_rfl)

theorem cell_of_var {W : World} {n : String} {g : Nat} {v : Value} (hg : Tryz.prog.globalNamed n = some g) (h : W.var? Tryz.prog n = some #[v]) : W.cell? ⟨g, 0, none⟩ = some v := by
  have h0 := World.var?_cell hg h 0
  simpa using h0

/-- The table of letters. -/
def foldTab : List Int := (List.range 128).map fun n => ((other n : Nat) : Int)
theorem foldTab_at {n : Nat} (h : n < 128) : (foldTab.map fun z => Value.int .u16 z).toArray[n]? = some (.int .u16 (other n : Nat)) := by
  unfold foldTab
  simp [h]

theorem envAt_of {W : World} (h : laidMetH Tryz.prog listed W) (hs : W.ShapedOpen Tryz.prog) : EnvAt W := by
  rw [MakeChecks.laidMetH_plain _ _ _ (by kernel_rfl)] at h
  have hr := h.tail.tail.tail.tail
  obtain ⟨a1, s1, hv1, -, -, -⟩ := laid_sentinel hr (show Tryz.prog.globalNamed "strconv.ErrRange" = some 8 by kernel_rfl) (show (Tryz.prog.globals[8]?).map (·.type) = some 136 by kernel_rfl) Tryz.underlying136 errorRow Tryz.underlying224 Tryz.underlying226 rfl rfl Tryz.underlying9 (by kernel_rfl) (by kernel_rfl)
  obtain ⟨a0, s0, hv0, -, -, -⟩ := laid_sentinel hr.tail (show Tryz.prog.globalNamed "strconv.ErrSyntax" = some 7 by kernel_rfl) (show (Tryz.prog.globals[7]?).map (·.type) = some 136 by kernel_rfl) Tryz.underlying136 errorRow Tryz.underlying224 Tryz.underlying226 rfl rfl Tryz.underlying9 (by kernel_rfl) (by kernel_rfl)
  have ht : Lib.TabIs Tryz.prog W "unicode.asciiFold" .u16 foldTab := Lib.tabIs_of_head (g := 0) (t := 147) (e := 146) (n := 128) (by kernel_rfl) (by kernel_rfl) Tryz.underlying147 Tryz.underlying146 (by kernel_rfl) (by kernel_rfl) hr.tail.tail
  obtain ⟨a2, s2, hv2, -, -, -⟩ := laid_sentinel hr.tail.tail.tail.tail (show Tryz.prog.globalNamed "broadsheet/escape.errNoReference" = some 6 by kernel_rfl) (show (Tryz.prog.globals[6]?).map (·.type) = some 136 by kernel_rfl) Tryz.underlying136 errorRow Tryz.underlying224 Tryz.underlying226 rfl rfl Tryz.underlying9 (by kernel_rfl) (by kernel_rfl)
  refine ⟨mostCell hs, ⟨_, cell_of_var (by kernel_rfl) hv2⟩, ⟨_, _, cell_of_var (by kernel_rfl) hv0⟩, ⟨_, _, cell_of_var (by kernel_rfl) hv1⟩, fun n hn => ?_⟩
  have := World.var?_cell (show Tryz.prog.globalNamed "unicode.asciiFold" = some 0 by kernel_rfl) ht n
  rw [foldTab_at hn] at this
  exact this
end Go.Proofs.YtcoeijjmahneeaaGreatDoor
namespace Go.Proofs.YtcoeijjmahneeaaGreatDoor
open Go.RowKit

namespace Gv
theorem about_behind {l : List UInt8} (hl : l.length ≤ 2000) {n : Node} (h : parse l = .ok n) : parse (l ++ behind) = .ok n := parse_behind h (by omega)
theorem about_ahead {l : List UInt8} (hl : l.length ≤ 2000) (hd : T.begins [60, 63, 120, 109, 108] l = false) {n : Node} (h : parse l = .ok n) : parse (ahead ++ (l ++ behind)) = .ok n := parse_about h (by omega) hd
theorem begins_short {l : List UInt8} (h : l.length < 5) : T.begins [60, 63, 120, 109, 108] l = false := by
  cases hb : T.begins [60, 63, 120, 109, 108] l with
  | false => rfl
  | true =>
    obtain ⟨r, hr⟩ := T.begins_iff.1 hb
    rw [← hr] at h
    simp at h
    omega
theorem begins_take {l : List UInt8} : T.begins [60, 63, 120, 109, 108] l = true ↔ l.take 5 = [60, 63, 120, 109, 108] := by
  rw [T.begins_iff]
  constructor
  · rintro ⟨r, rfl⟩; rfl
  · intro h
    exact ⟨l.drop 5, by rw [← h]; exact List.take_append_drop 5 l⟩
end Gv
theorem take_five (s : ByteArray) : (s.extract 0 5).toList = s.data.toList.take 5 := by
  rw [ByteArray.toList_eq, ByteArray.data_extract, Array.toList_extract]
  rfl

set_option maxRecDepth 100000 in
set_option maxHeartbeats 6400000 in
theorem about_any (s : ByteArray) (decl : Bool) (w : World) (_hs : s.size ≤ maxLen) (hE : Env w) : Calls Tryz.prog 4 #[.string s, .bool decl] w fun e w' => e = .returned (.bool true) ∧ Below w.heap.size w w' := by
  go_enter Tryz.func4, Tryz.ntmps4
  go_wp2_with fail
  (with_reducible refine (awake_any _ hE).mono ?_); rintro e w1 ⟨rfl, t1⟩
  by_cases h2 : s.size ≤ 2000
  case neg =>
    have hi : (2000 : Int) < (s.size : Int) := by omega
    go_wp2_with fail
    go_ret
    exact ⟨rfl, t1⟩
  have hi : ¬ (2000 : Int) < (s.size : Int) := by omega
  have hln := list_len s
  go_wp2_with fail
  (with_reducible refine (gParse_form s _ (by omega) (hE.on t1)).mono ?_)
  rintro x w2 ⟨k, sp, nm, d, ao, bo, n1, c1, n2, c2, rfl, hN, b2⟩
  have t2 := t1.trans (b2.mono t1.size)
  have bN := (Below.refl w2.heap.size w2).alloc (Nat.le_refl _) (.cells #[.int .i64 k, .string sp, .string nm, .slice ao n1 c1, .slice bo n2 c2, .string d] 26)
  have kA := Cells.new w2 26 #[.int .i64 k, .string sp, .string nm, .slice ao n1 c1, .slice bo n2 c2, .string d]
  have t3 := t2.trans (bN.mono t2.size)
  have hN1 := Lib.hid (hN.on bN)
  have hE3 := hE.on t3
  have hq1 : ¬ 9223372036854775807 < s.size + 15 := by omega
  have hq2 : ¬ 9223372036854775807 < 30 + (s.size + 15) := by omega
  clear hN b2 t1 t2 bN hE
  have hcase : decl = false ∨ (decl = true ∧ s.size < 5) ∨ (decl = true ∧ ¬ s.size < 5 ∧ T.begins [60, 63, 120, 109, 108] s.data.toList = false) ∨ (decl = true ∧ ¬ s.size < 5 ∧ T.begins [60, 63, 120, 109, 108] s.data.toList = true) := by
    cases decl
    · exact .inl rfl
    · by_cases h5 : s.size < 5
      · exact .inr (.inl ⟨rfl, h5⟩)
      · cases hb : T.begins [60, 63, 120, 109, 108] s.data.toList
        · exact .inr (.inr (.inl ⟨rfl, h5, rfl⟩))
        · exact .inr (.inr (.inr ⟨rfl, h5, rfl⟩))
  have hz1 : (s ++ (⟨#[60, 33, 45, 45, 120, 45, 45, 62, 32, 60, 63, 112, 63, 62, 10]⟩ : ByteArray)).size ≤ 1000000 := by rw [ByteArray.size_append]; show s.size + 15 ≤ _; omega
  have hz2 : ((⟨#[60, 63, 120, 109, 108, 32, 118, 101, 114, 115, 105, 111, 110, 61, 34, 49, 46, 49, 34, 63, 62, 9, 60, 33, 45, 45, 121, 45, 45, 62]⟩ : ByteArray) ++ (s ++ (⟨#[60, 33, 45, 45, 120, 45, 45, 62, 32, 60, 63, 112, 63, 62, 10]⟩ : ByteArray))).size ≤ 1000000 := by
    rw [ByteArray.size_append, ByteArray.size_append]; show 30 + (s.size + 15) ≤ _; omega
  have r1 : Hid (∀ n, Gv.parse s.data.toList = .ok n → Gv.parse (s ++ (⟨#[60, 33, 45, 45, 120, 45, 45, 62, 32, 60, 63, 112, 63, 62, 10]⟩ : ByteArray)).data.toList = .ok n) := Lib.hid (fun n h => by
    rw [ByteArray.data_append, Array.toList_append]; exact Gv.about_behind (by omega) h)
  have r2 : T.begins [60, 63, 120, 109, 108] s.data.toList = false → Hid (∀ n, Gv.parse s.data.toList = .ok n → Gv.parse ((⟨#[60, 63, 120, 109, 108, 32, 118, 101, 114, 115, 105, 111, 110, 61, 34, 49, 46, 49, 34, 63, 62, 9, 60, 33, 45, 45, 121, 45, 45, 62]⟩ : ByteArray) ++ (s ++ (⟨#[60, 33, 45, 45, 120, 45, 45, 62, 32, 60, 63, 112, 63, 62, 10]⟩ : ByteArray))).data.toList = .ok n) := fun hd => Lib.hid (fun n h => by
    rw [ByteArray.data_append, ByteArray.data_append, Array.toList_append, Array.toList_append]; exact Gv.about_ahead (by omega) hd h)
  have htf := take_five s
  rcases hcase with rfl | ⟨rfl, h5⟩ | ⟨rfl, h5, hb⟩ | ⟨rfl, h5, hb⟩
  case' inl =>
    have r := r1
    have hz := hz1
    clear r1 r2 htf hln hz2
    go_upto_region 10 with fail
    generalize s ++ (⟨#[60, 33, 45, 45, 120, 45, 45, 62, 32, 60, 63, 112, 63, 62, 10]⟩ : ByteArray) = T at *
  case' inr.inl =>
    have r := r2 (Gv.begins_short (by omega))
    have hz := hz2
    have hi5 : (s.size : Int) < 5 := by omega
    clear r1 r2 htf hln hz1
    go_upto_region 10 with fail
    generalize (⟨#[60, 63, 120, 109, 108, 32, 118, 101, 114, 115, 105, 111, 110, 61, 34, 49, 46, 49, 34, 63, 62, 9, 60, 33, 45, 45, 121, 45, 45, 62]⟩ : ByteArray) ++ (s ++ (⟨#[60, 33, 45, 45, 120, 45, 45, 62, 32, 60, 63, 112, 63, 62, 10]⟩ : ByteArray)) = T at *
  case' inr.inr.inl =>
    have r := r2 hb
    have hz := hz2
    have hi5 : ¬ (s.size : Int) < 5 := by omega
    have hne : ¬ (s.extract 0 5).toList = [60, 63, 120, 109, 108] := fun e => by
      rw [e] at htf
      have := Gv.begins_take.2 htf.symm
      rw [hb] at this
      cases this
    have g1 : (!(s.extract 0 5).toList == [60, 63, 120, 109, 108]) = true := by simpa using hne
    clear r1 r2 htf hln hz1 hb
    go_upto_region 10 with fail
    generalize (⟨#[60, 63, 120, 109, 108, 32, 118, 101, 114, 115, 105, 111, 110, 61, 34, 49, 46, 49, 34, 63, 62, 9, 60, 33, 45, 45, 121, 45, 45, 62]⟩ : ByteArray) ++ (s ++ (⟨#[60, 33, 45, 45, 120, 45, 45, 62, 32, 60, 63, 112, 63, 62, 10]⟩ : ByteArray)) = T at *
  case' inr.inr.inr =>
    have r := r1
    have hz := hz1
    have hi5 : ¬ (s.size : Int) < 5 := by omega
    have he : (s.extract 0 5).toList = [60, 63, 120, 109, 108] := by
      rw [htf]; exact Gv.begins_take.1 hb
    have g1 : (!(s.extract 0 5).toList == [60, 63, 120, 109, 108]) = false := by simpa using he
    clear r1 r2 htf hln hz2 hb
    go_upto_region 10 with fail
    generalize s ++ (⟨#[60, 33, 45, 45, 120, 45, 45, 62, 32, 60, 63, 112, 63, 62, 10]⟩ : ByteArray) = T at *
  all_goals
    go_wp2_with fail
    (with_reducible refine (gParse_form T _ hz hE3).mono ?_)
    rintro x w4 ⟨k', sp', nm', d', ao', bo', n1', c1', n2', c2', rfl, hN', b4⟩
    have t4 := t3.trans (b4.mono t3.size)
    have kA4 := kA.on b4
    have hN4 := hN1.out.on b4
    have hw4 : w2.heap.size < w4.heap.size := kA4.lt
    have bB := (Below.refl w4.heap.size w4).alloc (Nat.le_refl _) (.cells #[.int .i64 k', .string sp', .string nm', .slice ao' n1' c1', .slice bo' n2' c2', .string d'] 26)
    have kB := Cells.new w4 26 #[.int .i64 k', .string sp', .string nm', .slice ao' n1' c1', .slice bo' n2' c2', .string d']
    have t5 := t4.trans (bB.mono t4.size)
    have kA5 := kA4.on bB
    have hN5 := hN4.on bB
    have hB5 := hN'.on bB
    have x0 := kA5.cell (i := 0) (v := .int .i64 k) rfl
    have x1 := kA5.cell (i := 1) (v := .string sp) rfl
    have x2 := kA5.cell (i := 2) (v := .string nm) rfl
    have x3 := kA5.cell (i := 3) (v := .slice ao n1 c1) rfl
    have x4 := kA5.cell (i := 4) (v := .slice bo n2 c2) rfl
    have x5 := kA5.cell (i := 5) (v := .string d) rfl
    have z0 := kB.cell (i := 0) (v := .int .i64 k') rfl
    have z1 := kB.cell (i := 1) (v := .string sp') rfl
    have z2 := kB.cell (i := 2) (v := .string nm') rfl
    have z3 := kB.cell (i := 3) (v := .slice ao' n1' c1') rfl
    have z4 := kB.cell (i := 4) (v := .slice bo' n2' c2') rfl
    have z5 := kB.cell (i := 5) (v := .string d') rfl
    have hne : ¬ w2.heap.size = w4.heap.size := by omega
    cases hp : Gv.parse s.data.toList with
    | error e =>
      obtain ⟨e1, e2⟩ := Gv.of_err hp
      have he0 := Gv.parse_ne hp
      rw [e1] at hN5
      have hsame := Lib.hid (refSameNode_any hN5 _ (Below.refl _ _) (fun _ => True) _ _ (node_plain (fun _ => True) _ 0 ⟨#[]⟩ ⟨#[]⟩ ⟨#[]⟩))
      have hz3 : ¬ Gv.errOf s.data.toList = 0 := by rw [e2]; omega
      generalize Gv.errOf s.data.toList = ge at *
      clear hN1 hN4 hN5 hB5 hN' b4 bB t4 t3 kA kA4 kB kA5 hE3 r e1 e2 hp he0
      go_wp2_with fail
      (refine hsame.out.mono ?_); rintro e w6 ⟨⟨q, rfl, hr⟩, b6⟩
      obtain rfl : q = true := hr.2 rfl
      have t6 := t5.trans (b6.mono t5.size)
      clear hsame b6 t5
      go_wp2_with fail
      go_ret
      exact ⟨rfl, t6⟩
    | ok n =>
      obtain ⟨e1, e2⟩ := Gv.of_ok hp
      obtain ⟨f1, f2⟩ := Gv.of_ok (r.out n hp)
      rw [e1] at hN5
      rw [f1] at hB5
      rw [e2]
      rw [f2]
      have hsame := Lib.hid (refSameNode_any hN5 _ (Below.refl _ _) (fun _ => True) _ _ hB5)
      clear hN1 hN4 hN5 hB5 hN' b4 bB t4 t3 kA kA4 kB kA5 hE3 r e1 e2 f1 f2 hp
      go_wp2_with fail
      (refine hsame.out.mono ?_); rintro e w6 ⟨⟨q, rfl, hr⟩, b6⟩
      obtain rfl : q = true := hr.2 rfl
      have t6 := t5.trans (b6.mono t5.size)
      clear hsame b6 t5
      go_wp2_with fail
      go_ret
      exact ⟨rfl, t6⟩
end Go.Proofs.YtcoeijjmahneeaaGreatDoor
