/-
  The statements' walks: few, QualityBests.
  From a reading of media types handed over to what the walks ask: types in memory, of no more bulk than the reading.
  The environment's facts, out of the world's shape and of what the rows list.
-/
import Derived.Test.YtpgdmoaegnehbaaDoorT03
import Derived.Test.YtpgdmoaegnehbaaDoorRefMPrint
import Derived.Test.YtpgdmoaegnehbaaDoorT02
import Derived.Test.YtpgdmoaegnehbaaDoorLift
import Derived.Deep.Strs
import Derived.JoinedCond
import Derived.Stop.LaidErr
namespace Go.Proofs.YtpgdmoaegnehbaaDoor
open Go.RowKit

namespace Md
theorem esc_low (l : List UInt8) : l.length ≤ (esc l).length := by
  unfold esc
  induction l with
  | nil => simp
  | cons b t ih =>
    rw [List.flatMap_cons, List.length_append, List.length_cons]
    have : 1 ≤ (if b = 34 ∨ b = 92 then [92, b] else [b] : List UInt8).length := by split <;> simp
    omega
theorem quote_low (l : List UInt8) : l.length ≤ (quote l).length := by
  unfold quote
  split
  · exact Nat.le_refl _
  · have := esc_low l
    rw [List.length_cons, List.length_append]; omega
theorem print_low (m : Med) : m.ty.size + m.sub.size + wt m.params ≤ (print m).length := by
  have key : ∀ l : List Pair, wt l ≤ (l.flatMap tellP).length := by
    intro l
    induction l with
    | nil => simp [wt]
    | cons p l ih =>
      rw [List.flatMap_cons, List.length_append, wt]
      have := quote_low p.value.data.toList
      have e : (tellP p).length = 2 + (p.name.data.toList.length + (1 + (quote p.value.data.toList).length)) := by unfold tellP; simp; omega
      rw [e, sz']
      rw [sz'] at this
      omega
  have := key m.params
  unfold print
  rw [List.length_append, List.length_cons, List.length_append, sz', sz']
  omega
end Md
/-- What came in is of little bulk. -/
def MedMild (m : Md.Med) : Prop := m.params.length ≤ 1048576 ∧ m.ty.size ≤ 1048576 ∧ m.sub.size ≤ 1048576 ∧ ∀ p ∈ m.params, p.name.size ≤ 1048576 ∧ p.value.size ≤ 1048576
def MedShort (m : Md.Med) : Prop := (mtA m).size ≤ 300
theorem MedShort.small {m : Md.Med} (h : MedShort m) : m.params.length ≤ 100000 ∧ ∀ p ∈ m.params, p.value.size ≤ 100000 := by
  unfold MedShort at h
  have h1 := Md.print_low m
  rw [← mtA_list, list_len] at h1
  have h2 := Md.wt_length m.params
  exact ⟨by omega, fun p hp => by have := Md.wt_mem hp; omega⟩

end Go.Proofs.YtpgdmoaegnehbaaDoor
namespace Go.Proofs.YtpgdmoaegnehbaaDoor
open Go.ChangeShapes Go.WideShapes Go.ChangeAt Go.RowKit Go.Deep

instance : Inhabited Md.Med := ⟨⟨ByteArray.empty, ByteArray.empty, []⟩⟩
namespace Ql
theorem bulk_part {H : Type} {d : DataW H} {l : List (DataW H)} (h : d ∈ l) : Rows.uptoBulk d ≤ Rows.uptoBulkAll l := by
  induction l with
  | nil => cases h
  | cons x r ih =>
    simp only [Rows.uptoBulkAll]
    rcases List.mem_cons.1 h with e | e
    · subst e; omega
    · have := ih e; omega
theorem bulk_one {H : Type} (d : DataW H) : 1 ≤ Rows.uptoBulk d := by
  cases d with
  | lit l => cases l <;> simp [Rows.uptoBulk]
  | nil => simp [Rows.uptoBulk]
  | ptr d => simp [Rows.uptoBulk]
  | slice elems spare => simp [Rows.uptoBulk]
  | agg parts => simp [Rows.uptoBulk]
  | iface t d => simp [Rows.uptoBulk]
  | map entries => simp [Rows.uptoBulk]
  | held h => simp [Rows.uptoBulk]
theorem bulk_length {H : Type} (l : List (DataW H)) : l.length ≤ Rows.uptoBulkAll l := by
  induction l with
  | nil => simp
  | cons x r ih => have := bulk_one x; simp only [Rows.uptoBulkAll, List.length_cons]; omega
theorem bulk_elem {H : Type} {d : DataW H} {elems spare : List (DataW H)} (h : d ∈ elems) : Rows.uptoBulk d ≤ Rows.uptoBulk (.slice elems spare) := by
  have := bulk_part h
  simp only [Rows.uptoBulk]
  omega
theorem bulk_len {H : Type} (elems spare : List (DataW H)) : elems.length ≤ Rows.uptoBulk (.slice elems spare) := by
  have := bulk_length elems
  simp only [Rows.uptoBulk]
  omega
end Ql

set_option maxRecDepth 100000 in
theorem pair_read {H : Type} {enc : TypeId × Value → H} {W : World} {spare : Nat → Bool} {held : Bool} {n : Nat} {a : Addr} {cs : List Value} {x : DataW H × List MemPlace} (hc : W.cells? 0 a (Tryd.prog.cellsOf 57) = some cs)
    (h : DataW.trod enc Tryd.prog W 0 spare held n 57 cs = some x) :
    ∃ r : Pair, W.cell? a = some (.string r.name) ∧ W.cell? (a.add 1) = some (.string r.value) ∧ x.1 = .agg [.lit (.string r.name.data.toList), .lit (.string r.value.data.toList)] := by
  obtain ⟨y0, y1, m, hx, hlen, h0, h1⟩ := ChangeShapes.trod_struct2 Tryd.underlying57 h
  obtain ⟨_, _, hat⟩ := World.cells?_some hc
  have c35 : Tryd.prog.cellsOf 57 = 2 := by kernel_rfl
  have c9 : Tryd.prog.cellsOf 9 = 1 := by kernel_rfl
  rw [c35] at hlen hat
  match cs, hlen with
  | [x0, x1], _ =>
    simp only [c9] at h0 h1
    obtain ⟨s0, e0, f0, _⟩ := DataW.trod_string Tryd.underlying9 h0
    obtain ⟨s1, e1, f1, _⟩ := DataW.trod_string Tryd.underlying9 h1
    simp at e0 e1
    subst e0; subst e1
    refine ⟨⟨s0, s1⟩, by simpa [Addr.add] using hat 0 (by decide), by simpa using hat 1 (by decide), ?_⟩
    rw [hx, f0, f1]

set_option maxRecDepth 100000 in
theorem pairs_read {H : Type} {enc : TypeId × Value → H} {W : World} {spare : Nat → Bool} {held : Bool} {v : Value} {n : Nat} {x : DataW H × List MemPlace} (h : DataW.trod enc Tryd.prog W 0 spare held n 52 [v] = some x) :
    ∃ (ao : Option Addr) (cap : Nat) (l : List Pair), v = .slice ao l.length cap ∧ PairsIn W ao l ∧ l.length ≤ Rows.uptoBulk x.1 ∧ ∀ p ∈ l, p.name.size ≤ Rows.uptoBulk x.1 ∧ p.value.size ≤ Rows.uptoBulk x.1 := by
  rcases open_slice Tryd.underlying52 h with ⟨hcs, _⟩ | ⟨a', len', cap', m, n, D, Pl, hcs, _, hl, hm, hmm, hx, hall⟩
  · simp at hcs
    subst hcs
    exact ⟨none, 0, [], rfl, fun j hj => (by simp at hj), by simp, fun r hr => (by cases hr)⟩
  · simp at hcs
    subst hcs
    have hlm : len' ≤ m := by rw [hmm]; split <;> omega
    have c2 : Tryd.prog.cellsOf 57 = 2 := by kernel_rfl
    have hrow : ∀ i, i < len' → ∃ r : Pair, W.cell? (a'.add (i * 2)) = some (.string r.name) ∧ W.cell? ((a'.add (i * 2)).add 1) = some (.string r.value) ∧ D i = .agg [.lit (.string r.name.data.toList), .lit (.string r.value.data.toList)] := fun i hi => by
      obtain ⟨cs, hc, ht⟩ := hall i (by omega)
      rw [show a'.add (i * Tryd.prog.cellsOf 57) = a'.add (i * 2) by rw [c2]] at hc
      exact pair_read hc ht
    obtain ⟨R, hR⟩ := choose_lt hrow
    refine ⟨some a', cap', (List.range len').map R, by simp, fun j hj => ?_, ?_, fun r hr => ?_⟩
    · have hj' : j < len' := by simpa using hj
      have h0 := (hR 0 (by omega)).1
      obtain ⟨b, off, sp⟩ := a'
      have hsp : sp = none := by
        cases sp with
        | none => rfl
        | some q =>
          simp only [Nat.zero_mul, Addr.add, if_true] at h0
          unfold World.cell? at h0
          split at h0 <;> simp at h0
      subst hsp
      obtain ⟨q0, q1, _⟩ := hR j hj'
      simp only [WideShapes.add_plain] at q0 q1
      simp only [List.getElem_map, List.getElem_range]
      exact ⟨b, off, rfl, q0, q1⟩
    · rw [hx]
      have := Ql.bulk_len (H := H) ((List.range len').map D) ((List.range (m - len')).map fun j => D (len' + j))
      simp only [List.length_map, List.length_range] at this ⊢
      exact this
    · obtain ⟨i, hi, rfl⟩ := List.mem_map.1 hr
      have hil := List.mem_range.1 hi
      have hD := (hR i hil).2.2
      rw [hx]
      have hb : Rows.uptoBulk (D i) ≤ Rows.uptoBulk (DataW.slice ((List.range len').map D) ((List.range (m - len')).map fun j => D (len' + j))) := Ql.bulk_elem (List.mem_map.2 ⟨i, hi, rfl⟩)
      rw [hD] at hb
      simp only [Rows.uptoBulk, Rows.uptoBulkAll, list_len] at hb ⊢
      omega

set_option maxRecDepth 100000 in
theorem med_read {H : Type} {enc : TypeId × Value → H} {W : World} {spare : Nat → Bool} {held : Bool} {n : Nat} {a : Addr} {cs : List Value} {x : DataW H × List MemPlace} (hc : W.cells? 0 a (Tryd.prog.cellsOf 54) = some cs)
    (h : DataW.trod enc Tryd.prog W 0 spare held n 54 cs = some x) (hb : Rows.uptoBulk x.1 ≤ 1048576) :
    ∃ m : Md.Med, W.cell? a = some (.string m.ty) ∧ W.cell? (a.add 1) = some (.string m.sub) ∧ (∃ po pc, W.cell? (a.add 2) = some (.slice po m.params.length pc) ∧ PairsIn W po m.params) ∧ MedMild m := by
  obtain ⟨y0, y1, y2, m, hx, hlen, h0, h1, h2⟩ := Deep.trod_struct3 Tryd.underlying54 h
  obtain ⟨_, _, hat⟩ := World.cells?_some hc
  have c35 : Tryd.prog.cellsOf 54 = 3 := by kernel_rfl
  have c9 : Tryd.prog.cellsOf 9 = 1 := by kernel_rfl
  have c8 : Tryd.prog.cellsOf 52 = 1 := by kernel_rfl
  rw [c35] at hlen hat
  match cs, hlen with
  | [x0, x1, x2], _ =>
    simp only [c9, c8] at h0 h1 h2
    obtain ⟨s0, e0, f0, _⟩ := DataW.trod_string Tryd.underlying9 h0
    obtain ⟨s1, e1, f1, _⟩ := DataW.trod_string Tryd.underlying9 h1
    simp at e0 e1
    subst e0; subst e1
    obtain ⟨ao, cap, l, rfl, hp, hl, hz⟩ := pairs_read h2
    rw [hx, f0, f1] at hb
    simp only [Rows.uptoBulk, Rows.uptoBulkAll, list_len] at hb
    refine ⟨⟨s0, s1, l⟩, by simpa [Addr.add] using hat 0 (by decide), by simpa using hat 1 (by decide), ⟨ao, cap, by simpa using hat 2 (by decide), hp⟩, ?_⟩
    unfold MedMild
    dsimp only
    refine ⟨by omega, by omega, by omega, fun p hp => ?_⟩
    have := hz p hp
    omega

set_option maxRecDepth 100000 in
theorem meds_read {H : Type} {enc : TypeId × Value → H} {W : World} {spare : Nat → Bool} {held : Bool} {v : Value} {d : DataW H} {p : List MemPlace} (h : DataW.Trod enc Tryd.prog W 0 spare held 36 v d p)
    (hv : ∃ (o : Option Addr) (l c : Nat), v = .slice o l c) (hb : Rows.uptoBulk d ≤ 1048576) :
    ∃ (ho : Option Addr) (cap : Nat) (L : List Md.Med), v = .slice ho L.length cap ∧ MedsIn W ho L ∧ L.length ≤ maxLen ∧ ∀ m ∈ L, MedMild m := by
  obtain ⟨o0, l0, c0, rfl⟩ := hv
  obtain ⟨fuel, h⟩ := h
  rcases open_slice Tryd.underlying36 h with ⟨hcs, _⟩ | ⟨a', len', cap', m, n, D, Pl, hcs, _, hl, hm, hmm, hx, hall⟩
  · simp [Value.cells] at hcs
    obtain ⟨rfl, rfl, rfl⟩ := hcs
    exact ⟨none, 0, [], rfl, fun j hj => (by simp at hj), by unfold maxLen; simp, fun r hr => (by cases hr)⟩
  · simp [Value.cells] at hcs
    obtain ⟨rfl, rfl, rfl⟩ := hcs
    have hlm : l0 ≤ m := by rw [hmm]; split <;> omega
    have c2 : Tryd.prog.cellsOf 54 = 3 := by kernel_rfl
    injection hx with hx hx2
    have hrow : ∀ i, i < l0 → ∃ r : Md.Med, W.cell? (a'.add (i * 3)) = some (.string r.ty) ∧ W.cell? ((a'.add (i * 3)).add 1) = some (.string r.sub) ∧ (∃ po pc, W.cell? ((a'.add (i * 3)).add 2) = some (.slice po r.params.length pc) ∧ PairsIn W po r.params) ∧ MedMild r := fun i hi => by
      obtain ⟨cs, hc, ht⟩ := hall i (by omega)
      rw [show a'.add (i * Tryd.prog.cellsOf 54) = a'.add (i * 3) by rw [c2]] at hc
      refine med_read hc ht ?_
      have := Ql.bulk_elem (H := H) (d := D i) (elems := (List.range l0).map D) (spare := (List.range (m - l0)).map fun j => D (l0 + j)) (List.mem_map.2 ⟨i, List.mem_range.2 hi, rfl⟩)
      rw [← hx] at this
      exact Nat.le_trans this hb
    obtain ⟨R, hR⟩ := choose_lt hrow
    refine ⟨some a', c0, (List.range l0).map R, by simp, fun j hj => ?_, by simp; omega, fun r hr => ?_⟩
    · have hj' : j < l0 := by simpa using hj
      have h0 := (hR 0 (by omega)).1
      obtain ⟨b, off, sp⟩ := a'
      have hsp : sp = none := by
        cases sp with
        | none => rfl
        | some q =>
          simp only [Nat.zero_mul, Addr.add, if_true] at h0
          unfold World.cell? at h0
          split at h0 <;> simp at h0
      subst hsp
      obtain ⟨q0, q1, ⟨po, pc, q2, q3⟩, _⟩ := hR j hj'
      simp only [WideShapes.add_plain] at q0 q1 q2
      simp only [List.getElem_map, List.getElem_range]
      exact ⟨b, off, po, pc, rfl, q0, q1, q2, q3⟩
    · obtain ⟨i, hi, rfl⟩ := List.mem_map.1 hr
      exact (hR i (List.mem_range.1 hi)).2.2.2
end Go.Proofs.YtpgdmoaegnehbaaDoor
namespace Go.Proofs.YtpgdmoaegnehbaaDoor
open Go.ChangeShapes Go.WideShapes Go.ChangeAt Go.RowKit Go.Deep Go.Stop

/-- What the rows list. -/
abbrev listed : List (String × DataW Unit) := [("math/bits.deBruijn32tab", Rows.laid_math_bits_deBruijn32tab), ("math/bits.deBruijn64tab", Rows.laid_math_bits_deBruijn64tab), ("internal/strconv.uint64pow10", Rows.laid_internal_strconv_uint64pow10), ("unicode/utf8.acceptRanges", Rows.laid_unicode_utf8_acceptRanges), ("strconv.ErrRange", Rows.laid_strconv_ErrRange), ("strconv.ErrSyntax", Rows.laid_strconv_ErrSyntax), ("unicode/utf8.first", Rows.laid_unicode_utf8_first)]

theorem errorRow (u : TypeId) (h : Tryd.prog.typeName? 3 u = some "*errors.errorString") : u = 113 :=
  typeName_ptr_named (nm := "errors.errorString") (by kernel_rfl) (by kernel_rfl) (by decide) u h

theorem mostCell {w : World} (h : w.ShapedOpen Tryd.prog) : ∃ m, w.cell? ⟨1, 0, none⟩ = some (.int .i64 m) :=
  cell_of_shapedOpen_int (zero := #[.int .i64 0]) (t := 3) h (of_decide_eq_true (by kernel_rfl)) (by kernel_rfl) (by kernel_rfl) (by kernel_rfl) (by kernel_rfl) (by kernel_rfl)

theorem cell_of_var {W : World} {n : String} {g : Nat} {v : Value} (hg : Tryd.prog.globalNamed n = some g) (h : W.var? Tryd.prog n = some #[v]) : W.cell? ⟨g, 0, none⟩ = some v := by
  have h0 := World.var?_cell hg h 0
  simpa using h0

theorem envAt_of {W : World} (h : laidMetH Tryd.prog listed W) (hs : W.ShapedOpen Tryd.prog) : EnvAt W := by
  rw [MakeChecks.laidMetH_plain _ _ _ (by kernel_rfl)] at h
  obtain ⟨a0, s0, hv0, -, -, -⟩ := laid_sentinel h.tail.tail.tail.tail.tail (show Tryd.prog.globalNamed "strconv.ErrSyntax" = some 2 by kernel_rfl) (show (Tryd.prog.globals[2]?).map (·.type) = some 42 by kernel_rfl) Tryd.underlying42 errorRow Tryd.underlying113 Tryd.underlying115 rfl rfl Tryd.underlying9 (by kernel_rfl) (by kernel_rfl)
  exact ⟨mostCell hs, ⟨_, cell_of_var (by kernel_rfl) hv0, .inr ⟨_, _, rfl⟩⟩⟩
end Go.Proofs.YtpgdmoaegnehbaaDoor
