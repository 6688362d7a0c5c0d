/-
  The statements' walks: few, QualityBests.
  From a reading of media types handed over to what the walks ask: types in memory, of no more bulk than the reading.
  The environment's facts, out of the world's shape and of what the rows list.
-/
import Derived.Test.YtpgdmoaegnehbaaGreatDoorT03
import Derived.Test.YtpgdmoaegnehbaaGreatDoorRefMPrint
import Derived.Test.YtpgdmoaegnehbaaGreatDoorT02
import Derived.Test.YtpgdmoaegnehbaaGreatDoorLift
import Derived.Deep.Strs
import Derived.JoinedCond
import Derived.Stop.LaidErr
namespace Go.Proofs.YtpgdmoaegnehbaaGreatDoor
open Go.RowKit

namespace Md
theorem esc_low (l : List UInt8) : l.length ≤ (esc l).length := by
  unfold esc
  induction l with
  | nil => simp
  | cons b t ih =>
    rw [List.flatMap_cons, List.length_append, List.length_cons]
    have : 1 ≤ (if b = 34 ∨ b = 92 then [92, b] else [b] : List UInt8).length := by split <;> simp
    omega
theorem quote_low (l : List UInt8) : l.length ≤ (quote l).length := by
  unfold quote
  split
  · exact Nat.le_refl _
  · have := esc_low l
    rw [List.length_cons, List.length_append]; omega
theorem print_low (m : Med) : m.ty.size + m.sub.size + wt m.params ≤ (print m).length := by
  have key : ∀ l : List Pair, wt l ≤ (l.flatMap tellP).length := by
    intro l
    induction l with
    | nil => simp [wt]
    | cons p l ih =>
      rw [List.flatMap_cons, List.length_append, wt]
      have := quote_low p.value.data.toList
      have e : (tellP p).length = 2 + (p.name.data.toList.length + (1 + (quote p.value.data.toList).length)) := by unfold tellP; simp; omega
      rw [e, sz']
      rw [sz'] at this
      omega
  have := key m.params
  unfold print
  rw [List.length_append, List.length_cons, List.length_append, sz', sz']
  omega
end Md
/-- What came in is of little bulk. -/
def MedMild (m : Md.Med) : Prop := m.params.length ≤ 1048576 ∧ m.ty.size ≤ 1048576 ∧ m.sub.size ≤ 1048576 ∧ ∀ p ∈ m.params, p.name.size ≤ 1048576 ∧ p.value.size ≤ 1048576
def MedShort (m : Md.Med) : Prop := (mtA m).size ≤ 300
theorem MedShort.small {m : Md.Med} (h : MedShort m) : m.params.length ≤ 100000 ∧ ∀ p ∈ m.params, p.value.size ≤ 100000 := by
  unfold MedShort at h
  have h1 := Md.print_low m
  rw [← mtA_list, list_len] at h1
  have h2 := Md.wt_length m.params
  exact ⟨by omega, fun p hp => by have := Md.wt_mem hp; omega⟩

set_option maxRecDepth 100000 in
set_option maxHeartbeats 12800000 in
theorem few_any {ho : Option Addr} {cap : Nat} (H : List Md.Med) (w : World) (hH : MedsIn w ho H) (hl : H.length ≤ maxLen) (hz : ∀ m ∈ H, MedMild m) :
    Calls Tryz.prog 5 #[.slice ho H.length cap] w fun e w' => (e = .returned (.bool false) ∨ (e = .returned (.bool true) ∧ H.length ≤ 20 ∧ ∀ m ∈ H, MedShort m)) ∧ Below w.heap.size w w' := by
  unfold maxLen at hl
  replace hz := Lib.hid hz
  go_enter Tryz.func5, Tryz.ntmps5
  go_wp2_with fail
  go_loopw [3] (fun iv wr => ∃ k : Nat, iv = .int .i64 (k : Int) ∧ k ≤ H.length ∧ k ≤ 21 ∧ Hid (∀ m ∈ H.take k, MedShort m) ∧ Hid (Below w.heap.size w wr)) (fun iv _ => H.length - (intOf iv).toNat)
  case atStart => exact ⟨0, rfl, Nat.zero_le _, by omega, Lib.hid (by simp), Lib.hid (Below.refl _ _)⟩
  case round =>
    obtain ⟨k, rfl, hk, hk2, hS, bw⟩ := hrel
    by_cases hlt : k < H.length
    · by_cases h20 : k ≤ 20
      · obtain ⟨rb, roff, po, pc, hae, c0, c1, c2, hps⟩ := (hH.below bw.out) k hlt
        subst hae
        obtain ⟨m1, m2, m3, m4⟩ := hz.out _ (List.getElem_mem hlt)
        have hpr := Lib.hid (refMPrint_wide (cap := pc) H[k].ty H[k].sub H[k].params wr hps rfl m1 m2 m3 m4)
        have hS' := Lib.hid (fun (h : MedShort H[k]) (m : Md.Med) (hm : m ∈ H.take (k + 1)) => show MedShort m by
          rw [List.take_succ_eq_append_getElem hlt, List.mem_append, List.mem_singleton] at hm
          rcases hm with hm | rfl
          · exact hS.out m hm
          · exact h)
        clear m1 m2 m3 m4 hps hS hH
        generalize H[k] = m at *
        obtain ⟨mt, ms, qs⟩ := m
        dsimp only at *
        unfold MedShort at hS'
        go_wp2_with fail
        (with_reducible refine (hpr.out).mono ?_); rintro e w2 ⟨rfl, b2⟩
        have bw' := Lib.hid (bw.out.trans (b2.mono bw.out.size))
        clear hpr b2 bw c0 c1 c2
        by_cases h3 : 300 < (mtA ⟨mt, ms, qs⟩).size
        · go_wp2_with fail
          go_ret
          exact ⟨.inl rfl, bw'.out⟩
        · have hS2 := Lib.hid (hS'.out (by omega))
          go_wp2_with fail
          go_round
          case rel => exact ⟨k + 1, by go_num, by omega, by omega, hS2, bw'⟩
          case measure => simp [intOf]; omega
      · have hb : ¬ (k : Int) ≤ 20 := by omega
        have hd : decide ((H.length : Int) ≤ 20) = false := decide_eq_false (by omega)
        clear hS hH
        go_wp2_with fail
        go_ret
        first
          | exact ⟨.inl rfl, bw.out⟩
          | exact ⟨rfl, bw.out⟩
    · have hki : ¬ (k : Int) < (H.length : Int) := by omega
      have hS' := Lib.hid (fun (m : Md.Med) (hm : m ∈ H) => hS.out m (by rwa [List.take_of_length_le (by omega)]))
      clear hS hH
      by_cases h20 : H.length ≤ 20
      · have hd : decide ((H.length : Int) ≤ 20) = true := decide_eq_true (by omega)
        go_wp2_with fail
        go_ret
        first
          | exact ⟨.inr ⟨rfl, h20, hS'.out⟩, bw.out⟩
          | exact ⟨.inr ⟨rfl, hS'.out⟩, bw.out⟩
      · have hd : decide ((H.length : Int) ≤ 20) = false := decide_eq_false (by omega)
        go_wp2_with fail
        go_ret
        first
          | exact ⟨.inl rfl, bw.out⟩
          | exact ⟨rfl, bw.out⟩

set_option maxRecDepth 100000 in
set_option maxHeartbeats 12800000 in
theorem bests_any {ho : Option Addr} {cap : Nat} (s : ByteArray) (H : List Md.Med) (w : World) (hs : s.size ≤ maxLen) (hH : MedsIn w ho H) (hl : H.length ≤ maxLen) (hz : ∀ m ∈ H, MedMild m) (hE : Env w) :
    Calls Tryz.prog 3 #[.string s, .slice ho H.length cap] w fun e w' => e = .returned (.bool true) ∧ Below w.heap.size w w' := by
  unfold maxLen at hs
  have aw := Lib.hid awake_any
  have hf := Lib.hid (few_any (cap := cap) H w hH hl hz)
  have hh := Lib.hid have_any
  go_enter Tryz.func3, Tryz.ntmps3
  by_cases hsl : 1000 < s.size
  · go_wp2_with fail
    (with_reducible refine (aw.out _ hE).mono ?_); rintro e w1 ⟨rfl, b1⟩
    go_wp2_with fail
    go_ret
    exact ⟨rfl, b1⟩
  go_wp2_with fail
  (with_reducible refine (hf.out).mono ?_); rintro e w1 ⟨rfl | ⟨rfl, h20, hS⟩, b1⟩
  · replace b1 := Lib.hid b1
    clear hf
    go_wp2_with fail
    (with_reducible refine (aw.out _ (hE.on b1.out)).mono ?_); rintro e w2 ⟨rfl, b2⟩
    have x2 := Lib.hid (b1.out.trans (b2.mono b1.out.size))
    go_wp2_with fail
    go_ret
    exact ⟨rfl, x2.out⟩
  · have hp1 : ∀ m ∈ H, m.params.length ≤ 100000 := fun m hm => (hS m hm).small.1
    have hp2 : ∀ m ∈ H, ∀ p ∈ m.params, p.value.size ≤ 100000 := fun m hm => (hS m hm).small.2
    have hb := qBest_any (cap := cap) s H w1 (by omega) (hH.below b1) (by omega) hp1 hp2 (hE.on b1)
    have hr := fun W (b : Below w.heap.size w W) => refBest_any (cap := cap) s H W (by omega) (hH.below b) (by unfold maxLen; omega) (fun m hm => Nat.le_trans (hp1 m hm) (by decide)) (fun m hm p hp => Nat.le_trans (hp2 m hm p hp) (by decide))
    replace b1 := Lib.hid b1
    replace hr := Lib.hid hr
    clear hf hS hp1 hp2 hz hH
    obtain ⟨A, hA⟩ : ∃ A, (Ql.best s.data.toList H).1 = A := ⟨_, rfl⟩
    obtain ⟨V, hV⟩ : ∃ V, (Ql.best s.data.toList H).2 = V := ⟨_, rfl⟩
    obtain ⟨A2, hA2⟩ : ∃ A, (Ql.best s.data.toList Ql.haves).1 = A := ⟨_, rfl⟩
    obtain ⟨V2, hV2⟩ : ∃ V, (Ql.best s.data.toList Ql.haves).2 = V := ⟨_, rfl⟩
    rw [hA, hV] at hb hr
    clear hA hV
    go_wp2_with fail
    (with_reducible refine hb.mono ?_); rintro e w2 ⟨rfl, b2⟩
    have x2 := Lib.hid (b1.out.trans (b2.mono b1.out.size))
    clear b1 b2 hb
    go_wp2_with fail
    (with_reducible refine (hr.out _ x2.out).mono ?_); rintro e w3 ⟨rfl, b3⟩
    have x3 := Lib.hid (x2.out.trans (b3.mono x2.out.size))
    clear x2 b3 hr
    go_wp2_with fail
    (with_reducible refine (hh.out _).mono ?_); rintro e w4 ⟨⟨ao, rfl, hm⟩, b4⟩
    have x4 := Lib.hid (x3.out.trans (b4.mono x3.out.size))
    clear x3 b4
    go_wp2_with fail
    (with_reducible refine (qBest_have s _ (by omega) hm (hE.on x4.out) hA2 hV2).mono ?_); rintro e w5 ⟨rfl, b5⟩
    have x5 := Lib.hid (x4.out.trans (b5.mono x4.out.size))
    clear x4 b5 hm
    go_wp2_with fail
    (with_reducible refine (hh.out _).mono ?_); rintro e w6 ⟨⟨ao2, rfl, hm⟩, b6⟩
    have x6 := Lib.hid (x5.out.trans (b6.mono x5.out.size))
    clear x5 b6
    go_wp2_with fail
    (with_reducible refine (refBest_have s _ (by omega) hm hA2 hV2).mono ?_); rintro e w7 ⟨rfl, b7⟩
    have x7 := Lib.hid (x6.out.trans (b7.mono x6.out.size))
    clear x6 b7 hm hh
    go_wp2_with fail
    (with_reducible refine (aw.out _ (hE.on x7.out)).mono ?_); rintro e w8 ⟨rfl, b8⟩
    have x8 := Lib.hid (x7.out.trans (b8.mono x7.out.size))
    clear x7 b8 aw
    have e0 : (A == A) = true := beq_self_eq_true _
    have e1 : (A2 == A2) = true := beq_self_eq_true _
    go_wp2_with fail
    (with_reducible refine (same_any (Fl.W V) (Fl.W V) _).mono ?_); rintro e w9 ⟨rfl, rfl⟩
    rw [same_refl]
    go_wp2_with fail
    (with_reducible refine (same_any (Fl.W V2) (Fl.W V2) _).mono ?_); rintro e wA ⟨rfl, rfl⟩
    rw [same_refl]
    go_wp2_with fail
    go_ret
    exact ⟨rfl, x8.out⟩
end Go.Proofs.YtpgdmoaegnehbaaGreatDoor
namespace Go.Proofs.YtpgdmoaegnehbaaGreatDoor
open Go.ChangeShapes Go.WideShapes Go.ChangeAt Go.RowKit Go.Deep

instance : Inhabited Md.Med := ⟨⟨ByteArray.empty, ByteArray.empty, []⟩⟩
namespace Ql
theorem bulk_part {H : Type} {d : DataW H} {l : List (DataW H)} (h : d ∈ l) : Rows.uptoBulk d ≤ Rows.uptoBulkAll l := by
  induction l with
  | nil => cases h
  | cons x r ih =>
    simp only [Rows.uptoBulkAll]
    rcases List.mem_cons.1 h with e | e
    · subst e; omega
    · have := ih e; omega
theorem bulk_one {H : Type} (d : DataW H) : 1 ≤ Rows.uptoBulk d := by
  cases d with
  | lit l => cases l <;> simp [Rows.uptoBulk]
  | nil => simp [Rows.uptoBulk]
  | ptr d => simp [Rows.uptoBulk]
  | slice elems spare => simp [Rows.uptoBulk]
  | agg parts => simp [Rows.uptoBulk]
  | iface t d => simp [Rows.uptoBulk]
  | map entries => simp [Rows.uptoBulk]
  | held h => simp [Rows.uptoBulk]
theorem bulk_length {H : Type} (l : List (DataW H)) : l.length ≤ Rows.uptoBulkAll l := by
  induction l with
  | nil => simp
  | cons x r ih => have := bulk_one x; simp only [Rows.uptoBulkAll, List.length_cons]; omega
theorem bulk_elem {H : Type} {d : DataW H} {elems spare : List (DataW H)} (h : d ∈ elems) : Rows.uptoBulk d ≤ Rows.uptoBulk (.slice elems spare) := by
  have := bulk_part h
  simp only [Rows.uptoBulk]
  omega
theorem bulk_len {H : Type} (elems spare : List (DataW H)) : elems.length ≤ Rows.uptoBulk (.slice elems spare) := by
  have := bulk_length elems
  simp only [Rows.uptoBulk]
  omega
end Ql

set_option maxRecDepth 100000 in
theorem pair_read {H : Type} {enc : TypeId × Value → H} {W : World} {spare : Nat → Bool} {held : Bool} {n : Nat} {a : Addr} {cs : List Value} {x : DataW H × List MemPlace} (hc : W.cells? 0 a (Tryz.prog.cellsOf 50) = some cs)
    (h : DataW.trod enc Tryz.prog W 0 spare held n 50 cs = some x) :
    ∃ r : Pair, W.cell? a = some (.string r.name) ∧ W.cell? (a.add 1) = some (.string r.value) ∧ x.1 = .agg [.lit (.string r.name.data.toList), .lit (.string r.value.data.toList)] := by
  obtain ⟨y0, y1, m, hx, hlen, h0, h1⟩ := ChangeShapes.trod_struct2 Tryz.underlying50 h
  obtain ⟨_, _, hat⟩ := World.cells?_some hc
  have c35 : Tryz.prog.cellsOf 50 = 2 := by kernel_rfl
  have c9 : Tryz.prog.cellsOf 9 = 1 := by kernel_rfl
  rw [c35] at hlen hat
  match cs, hlen with
  | [x0, x1], _ =>
    simp only [c9] at h0 h1
    obtain ⟨s0, e0, f0, _⟩ := DataW.trod_string Tryz.underlying9 h0
    obtain ⟨s1, e1, f1, _⟩ := DataW.trod_string Tryz.underlying9 h1
    simp at e0 e1
    subst e0; subst e1
    refine ⟨⟨s0, s1⟩, by simpa [Addr.add] using hat 0 (by decide), by simpa using hat 1 (by decide), ?_⟩
    rw [hx, f0, f1]

set_option maxRecDepth 100000 in
theorem pairs_read {H : Type} {enc : TypeId × Value → H} {W : World} {spare : Nat → Bool} {held : Bool} {v : Value} {n : Nat} {x : DataW H × List MemPlace} (h : DataW.trod enc Tryz.prog W 0 spare held n 38 [v] = some x) :
    ∃ (ao : Option Addr) (cap : Nat) (l : List Pair), v = .slice ao l.length cap ∧ PairsIn W ao l ∧ l.length ≤ Rows.uptoBulk x.1 ∧ ∀ p ∈ l, p.name.size ≤ Rows.uptoBulk x.1 ∧ p.value.size ≤ Rows.uptoBulk x.1 := by
  rcases open_slice Tryz.underlying38 h with ⟨hcs, _⟩ | ⟨a', len', cap', m, n, D, Pl, hcs, _, hl, hm, hmm, hx, hall⟩
  · simp at hcs
    subst hcs
    exact ⟨none, 0, [], rfl, fun j hj => (by simp at hj), by simp, fun r hr => (by cases hr)⟩
  · simp at hcs
    subst hcs
    have hlm : len' ≤ m := by rw [hmm]; split <;> omega
    have c2 : Tryz.prog.cellsOf 50 = 2 := by kernel_rfl
    have hrow : ∀ i, i < len' → ∃ r : Pair, W.cell? (a'.add (i * 2)) = some (.string r.name) ∧ W.cell? ((a'.add (i * 2)).add 1) = some (.string r.value) ∧ D i = .agg [.lit (.string r.name.data.toList), .lit (.string r.value.data.toList)] := fun i hi => by
      obtain ⟨cs, hc, ht⟩ := hall i (by omega)
      rw [show a'.add (i * Tryz.prog.cellsOf 50) = a'.add (i * 2) by rw [c2]] at hc
      exact pair_read hc ht
    obtain ⟨R, hR⟩ := choose_lt hrow
    refine ⟨some a', cap', (List.range len').map R, by simp, fun j hj => ?_, ?_, fun r hr => ?_⟩
    · have hj' : j < len' := by simpa using hj
      have h0 := (hR 0 (by omega)).1
      obtain ⟨b, off, sp⟩ := a'
      have hsp : sp = none := by
        cases sp with
        | none => rfl
        | some q =>
          simp only [Nat.zero_mul, Addr.add, if_true] at h0
          unfold World.cell? at h0
          split at h0 <;> simp at h0
      subst hsp
      obtain ⟨q0, q1, _⟩ := hR j hj'
      simp only [WideShapes.add_plain] at q0 q1
      simp only [List.getElem_map, List.getElem_range]
      exact ⟨b, off, rfl, q0, q1⟩
    · rw [hx]
      have := Ql.bulk_len (H := H) ((List.range len').map D) ((List.range (m - len')).map fun j => D (len' + j))
      simp only [List.length_map, List.length_range] at this ⊢
      exact this
    · obtain ⟨i, hi, rfl⟩ := List.mem_map.1 hr
      have hil := List.mem_range.1 hi
      have hD := (hR i hil).2.2
      rw [hx]
      have hb : Rows.uptoBulk (D i) ≤ Rows.uptoBulk (DataW.slice ((List.range len').map D) ((List.range (m - len')).map fun j => D (len' + j))) := Ql.bulk_elem (List.mem_map.2 ⟨i, hi, rfl⟩)
      rw [hD] at hb
      simp only [Rows.uptoBulk, Rows.uptoBulkAll, list_len] at hb ⊢
      omega

set_option maxRecDepth 100000 in
theorem med_read {H : Type} {enc : TypeId × Value → H} {W : World} {spare : Nat → Bool} {held : Bool} {n : Nat} {a : Addr} {cs : List Value} {x : DataW H × List MemPlace} (hc : W.cells? 0 a (Tryz.prog.cellsOf 40) = some cs)
    (h : DataW.trod enc Tryz.prog W 0 spare held n 40 cs = some x) (hb : Rows.uptoBulk x.1 ≤ 1048576) :
    ∃ m : Md.Med, W.cell? a = some (.string m.ty) ∧ W.cell? (a.add 1) = some (.string m.sub) ∧ (∃ po pc, W.cell? (a.add 2) = some (.slice po m.params.length pc) ∧ PairsIn W po m.params) ∧ MedMild m := by
  obtain ⟨y0, y1, y2, m, hx, hlen, h0, h1, h2⟩ := Deep.trod_struct3 Tryz.underlying40 h
  obtain ⟨_, _, hat⟩ := World.cells?_some hc
  have c35 : Tryz.prog.cellsOf 40 = 3 := by kernel_rfl
  have c9 : Tryz.prog.cellsOf 9 = 1 := by kernel_rfl
  have c8 : Tryz.prog.cellsOf 38 = 1 := by kernel_rfl
  rw [c35] at hlen hat
  match cs, hlen with
  | [x0, x1, x2], _ =>
    simp only [c9, c8] at h0 h1 h2
    obtain ⟨s0, e0, f0, _⟩ := DataW.trod_string Tryz.underlying9 h0
    obtain ⟨s1, e1, f1, _⟩ := DataW.trod_string Tryz.underlying9 h1
    simp at e0 e1
    subst e0; subst e1
    obtain ⟨ao, cap, l, rfl, hp, hl, hz⟩ := pairs_read h2
    rw [hx, f0, f1] at hb
    simp only [Rows.uptoBulk, Rows.uptoBulkAll, list_len] at hb
    refine ⟨⟨s0, s1, l⟩, by simpa [Addr.add] using hat 0 (by decide), by simpa using hat 1 (by decide), ⟨ao, cap, by simpa using hat 2 (by decide), hp⟩, ?_⟩
    unfold MedMild
    dsimp only
    refine ⟨by omega, by omega, by omega, fun p hp => ?_⟩
    have := hz p hp
    omega

set_option maxRecDepth 100000 in
theorem meds_read {H : Type} {enc : TypeId × Value → H} {W : World} {spare : Nat → Bool} {held : Bool} {v : Value} {d : DataW H} {p : List MemPlace} (h : DataW.Trod enc Tryz.prog W 0 spare held 22 v d p)
    (hv : ∃ (o : Option Addr) (l c : Nat), v = .slice o l c) (hb : Rows.uptoBulk d ≤ 1048576) :
    ∃ (ho : Option Addr) (cap : Nat) (L : List Md.Med), v = .slice ho L.length cap ∧ MedsIn W ho L ∧ L.length ≤ maxLen ∧ ∀ m ∈ L, MedMild m := by
  obtain ⟨o0, l0, c0, rfl⟩ := hv
  obtain ⟨fuel, h⟩ := h
  rcases open_slice Tryz.underlying22 h with ⟨hcs, _⟩ | ⟨a', len', cap', m, n, D, Pl, hcs, _, hl, hm, hmm, hx, hall⟩
  · simp [Value.cells] at hcs
    obtain ⟨rfl, rfl, rfl⟩ := hcs
    exact ⟨none, 0, [], rfl, fun j hj => (by simp at hj), by unfold maxLen; simp, fun r hr => (by cases hr)⟩
  · simp [Value.cells] at hcs
    obtain ⟨rfl, rfl, rfl⟩ := hcs
    have hlm : l0 ≤ m := by rw [hmm]; split <;> omega
    have c2 : Tryz.prog.cellsOf 40 = 3 := by kernel_rfl
    injection hx with hx hx2
    have hrow : ∀ i, i < l0 → ∃ r : Md.Med, W.cell? (a'.add (i * 3)) = some (.string r.ty) ∧ W.cell? ((a'.add (i * 3)).add 1) = some (.string r.sub) ∧ (∃ po pc, W.cell? ((a'.add (i * 3)).add 2) = some (.slice po r.params.length pc) ∧ PairsIn W po r.params) ∧ MedMild r := fun i hi => by
      obtain ⟨cs, hc, ht⟩ := hall i (by omega)
      rw [show a'.add (i * Tryz.prog.cellsOf 40) = a'.add (i * 3) by rw [c2]] at hc
      refine med_read hc ht ?_
      have := Ql.bulk_elem (H := H) (d := D i) (elems := (List.range l0).map D) (spare := (List.range (m - l0)).map fun j => D (l0 + j)) (List.mem_map.2 ⟨i, List.mem_range.2 hi, rfl⟩)
      rw [← hx] at this
      exact Nat.le_trans this hb
    obtain ⟨R, hR⟩ := choose_lt hrow
    refine ⟨some a', c0, (List.range l0).map R, by simp, fun j hj => ?_, by simp; omega, fun r hr => ?_⟩
    · have hj' : j < l0 := by simpa using hj
      have h0 := (hR 0 (by omega)).1
      obtain ⟨b, off, sp⟩ := a'
      have hsp : sp = none := by
        cases sp with
        | none => rfl
        | some q =>
          simp only [Nat.zero_mul, Addr.add, if_true] at h0
          unfold World.cell? at h0
          split at h0 <;> simp at h0
      subst hsp
      obtain ⟨q0, q1, ⟨po, pc, q2, q3⟩, _⟩ := hR j hj'
      simp only [WideShapes.add_plain] at q0 q1 q2
      simp only [List.getElem_map, List.getElem_range]
      exact ⟨b, off, po, pc, rfl, q0, q1, q2, q3⟩
    · obtain ⟨i, hi, rfl⟩ := List.mem_map.1 hr
      exact (hR i (List.mem_range.1 hi)).2.2.2
end Go.Proofs.YtpgdmoaegnehbaaGreatDoor
namespace Go.Proofs.YtpgdmoaegnehbaaGreatDoor
open Go.ChangeShapes Go.WideShapes Go.ChangeAt Go.RowKit Go.Deep Go.Stop

/-- What the rows list. -/
abbrev listed : List (String × DataW Unit) := [("math/bits.deBruijn32tab", Rows.laid_math_bits_deBruijn32tab), ("math/bits.deBruijn64tab", Rows.laid_math_bits_deBruijn64tab), ("internal/strconv.uint64pow10", Rows.laid_internal_strconv_uint64pow10), ("unicode/utf8.acceptRanges", Rows.laid_unicode_utf8_acceptRanges), ("strconv.ErrRange", Rows.laid_strconv_ErrRange), ("strconv.ErrSyntax", Rows.laid_strconv_ErrSyntax), ("unicode/utf8.first", Rows.laid_unicode_utf8_first)]

theorem errorRow (u : TypeId) (h : Tryz.prog.typeName? 3 u = some "*errors.errorString") : u = 126 :=
  typeName_ptr_named (nm := "errors.errorString") (by kernel_rfl) (by kernel_rfl) (by decide) u h

theorem mostCell {w : World} (h : w.ShapedOpen Tryz.prog) : ∃ m, w.cell? ⟨1, 0, none⟩ = some (.int .i64 m) :=
  cell_of_shapedOpen_int (zero := #[.int .i64 0]) (t := 3) h (of_decide_eq_true (by kernel_rfl)) (by kernel_rfl) (by kernel_rfl) (by kernel_rfl) (by kernel_rfl) (by kernel_rfl)

theorem cell_of_var {W : World} {n : String} {g : Nat} {v : Value} (hg : Tryz.prog.globalNamed n = some g) (h : W.var? Tryz.prog n = some #[v]) : W.cell? ⟨g, 0, none⟩ = some v := by
  have h0 := World.var?_cell hg h 0
  simpa using h0

theorem envAt_of {W : World} (h : laidMetH Tryz.prog listed W) (hs : W.ShapedOpen Tryz.prog) : EnvAt W := by
  rw [MakeChecks.laidMetH_plain _ _ _ (by kernel_rfl)] at h
  obtain ⟨a0, s0, hv0, -, -, -⟩ := laid_sentinel h.tail.tail.tail.tail.tail (show Tryz.prog.globalNamed "strconv.ErrSyntax" = some 2 by kernel_rfl) (show (Tryz.prog.globals[2]?).map (·.type) = some 58 by kernel_rfl) Tryz.underlying58 errorRow Tryz.underlying126 Tryz.underlying128 rfl rfl Tryz.underlying9 (by kernel_rfl) (by kernel_rfl)
  exact ⟨mostCell hs, ⟨_, cell_of_var (by kernel_rfl) hv0, .inr ⟨_, _, rfl⟩⟩⟩
end Go.Proofs.YtpgdmoaegnehbaaGreatDoor
