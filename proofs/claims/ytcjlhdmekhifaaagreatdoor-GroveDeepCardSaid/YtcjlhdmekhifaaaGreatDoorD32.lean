/-
  What the program's expanding comes to: as texts, as values.
-/
import Derived.Test.YtcjlhdmekhifaaaGreatDoorD30
import Derived.Test.YtcjlhdmekhifaaaGreatDoorD31
namespace Go.Proofs.YtcjlhdmekhifaaaGreatDoor
open Go.RowKit

namespace E
/-- What is expanded so far, and what is left. -/
def Left (attr : Bool) (s : List UInt8) (acc t : List UInt8) : Prop := expand attr s = (expand attr t).map fun r => acc ++ r
theorem left_start (attr : Bool) (s : List UInt8) : Left attr s [] s := by unfold Left; cases expand attr s <;> rfl
theorem left_end {attr : Bool} {s acc t : List UInt8} (h : Left attr s acc t) (hp : parts 38 t = none) : expand attr s = some (acc ++ t.map (blank attr)) := by
  unfold Left at h; rw [h, expand_miss attr t hp]; rfl
theorem left_none {attr : Bool} {s acc t a r : List UInt8} (h : Left attr s acc t) (hp : parts 38 t = some (a, r)) (hn : semi r = none) : expand attr s = none := by
  unfold Left at h; rw [h, expand_hit attr t a r hp, expand_ref, hn]; rfl
theorem left_odd {attr : Bool} {s acc t a r x y : List UInt8} (h : Left attr s acc t) (hp : parts 38 t = some (a, r)) (hn : semi r = some (x, y)) (hc : G.char (pointN x : Nat) = false) : expand attr s = none := by
  unfold Left at h
  rw [h, expand_hit attr t a r hp, expand_ref, hn]
  simp only [Option.bind_some]
  rw [named_point, hc]
  rfl
theorem left_step {attr : Bool} {s acc t a r x y : List UInt8} (h : Left attr s acc t) (hp : parts 38 t = some (a, r)) (hn : semi r = some (x, y)) (hc : G.char (pointN x : Nat) = true) :
    Left attr s ((acc ++ a.map (blank attr)) ++ Lib.encodeRune (pointN x : Nat)) y := by
  unfold Left at *
  rw [h, expand_hit attr t a r hp, expand_ref, hn]
  simp only [Option.bind_some]
  rw [named_point, if_pos hc]
  cases expand attr y <;> simp
end E

theorem catch_idle_at (B p q : Nat) (s : ByteArray) (w : World) (hqp : q ≠ p) (hp : B ≤ p) (hq : B ≤ q) (hc : w.cell? ⟨p, 0, none⟩ = some (.string s)) (m : Int) (hd : w.cell? ⟨q, 0, none⟩ = some (.int .i64 m)) (hf : w.frozen? ⟨p, 0, none⟩ = false) (hg : w.frozen? ⟨q, 0, none⟩ = false) :
    CallsD Tryz.prog 149 #[.pointer (some ⟨p, 0, none⟩), .pointer (some ⟨q, 0, none⟩)] .returning w fun e u' w' =>
      e = .returned (.tuple #[]) ∧ u' = .returning ∧ w'.cell? ⟨p, 0, none⟩ = some (.string s) ∧ w'.cell? ⟨q, 0, none⟩ = some (.int .i64 0) ∧ Below B w w' := by
  refine (catch_idle p q s w hqp hc m hd hf hg).mono ?_
  rintro e u' w' ⟨rfl, rfl, rfl⟩
  have hpq := Ne.symm hqp
  exact ⟨rfl, rfl, by simp [go_sem, hc], by simp [go_sem, hd], (((Below.refl _ _).drew.setCell (p := ⟨p, 0, none⟩) hp _).setCell (p := ⟨q, 0, none⟩) hq _)⟩
theorem catch_thrown_at (B p q : Nat) (s : ByteArray) (a : Addr) (w : World) (hqp : q ≠ p) (hp : B ≤ p) (hq : B ≤ q) (hc : w.cell? ⟨p, 0, none⟩ = some (.string s)) (m : Int) (hd : w.cell? ⟨q, 0, none⟩ = some (.int .i64 m)) (hf : w.frozen? ⟨p, 0, none⟩ = false) (hg : w.frozen? ⟨q, 0, none⟩ = false) (hv : w.cell? ⟨6, 0, none⟩ = some (.iface 222 (.pointer (some a)))) :
    CallsD Tryz.prog 149 #[.pointer (some ⟨p, 0, none⟩), .pointer (some ⟨q, 0, none⟩)] (.panicking (thrown a)) w fun e u' w' =>
      e = .returned (.tuple #[]) ∧ u' = .panicking [{ v := .iface 222 (.pointer (some a)), recovered := true }] ∧ w'.cell? ⟨p, 0, none⟩ = some (.string ⟨#[]⟩) ∧ w'.cell? ⟨q, 0, none⟩ = some (.int .i64 60) ∧ Below B w w' := by
  refine (catch_thrown p q s a w hqp hc m hd hf hg hv).mono ?_
  rintro e u' w' ⟨rfl, rfl, rfl⟩
  have hpq := Ne.symm hqp
  exact ⟨rfl, rfl, by simp [go_sem, hc], by simp [go_sem, hd], (((Below.refl _ _).drew.setCell (p := ⟨p, 0, none⟩) hp _).setCell (p := ⟨q, 0, none⟩) hq _)⟩

theorem encode_le (r : Int) : (Lib.encodeRune r).length ≤ 4 := by
  have h := Lib.runeCells_le r
  rw [Lib.runeCells_length] at h
  exact h.2
theorem kept_cells {w wr : World} {n : Nat} (h : Below n w wr) {p : Nat} (hp : p < n) {v : Value} (hc : w.cell? ⟨p, 0, none⟩ = some v) (hf : w.frozen? ⟨p, 0, none⟩ = false) : wr.cell? ⟨p, 0, none⟩ = some v ∧ wr.frozen? ⟨p, 0, none⟩ = false :=
  ⟨(h.cell (p := ⟨p, 0, none⟩) hp).trans hc, (h.frozen (p := ⟨p, 0, none⟩) hp).trans hf⟩
theorem size_map (t : ByteArray) (f : UInt8 → UInt8) : (⟨(t.data.toList.map f).toArray⟩ : ByteArray).size = t.size := by
  show (t.data.toList.map f).toArray.size = t.size
  simp

set_option maxRecDepth 100000 in
set_option maxHeartbeats 6400000 in
theorem expand_text (s : ByteArray) (w : World) (hs : s.size ≤ 1000000) (hE : Env w) :
    Calls Tryz.prog 136 #[.string s, .func (.func 137) #[] #[]] w fun e w' => e = .returned (.tuple #[.string (E.expA false s), .int .i64 (E.expE false s)]) ∧ Below w.heap.size w w' := by
  have hmf : ∀ (fn : Fn) (first cap : Array Value) (w : World), (Instr.makeFunc fn first cap).run Tryz.prog w = .ok (.func fn first cap) w := fun _ _ _ _ => rfl
  have hno := Lib.hid (@E.exp_none false s)
  have hso := Lib.hid (show ∀ u, E.expand false s.data.toList = some u → E.expA false s = ⟨u.toArray⟩ ∧ E.expE false s = 0 from fun _ h => E.exp_some h)
  have hstart := E.left_start false s.data.toList
  have b0 : Below w.heap.size w (((w.alloc (.cells #[.string ⟨#[]⟩] 9)).alloc (.cells #[.int .i64 0] 27)).alloc (.cells #[.pointer none, .slice none 0 0] 131)) := (((Below.refl _ _).alloc (Nat.le_refl _) _).alloc (by simp) _).alloc (by simp; omega) _
  have hb0 : Builds (w.heap.size + 2) (w.heap.size + 2) [] (((w.alloc (.cells #[.string ⟨#[]⟩] 9)).alloc (.cells #[.int .i64 0] 27)).alloc (.cells #[.pointer none, .slice none 0 0] 131)) := by
    have := builds_new ((w.alloc (.cells #[.string ⟨#[]⟩] 9)).alloc (.cells #[.int .i64 0] 27))
    simpa using this
  have k0 : (((w.alloc (.cells #[.string ⟨#[]⟩] 9)).alloc (.cells #[.int .i64 0] 27)).alloc (.cells #[.pointer none, .slice none 0 0] 131)).cell? ⟨w.heap.size, 0, none⟩ = some (.string ⟨#[]⟩) ∧ (((w.alloc (.cells #[.string ⟨#[]⟩] 9)).alloc (.cells #[.int .i64 0] 27)).alloc (.cells #[.pointer none, .slice none 0 0] 131)).frozen? ⟨w.heap.size, 0, none⟩ = false := ⟨by simp [go_sem], by simp [go_sem]⟩
  have k1 : (((w.alloc (.cells #[.string ⟨#[]⟩] 9)).alloc (.cells #[.int .i64 0] 27)).alloc (.cells #[.pointer none, .slice none 0 0] 131)).cell? ⟨w.heap.size + 1, 0, none⟩ = some (.int .i64 0) ∧ (((w.alloc (.cells #[.string ⟨#[]⟩] 9)).alloc (.cells #[.int .i64 0] 27)).alloc (.cells #[.pointer none, .slice none 0 0] 131)).frozen? ⟨w.heap.size + 1, 0, none⟩ = false := ⟨by simp [go_sem], by simp [go_sem]⟩
  have hsz : w.heap.size + 2 ≤ (((w.alloc (.cells #[.string ⟨#[]⟩] 9)).alloc (.cells #[.int .i64 0] 27)).alloc (.cells #[.pointer none, .slice none 0 0] 131)).heap.size := by simp
  replace b0 := Lib.hid b0
  replace hb0 := Lib.hid hb0
  replace k0 := Lib.hid k0
  replace k1 := Lib.hid k1
  go_enter_defers Tryz.func136, Tryz.ntmps136
  go_wp2_with fail
  go_loopw [0] (fun v wr => ∃ (t : ByteArray) (acc : List UInt8), v = .string t ∧ t.size ≤ s.size ∧ acc.length + 4 * t.size ≤ 4 * s.size ∧ Builds (w.heap.size + 2) (w.heap.size + 2) acc wr ∧ Hid (E.Left false s.data.toList acc t.data.toList) ∧ Hid (Below (w.heap.size + 2) (((w.alloc (.cells #[.string ⟨#[]⟩] 9)).alloc (.cells #[.int .i64 0] 27)).alloc (.cells #[.pointer none, .slice none 0 0] 131)) wr)) (fun v _ => strLen v)
  case atStart => exact ⟨s, [], rfl, Nat.le_refl _, by simp, hb0.out, Lib.hid hstart, Lib.hid (Below.refl _ _)⟩
  case round =>
    obtain ⟨t, acc, rfl, hts, hacc, hbd, hL, hbw⟩ := hrel
    have hkT := kept_cells hbw.out (by omega) k0.out.1 k0.out.2
    have hkE := kept_cells hbw.out (by omega) k1.out.1 k1.out.2
    have hB2 : w.heap.size + 2 ≤ wr.heap.size := Nat.le_trans hsz hbw.out.size
    have bW : Below w.heap.size w wr := b0.out.trans (hbw.out.mono (by omega))
    clear k0 k1 hb0 hsz b0
    generalize hW : (((w.alloc (.cells #[.string ⟨#[]⟩] 9)).alloc (.cells #[.int .i64 0] 27)).alloc (.cells #[.pointer none, .slice none 0 0] 131)) = W3 at hbw
    clear hW
    have hEr := hE.on bW
    have hbl : ∀ a : ByteArray, (⟨(a.data.toList.map (E.blank false)).toArray⟩ : ByteArray).size = a.size := fun a => size_map a _
    replace hbl := Lib.hid hbl
    cases hp : E.parts 38 t.data.toList with
    | none =>
      have hend := Lib.hid (hso.out _ (E.left_end hL.out hp))
      have c1 := cut_no (p := ⟨#[38]⟩) (c := 38) rfl wr (by omega : t.size ≤ 1000000) hEr hp
      replace hp := Lib.hid hp
      go_wp2_with fail
      (with_reducible refine c1.mono ?_)
      rintro e w1 ⟨rfl, b1⟩
      go_wp2_with fail
      (with_reducible refine (becomes_text _ _).mono ?_)
      rintro e w2 ⟨rfl, b2⟩
      have hbl1 := hbl.out t
      generalize hres : (⟨(t.data.toList.map (E.blank false)).toArray⟩ : ByteArray) = res at *
      have hres' : t.data.toList.map (E.blank false) = res.data.toList := by rw [← hres]
      replace hres := Lib.hid hres'
      clear hres'
      have hbd2 := builds_below (builds_below hbd b1) b2
      have hB3 : w.heap.size + 2 ≤ w2.heap.size := Nat.le_trans hB2 (Nat.le_trans b1.size b2.size)
      go_wp2_with fail
      (with_reducible refine (builder_writeString _ _ acc res _ hbd2 (by omega) hB3).mono ?_)
      rintro e w3 ⟨rfl, hbd3, b3⟩
      have hB4 : w.heap.size + 2 ≤ w3.heap.size := Nat.le_trans hB3 b3.size
      go_wp2_with fail
      (with_reducible refine (builder_string _ _ _ _ hbd3 hB4).mono ?_)
      rintro e w4 ⟨rfl, hbd4, b4⟩
      have bA : Below (w.heap.size + 2) wr w4 := (b1.mono hB2).trans ((b2.mono (Nat.le_trans hB2 b1.size)).trans (b3.trans b4))
      obtain ⟨hT, hTf⟩ := kept_cells bA (by omega) hkT.1 hkT.2
      obtain ⟨hQ, hQf⟩ := kept_cells bA (by omega) hkE.1 hkE.2
      have bF : Below w.heap.size w w4 := bW.trans (bA.mono (by omega))
      rw [hres.out] at hend
      clear hkT hkE hbd hbd2 hbd3 hbd4 c1 hL
      go_wp2
      refine leaves_cons (f := 149) (args := #[.pointer (some ⟨w.heap.size, 0, none⟩), .pointer (some ⟨w.heap.size + 1, 0, none⟩)]) (by simp) (by simp [go_sem]) ?_
      refine (catch_idle_at w.heap.size w.heap.size (w.heap.size + 1) ⟨(acc ++ res.data.toList).toArray⟩ _ (by omega) (Nat.le_refl _) (by omega) (by simp [go_sem, hT]) 0 (by simp [go_sem, hQ]) (by simp [go_sem, hTf]) (by simp [go_sem, hQf])).mono ?_
      rintro e u' w5 ⟨rfl, rfl, hP5, hQ5, b5⟩
      have b6 := ((bF.setCell (p := ⟨w.heap.size, 0, none⟩) (Nat.le_refl _) _).setCell (p := ⟨w.heap.size + 1, 0, none⟩) (Nat.le_succ _) _).trans b5
      simp [Leaves, settle, results, Tryz.results136, go_sem, hP5, hQ5]
      exact ⟨⟨hend.out.1.symm, hend.out.2.symm⟩, b6⟩
    | some x =>
      obtain ⟨la, lr⟩ := x
      obtain ⟨a, r, rfl, rfl, hsz⟩ := parted hp
      have hL2 := hL.out
      obtain ⟨⟨m, hm⟩, ⟨av, hav⟩, _⟩ := hEr.at
      have hgb := World.block_lt_of_cell? wr _ hav
      have c1 := cut_yes (p := ⟨#[38]⟩) (c := 38) rfl wr (by omega : t.size ≤ 1000000) hEr hp
      clear hm
      replace hp := Lib.hid hp
      go_wp2_with fail
      (with_reducible refine c1.mono ?_)
      rintro e w1 ⟨rfl, b1⟩
      go_wp2_with fail
      (with_reducible refine (becomes_text _ _).mono ?_)
      rintro e w2 ⟨rfl, b2⟩
      have hbl1 := hbl.out a
      generalize hres : (⟨(a.data.toList.map (E.blank false)).toArray⟩ : ByteArray) = res at *
      have hres' : a.data.toList.map (E.blank false) = res.data.toList := by rw [← hres]
      replace hres := Lib.hid hres'
      clear hres'
      have hbd2 := builds_below (builds_below hbd b1) b2
      have hB3 : w.heap.size + 2 ≤ w2.heap.size := Nat.le_trans hB2 (Nat.le_trans b1.size b2.size)
      go_wp2_with fail
      (with_reducible refine (builder_writeString _ _ acc res _ hbd2 (by omega) hB3).mono ?_)
      rintro e w3 ⟨rfl, hbd3, b3⟩
      have hB4 : w.heap.size + 2 ≤ w3.heap.size := Nat.le_trans hB3 b3.size
      have bA : Below (w.heap.size + 2) wr w3 := (b1.mono hB2).trans ((b2.mono (Nat.le_trans hB2 b1.size)).trans b3)
      have bF : Below w.heap.size w w3 := bW.trans (bA.mono (by omega))
      have hE3 := hE.on bF
      cases hn : E.semi r.data.toList with
      | none =>
        have hend := Lib.hid (hno.out (E.left_none hL2 hp.out hn))
        obtain ⟨_, ⟨av, hav3⟩, _⟩ := hE3.at
        have hgb := World.block_lt_of_cell? w3 _ hav3
        have cf := first_none r av w3 (by omega) hE3 hav3 hn
        clear hn hL2 c1 hL
        go_wp2_with fail
        (with_reducible refine cf.mono ?_)
        rintro e w4 ⟨rfl, b4⟩
        have bB : Below (w.heap.size + 2) wr w4 := bA.trans (b4.mono hB4)
        obtain ⟨hT, hTf⟩ := kept_cells bB (by omega) hkT.1 hkT.2
        obtain ⟨hQ, hQf⟩ := kept_cells bB (by omega) hkE.1 hkE.2
        have hv4 := (b4.cell hgb).trans hav3
        have bG := bF.trans (b4.mono bF.size)
        refine leaves_cons (f := 149) (args := #[.pointer (some ⟨w.heap.size, 0, none⟩), .pointer (some ⟨w.heap.size + 1, 0, none⟩)]) (by simp) (by simp [go_sem]) ?_
        refine (catch_thrown_at w.heap.size w.heap.size (w.heap.size + 1) ⟨#[]⟩ av _ (by omega) (Nat.le_refl _) (by omega) hT 0 hQ hTf hQf hv4).mono ?_
        rintro e u' w5 ⟨rfl, rfl, hP5, hQ5, b5⟩
        have b6 := bG.trans b5
        simp [Leaves, settle, results, Tryz.results136, go_sem, hP5, hQ5]
        exact ⟨⟨hend.out.1.symm, hend.out.2.symm⟩, b6⟩
      | some x =>
        obtain ⟨lx, ly⟩ := x
        obtain ⟨x, y, rfl, rfl, hsz2⟩ := parted hn
        cases hc : G.char (E.pointN x.data.toList : Nat) with
        | false =>
          have hend := Lib.hid (hno.out (E.left_odd hL2 hp.out hn hc))
          obtain ⟨_, ⟨av, hav3⟩, _⟩ := hE3.at
          have hgb := World.block_lt_of_cell? w3 _ hav3
          have cf := first_odd r x y av w3 (by omega) hE3 hav3 hn (by omega) hc
          clear hn hL2 c1 hL hc
          go_wp2_with fail
          (with_reducible refine cf.mono ?_)
          rintro e w4 ⟨rfl, b4⟩
          have bB : Below (w.heap.size + 2) wr w4 := bA.trans (b4.mono hB4)
          obtain ⟨hT, hTf⟩ := kept_cells bB (by omega) hkT.1 hkT.2
          obtain ⟨hQ, hQf⟩ := kept_cells bB (by omega) hkE.1 hkE.2
          have hv4 := (b4.cell hgb).trans hav3
          have bG := bF.trans (b4.mono bF.size)
          refine leaves_cons (f := 149) (args := #[.pointer (some ⟨w.heap.size, 0, none⟩), .pointer (some ⟨w.heap.size + 1, 0, none⟩)]) (by simp) (by simp [go_sem]) ?_
          refine (catch_thrown_at w.heap.size w.heap.size (w.heap.size + 1) ⟨#[]⟩ av _ (by omega) (Nat.le_refl _) (by omega) hT 0 hQ hTf hQf hv4).mono ?_
          rintro e u' w5 ⟨rfl, rfl, hP5, hQ5, b5⟩
          have b6 := bG.trans b5
          simp [Leaves, settle, results, Tryz.results136, go_sem, hP5, hQ5]
          exact ⟨⟨hend.out.1.symm, hend.out.2.symm⟩, b6⟩
        | true =>
          have hL3 := Lib.hid (E.left_step hL2 hp.out hn hc)
          have cf := first_yes r x y w3 (by omega) hE3 hn (by omega) hc
          have hple : E.pointN x.data.toList ≤ 1114111 := by
            simp [G.char, G.inR] at hc
            omega
          have hel := encode_le (E.pointN x.data.toList : Nat)
          rw [hres.out] at hL3
          generalize E.pointN x.data.toList = n at *
          clear hn hL2 c1 hL hc
          go_wp2_with fail
          (with_reducible refine cf.mono ?_)
          rintro e w4 ⟨rfl, b4⟩
          have hbd4 := builds_below hbd3 b4
          have hB5 : w.heap.size + 2 ≤ w4.heap.size := Nat.le_trans hB4 b4.size
          have hz : (acc ++ res.data.toList).length = acc.length + a.size := by rw [List.length_append, list_len]; omega
          go_wp2_with fail
          (with_reducible refine (builder_writeRune _ _ _ (n : Int) (by omega) (by omega) _ hbd4 (by omega) hB5).mono ?_)
          rintro e w5 ⟨rfl, hbd5, b5⟩
          have bC : Below (w.heap.size + 2) wr w5 := bA.trans ((b4.mono hB4).trans b5)
          have bD := Lib.hid (hbw.out.trans bC)
          have hz2 : (acc ++ res.data.toList ++ Lib.encodeRune (n : Int)).length ≤ acc.length + a.size + 4 := by rw [List.length_append]; omega
          go_wp2
          go_roundw
          case rel => exact ⟨y, _, rfl, by omega, by omega, hbd5, hL3, bD⟩
          case measure => simp [strLen]; omega

set_option maxRecDepth 100000 in
set_option maxHeartbeats 6400000 in
theorem expand_value (s : ByteArray) (w : World) (hs : s.size ≤ 1000000) (hE : Env w) :
    Calls Tryz.prog 136 #[.string s, .func (.func 148) #[] #[]] w fun e w' => e = .returned (.tuple #[.string (E.expA true s), .int .i64 (E.expE true s)]) ∧ Below w.heap.size w w' := by
  have hmf : ∀ (fn : Fn) (first cap : Array Value) (w : World), (Instr.makeFunc fn first cap).run Tryz.prog w = .ok (.func fn first cap) w := fun _ _ _ _ => rfl
  have hno := Lib.hid (@E.exp_none true s)
  have hso := Lib.hid (show ∀ u, E.expand true s.data.toList = some u → E.expA true s = ⟨u.toArray⟩ ∧ E.expE true s = 0 from fun _ h => E.exp_some h)
  have hstart := E.left_start true s.data.toList
  have b0 : Below w.heap.size w (((w.alloc (.cells #[.string ⟨#[]⟩] 9)).alloc (.cells #[.int .i64 0] 27)).alloc (.cells #[.pointer none, .slice none 0 0] 131)) := (((Below.refl _ _).alloc (Nat.le_refl _) _).alloc (by simp) _).alloc (by simp; omega) _
  have hb0 : Builds (w.heap.size + 2) (w.heap.size + 2) [] (((w.alloc (.cells #[.string ⟨#[]⟩] 9)).alloc (.cells #[.int .i64 0] 27)).alloc (.cells #[.pointer none, .slice none 0 0] 131)) := by
    have := builds_new ((w.alloc (.cells #[.string ⟨#[]⟩] 9)).alloc (.cells #[.int .i64 0] 27))
    simpa using this
  have k0 : (((w.alloc (.cells #[.string ⟨#[]⟩] 9)).alloc (.cells #[.int .i64 0] 27)).alloc (.cells #[.pointer none, .slice none 0 0] 131)).cell? ⟨w.heap.size, 0, none⟩ = some (.string ⟨#[]⟩) ∧ (((w.alloc (.cells #[.string ⟨#[]⟩] 9)).alloc (.cells #[.int .i64 0] 27)).alloc (.cells #[.pointer none, .slice none 0 0] 131)).frozen? ⟨w.heap.size, 0, none⟩ = false := ⟨by simp [go_sem], by simp [go_sem]⟩
  have k1 : (((w.alloc (.cells #[.string ⟨#[]⟩] 9)).alloc (.cells #[.int .i64 0] 27)).alloc (.cells #[.pointer none, .slice none 0 0] 131)).cell? ⟨w.heap.size + 1, 0, none⟩ = some (.int .i64 0) ∧ (((w.alloc (.cells #[.string ⟨#[]⟩] 9)).alloc (.cells #[.int .i64 0] 27)).alloc (.cells #[.pointer none, .slice none 0 0] 131)).frozen? ⟨w.heap.size + 1, 0, none⟩ = false := ⟨by simp [go_sem], by simp [go_sem]⟩
  have hsz : w.heap.size + 2 ≤ (((w.alloc (.cells #[.string ⟨#[]⟩] 9)).alloc (.cells #[.int .i64 0] 27)).alloc (.cells #[.pointer none, .slice none 0 0] 131)).heap.size := by simp
  replace b0 := Lib.hid b0
  replace hb0 := Lib.hid hb0
  replace k0 := Lib.hid k0
  replace k1 := Lib.hid k1
  go_enter_defers Tryz.func136, Tryz.ntmps136
  go_wp2_with fail
  go_loopw [0] (fun v wr => ∃ (t : ByteArray) (acc : List UInt8), v = .string t ∧ t.size ≤ s.size ∧ acc.length + 4 * t.size ≤ 4 * s.size ∧ Builds (w.heap.size + 2) (w.heap.size + 2) acc wr ∧ Hid (E.Left true s.data.toList acc t.data.toList) ∧ Hid (Below (w.heap.size + 2) (((w.alloc (.cells #[.string ⟨#[]⟩] 9)).alloc (.cells #[.int .i64 0] 27)).alloc (.cells #[.pointer none, .slice none 0 0] 131)) wr)) (fun v _ => strLen v)
  case atStart => exact ⟨s, [], rfl, Nat.le_refl _, by simp, hb0.out, Lib.hid hstart, Lib.hid (Below.refl _ _)⟩
  case round =>
    obtain ⟨t, acc, rfl, hts, hacc, hbd, hL, hbw⟩ := hrel
    have hkT := kept_cells hbw.out (by omega) k0.out.1 k0.out.2
    have hkE := kept_cells hbw.out (by omega) k1.out.1 k1.out.2
    have hB2 : w.heap.size + 2 ≤ wr.heap.size := Nat.le_trans hsz hbw.out.size
    have bW : Below w.heap.size w wr := b0.out.trans (hbw.out.mono (by omega))
    clear k0 k1 hb0 hsz b0
    generalize hW : (((w.alloc (.cells #[.string ⟨#[]⟩] 9)).alloc (.cells #[.int .i64 0] 27)).alloc (.cells #[.pointer none, .slice none 0 0] 131)) = W3 at hbw
    clear hW
    have hEr := hE.on bW
    have hbl : ∀ a : ByteArray, (⟨(a.data.toList.map (E.blank true)).toArray⟩ : ByteArray).size = a.size := fun a => size_map a _
    replace hbl := Lib.hid hbl
    cases hp : E.parts 38 t.data.toList with
    | none =>
      have hend := Lib.hid (hso.out _ (E.left_end hL.out hp))
      have c1 := cut_no (p := ⟨#[38]⟩) (c := 38) rfl wr (by omega : t.size ≤ 1000000) hEr hp
      replace hp := Lib.hid hp
      go_wp2_with fail
      (with_reducible refine c1.mono ?_)
      rintro e w1 ⟨rfl, b1⟩
      go_wp2_with fail
      (with_reducible refine (becomes_value _ _ (by omega)).mono ?_)
      rintro e w2 ⟨rfl, b2⟩
      have hbl1 := hbl.out t
      generalize hres : (⟨(t.data.toList.map (E.blank true)).toArray⟩ : ByteArray) = res at *
      have hres' : t.data.toList.map (E.blank true) = res.data.toList := by rw [← hres]
      replace hres := Lib.hid hres'
      clear hres'
      have hbd2 := builds_below (builds_below hbd b1) b2
      have hB3 : w.heap.size + 2 ≤ w2.heap.size := Nat.le_trans hB2 (Nat.le_trans b1.size b2.size)
      go_wp2_with fail
      (with_reducible refine (builder_writeString _ _ acc res _ hbd2 (by omega) hB3).mono ?_)
      rintro e w3 ⟨rfl, hbd3, b3⟩
      have hB4 : w.heap.size + 2 ≤ w3.heap.size := Nat.le_trans hB3 b3.size
      go_wp2_with fail
      (with_reducible refine (builder_string _ _ _ _ hbd3 hB4).mono ?_)
      rintro e w4 ⟨rfl, hbd4, b4⟩
      have bA : Below (w.heap.size + 2) wr w4 := (b1.mono hB2).trans ((b2.mono (Nat.le_trans hB2 b1.size)).trans (b3.trans b4))
      obtain ⟨hT, hTf⟩ := kept_cells bA (by omega) hkT.1 hkT.2
      obtain ⟨hQ, hQf⟩ := kept_cells bA (by omega) hkE.1 hkE.2
      have bF : Below w.heap.size w w4 := bW.trans (bA.mono (by omega))
      rw [hres.out] at hend
      clear hkT hkE hbd hbd2 hbd3 hbd4 c1 hL
      go_wp2
      refine leaves_cons (f := 149) (args := #[.pointer (some ⟨w.heap.size, 0, none⟩), .pointer (some ⟨w.heap.size + 1, 0, none⟩)]) (by simp) (by simp [go_sem]) ?_
      refine (catch_idle_at w.heap.size w.heap.size (w.heap.size + 1) ⟨(acc ++ res.data.toList).toArray⟩ _ (by omega) (Nat.le_refl _) (by omega) (by simp [go_sem, hT]) 0 (by simp [go_sem, hQ]) (by simp [go_sem, hTf]) (by simp [go_sem, hQf])).mono ?_
      rintro e u' w5 ⟨rfl, rfl, hP5, hQ5, b5⟩
      have b6 := ((bF.setCell (p := ⟨w.heap.size, 0, none⟩) (Nat.le_refl _) _).setCell (p := ⟨w.heap.size + 1, 0, none⟩) (Nat.le_succ _) _).trans b5
      simp [Leaves, settle, results, Tryz.results136, go_sem, hP5, hQ5]
      exact ⟨⟨hend.out.1.symm, hend.out.2.symm⟩, b6⟩
    | some x =>
      obtain ⟨la, lr⟩ := x
      obtain ⟨a, r, rfl, rfl, hsz⟩ := parted hp
      have hL2 := hL.out
      obtain ⟨⟨m, hm⟩, ⟨av, hav⟩, _⟩ := hEr.at
      have hgb := World.block_lt_of_cell? wr _ hav
      have c1 := cut_yes (p := ⟨#[38]⟩) (c := 38) rfl wr (by omega : t.size ≤ 1000000) hEr hp
      clear hm
      replace hp := Lib.hid hp
      go_wp2_with fail
      (with_reducible refine c1.mono ?_)
      rintro e w1 ⟨rfl, b1⟩
      go_wp2_with fail
      (with_reducible refine (becomes_value _ _ (by omega)).mono ?_)
      rintro e w2 ⟨rfl, b2⟩
      have hbl1 := hbl.out a
      generalize hres : (⟨(a.data.toList.map (E.blank true)).toArray⟩ : ByteArray) = res at *
      have hres' : a.data.toList.map (E.blank true) = res.data.toList := by rw [← hres]
      replace hres := Lib.hid hres'
      clear hres'
      have hbd2 := builds_below (builds_below hbd b1) b2
      have hB3 : w.heap.size + 2 ≤ w2.heap.size := Nat.le_trans hB2 (Nat.le_trans b1.size b2.size)
      go_wp2_with fail
      (with_reducible refine (builder_writeString _ _ acc res _ hbd2 (by omega) hB3).mono ?_)
      rintro e w3 ⟨rfl, hbd3, b3⟩
      have hB4 : w.heap.size + 2 ≤ w3.heap.size := Nat.le_trans hB3 b3.size
      have bA : Below (w.heap.size + 2) wr w3 := (b1.mono hB2).trans ((b2.mono (Nat.le_trans hB2 b1.size)).trans b3)
      have bF : Below w.heap.size w w3 := bW.trans (bA.mono (by omega))
      have hE3 := hE.on bF
      cases hn : E.semi r.data.toList with
      | none =>
        have hend := Lib.hid (hno.out (E.left_none hL2 hp.out hn))
        obtain ⟨_, ⟨av, hav3⟩, _⟩ := hE3.at
        have hgb := World.block_lt_of_cell? w3 _ hav3
        have cf := first_none r av w3 (by omega) hE3 hav3 hn
        clear hn hL2 c1 hL
        go_wp2_with fail
        (with_reducible refine cf.mono ?_)
        rintro e w4 ⟨rfl, b4⟩
        have bB : Below (w.heap.size + 2) wr w4 := bA.trans (b4.mono hB4)
        obtain ⟨hT, hTf⟩ := kept_cells bB (by omega) hkT.1 hkT.2
        obtain ⟨hQ, hQf⟩ := kept_cells bB (by omega) hkE.1 hkE.2
        have hv4 := (b4.cell hgb).trans hav3
        have bG := bF.trans (b4.mono bF.size)
        refine leaves_cons (f := 149) (args := #[.pointer (some ⟨w.heap.size, 0, none⟩), .pointer (some ⟨w.heap.size + 1, 0, none⟩)]) (by simp) (by simp [go_sem]) ?_
        refine (catch_thrown_at w.heap.size w.heap.size (w.heap.size + 1) ⟨#[]⟩ av _ (by omega) (Nat.le_refl _) (by omega) hT 0 hQ hTf hQf hv4).mono ?_
        rintro e u' w5 ⟨rfl, rfl, hP5, hQ5, b5⟩
        have b6 := bG.trans b5
        simp [Leaves, settle, results, Tryz.results136, go_sem, hP5, hQ5]
        exact ⟨⟨hend.out.1.symm, hend.out.2.symm⟩, b6⟩
      | some x =>
        obtain ⟨lx, ly⟩ := x
        obtain ⟨x, y, rfl, rfl, hsz2⟩ := parted hn
        cases hc : G.char (E.pointN x.data.toList : Nat) with
        | false =>
          have hend := Lib.hid (hno.out (E.left_odd hL2 hp.out hn hc))
          obtain ⟨_, ⟨av, hav3⟩, _⟩ := hE3.at
          have hgb := World.block_lt_of_cell? w3 _ hav3
          have cf := first_odd r x y av w3 (by omega) hE3 hav3 hn (by omega) hc
          clear hn hL2 c1 hL hc
          go_wp2_with fail
          (with_reducible refine cf.mono ?_)
          rintro e w4 ⟨rfl, b4⟩
          have bB : Below (w.heap.size + 2) wr w4 := bA.trans (b4.mono hB4)
          obtain ⟨hT, hTf⟩ := kept_cells bB (by omega) hkT.1 hkT.2
          obtain ⟨hQ, hQf⟩ := kept_cells bB (by omega) hkE.1 hkE.2
          have hv4 := (b4.cell hgb).trans hav3
          have bG := bF.trans (b4.mono bF.size)
          refine leaves_cons (f := 149) (args := #[.pointer (some ⟨w.heap.size, 0, none⟩), .pointer (some ⟨w.heap.size + 1, 0, none⟩)]) (by simp) (by simp [go_sem]) ?_
          refine (catch_thrown_at w.heap.size w.heap.size (w.heap.size + 1) ⟨#[]⟩ av _ (by omega) (Nat.le_refl _) (by omega) hT 0 hQ hTf hQf hv4).mono ?_
          rintro e u' w5 ⟨rfl, rfl, hP5, hQ5, b5⟩
          have b6 := bG.trans b5
          simp [Leaves, settle, results, Tryz.results136, go_sem, hP5, hQ5]
          exact ⟨⟨hend.out.1.symm, hend.out.2.symm⟩, b6⟩
        | true =>
          have hL3 := Lib.hid (E.left_step hL2 hp.out hn hc)
          have cf := first_yes r x y w3 (by omega) hE3 hn (by omega) hc
          have hple : E.pointN x.data.toList ≤ 1114111 := by
            simp [G.char, G.inR] at hc
            omega
          have hel := encode_le (E.pointN x.data.toList : Nat)
          rw [hres.out] at hL3
          generalize E.pointN x.data.toList = n at *
          clear hn hL2 c1 hL hc
          go_wp2_with fail
          (with_reducible refine cf.mono ?_)
          rintro e w4 ⟨rfl, b4⟩
          have hbd4 := builds_below hbd3 b4
          have hB5 : w.heap.size + 2 ≤ w4.heap.size := Nat.le_trans hB4 b4.size
          have hz : (acc ++ res.data.toList).length = acc.length + a.size := by rw [List.length_append, list_len]; omega
          go_wp2_with fail
          (with_reducible refine (builder_writeRune _ _ _ (n : Int) (by omega) (by omega) _ hbd4 (by omega) hB5).mono ?_)
          rintro e w5 ⟨rfl, hbd5, b5⟩
          have bC : Below (w.heap.size + 2) wr w5 := bA.trans ((b4.mono hB4).trans b5)
          have bD := Lib.hid (hbw.out.trans bC)
          have hz2 : (acc ++ res.data.toList ++ Lib.encodeRune (n : Int)).length ≤ acc.length + a.size + 4 := by rw [List.length_append]; omega
          go_wp2
          go_roundw
          case rel => exact ⟨y, _, rfl, by omega, by omega, hbd5, hL3, bD⟩
          case measure => simp [strLen]; omega

theorem eExpand_any (s : ByteArray) (w : World) (hs : s.size ≤ 1000000) (hE : Env w) : Calls Tryz.prog 110 #[.string s] w fun e w' => e = .returned (.tuple #[.string (E.expA false s), .int .i64 (E.expE false s)]) ∧ Below w.heap.size w w' := by
  go_enter Tryz.func110, Tryz.ntmps110
  go_wp2_with fail
  (with_reducible refine (expand_text s _ hs hE).mono ?_)
  rintro e w1 ⟨rfl, b1⟩
  go_wp2
  go_ret2
  exact ⟨rfl, b1⟩
theorem eValue_any (s : ByteArray) (w : World) (hs : s.size ≤ 1000000) (hE : Env w) : Calls Tryz.prog 135 #[.string s] w fun e w' => e = .returned (.tuple #[.string (E.expA true s), .int .i64 (E.expE true s)]) ∧ Below w.heap.size w w' := by
  go_enter Tryz.func135, Tryz.ntmps135
  go_wp2_with fail
  (with_reducible refine (expand_value s _ hs hE).mono ?_)
  rintro e w1 ⟨rfl, b1⟩
  go_wp2
  go_ret2
  exact ⟨rfl, b1⟩
end Go.Proofs.YtcjlhdmekhifaaaGreatDoor
