/-
  What each call on rows comes to: contracts of areRows, Print.
-/
import Derived.Test.YtbfgniheagolgaaGreatDoorText
import Derived.Deep.DeepCutAuto
import Derived.Deep.RegionHeld3
import Derived.Deep.QuietTactic
import Derived.BigQuiet
import Derived.Laws.Cover1
namespace Go.Proofs.YtbfgniheagolgaaGreatDoor
open Go.RowKit

/-- ROWS LIE in memory, from the slice's address on. -/
def RowsAt (w : World) (ao : Option Addr) (l : List M.Row) : Prop := ∀ j (h : j < l.length), ∃ b off, ao = some ⟨b, off, none⟩ ∧
  w.cell? ⟨b, off + j * 4, none⟩ = some (.string l[j].name) ∧ w.cell? ⟨b, off + j * 4 + 1, none⟩ = some (.string l[j].file) ∧
  w.cell? ⟨b, off + j * 4 + 2, none⟩ = some (.int .i64 l[j].size) ∧ w.cell? ⟨b, off + j * 4 + 3, none⟩ = some (.int .i64 l[j].sum)

theorem RowsAt.below {w w' : World} {ao : Option Addr} {l : List M.Row} (h : RowsAt w ao l) (hb : Below w.heap.size w w') : RowsAt w' ao l := by
  intro j hj
  obtain ⟨b, off, e, c0, c1, c2, c3⟩ := h j hj
  have hlt : b < w.heap.size := World.block_lt_of_cell? w _ c0
  exact ⟨b, off, e, (hb.cell hlt).trans c0, (hb.cell hlt).trans c1, (hb.cell hlt).trans c2, (hb.cell hlt).trans c3⟩

/-- Rows that a machine can hold. -/
def Fit (l : List M.Row) : Prop := l.length ≤ 1000000 ∧ ∀ r ∈ l, r.name.size ≤ maxLen ∧ r.file.size ≤ maxLen ∧ (-9223372036854775808 ≤ r.size ∧ r.size ≤ 9223372036854775807) ∧ (-9223372036854775808 ≤ r.sum ∧ r.sum ≤ 9223372036854775807)

theorem ok_snoc (l : List M.Row) (k : Nat) (h : (List.range k).all (M.okAt l) = true) (h1 : M.okAt l k = true) : (List.range (k + 1)).all (M.okAt l) = true := by
  rw [List.range_succ, List.all_append, h]; simp [h1]
theorem ok_false (l : List M.Row) (k : Nat) (hk : k < l.length) (h1 : M.okAt l k = false) : M.areRows l = false := by
  unfold M.areRows
  rw [← Bool.not_eq_true, List.all_eq_true]
  intro h
  rw [h k (List.mem_range.2 hk)] at h1; cases h1

theorem below_drewN {B : Nat} (w : World) (n : Nat) : Below B w (w.drewN n) := ⟨rfl, rfl, rfl, Nat.le_refl _, fun _ _ => rfl⟩

theorem okAt_eq (l : List M.Row) (k : Nat) (hk : k < l.length) (r : M.Row) (hr : l[k] = r) : M.okAt l k = (M.name r.name.data.toList && M.name r.file.data.toList && M.num r.size && M.num r.sum &&
      (match k with
       | 0 => true
       | j + 1 => match l[j]? with
         | none => true
         | some p => !(Op.bytesLess r.name.toList p.name.toList || r.name.toList == p.name.toList))) := by
  unfold M.okAt; rw [List.getElem?_eq_getElem hk, hr]; cases k <;> rfl

theorem Plate.below {B pb k : Nat} {w w' : World} (h : Plate B pb k w) (hb : Below w.heap.size w w') : Plate B pb k w' := by
  obtain ⟨sm, nm, n, room, sv, xs, h⟩ := h
  exact ⟨sm, nm, n, room, sv, xs, h.below hb (Nat.le_refl _)⟩
theorem Plate.alloc {B pb k : Nat} {w : World} (h : Plate B pb k w) (o : Obj) : Plate B pb k (w.alloc o) := h.below ((Below.refl _ _).alloc (Nat.le_refl _) o)

set_option maxRecDepth 100000 in
set_option maxHeartbeats 3200000 in
theorem areRows_any {ao : Option Addr} {cap : Nat} (l : List M.Row) (w : World) (hR : RowsAt w ao l) (hF : Fit l) :
    Calls Tryz.prog 13 #[.slice ao l.length cap] w fun e w' => e = .returned (.bool (M.areRows l)) ∧ Below w.heap.size w w' := by
  obtain ⟨hlen, hfit⟩ := hF
  go_enter Tryz.func13, Tryz.ntmps13
  go_wp2_with fail
  (with_reducible refine (new_any w).mono ?_)
  rintro e w1 ⟨pb, sm, nm, rfl, hp, b1⟩
  have hp1 : Plate w.heap.size pb 0 w1 := ⟨sm, nm, 0, 0, _, [], hp⟩
  clear hp
  go_wp2_with fail
  go_loopw [15] (fun i wr => ∃ k : Nat, k ≤ l.length ∧ i = .int .i64 k ∧ (List.range k).all (M.okAt l) = true ∧ Plate w.heap.size pb (2 * k) wr ∧ Below w.heap.size w wr) (fun i _ => l.length - (intOf i).toNat)
  case atStart => exact ⟨0, Nat.zero_le _, rfl, rfl, hp1, b1⟩
  case round =>
    obtain ⟨k, hk, rfl, hall, hpl, bw⟩ := hrel
    have hall := Lib.hid hall
    have hbs := bw.size
    by_cases hlt : k < l.length
    · obtain ⟨b, off, rfl, c0, c1, c2, c3⟩ := (hR.below bw) k hlt
      have hok := okAt_eq l k hlt _ rfl
      have hbad := ok_false l k hlt
      obtain ⟨f0, f1, f2, f3⟩ := hfit l[k] (List.getElem_mem _)
      have hlk : l[k]? = some l[k] := List.getElem?_eq_getElem hlt
      generalize hr : l[k] = r at c0 c1 c2 c3 hok f0 f1 f2 f3 hlk
      clear hr
      have hok := Lib.hid hok
      have hbad := Lib.hid hbad
      go_wp2_with fail
      (with_reducible refine (isFile_any r.name _ (hpl.alloc _) f0 (by omega) (by simp; omega)).mono ?_)
      rintro e w2 ⟨rfl, hp2, b2, l2⟩
      have e0 : (wr.alloc (.cells #[.string r.name, .string r.file, .int .i64 r.size, .int .i64 r.sum] 34)).heap[wr.heap.size]? = some (.cells #[.string r.name, .string r.file, .int .i64 r.size, .int .i64 r.sum] 34 (0, 0)) := alloc_at _ _ rfl
      have e2 := l2 _ _ _ _ e0 (by decide) (by decide)
      have hbs2 := b2.size
      have bw2 : Below w.heap.size w w2 := (bw.alloc hbs _).trans b2
      have hbs3 := bw2.size
      cases hN : M.name r.name.data.toList
      · have hN := Lib.hid hN
        go_wp2_with fail
        go_ret
        exact ⟨ret_bool (hbad.out (by rw [hok.out, hN.out]; rfl)).symm, bw2⟩
      have hN := Lib.hid hN
      have q1 : w2.cell? ⟨wr.heap.size, 1, none⟩ = some (.string r.file) := by simp [World.cell?, e2]
      clear e0
      go_wp2_with fail
      (with_reducible refine (isFile_any r.file _ hp2 f1 (by omega) (by omega)).mono ?_)
      rintro e w3 ⟨rfl, hp3, b3, l3⟩
      have e3 := l3 _ _ _ _ e2 (by decide) (by decide)
      have bw3 := bw2.trans b3
      cases hM : M.name r.file.data.toList
      · have hM := Lib.hid hM
        go_wp2_with fail
        go_ret
        exact ⟨ret_bool (hbad.out (by rw [hok.out, hN.out, hM.out]; rfl)).symm, bw3⟩
      have hM := Lib.hid hM
      have q0 : w3.cell? ⟨wr.heap.size, 0, none⟩ = some (.string r.name) := by simp [World.cell?, e3]
      have q2 : w3.cell? ⟨wr.heap.size, 2, none⟩ = some (.int .i64 r.size) := by simp [World.cell?, e3]
      have q3 : w3.cell? ⟨wr.heap.size, 3, none⟩ = some (.int .i64 r.sum) := by simp [World.cell?, e3]
      clear e2
      go_wp2_with fail
      (with_reducible refine (isNumber_any r.size _).mono ?_)
      rintro e w4 ⟨rfl, rfl⟩
      cases hS : M.num r.size
      · have hS := Lib.hid hS
        go_wp2_with fail
        go_ret
        exact ⟨ret_bool (hbad.out (by rw [hok.out, hN.out, hM.out, hS.out]; rfl)).symm, bw3⟩
      have hS := Lib.hid hS
      go_wp2_with fail
      (with_reducible refine (isNumber_any r.sum _).mono ?_)
      rintro e w4 ⟨rfl, rfl⟩
      cases hU : M.num r.sum
      · have hU := Lib.hid hU
        go_wp2_with fail
        go_ret
        exact ⟨ret_bool (hbad.out (by rw [hok.out, hN.out, hM.out, hS.out, hU.out]; rfl)).symm, bw3⟩
      have hU := Lib.hid hU
      by_cases hk0 : k = 0
      · subst hk0
        go_wp2_with fail
        go_quiet (fail)
        go_wp2_with fail
        go_round
        case rel => exact ⟨1, by omega, by go_num, ok_snoc l 0 hall.out (by rw [hok.out, hN.out, hM.out, hS.out, hU.out]; rfl), hp3.below (below_drewN _ _), bw3.trans (below_drewN _ _)⟩
        case measure => simp [intOf]; omega
      · obtain ⟨j, rfl⟩ : ∃ j, k = j + 1 := ⟨k - 1, by omega⟩
        obtain ⟨b', off', eb, d0, _, _, _⟩ := (hR.below (bw3.mono (Nat.le_refl _))) j (by omega)
        cases eb
        generalize hpr : l[j]'(by omega) = p at d0
        have hlj : l[j]? = some p := by rw [List.getElem?_eq_getElem (by omega), hpr]
        have hok2 : M.okAt l (j + 1) = !(Op.bytesLess r.name.toList p.name.toList || r.name.toList == p.name.toList) := by
          rw [hok.out, hN.out, hM.out, hS.out, hU.out]; simp [hlj]
        have hok2 := Lib.hid hok2
        have g1 : (0 : Int) < ((j : Int) + 1) := by omega
        have g2 : IntKind.i64.wrap (j : Int) = (j : Int) := IntWalk.i64_in _ ⟨by omega, by omega⟩
        have g3 : (j : Int) < (l.length : Int) := by omega
        have g4 : ((j : Nat) : Int).toNat = j := by omega
        clear hpr hlj
        go_wp2_with fail
        go_quiet (fail)
        cases h1 : Op.bytesLess r.name.toList p.name.toList
        · cases h2 : (r.name.toList == p.name.toList)
          · go_wp2_with fail
            go_round
            case rel => exact ⟨j + 1 + 1, by omega, by go_num, ok_snoc l (j + 1) hall.out (by rw [hok2.out, h1, h2]; rfl), by have := hp3.below (below_drewN (B := w3.heap.size) w3 nq); rwa [show 2 * (j + 1) + 1 + 1 = 2 * (j + 1 + 1) by omega] at this, bw3.trans (below_drewN _ _)⟩
            case measure => simp [intOf]; omega
          · go_wp2_with fail
            go_ret
            exact ⟨ret_bool (hbad.out (by rw [hok2.out, h1, h2]; rfl)).symm, bw3.trans (below_drewN _ _)⟩
        · cases h2 : (r.name.toList == p.name.toList)
          · go_wp2_with fail
            go_ret
            exact ⟨ret_bool (hbad.out (by rw [hok2.out, h1]; rfl)).symm, bw3.trans (below_drewN _ _)⟩
          · go_wp2_with fail
            go_ret
            exact ⟨ret_bool (hbad.out (by rw [hok2.out, h1]; rfl)).symm, bw3.trans (below_drewN _ _)⟩
    · have hkl : k = l.length := by omega
      have hall' : Hid (M.areRows l = true) := Lib.hid (by unfold M.areRows; rw [← hkl]; exact hall.out)
      clear hfit hR
      go_wp2_with fail
      go_ret
      exact ⟨ret_bool hall'.out.symm, bw⟩
end Go.Proofs.YtbfgniheagolgaaGreatDoor
