/-
  What the document's own functions of a manifest come to: the contract of spell.
-/
import Derived.Test.YtbfgniheagolgaaGreatDoorRefs2
import Derived.Deep.RegionHeld3
import Derived.Deep.DeepCutAuto
import Derived.IntWalk
namespace Go.Proofs.YtbfgniheagolgaaGreatDoor
open Go.RowKit

theorem digits_keep (w0 : World) (b off k : Nat) (r : M.Row) (x : Int) (W : World) (hx : 0 ≤ x ∧ x ≤ 1099511627776)
    (h : W.cell? ⟨b, off + k * 4, none⟩ = some (.string r.name) ∧ W.cell? ⟨b, off + k * 4 + 1, none⟩ = some (.string r.file) ∧ W.cell? ⟨b, off + k * 4 + 2, none⟩ = some (.int .i64 r.size) ∧ W.cell? ⟨b, off + k * 4 + 3, none⟩ = some (.int .i64 r.sum) ∧ Below w0.heap.size w0 W) :
    Calls Tryz.prog 18 #[.int .i64 x] W fun e W' => e = .returned (.string ⟨(Lib.itoa x).toArray⟩) ∧
      (W'.cell? ⟨b, off + k * 4, none⟩ = some (.string r.name) ∧ W'.cell? ⟨b, off + k * 4 + 1, none⟩ = some (.string r.file) ∧ W'.cell? ⟨b, off + k * 4 + 2, none⟩ = some (.int .i64 r.size) ∧ W'.cell? ⟨b, off + k * 4 + 3, none⟩ = some (.int .i64 r.sum) ∧ Below w0.heap.size w0 W') := by
  obtain ⟨n, rfl⟩ := Int.eq_ofNat_of_zero_le hx.1
  refine (refDigits_any n W (by omega)).mono fun _ _ ⟨he, hb⟩ => ⟨he, ?_⟩
  obtain ⟨c0, c1, c2, c3, bw⟩ := h
  have hlt : b < W.heap.size := World.block_lt_of_cell? W _ c0
  exact ⟨(hb.cell hlt).trans c0, (hb.cell hlt).trans c1, (hb.cell hlt).trans c2, (hb.cell hlt).trans c3, bw.trans (hb.mono bw.size)⟩

theorem dig_size (x : Int) (h : 0 ≤ x ∧ x ≤ 1099511627776) : (Lib.itoa x).length ≤ 21 :=
  Lib.itoa_length_le x (by omega) (by omega)
theorem one_size (d : UInt8) : ({ data := #[d] } : ByteArray).size = 1 := rfl
theorem gen_size1 : ({ data := #[103, 101, 110, 101, 114, 97, 116, 105, 111, 110, 32] } : ByteArray).size = 11 := by decide
theorem size_text {t : ByteArray} {L : List UInt8} (h : t.data.toList = L) : t.size = L.length := by
  rw [← h]; simp

theorem told_row (t : ByteArray) (r : M.Row) : (t ++ r.name ++ ⟨#[32]⟩ ++ r.file ++ ⟨#[32]⟩ ++ ⟨(Lib.itoa r.size).toArray⟩ ++ ⟨#[32]⟩ ++ ⟨(Lib.itoa r.sum).toArray⟩ ++ ⟨#[10]⟩ : ByteArray).data.toList = t.data.toList ++ M.rowLine r := by
  simp [M.rowLine, M.line_two]

set_option maxRecDepth 100000 in
set_option maxHeartbeats 3200000 in
theorem refSpell_any {ao : Option Addr} {cap : Nat} (n : Int) (l : List M.Row) (w : World) (hR : RowsAt w ao l) (hF : Fit l) (hg : M.good n l = true) :
    Calls Tryz.prog 17 #[.int .i64 n, .slice ao l.length cap] w fun e w' => e = .returned (.string ⟨(M.body n l).toArray⟩) ∧ Below w.heap.size w w' := by
  have hlen := hF.1
  have hnn := M.good_num hg
  have hrows := Lib.hid (good_rows hg)
  have hrl := rows_len l hrows.out
  have ll := line_gen_len n hnn.1 hnn.2
  obtain ⟨n', rfl⟩ := Int.eq_ofNat_of_zero_le hnn.1
  go_enter Tryz.func17, Tryz.ntmps17
  go_wp2_with fail
  (with_reducible refine (refDigits_any n' _ (by omega)).mono ?_)
  rintro e w1 ⟨rfl, b1⟩
  have hds := dig_size (n' : Int) hnn
  have h32 := one_size 32
  have h10 := one_size 10
  have hgs := gen_size1
  have hap : ∀ a b : ByteArray, (a ++ b).size = a.size + b.size := fun _ _ => ByteArray.size_append
  go_wp2_with fail
  go_loopw [5, 6] (fun s i wr => ∃ (k : Nat) (t : ByteArray), k ≤ l.length ∧ i = .int .i64 k ∧ s = .string t ∧ Hid (t.data.toList = M.line M.gen [(n' : Int)] ++ (l.take k).flatMap M.rowLine) ∧ Below w.heap.size w wr) (fun _ i _ => l.length - (intOf i).toNat)
  case atStart => exact ⟨0, _, Nat.zero_le _, rfl, rfl, Lib.hid (by simp [M.line_one, M.gen]), b1⟩
  case round =>
    obtain ⟨k, t, hk, rfl, rfl, ht, bw⟩ := hrel
    have htz : t.size ≤ 120000040 := by
      have h1 := size_text ht.out
      have h2 := take_rows_len l k hrows.out
      rw [List.length_append] at h1; omega
    by_cases hlt : k < l.length
    · obtain ⟨b, off, rfl, c0, c1, c2, c3⟩ := (hR.below bw) k hlt
      have hst := take_rows l k hlt (M.line M.gen [(n' : Int)])
      obtain ⟨hN, hM, hS, hU⟩ := hrows.out l[k] (List.getElem_mem _)
      generalize hr : l[k] = r at c0 c1 c2 c3 hst hN hM hS hU
      clear hr
      simp only [M.num, Bool.and_eq_true, decide_eq_true_eq] at hS hU
      simp only [M.name, Bool.and_eq_true, decide_eq_true_eq] at hN hM
      have z1 : r.name.size ≤ 32 := hN.1.2
      have z2 : r.file.size ≤ 32 := hM.1.2
      have z3 := dig_size r.size hS
      have z4 := dig_size r.sum hU
      have hst2 := Lib.hid ((told_row t r).trans ((congrArg (· ++ M.rowLine r) ht.out).trans hst))
      have g3 : (k : Int) < (l.length : Int) := by omega
      have n1 : ¬ 9223372036854775807 < t.size + r.name.size := by omega
      have n2 : ¬ 9223372036854775807 < t.size + r.name.size + 1 := by omega
      have n3 : ¬ 9223372036854775807 < t.size + r.name.size + 1 + r.file.size := by omega
      have n4 : ¬ 9223372036854775807 < t.size + r.name.size + 1 + r.file.size + 1 := by omega
      have n5 : ¬ 9223372036854775807 < t.size + r.name.size + 1 + r.file.size + 1 + (Lib.itoa r.size).length := by omega
      have n6 : ¬ 9223372036854775807 < t.size + r.name.size + 1 + r.file.size + 1 + (Lib.itoa r.size).length + 1 := by omega
      have n7 : ¬ 9223372036854775807 < t.size + r.name.size + 1 + r.file.size + 1 + (Lib.itoa r.size).length + 1 + (Lib.itoa r.sum).length := by omega
      have n8 : ¬ 9223372036854775807 < t.size + r.name.size + 1 + r.file.size + 1 + (Lib.itoa r.size).length + 1 + (Lib.itoa r.sum).length + 1 := by omega
      have hS := Lib.hid hS
      have hU := Lib.hid hU
      clear hN hM hst htz z1 z2 z3 z4
      go_wp2_with fail
      go_region_held3 (fun w' => w'.cell? ⟨b, off + k * 4, none⟩ = some (.string r.name) ∧ w'.cell? ⟨b, off + k * 4 + 1, none⟩ = some (.string r.file) ∧ w'.cell? ⟨b, off + k * 4 + 2, none⟩ = some (.int .i64 r.size) ∧ w'.cell? ⟨b, off + k * 4 + 3, none⟩ = some (.int .i64 r.sum) ∧ Below w.heap.size w w') (first | exact ⟨c0, c1, c2, c3, bw.drew⟩ | assumption)
        (first
          | (go_at_call_of 18 (Value.int IntKind.i64 r.size); refine (digits_keep w b off k r r.size _ hS.out ?_).mono ?_; assumption; rintro e w' ⟨rfl, hcb⟩)
          | (go_at_call_of 18 (Value.int IntKind.i64 r.sum); refine (digits_keep w b off k r r.sum _ hU.out ?_).mono ?_; assumption; rintro e w' ⟨rfl, hcb⟩))
      go_wp2_with fail
      go_round
      case rel => exact ⟨k + 1, _, by omega, by go_num, rfl, hst2, hcb.2.2.2.2⟩
      case measure => simp [intOf]; omega
    · have hkl : k = l.length := by omega
      rw [hkl, List.take_length] at ht
      have ht : Hid (t.data.toList = M.body (n' : Int) l) := ht
      clear hR
      go_wp2_with fail
      go_ret
      exact ⟨ret_str (by rw [← ht.out, M.array_toList]), bw⟩
end Go.Proofs.YtbfgniheagolgaaGreatDoor
