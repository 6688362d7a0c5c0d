/-
  What the program's Print and Cmp come to.
-/
import Derived.Test.YtdhondndidoniaaGreatDoorG34
import Derived.Test.YtdhondndidoniaaGreatDoorG35
import Derived.Deep.RegionHeld3
import Derived.Deep.DeepCutAuto
import Derived.IntWalk
namespace Go.Proofs.YtdhondndidoniaaGreatDoor
open Go.RowKit

/-- A call in the region that tells keeps what the others read. -/
theorem keeps {w w1 w2 : World} {nano : Int} (h : w1.cell? ⟨w.heap.size, 1, none⟩ = some (.int .i64 nano) ∧ Below w.heap.size w w1) (b : Below w1.heap.size w1 w2) : w2.cell? ⟨w.heap.size, 1, none⟩ = some (.int .i64 nano) ∧ Below w.heap.size w w2 :=
  ⟨(b.cell (World.block_lt_of_cell? _ _ h.1)).trans h.1, h.2.trans (b.mono h.2.size)⟩

set_option maxRecDepth 100000 in
set_option maxHeartbeats 3200000 in
theorem dPrint_any (sec nano : Int) (w : World) (hE : Env w) :
    Calls Tryz.prog 21 #[.agg #[.int .i64 sec, .int .i64 nano]] w fun e w' => e = .returned (.tuple #[.string ⟨(D.text sec nano).toArray⟩, .int .i64 (D.textE sec nano)]) ∧ Below w.heap.size w w' := by
  have hno : Hid (¬ (-62167219200 ≤ sec ∧ sec ≤ 253402300799 ∧ 0 ≤ nano ∧ nano ≤ 999999999) → (⟨#[]⟩ : ByteArray) = ⟨(D.text sec nano).toArray⟩ ∧ (110 : Int) = D.textE sec nano) :=
    Lib.hid (fun h => D.text_no (by rw [← Bool.not_eq_true, D.ok_iff]; exact h))
  have bA : Below w.heap.size w (w.alloc (.cells #[.int .i64 sec, .int .i64 nano] 53)) := (Below.refl _ _).alloc (Nat.le_refl _) _
  go_enter Tryz.func21, Tryz.ntmps21
  by_cases hs : -62167219200 ≤ sec ∧ sec ≤ 253402300799
  · by_cases hn : 0 ≤ nano ∧ nano ≤ 999999999
    · have hok := Lib.hid (D.ok_iff.2 ⟨hs.1, hs.2, hn.1, hn.2⟩)
      obtain ⟨t1, t2⟩ := hs
      obtain ⟨t3, t4⟩ := hn
      clear hno
      go_wp2_with fail
      (with_reducible refine (gWithin_yes _ _ _ _ t1 t2).mono ?_); rintro e w1 ⟨rfl, rfl⟩
      go_wp2_with fail
      (with_reducible refine (gWithin_yes _ _ _ _ t3 t4).mono ?_); rintro e w1 ⟨rfl, rfl⟩
      go_wp2_with fail
      obtain ⟨r, hr⟩ : ∃ r : Nat, (sec + 62167219200) % 86400 = (r : Int) := ⟨((sec + 62167219200) % 86400).toNat, by omega⟩
      have hrl : r < 86400 := by omega
      have hr2 : sec % 86400 = (r : Int) := by omega
      obtain ⟨day, hday⟩ : ∃ day, sec / 86400 = day := ⟨_, rfl⟩
      have hq : (sec - (r : Int)).tdiv 86400 = day := by
        rw [show sec - (r : Int) = 86400 * day by omega]
        exact Int.mul_tdiv_cancel_left _ (by omega)
      have d1 : -719528 ≤ day := by omega
      have d2 : day < 2932897 := by omega
      rw [hr, hq]
      obtain ⟨P1, h1⟩ : ∃ t : ByteArray, t.data.toList = D.ymd (D.yOf day).toNat (D.mOf day).toNat (D.dOf day).toNat := ⟨⟨_⟩, rfl⟩
      obtain ⟨P2, h2⟩ : ∃ t : ByteArray, t.data.toList = D.hms r := ⟨⟨_⟩, rfl⟩
      obtain ⟨P3, h3⟩ : ∃ t : ByteArray, t.data.toList = D.frac nano := ⟨⟨(D.frac nano).toArray⟩, rfl⟩
      have z1 : P1.size = 10 := by rw [← list_len, h1]; simp [D.ymd, D.dig_length]
      have z2 : P2.size = 8 := by rw [← list_len, h2]; simp [D.hms, D.dig_length]
      have z3 : P3.size ≤ 10 := by
        rw [← list_len, h3]
        unfold D.frac
        split
        · have := strip_size (D.dig 9 nano.toNat)
          rw [D.dig_length] at this
          simp; omega
        · simp
      have htx := D.text_yes hok.out (t := P1 ++ ⟨#[84]⟩ ++ P2 ++ P3 ++ ⟨#[90]⟩) (by
        simp only [cat_list, h1, h2, h3]
        unfold D.head
        rw [hday, hr2, Int.toNat_natCast]
        simp)
      have c1 := fun w hE => gDayText_any day P1 w hE d1 d2 h1
      have c2 := fun w hE => gSecondText_any r P2 w hE hrl h2
      have c3 := fun w hE => gFractionText_any nano P3 w hE t3 t4 h3
      have n1 : ¬ 9223372036854775807 < P1.size + 1 := by omega
      have n2 : ¬ 9223372036854775807 < P1.size + 1 + P2.size := by omega
      have n3 : ¬ 9223372036854775807 < P1.size + 1 + P2.size + P3.size := by omega
      have n4 : ¬ 9223372036854775807 < P1.size + 1 + P2.size + P3.size + 1 := by omega
      have hcell : (w.alloc (.cells #[.int .i64 sec, .int .i64 nano] 53)).cell? ⟨w.heap.size, 1, none⟩ = some (.int .i64 nano) := by
        unfold World.cell?; rw [heap_alloc_new]; rfl
      have hap : ∀ a b : ByteArray, (a ++ b).size = a.size + b.size := fun _ _ => ByteArray.size_append
      clear h1 h2 h3 z1 z2 z3 hok hr hq hr2 hday d1 d2 hrl t1 t2 t3 t4
      replace htx := Lib.hid htx
      have k1 := fun w1 (h : w1.cell? ⟨w.heap.size, 1, none⟩ = some (.int .i64 nano) ∧ Below w.heap.size w w1) => (c1 w1 (hE.on h.2)).mono fun e w' x => (⟨x.1, keeps h x.2⟩ : e = _ ∧ _)
      have k2 := fun w1 (h : w1.cell? ⟨w.heap.size, 1, none⟩ = some (.int .i64 nano) ∧ Below w.heap.size w w1) => (c2 w1 (hE.on h.2)).mono fun e w' x => (⟨x.1, keeps h x.2⟩ : e = _ ∧ _)
      have k3 := fun w1 (h : w1.cell? ⟨w.heap.size, 1, none⟩ = some (.int .i64 nano) ∧ Below w.heap.size w w1) => (c3 w1 (hE.on h.2)).mono fun e w' x => (⟨x.1, keeps h x.2⟩ : e = _ ∧ _)
      clear c1 c2 c3
      go_region_held3 (fun w' => w'.cell? ⟨w.heap.size, 1, none⟩ = some (.int .i64 nano) ∧ Below w.heap.size w w') (first | exact ⟨hcell, bA.drew⟩ | assumption)
        (first
          | (go_at_call 46; refine (k1 _ ?_).mono ?_; assumption; rintro e w' ⟨rfl, hcb⟩)
          | (go_at_call 47; refine (k2 _ ?_).mono ?_; assumption; rintro e w' ⟨rfl, hcb⟩)
          | (go_at_call 48; refine (k3 _ ?_).mono ?_; assumption; rintro e w' ⟨rfl, hcb⟩))
      go_wp2_with fail
      go_ret2
      exact ⟨ret_text htx.out.1 htx.out.2, hcb.2⟩
    · have hr := Lib.hid (hno.out (fun e => hn e.2.2))
      obtain ⟨t1, t2⟩ := hs
      go_wp2_with fail
      (with_reducible refine (gWithin_yes _ _ _ _ t1 t2).mono ?_); rintro e w1 ⟨rfl, rfl⟩
      go_wp2_with fail
      (with_reducible refine (gWithin_no _ _ _ _ (by omega)).mono ?_); rintro e w1 ⟨rfl, rfl⟩
      clear hn
      go_wp2
      go_ret2
      exact ⟨ret_text hr.out.1 hr.out.2, bA⟩
  · have hr := Lib.hid (hno.out (fun e => hs ⟨e.1, e.2.1⟩))
    go_wp2_with fail
    (with_reducible refine (gWithin_no _ _ _ _ (by omega)).mono ?_); rintro e w1 ⟨rfl, rfl⟩
    clear hs
    go_wp2
    go_ret2
    exact ⟨ret_text hr.out.1 hr.out.2, bA⟩

end Go.Proofs.YtdhondndidoniaaGreatDoor
