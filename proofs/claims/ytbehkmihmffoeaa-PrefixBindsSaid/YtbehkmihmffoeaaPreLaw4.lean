/-
  The statements' walks: PrefixSmall.
-/
import Derived.Test.YtbehkmihmffoeaaPreLaw3
import Derived.Deep.AppendLies
namespace Go.Proofs.Ytbehkmihmffoeaa
open Go.RowKit

theorem undrawn {w w' : World} {r : Option Nat} (h : w.drew.grownBy w' r) : w.grownBy w' r := by cases h; constructor <;> assumption

def nms : List ByteArray := [⟨#[120, 109, 108, 110, 115]⟩, ⟨#[120, 109, 108, 110, 115, 58, 112]⟩, ⟨#[120, 109, 108, 110, 115, 58, 113]⟩, ⟨#[97]⟩, ⟨#[112, 58, 97]⟩, ⟨#[113, 58, 97]⟩, ⟨#[120, 109, 108, 58, 98]⟩, ⟨#[120, 109, 108, 110, 115, 58, 120, 109, 108]⟩, ⟨#[114, 58, 97]⟩, ⟨#[112]⟩, ⟨#[97, 58, 98, 58, 99]⟩]
def sps : List ByteArray := [⟨#[117]⟩, ⟨#[118]⟩, ⟨#[]⟩, ⟨#[104, 116, 116, 112, 58, 47, 47, 119, 119, 119, 46, 119, 51, 46, 111, 114, 103, 47, 88, 77, 76, 47, 49, 57, 57, 56, 47, 110, 97, 109, 101, 115, 112, 97, 99, 101]⟩, ⟨#[104, 116, 116, 112, 58, 47, 47, 119, 119, 119, 46, 119, 51, 46, 111, 114, 103, 47, 50, 48, 48, 48, 47, 120, 109, 108, 110, 115, 47]⟩]

set_option maxRecDepth 100000 in
set_option maxHeartbeats 12800000 in
theorem psmall_any {ao : Option Addr} {cap n : Nat} (L : List UInt8) (at' : Nat) (attr : Bool) (w : World) (hL : BytesAt ao L w) (hn : L.length = n) (hl : n ≤ maxLen) (hat : at' < 256) (hE : Env w) : Calls Try.prog 7 #[.slice ao n cap, .int .u8 (at' : Int), .bool attr] w fun e w' => e = .returned (.bool true) ∧ Below w.heap.size w w' := by
  have hl2 : n ≤ 9223372036854775807 := hl
  replace hn := Lib.hid hn
  obtain ⟨i0, hi, hz0, hz1, hz2⟩ := info_parts infoPair
  go_enter Try.func7, Try.ntmps7
  go_wp2_with fail
  obtain ⟨W, hW⟩ : ∃ W, W = (w.alloc (.cells #[.string ⟨#[120, 109, 108, 110, 115]⟩, .string ⟨#[120, 109, 108, 110, 115, 58, 112]⟩, .string ⟨#[120, 109, 108, 110, 115, 58, 113]⟩, .string ⟨#[97]⟩, .string ⟨#[112, 58, 97]⟩, .string ⟨#[113, 58, 97]⟩, .string ⟨#[120, 109, 108, 58, 98]⟩, .string ⟨#[120, 109, 108, 110, 115, 58, 120, 109, 108]⟩, .string ⟨#[114, 58, 97]⟩, .string ⟨#[112]⟩, .string ⟨#[97, 58, 98, 58, 99]⟩] 9)).alloc (.cells #[.string ⟨#[117]⟩, .string ⟨#[118]⟩, .string ⟨#[]⟩, .string ⟨#[104, 116, 116, 112, 58, 47, 47, 119, 119, 119, 46, 119, 51, 46, 111, 114, 103, 47, 88, 77, 76, 47, 49, 57, 57, 56, 47, 110, 97, 109, 101, 115, 112, 97, 99, 101]⟩, .string ⟨#[104, 116, 116, 112, 58, 47, 47, 119, 119, 119, 46, 119, 51, 46, 111, 114, 103, 47, 50, 48, 48, 48, 47, 120, 109, 108, 110, 115, 47]⟩] 9) := ⟨_, rfl⟩
  have bW : Below w.heap.size w W := by rw [hW]; exact ((Below.refl _ _).alloc (Nat.le_refl _) _).alloc (by simp) _
  have hN : StrsAt w.heap.size nms W := strsAt_cells (by rw [hW, Below.heap_alloc _ _ _ (by simp)]; exact heap_alloc_new w _)
  have hS : StrsAt (w.heap.size + 1) sps W := strsAt_cells (by
    rw [hW]
    have := heap_alloc_new (w.alloc (.cells #[.string ⟨#[120, 109, 108, 110, 115]⟩, .string ⟨#[120, 109, 108, 110, 115, 58, 112]⟩, .string ⟨#[120, 109, 108, 110, 115, 58, 113]⟩, .string ⟨#[97]⟩, .string ⟨#[112, 58, 97]⟩, .string ⟨#[113, 58, 97]⟩, .string ⟨#[120, 109, 108, 58, 98]⟩, .string ⟨#[120, 109, 108, 110, 115, 58, 120, 109, 108]⟩, .string ⟨#[114, 58, 97]⟩, .string ⟨#[112]⟩, .string ⟨#[97, 58, 98, 58, 99]⟩] 9)) (.cells #[.string ⟨#[117]⟩, .string ⟨#[118]⟩, .string ⟨#[]⟩, .string ⟨#[104, 116, 116, 112, 58, 47, 47, 119, 119, 119, 46, 119, 51, 46, 111, 114, 103, 47, 88, 77, 76, 47, 49, 57, 57, 56, 47, 110, 97, 109, 101, 115, 112, 97, 99, 101]⟩, .string ⟨#[104, 116, 116, 112, 58, 47, 47, 119, 119, 119, 46, 119, 51, 46, 111, 114, 103, 47, 50, 48, 48, 48, 47, 120, 109, 108, 110, 115, 47]⟩] 9)
    rw [World.size_alloc] at this
    exact this)
  have hWs : w.heap.size + 2 ≤ W.heap.size := by rw [hW]; simp
  have hLW := hL.below bW
  rw [← hW]
  clear hW hL
  go_loopw [9, 10] (fun v i wr => ∃ (k : Nat) (P' : List Pair), k ≤ n ∧ k ≤ 12 ∧ i = .int .i64 (k : Int) ∧ OwnsPairs W.heap.size v P' wr ∧ P'.length ≤ k ∧ Hid (∀ a ∈ P', a.name.size ≤ 300) ∧ Below W.heap.size W wr) (fun _ i _ => 12 - (intOf i).toNat)
  case atStart => exact ⟨0, [], Nat.zero_le _, by omega, rfl, pairs_nil _ _, by simp, Lib.hid (by simp), Below.refl _ _⟩
  case round =>
    obtain ⟨k, P', hk, hk2, rfl, ho, hP, hPz, bw⟩ := hrel
    by_cases hlt : k < n ∧ k < 12
    · obtain ⟨hk3, hk4⟩ := hlt
      obtain ⟨b, off, rfl, c0⟩ := hLW k (by rw [hn.out]; exact hk3)
      generalize L[k]'(by rw [hn.out]; exact hk3) = x at c0
      have hx := x.toNat_lt
      generalize x.toNat = xn at *
      obtain ⟨j1, hj1, hje1⟩ : ∃ j : Nat, j < 11 ∧ ((xn : Int)) % 11 = (j : Int) := ⟨xn % 11, Nat.mod_lt _ (by decide), by omega⟩
      obtain ⟨j2, hj2, hje2⟩ : ∃ j : Nat, j < 5 ∧ ((xn : Int)) / 16 % 5 = (j : Int) := ⟨xn / 16 % 5, Nat.mod_lt _ (by decide), by omega⟩
      have c1 := hN j1 hj1
      have c2 := hS j2 hj2
      have hnz : (nms[j1]'hj1).size ≤ 300 := by
        have : ∀ a ∈ nms, a.size ≤ 300 := by decide
        exact this _ (List.getElem_mem _)
      generalize nms[j1]'hj1 = nm at *
      generalize sps[j2]'hj2 = sp at *
      have lb0 := World.block_lt_of_cell? W _ c0
      have lb1 := World.block_lt_of_cell? W _ c1
      have lb2 := World.block_lt_of_cell? W _ c2
      have d0 := (bw.cell lb0).trans c0
      have d1 := (bw.cell lb1).trans c1
      have d2 := (bw.cell lb2).trans c2
      have hge := fun g e => (World.ownsRow.lt ho g e).1
      have far0 : some b ≠ u9.ownBlock := fun e => absurd (hge b e.symm) (Nat.not_le.2 lb0)
      have far1 : some w.heap.size ≠ u9.ownBlock := fun e => absurd (hge _ e.symm) (Nat.not_le.2 lb1)
      have far2 : some (w.heap.size + 1) ≠ u9.ownBlock := fun e => absurd (hge _ e.symm) (Nat.not_le.2 lb2)
      have hP2 : Hid (∀ a ∈ P' ++ [⟨nm, sp⟩], a.name.size ≤ 300) := Lib.hid (fun a ha => by
        rcases List.mem_append.1 ha with ha | ha
        · exact hPz.out a ha
        · obtain rfl : a = _ := List.mem_singleton.1 ha
          exact hnz)
      obtain ⟨q, hq⟩ : ∃ q : Nat, q = xn / 16 := ⟨_, rfl⟩
      have hq1 : (xn : Int) / 16 = (q : Int) := by omega
      have hq2 : (xn : Int).tdiv 16 = (q : Int) := by rw [Int.tdiv_eq_ediv_of_nonneg (by omega)]; exact hq1
      have hm1 : (xn : Int).tmod 11 = (j1 : Int) := by rw [Int.tmod_eq_emod_of_nonneg (by omega)]; exact hje1
      rw [hq1] at hje2
      have hm2 : (q : Int).tmod 5 = (j2 : Int) := by rw [Int.tmod_eq_emod_of_nonneg (by omega)]; exact hje2
      have hv1 : IntKind.i64.wrap (xn : Int) = (xn : Int) := IntWalk.i64_in _ (by omega)
      have hv2 : IntKind.i64.wrap (q : Int) = (q : Int) := IntWalk.i64_in _ (by omega)
      have hv3 : IntKind.u8.wrap (q : Int) = (q : Int) := by simp [IntKind.wrap, IntKind.signed, IntKind.bits]; omega
      clear hq
      have g1 : (k : Int) < (n : Int) := by omega
      have g2 : (j1 : Int) < 11 := by omega
      have g3 : (j2 : Int) < 5 := by omega
      have hx2 : (xn : Int) < 256 := by omega
      have hb1 : P'.length + 1 ≤ maxLen := by unfold maxLen; omega
      have hb2 : (P'.length + 1) * 32 ≤ 140737488355328 := by omega
      have hb3 : W.heap.size ≤ wr.heap.size := bw.size
      have hoA := World.ownsRow.alloc (World.ownsRow.drew ho) (.cells #[.string nm, .string sp] 30)
      have hone : ∀ u ∈ [Value.string nm, Value.string sp], u.oneCell' = true := fun u hu => by simp at hu; rcases hu with rfl | rfl <;> rfl
      have hb5 : (wr.drew.alloc (.cells #[.string nm, .string sp] 30)).heap.size = wr.heap.size + 1 := World.size_alloc _ _
      have hb4 : W.heap.size ≤ (wr.drew.alloc (.cells #[.string nm, .string sp] 30)).heap.size := by rw [World.size_alloc]; exact Nat.le_succ_of_le hb3
      clear hN hS hLW c0 c1 c2 hge hPz hnz
      go_wp2_with fail
      go_region_held3 (fun w' => w'.cell? ⟨b, off + k, none⟩ = some (.int .u8 (xn : Int)) ∧ w'.cell? ⟨w.heap.size, j1, none⟩ = some (.string nm) ∧ w'.cell? ⟨w.heap.size + 1, j2, none⟩ = some (.string sp))
        (first
          | go_keep
          | (go_split_ands
             refine ⟨?_, ?_, ?_⟩
             · (rw [hgrow.cell_far _ (by simp; omega) far0]; assumption)
             · (rw [hgrow.cell_far _ (by simp; omega) far1]; assumption)
             · (rw [hgrow.cell_far _ (by simp; omega) far2]; assumption)))
        (first
          | (refine step_append_lies _ (by rfl) _ _ _ (by rfl) W.heap.size 30 i0 _ 2 32 Try.underlying22 hi hz0 hz1 hz2 rfl (by decide) u9 P'.length (P'.flatMap pairCells) (by rfl) hoA
              ⟨wr.heap.size, 0, none⟩ 1 1 [.string nm, .string sp] (by rfl) (by rfl) (cells_two _ _ _ _) hone
              Nat.one_pos hb1 hb2 hb4 (wr.heap.size + 1) hb5 ?_; intro gg cap5 w5 hown5 hgrow hat5 hlt5))
      have hga : wr.grownBy w5 u9.ownBlock := (World.grownBy_alloc wr _ _).trans (undrawn hgrow)
      have b5 : Below W.heap.size wr w5 := (Below.refl _ _).grown hga hb3 (fun j e => (World.ownsRow.lt ho j e).1)
      have q5 : OwnsPairs W.heap.size (.slice (some ⟨gg, 0, none⟩) (P'.length + 1) cap5) (P' ++ [⟨nm, sp⟩]) w5 := by unfold OwnsPairs; simpa [pairCells] using hown5
      clear hown5 hgrow hat5 hlt5 hga hoA ho far0 far1 far2 d0 d1 d2 hm1 hm2 hq1 hq2 hv1 hv2 hv3 hje1 hje2 hb4 hb5 hone
      go_wp2_with fail
      go_roundw
      case rel => exact ⟨k + 1, P' ++ [⟨nm, sp⟩], by omega, by omega, by go_num, by simpa using q5, by simp; omega, hP2, bw.trans b5⟩
      case measure => simp [intOf] <;> omega
    · obtain ⟨j3, hj3, hje3⟩ : ∃ j : Nat, j < 11 ∧ ((at' : Int)) % 11 = (j : Int) := ⟨at' % 11, Nat.mod_lt _ (by decide), by omega⟩
      have c3 := hN j3 hj3
      have hsz : (nms[j3]'hj3).size ≤ 300 := by
        have : ∀ a ∈ nms, a.size ≤ 300 := by decide
        exact this _ (List.getElem_mem _)
      generalize nms[j3]'hj3 = s at *
      have hexit : (k = n) ∨ (k < n ∧ k = 12) := by omega
      clear hS hLW hN
      obtain ⟨a1, c1, rfl, p0⟩ := pairs_of_owns ho
      have t1 := bW.trans (bw.mono bW.size)
      have hsm : ∀ a ∈ P', a.name.size ≤ 1000 := fun a ha => Nat.le_trans (hPz.out a ha) (by decide)
      have hsm2 : ∀ a ∈ P', a.name.size ≤ maxLen := fun a ha => Nat.le_trans (hPz.out a ha) (by decide)
      clear ho hPz hlt
      generalize hpn : P'.length = pn at *
      rcases hexit with rfl | ⟨h1, rfl⟩
      · go_wp2_with fail
        (with_reducible refine (pDeclare_any P' _ p0 hpn (by omega) hsm (hE.on t1)).mono ?_); rintro e w2 ⟨a2, c2, a4, c4, rfl, p1, p2, b2⟩
        have t2 := t1.trans (b2.mono t1.size)
        go_wp2_with fail
        (with_reducible refine (refDeclare_any P' _ (p0.below b2) hpn (by omega) hsm2).mono ?_); rintro e w3 ⟨v1, v2, rfl, o1, o2, b3⟩
        have t3 := t2.trans (b3.mono t2.size)
        obtain ⟨a5, c5, rfl, p3⟩ := pairs_of_owns o1
        obtain ⟨a6, c6, rfl, p4⟩ := pairs_of_owns o2
        have d3 := ((((bw.cell (World.block_lt_of_cell? W _ c3)).trans c3)))
        have e3 := (b2.cell (World.block_lt_of_cell? wr _ d3)).trans d3
        have f3 := (b3.cell (World.block_lt_of_cell? w2 _ e3)).trans e3
        have hbA : (P.deA P').length ≤ 1000 ∧ (P.deB P').length ≤ 1000 := by
          unfold P.deA P.deB
          cases hd : P.declare P' with
          | none => exact ⟨by simp, by simp⟩
          | some x =>
            have := (P.declGo_inv P' [] [] x.1 x.2 hd (by simp)).2.1
            simp only [List.length_nil] at this
            exact ⟨by dsimp only; omega, by dsimp only; omega⟩
        have p1 := p1.below b3
        have p2 := p2.below b3
        clear o1 o2 hsm hsm2 p0 d3 e3 c3
        generalize P.deA P' = A at *
        generalize P.deB P' = B at *
        generalize P.deE P' = E at *
        have hbA1 := hbA.1
        have hbA2 := hbA.2
        go_wp2_with fail
        (with_reducible refine (pResolve_any A s attr _ p3 rfl hbA1 (by omega) (hE.on t3)).mono ?_); rintro e w4 ⟨rfl, b4⟩
        have t4 := t3.trans (b4.mono t3.size)
        go_wp2_with fail
        (with_reducible refine (refResolve_any A s attr _ (p3.below b4) rfl (by omega) (by unfold maxLen; omega)).mono ?_); rintro e w5 ⟨rfl, b5⟩
        have t5 := t4.trans (b5.mono t4.size)
        generalize P.reA A s attr = y1
        generalize P.reB A s attr = y2
        generalize P.reE A s attr = y3
        go_wp2_with fail
        (with_reducible refine (awake_any _ (hE.on t5)).mono ?_); rintro e w6 ⟨rfl, b6⟩
        have t6 := t5.trans (b6.mono t5.size)
        have q1 := ((p1.below b4).below b5).below b6
        have q2 := ((p2.below b4).below b5).below b6
        have q3 := ((p3.below b4).below b5).below b6
        have q4 := ((p4.below b4).below b5).below b6
        clear p1 p2 p3 p4 f3
        go_wp2_with fail
        (with_reducible refine (samePairs_any A A _ q1 q3 (by omega) rfl rfl).mono ?_); rintro e w7 ⟨rfl, b7⟩
        have t7 := t6.trans (b7.mono t6.size)
        rw [decide_eq_true (rfl : A = A)]
        go_wp2_with fail
        (with_reducible refine (samePairs_any B B _ (q2.below b7) (q4.below b7) (by omega) rfl rfl).mono ?_); rintro e w8 ⟨rfl, b8⟩
        have t8 := t7.trans (b8.mono t7.size)
        rw [decide_eq_true (rfl : B = B)]
        clear q1 q2 q3 q4 hbA
        go_wp2
        go_ret
        exact ⟨rfl, t8⟩
      · go_wp2_with fail
        (with_reducible refine (pDeclare_any P' _ p0 hpn (by omega) hsm (hE.on t1)).mono ?_); rintro e w2 ⟨a2, c2, a4, c4, rfl, p1, p2, b2⟩
        have t2 := t1.trans (b2.mono t1.size)
        go_wp2_with fail
        (with_reducible refine (refDeclare_any P' _ (p0.below b2) hpn (by omega) hsm2).mono ?_); rintro e w3 ⟨v1, v2, rfl, o1, o2, b3⟩
        have t3 := t2.trans (b3.mono t2.size)
        obtain ⟨a5, c5, rfl, p3⟩ := pairs_of_owns o1
        obtain ⟨a6, c6, rfl, p4⟩ := pairs_of_owns o2
        have d3 := ((((bw.cell (World.block_lt_of_cell? W _ c3)).trans c3)))
        have e3 := (b2.cell (World.block_lt_of_cell? wr _ d3)).trans d3
        have f3 := (b3.cell (World.block_lt_of_cell? w2 _ e3)).trans e3
        have hbA : (P.deA P').length ≤ 1000 ∧ (P.deB P').length ≤ 1000 := by
          unfold P.deA P.deB
          cases hd : P.declare P' with
          | none => exact ⟨by simp, by simp⟩
          | some x =>
            have := (P.declGo_inv P' [] [] x.1 x.2 hd (by simp)).2.1
            simp only [List.length_nil] at this
            exact ⟨by dsimp only; omega, by dsimp only; omega⟩
        have p1 := p1.below b3
        have p2 := p2.below b3
        clear o1 o2 hsm hsm2 p0 d3 e3 c3
        generalize P.deA P' = A at *
        generalize P.deB P' = B at *
        generalize P.deE P' = E at *
        have hbA1 := hbA.1
        have hbA2 := hbA.2
        go_wp2_with fail
        (with_reducible refine (pResolve_any A s attr _ p3 rfl hbA1 (by omega) (hE.on t3)).mono ?_); rintro e w4 ⟨rfl, b4⟩
        have t4 := t3.trans (b4.mono t3.size)
        go_wp2_with fail
        (with_reducible refine (refResolve_any A s attr _ (p3.below b4) rfl (by omega) (by unfold maxLen; omega)).mono ?_); rintro e w5 ⟨rfl, b5⟩
        have t5 := t4.trans (b5.mono t4.size)
        generalize P.reA A s attr = y1
        generalize P.reB A s attr = y2
        generalize P.reE A s attr = y3
        go_wp2_with fail
        (with_reducible refine (awake_any _ (hE.on t5)).mono ?_); rintro e w6 ⟨rfl, b6⟩
        have t6 := t5.trans (b6.mono t5.size)
        have q1 := ((p1.below b4).below b5).below b6
        have q2 := ((p2.below b4).below b5).below b6
        have q3 := ((p3.below b4).below b5).below b6
        have q4 := ((p4.below b4).below b5).below b6
        clear p1 p2 p3 p4 f3
        go_wp2_with fail
        (with_reducible refine (samePairs_any A A _ q1 q3 (by omega) rfl rfl).mono ?_); rintro e w7 ⟨rfl, b7⟩
        have t7 := t6.trans (b7.mono t6.size)
        rw [decide_eq_true (rfl : A = A)]
        go_wp2_with fail
        (with_reducible refine (samePairs_any B B _ (q2.below b7) (q4.below b7) (by omega) rfl rfl).mono ?_); rintro e w8 ⟨rfl, b8⟩
        have t8 := t7.trans (b8.mono t7.size)
        rw [decide_eq_true (rfl : B = B)]
        clear q1 q2 q3 q4 hbA
        go_wp2
        go_ret
        exact ⟨rfl, t8⟩
end Go.Proofs.Ytbehkmihmffoeaa
