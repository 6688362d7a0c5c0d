/-
  What the document's own words of code points come to: contracts of in, Char.
-/
import Derived.Test.YtmfmgbjkbadndaaTexts
import Derived.Test.YtmfmgbjkbadndaaGlyph
namespace Go.Proofs.Ytmfmgbjkbadndaa
open Go.RowKit

namespace G
def any (c : Int) (L : List (Int × Int)) : Bool := L.any fun p => inR c p.1 p.2
theorem any_take (c : Int) (L : List (Int × Int)) (k : Nat) (h : k < L.length) : any c (L.take (k + 1)) = (any c (L.take k) || inR c L[k].1 L[k].2) := by
  unfold any
  rw [List.take_succ_eq_append_getElem h, List.any_append, List.any_cons, List.any_nil, Bool.or_false]
theorem any_at (c : Int) (L : List (Int × Int)) (k : Nat) (h : k < L.length) (hi : inR c L[k].1 L[k].2 = true) : any c L = true := by
  unfold any
  rw [List.any_eq_true]
  exact ⟨_, List.getElem_mem h, hi⟩
end G

/-- A ROW OF PAIRS OF NUMBERS LIES AT THE HEAD OF BLOCK b. -/
def PairsAt (b : Nat) (L : List (Int × Int)) (w : World) : Prop := ∀ j (h : j < L.length), w.cell? ⟨b, 2 * j, none⟩ = some (.int .i64 L[j].1) ∧ w.cell? ⟨b, 2 * j + 1, none⟩ = some (.int .i64 L[j].2)

set_option maxHeartbeats 800000 in
theorem refIn_any (c : Int) (L : List (Int × Int)) (b n cap : Nat) (w : World) (hL : PairsAt b L w) (hn : L.length ≤ 1000) (hln : 2 * L.length = n) :
    Calls Try.prog 71 #[.int .i64 c, .slice (some ⟨b, 0, none⟩) n cap] w fun e w' => e = .returned (.bool (G.any c L)) ∧ w = w' := by
  have hln := Lib.hid hln
  go_enter Try.func71, Try.ntmps71
  go_wp2_with fail
  go_loop [5] (fun i => ∃ k : Nat, 2 * k ≤ n ∧ i = .int .i64 ((2 * k : Nat) : Int) ∧ G.any c (L.take k) = false) (fun i => n - (intOf i).toNat)
  case atStart => exact ⟨0, Nat.zero_le _, rfl, rfl⟩
  case round =>
    obtain ⟨k, hk, rfl, hall⟩ := hrel
    by_cases hlt : k < L.length
    · obtain ⟨c0, c1⟩ := hL k hlt
      have hst := Lib.hid (G.any_take c L k hlt)
      have hat := Lib.hid (G.any_at c L k hlt)
      have hk2 : 2 * k + 1 < n := by rw [← hln.out]; omega
      generalize L[k].1 = x at c0 hst hat
      generalize L[k].2 = y at c1 hst hat
      have hall := Lib.hid hall
      by_cases hx : x ≤ c
      · by_cases hy : c ≤ y
        · have hr := Lib.hid (hat.out (by simp [G.inR, hx, hy]))
          go_wp2
          go_ret
          exact ⟨ret_bool hr.out.symm, rfl⟩
        · have hr := Lib.hid (show G.any c (L.take (k + 1)) = false by rw [hst.out, hall.out]; simp [G.inR, hx, hy])
          go_wp2
          go_round
          case rel => exact ⟨k + 1, by omega, by go_num, hr.out⟩
          case measure => simp [intOf]; omega
      · have hr := Lib.hid (show G.any c (L.take (k + 1)) = false by rw [hst.out, hall.out]; simp [G.inR, hx])
        go_wp2
        go_round
        case rel => exact ⟨k + 1, by omega, by go_num, hr.out⟩
        case measure => simp [intOf]; omega
    · have hk2 : 2 * k = n := by rw [← hln.out]; rw [← hln.out] at hk; omega
      have hfull : L.take k = L := List.take_of_length_le (by omega)
      have hr := Lib.hid (show G.any c L = false by rw [← hfull]; exact hall)
      clear hfull
      go_wp2
      go_ret
      exact ⟨ret_bool hr.out.symm, rfl⟩

/-- the cells of pairs. -/
def cellsOf (L : List (Int × Int)) : List Value := L.flatMap fun p => [.int .i64 p.1, .int .i64 p.2]
theorem cellsOf_at (L : List (Int × Int)) : ∀ (j : Nat) (h : j < L.length), (cellsOf L)[2 * j]? = some (.int .i64 L[j].1) ∧ (cellsOf L)[2 * j + 1]? = some (.int .i64 L[j].2) := by
  induction L with
  | nil => intro j h; simp at h
  | cons p L ih =>
    intro j h
    have e : cellsOf (p :: L) = .int .i64 p.1 :: .int .i64 p.2 :: cellsOf L := rfl
    cases j with
    | zero => rw [e]; exact ⟨rfl, rfl⟩
    | succ j =>
      have := ih j (by simpa using h)
      rw [e, show 2 * (j + 1) = 2 * j + 1 + 1 by omega]
      simpa using this

theorem pairsAt_cells {b : Nat} {L : List (Int × Int)} {w : World} {T : TypeId} {fr : Nat × Nat} (h : w.heap[b]? = some (.cells (cellsOf L).toArray T fr)) : PairsAt b L w := by
  intro j hj
  have := cellsOf_at L j hj
  simp only [World.cell?, h]
  simpa using this

set_option maxRecDepth 100000 in
set_option maxHeartbeats 1600000 in
theorem refChar_any (c : Int) (w : World) :
    Calls Try.prog 48 #[.int .i64 c] w fun e w' => e = .returned (.bool (G.char c)) ∧ Below w.heap.size w w' := by
  have hm : G.char c = G.any c [(9, 10), (13, 13), (32, 55295), (57344, 65533), (65536, 1114111)] := by simp [G.any, G.char, Bool.or_assoc]
  rw [hm]
  clear hm
  go_enter Try.func48, Try.ntmps48
  go_wp2_with fail
  (with_reducible refine (refIn_any c [(9, 10), (13, 13), (32, 55295), (57344, 65533), (65536, 1114111)] w.heap.size 10 _ _ ?_ (by decide) rfl).mono ?_)
  · exact pairsAt_cells (heap_alloc_new w _)
  rintro e w1 ⟨rfl, rfl⟩
  go_wp2
  go_ret
  exact ⟨rfl, (Below.refl _ _).alloc (Nat.le_refl _) _⟩

end Go.Proofs.Ytmfmgbjkbadndaa
