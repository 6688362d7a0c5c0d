/-
  What a text of pieces comes to: contract of Pieces.
-/
import Derived.Test.YtojbhokneemeaaaDoorTexts
namespace Go.Proofs.YtojbhokneemeaaaDoor
open Go.RowKit

set_option maxRecDepth 100000 in
set_option maxHeartbeats 1600000 in
theorem pieces_any {ao : Option Addr} {cap b cap' n m : Nat} (L : List UInt8) (P : List ByteArray) (w : World) (hL : BytesAt ao L w) (hn : L.length = n) (hP : StrsAt b P w) (hm : P.length = m) (h0 : 0 < m) (h1 : m ≤ 256) (_hl : n ≤ maxLen) (hs : ∀ p ∈ P, p.size ≤ 10) :
    Calls Tryd.prog 18 #[.slice ao n cap, .slice (some ⟨b, 0, none⟩) m cap'] w fun e w' => (∃ t : ByteArray, e = .returned (.string t) ∧ t.size ≤ 120) ∧ Below w.heap.size w w' := by
  unfold maxLen at _hl
  have hn := Lib.hid hn
  have hm := Lib.hid hm
  go_enter Tryd.func18, Tryd.ntmps18
  go_wp2_with fail
  go_loopw [5, 6] (fun v i wr => ∃ (k : Nat) (t : ByteArray), k ≤ n ∧ k ≤ 12 ∧ i = .int .i64 k ∧ v = .string t ∧ t.size ≤ 10 * k ∧ Below w.heap.size w wr) (fun _ i _ => 12 - (intOf i).toNat)
  case atStart => exact ⟨0, ⟨#[]⟩, Nat.zero_le _, by omega, rfl, rfl, by decide, Below.refl _ _⟩
  case round =>
    obtain ⟨k, t, hk, hk2, rfl, rfl, ht, bw⟩ := hrel
    by_cases hlt : k < n
    · by_cases h12 : k < 12
      · obtain ⟨b', off, rfl, c0⟩ := (hL.below bw) k (by rw [hn.out]; exact hlt)
        generalize L[k]'(by rw [hn.out]; exact hlt) = x at c0
        have hx := x.toNat_lt
        obtain ⟨j, hj, hje⟩ : ∃ j : Nat, j < m ∧ ((x.toNat : Int)).tmod (m : Int) = (j : Int) := ⟨x.toNat % m, Nat.mod_lt _ h0, by rw [Int.ofNat_tmod]⟩
        have c1 := (bw.cell (World.block_lt_of_cell? w _ (hP j (by rw [hm.out]; exact hj)))).trans (hP j (by rw [hm.out]; exact hj))
        have hz := hs (P[j]'(by rw [hm.out]; exact hj)) (List.getElem_mem _)
        generalize P[j]'(by rw [hm.out]; exact hj) = p at c1 hz
        clear hL hP hs
        go_wp2_with fail
        go_round
        case rel => exact ⟨k + 1, _, by omega, by omega, by go_num, rfl, by simp; omega, bw⟩
        case measure => simp [intOf]; omega
      · clear hL hP hs
        go_wp2
        go_ret
        exact ⟨⟨_, rfl, by omega⟩, bw⟩
    · clear hL hP hs
      go_wp2
      go_ret
      exact ⟨⟨_, rfl, by omega⟩, bw⟩

end Go.Proofs.YtojbhokneemeaaaDoor
