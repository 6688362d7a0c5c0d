/-
  The program's own small letters: bytes of a text, changed where they lie.
-/
import Derived.Test.YtpgdmoaegnehbaaGreatDoorProgTake
import Derived.Laws.IdiomStrings
namespace Go.Proofs.YtpgdmoaegnehbaaGreatDoor
open Go.RowKit

/-- The bytes of s at block g, the first k of them made small. -/
def LowAt (w : World) (g : Nat) (s : ByteArray) (k : Nat) : Prop := ∀ j (h : j < s.size), w.cell? ⟨g, j, none⟩ = some (.int .u8 ((if j < k then Md.lowB s[j] else s[j]).toNat : Int)) ∧ w.frozen? ⟨g, j, none⟩ = false
theorem LowAt.here {w : World} {g : Nat} {s : ByteArray} {k : Nat} (h : LowAt w g s k) (hk : k < s.size) : w.cell? ⟨g, k, none⟩ = some (.int .u8 (s[k].toNat : Int)) ∧ w.frozen? ⟨g, k, none⟩ = false := by
  have := h k hk
  rwa [if_neg (Nat.lt_irrefl k)] at this
theorem LowAt.same {w : World} {g : Nat} {s : ByteArray} {k : Nat} (h : LowAt w g s k) (hk : k < s.size) (hl : Md.lowB s[k] = s[k]) : LowAt w g s (k + 1) := by
  intro j hj
  have := h j hj
  by_cases e : j = k
  · subst e
    rw [if_neg (Nat.lt_irrefl j)] at this
    rw [if_pos (Nat.lt_succ_self j), hl]
    exact this
  · by_cases hlt : j < k
    · rw [if_pos hlt] at this; rw [if_pos (by omega)]; exact this
    · rw [if_neg hlt] at this; rw [if_neg (by omega)]; exact this
theorem LowAt.put {w : World} {g : Nat} {s : ByteArray} {k : Nat} (h : LowAt w g s k) (hk : k < s.size) {d : UInt8} (hl : Md.lowB s[k] = d) : LowAt (w.setCell ⟨g, k, none⟩ (.int .u8 (d.toNat : Int))) g s (k + 1) := by
  intro j hj
  have hh := h j hj
  refine ⟨?_, by rw [World.frozen?_setCell]; exact hh.2⟩
  by_cases e : j = k
  · subst e
    rw [if_pos (Nat.lt_succ_self j), hl]
    exact World.cell?_setCell_same _ _ _ hh.1
  · rw [World.cell?_setCell_other _ _ _ _ (by simp)]
    by_cases hlt : j < k
    · rw [if_pos (by omega)]; rw [if_pos hlt] at hh; exact hh.1
    · rw [if_neg (by omega)]; rw [if_neg hlt] at hh; exact hh.1
theorem bytes_laid (s : ByteArray) (w : World) : ∃ cap W, (convert 9 31 (.string s)).run Tryz.prog w = .ok (.slice (some ⟨w.heap.size, 0, none⟩) s.size cap) W ∧ Below w.heap.size w W ∧ LowAt W w.heap.size s 0 ∧ w.heap.size < W.heap.size := by
  refine ⟨_, _, run_bytes_of_string w 9 31 5 s Tryz.underlying9 Tryz.underlying31 Tryz.underlying5, ?_, fun j hj => ?_, ?_⟩
  · exact ((Below.refl _ _).drew).alloc (Nat.le_refl _) _
  · generalize hC : bytesRow s _ = C
    have h1 : C[j]? = some (.int .u8 (s[j].toNat : Int)) := by rw [← hC]; exact bytesRow_at s _ j hj
    have hl : j < C.size := (Array.getElem?_eq_some_iff.1 h1).1
    have hb : (w.drew.alloc (.cells C 5 (C.size, C.size + 1))).heap[w.heap.size]? = some (.cells C 5 (C.size, C.size + 1)) := heap_alloc_new w.drew _
    refine ⟨?_, ?_⟩
    · rw [if_neg (Nat.not_lt_zero j)]
      simp only [World.cell?, hb]
      exact h1
    · simp only [World.frozen?, hb]
      simp; omega
  · simp
theorem low_text {w : World} {s : ByteArray} {g cap : Nat} (h : LowAt w g s s.size) : (convert 31 9 (.slice (some ⟨g, 0, none⟩) s.size cap)).run Tryz.prog w = .ok (.string (loA s)) w := by
  have hl : (Md.lower s.data.toList).length = s.size := by unfold Md.lower; rw [List.length_map, list_len]
  have := run_convert_bytes_back (l := Md.lower s.data.toList) w 31 9 5 ⟨g, 0, none⟩ cap Tryz.underlying31 Tryz.underlying5 Tryz.underlying9 (fun j hj => by
    have hj' : j < s.size := by rw [← hl]; exact hj
    have hh := (h j hj').1
    rw [if_pos hj'] at hh
    rw [add_at, Nat.zero_add, hh]
    simp only [Md.lower, List.getElem_map]
    rfl)
  rw [hl] at this
  exact this

set_option maxRecDepth 100000 in
set_option maxHeartbeats 3200000 in
theorem mSmall_any (s : ByteArray) (w : World) (hs : s.size ≤ 70368744177664) :
    Calls Tryz.prog 68 #[.string s] w fun e w' => e = .returned (.string (loA s)) ∧ Below w.heap.size w w' := by
  obtain ⟨cap, W, hcv, bW, hL, hlt0⟩ := bytes_laid s w
  go_enter Tryz.func68, Tryz.ntmps68
  replace bW := Lib.hid bW
  replace hL := Lib.hid hL
  go_wp2_with fail
  clear hcv
  obtain ⟨g, hg⟩ : ∃ g, g = w.heap.size := ⟨_, rfl⟩
  rw [← hg] at hL hlt0 bW ⊢
  replace hg := Lib.hid hg
  go_loopw [4, 5, 10] (fun _ _ i wr => ∃ k : Nat, k ≤ s.size ∧ i = .int .i64 (k : Int) ∧ Hid (LowAt wr g s k) ∧ Hid (Below g w wr)) (fun _ _ i _ => s.size - (intOf i).toNat)
  case atStart => exact ⟨0, Nat.zero_le _, rfl, hL, bW⟩
  case round =>
    obtain ⟨k, hk, rfl, hA, bw⟩ := hrel
    by_cases hlt : k < s.size
    · obtain ⟨c0, f0⟩ := hA.out.here hlt
      have hb := (s[k]).toNat_lt
      obtain ⟨d, hd⟩ : ∃ d, Md.lowB s[k] = d := ⟨_, rfl⟩
      by_cases hq : 65 ≤ (s[k]).toNat ∧ (s[k]).toNat ≤ 90
      · have hn : ((s[k]).toNat : Int) - 65 + 97 = (d.toNat : Int) := by rw [← hd, Md.low_small hq]; omega
        obtain ⟨q1, q2⟩ := hq
        have hdl := d.toNat_lt
        have hP := Lib.hid (hA.out.put hlt hd)
        have bP := Lib.hid (bw.out.setCell (p := ⟨g, k, none⟩) (Nat.le_refl g) (.int .u8 (d.toNat : Int)))
        clear hd hA bw
        go_wp2_with fail
        go_roundw
        case rel => exact ⟨k + 1, by omega, by go_num, hP, bP⟩
        case measure => simp [intOf]; omega
      · have hP := Lib.hid (hA.out.same hlt (Md.low_same hq))
        have hq' : (s[k]).toNat < 65 ∨ (65 ≤ (s[k]).toNat ∧ 90 < (s[k]).toNat) := by omega
        clear hd hA hq
        rcases hq' with q1 | ⟨q1, q2⟩
        all_goals
          go_wp2_with fail
          go_roundw
          case rel => exact ⟨k + 1, by omega, by go_num, hP, bw⟩
          case measure => simp [intOf]; omega
    · obtain rfl : k = s.size := by omega
      have hcv := low_text (cap := cap) hA.out
      clear hA
      go_wp2_with fail
      go_ret
      exact ⟨rfl, by rw [← hg.out]; exact bw.out⟩
end Go.Proofs.YtpgdmoaegnehbaaGreatDoor
