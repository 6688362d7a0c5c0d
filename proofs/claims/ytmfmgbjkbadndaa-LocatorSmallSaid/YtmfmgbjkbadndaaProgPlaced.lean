/-
  The program's words of a path put where it stands by a base; a reference whose path has no dots.
-/
import Derived.Test.YtmfmgbjkbadndaaProgDots
import Derived.Test.YtmfmgbjkbadndaaRefLoc7
import Derived.Lib.LastIndexByte
import Derived.BigQuiet
import Derived.Deep.QuietTactic
import Derived.Laws.Runes
namespace Go.Proofs.Ytmfmgbjkbadndaa
open Go.RowKit

def Lc.placed (b : Lc.U) (p : List UInt8) : List UInt8 := if Lc.begins [47] p then p else if b.hasH ∧ b.path = [] then 47 :: p else Lc.lead b.path ++ p
theorem Lc.last_lead (s : ByteArray) : ∃ m : Nat, m ≤ s.size ∧ Lib.lastIndexByte s 47 + 1 = (m : Int) ∧ s.extract 0 m = Lc.str (Lc.lead s.data.toList) := by
  have hg : ∀ j (h : j < s.size), s.data[j]! = s[j] := fun j h => by
    rw [getElem!_pos s.data j (by exact h)]
    rfl
  have hl := list_len s
  have hlead : ∀ k, k ≤ s.size → (47 : UInt8) ∉ s.data.toList.drop k → (k = 0 ∨ ∃ j, ∃ h : j < s.data.toList.length, k = j + 1 ∧ s.data.toList[j] = 47) → s.extract 0 k = Lc.str (Lc.lead s.data.toList) := fun k h1 h2 h3 => by
    rw [← Lc.lead_at (by rw [hl]; exact h1) h2 h3]
    exact Lc.str_of (take_list s k)
  have hfree : ∀ k, (∀ j, k ≤ j → j < s.size → ((s.data[j]!).toNat : Int) ≠ 47) → (47 : UInt8) ∉ s.data.toList.drop k := fun k h hm => by
    obtain ⟨j, hj, e⟩ := List.mem_iff_getElem.1 hm
    rw [List.length_drop, hl] at hj
    rw [List.getElem_drop] at e
    have := h (k + j) (by omega) (by omega)
    rw [hg (k + j) (by omega)] at this
    have e2 : s.data.toList[k + j]'(by rw [hl]; omega) = s[k + j]'(by omega) := rfl
    rw [e2] at e
    rw [e] at this
    exact this rfl
  rcases Lib.lastIndexByte_spec s 47 with ⟨e, hn⟩ | ⟨i, hi, e, hc, hn⟩
  · exact ⟨0, Nat.zero_le _, by rw [e]; rfl, hlead 0 (Nat.zero_le _) (hfree 0 fun j _ h => hn j h) (.inl rfl)⟩
  · refine ⟨i + 1, hi, by rw [e]; rfl, hlead (i + 1) hi (hfree (i + 1) fun j h1 h2 => hn j h1 h2) (.inr ⟨i, by rw [hl]; exact hi, rfl, ?_⟩)⟩
    rw [hg i hi] at hc
    have e2 : s.data.toList[i]'(by rw [hl]; exact hi) = s[i]'hi := rfl
    rw [e2]
    exact UInt8.toNat_inj.1 (by have : (47 : UInt8).toNat = 47 := rfl; omega)

set_option maxRecDepth 100000 in
set_option maxHeartbeats 6400000 in
theorem pPlaced_any (b : Lc.U) (p : List UInt8) (w : World) (hb : Lc.Small b) (hp : p.length ≤ 100000) : Calls Try.prog 39 #[.agg (uArr b), .string (Lc.str p)] w fun e w' => e = .returned (.string (Lc.str (Lc.placed b p))) ∧ Below w.heap.size w w' := by
  obtain ⟨Q, hQ⟩ : ∃ Q, Q = Lc.placed b p := ⟨_, rfl⟩
  rw [← hQ]
  unfold Lc.placed at hQ
  replace hQ := Lib.hid hQ
  have k0 := Cells.new w 24 (uArr b)
  have d0 := (Below.refl w.heap.size w).alloc (Nat.le_refl _) (.cells (uArr b) 24)
  have ch := Lib.hid (fun W => pHas_any (Lc.str p) ⟨#[47]⟩ [47] W rfl)
  rw [Lc.str_list] at ch
  obtain ⟨P, hPe⟩ : ∃ P, P = Lc.str p := ⟨_, rfl⟩
  obtain ⟨S, hSe⟩ : ∃ S, S = Lc.str b.path := ⟨_, rfl⟩
  have hPz : P.size ≤ 100000 := by rw [hPe, Lc.str_size]; exact hp
  have hSz : S.size ≤ 100000 := by rw [hSe, Lc.str_size]; exact hb.2.2.1
  have hSl : Hid (S.data.toList = b.path) := Lib.hid (by rw [hSe, Lc.str_list])
  have hPl : Hid (P.data.toList = p) := Lib.hid (by rw [hPe, Lc.str_list])
  clear hb hp
  unfold uArr at k0 d0 ⊢
  rw [← hPe] at ch ⊢
  rw [← hSe] at k0 d0 ⊢
  replace hPe := Lib.hid hPe
  replace hSe := Lib.hid hSe
  go_enter Try.func39, Try.ntmps39
  replace k0 := Lib.hid k0
  replace d0 := Lib.hid d0
  go_upto_region 1 with fail
  generalize w.alloc (.cells #[.string (Lc.str b.scheme), .string (Lc.str b.host), .string S, .string (Lc.str b.query), .string (Lc.str b.frag), .bool b.hasS, .bool b.hasH, .bool b.hasQ, .bool b.hasF] 24) = w0 at *
  replace d0 := d0.out
  have y2 := k0.out.cell (i := 2) (v := .string S) rfl
  have y6 := k0.out.cell (i := 6) (v := .bool b.hasH) rfl
  go_wp2_with fail
  (refine (ch.out _).mono ?_); rintro e w1 ⟨rfl, hw⟩; obtain rfl := hw.symm
  cases h1 : Lc.begins [47] p
  case true =>
    have hfin : Hid (P = Lc.str Q) := Lib.hid (by rw [hQ.out, h1, if_pos rfl, hPe.out])
    replace h1 := Lib.hid h1
    go_wp2_with fail
    go_ret
    exact ⟨by rw [hfin.out]; rfl, d0⟩
  have hQ1 : Hid (Q = if b.hasH ∧ b.path = [] then 47 :: p else Lc.lead b.path ++ p) := Lib.hid (by rw [hQ.out, h1, if_neg (by simp)])
  replace h1 := Lib.hid h1
  have hcat : Hid (∀ a : List UInt8, Lc.str a ++ P = Lc.str (a ++ p)) := Lib.hid (fun a => by rw [hPe.out, Lc.str_app])
  by_cases h2 : b.hasH = true ∧ b.path = []
  case pos =>
    have e0 : S.size = 0 := by rw [hSe.out, Lc.str_size, h2.2]; rfl
    have e1 : S.toList = [] := by rw [ByteArray.toList_eq, lnil e0]
    have e2 := empty_is e0
    have e3 : (S.toList == []) = true := by rw [e1]; rfl
    have hfin : Hid ((⟨#[47]⟩ : ByteArray) ++ P = Lc.str Q) := Lib.hid (by rw [hQ1.out, if_pos h2]; exact hcat.out [47])
    rw [h2.1] at y6
    have q1 : ¬ 9223372036854775807 < 1 + P.size := by omega
    replace h2 := Lib.hid h2
    replace e0 := Lib.hid e0
    go_wp2_with fail
    go_ret
    exact ⟨by rw [← hfin.out]; rfl, d0⟩
  have hQ2 : Hid (Q = Lc.lead b.path ++ p) := Lib.hid (by rw [hQ1.out, if_neg h2])
  obtain ⟨m, m1, m2, m3⟩ := Lc.last_lead S
  have hfin : Hid (S.extract 0 m ++ P = Lc.str Q) := Lib.hid (by rw [m3, hcat.out, hSl.out, hQ2.out])
  have m4 : IntKind.i64.wrap (Lib.lastIndexByte S 47 + 1) = (m : Int) := by rw [m2]; exact wrap_small _ (by omega) (by omega)
  have m5 : (m : Int) ≤ (S.size : Int) := by omega
  have m6 : (0 : Int) ≤ (m : Int) := by omega
  have q1 : ¬ 9223372036854775807 < min m S.size + P.size := by omega
  have cl : Hid (∀ W, Calls Try.prog 57 #[.string S, .string ⟨#[47]⟩] W fun e w' => e = .returned (.int .i64 (Lib.lastIndexByte S 47)) ∧ w' = W) := Lib.hid (fun W => Try.strings_LastIndex_one S ⟨#[47]⟩ rfl (by omega) W)
  replace m3 := Lib.hid m3
  replace m2 := Lib.hid m2
  go_upto_region 3 with fail
  go_cut [14] (fun c wx => c = .bool false ∧ w0 = wx)
  case first =>
    by_cases hH : b.hasH = true
    case neg =>
      have hH : b.hasH = false := by simpa using hH
      rw [hH] at y6
      replace hH := Lib.hid hH
      go_wp2_with fail
      go_meet
      exact ⟨rfl, rfl⟩
    case pos =>
      rw [hH] at y6
      have hne : ¬ S.data.toList = [] := fun e => h2 ⟨hH, by rw [← hSl.out]; exact e⟩
      have hne3 : ¬ S.toList = [] := by rw [ByteArray.toList_eq]; exact hne
      have hne2 : (S.toList == []) = false := by rw [beq_eq_false_iff_ne]; exact hne3
      have hne4 : S.toList.isEmpty = false := by rw [List.isEmpty_eq_false_iff]; exact hne3
      replace hH := Lib.hid hH
      go_wp2_with fail
      go_meet
      exact ⟨rfl, rfl⟩
  case rest =>
  obtain ⟨rfl, rfl⟩ := hcut
  go_wp2_with fail
  go_quiet (exact Calls.quiet_of_same (cl.out _))
  have bz := d0.trans ((Cells.below_drewN (Below.refl w0.heap.size w0) nq).mono d0.size)
  go_wp2_with fail
  go_ret
  exact ⟨by rw [← hfin.out]; rfl, bz⟩
end Go.Proofs.Ytmfmgbjkbadndaa
