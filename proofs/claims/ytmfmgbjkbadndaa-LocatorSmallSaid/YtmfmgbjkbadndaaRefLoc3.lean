/-
  What the document's own words of references come to: a path without dots.
-/
import Derived.Test.YtmfmgbjkbadndaaRefLoc2
namespace Go.Proofs.Ytmfmgbjkbadndaa
open Go.RowKit

namespace Lc
theorem step_a {s o : List UInt8} (h1 : begins [46, 46, 47] s = true) : step s o = (s.drop 3, o) := by unfold step; rw [if_pos h1]
theorem step_b {s o : List UInt8} (h1 : begins [46, 46, 47] s = false) (h2 : begins [46, 47] s = true) : step s o = (s.drop 2, o) := by
  unfold step; rw [h1, h2]; simp
theorem step_c {s o : List UInt8} (h1 : begins [46, 46, 47] s = false) (h2 : begins [46, 47] s = false) (h3 : begins [47, 46, 47] s = true) : step s o = (s.drop 2, o) := by
  unfold step; rw [h1, h2, h3]; simp
theorem step_d {s o : List UInt8} (h4 : s = [47, 46]) : step s o = ([47], o) := by subst h4; rfl
theorem step_e {s o : List UInt8} (h1 : begins [46, 46, 47] s = false) (h2 : begins [46, 47] s = false) (h3 : begins [47, 46, 47] s = false) (h4 : ¬ s = [47, 46]) (h5 : begins [47, 46, 46, 47] s = true) : step s o = (s.drop 3, up o) := by
  unfold step; rw [h1, h2, h3, h5]; simp [h4]
theorem step_f {s o : List UInt8} (h6 : s = [47, 46, 46]) : step s o = ([47], up o) := by subst h6; rfl
theorem step_g {s o : List UInt8} (h7 : s = [46] ∨ s = [46, 46]) : step s o = ([], o) := by rcases h7 with rfl | rfl <;> rfl
theorem step_h {s o : List UInt8} (h1 : begins [46, 46, 47] s = false) (h2 : begins [46, 47] s = false) (h3 : begins [47, 46, 47] s = false) (h4 : ¬ s = [47, 46]) (h5 : begins [47, 46, 46, 47] s = false) (h6 : ¬ s = [47, 46, 46]) (h7 : ¬ s = [46]) (h8 : ¬ s = [46, 46]) :
    step s o = (s.drop (1 + (cut (s.drop 1) [47]).length), o ++ s.take (1 + (cut (s.drop 1) [47]).length)) := by
  unfold step
  rw [h1, h2, h3, h5, ← drop_cut (s.drop 1) [47], List.drop_drop]
  simp [h4, h6, h7, h8]
end Lc

theorem cut_size (t : ByteArray) (a : Nat) (h : a ≤ t.size) : (t.extract a t.size).size + a = t.size := by rw [ByteArray.size_extract]; omega
theorem is_lit {t : ByteArray} {l : List UInt8} (h : t.data.toList = l) : (t.toList == l) = true ∧ t.toList = l := by
  have : t.toList = l := by rw [ByteArray.toList_eq]; exact h
  exact ⟨by rw [this]; simp, this⟩
theorem no_lit {t : ByteArray} {l : List UInt8} (h : ¬ t.data.toList = l) : (t.toList == l) = false ∧ ¬ t.toList = l := by
  have : ¬ t.toList = l := by rw [ByteArray.toList_eq]; exact h
  exact ⟨by rw [beq_eq_false_iff_ne]; exact this, this⟩

set_option maxRecDepth 100000 in
set_option maxHeartbeats 12800000 in
theorem lDots_any (s : ByteArray) (w : World) (hs : s.size ≤ 1000000) : Calls Try.prog 17 #[.string s] w fun e w' => e = .returned (.string (Lc.str (Lc.dots s.data.toList))) ∧ w = w' := by
  obtain ⟨Q, hQ⟩ : ∃ Q, Q = Lc.dots s.data.toList := ⟨_, rfl⟩
  rw [← hQ]
  replace hQ := Lib.hid hQ
  have c1 := Lib.hid (fun (t : ByteArray) W (h : t.size ≤ maxLen) => lBegins_any t ⟨#[46, 46, 47]⟩ [46, 46, 47] W h rfl)
  have c2 := Lib.hid (fun (t : ByteArray) W (h : t.size ≤ maxLen) => lBegins_any t ⟨#[46, 47]⟩ [46, 47] W h rfl)
  have c3 := Lib.hid (fun (t : ByteArray) W (h : t.size ≤ maxLen) => lBegins_any t ⟨#[47, 46, 47]⟩ [47, 46, 47] W h rfl)
  have c5 := Lib.hid (fun (t : ByteArray) W (h : t.size ≤ maxLen) => lBegins_any t ⟨#[47, 46, 46, 47]⟩ [47, 46, 46, 47] W h rfl)
  have cf := Lib.hid (fun (t : ByteArray) W (h : t.size ≤ maxLen) => lFirst_any t ⟨#[47]⟩ W h (by decide))
  have cu := Lib.hid (fun (t : ByteArray) W (h : t.size ≤ maxLen) => lUp_any t W h)
  go_enter Try.func17, Try.ntmps17
  go_wp2_with fail
  go_loop [0, 3] (fun v0 v3 => ∃ t o : ByteArray, v0 = .string t ∧ v3 = .string o ∧ t.size + o.size ≤ s.size ∧ Hid (Q = Lc.go t.data.toList.length t.data.toList o.data.toList)) (fun v0 _ => strLen v0)
  case atStart => exact ⟨s, ⟨#[]⟩, rfl, rfl, Nat.le_refl _, Lib.hid hQ.out⟩
  case round =>
    obtain ⟨t, o, rfl, rfl, hz, hq⟩ := hrel
    by_cases h0 : t.size = 0
    · have hi : ¬ (0 : Int) < (t.size : Int) := by omega
      have hfin : Hid (o = Lc.str Q) := Lib.hid (Lc.str_of (by
        have ht : t.data.toList = [] := List.length_eq_zero_iff.1 (by rw [list_len]; exact h0)
        have := hq.out
        rw [ht] at this
        exact this.symm))
      go_wp2_with fail
      go_ret
      exact ⟨by rw [← hfin.out]; rfl, rfl⟩
    have hi : (0 : Int) < (t.size : Int) := by omega
    have hts : t.size ≤ maxLen := by unfold maxLen; omega
    have hos : o.size ≤ maxLen := by unfold maxLen; omega
    have hn : Hid (∀ t' o' : ByteArray, Lc.step t.data.toList o.data.toList = (t'.data.toList, o'.data.toList) → Q = Lc.go t'.data.toList.length t'.data.toList o'.data.toList) := Lib.hid (fun t' o' h => by
      rw [hq.out, Lc.go_step (lst_ne (by omega)), h])
    replace hts := Lib.hid hts
    replace hos := Lib.hid hos
    have hlen := Lib.hid (list_len t)
    have hup := Lib.hid (Lc.up_len o.data.toList)
    have holen := Lib.hid (list_len o)
    go_wp2_with fail
    (with_reducible refine (c1.out t _ hts.out).mono ?_); rintro e w1 ⟨rfl, rfl⟩
    cases h1 : Lc.begins [46, 46, 47] t.data.toList
    case true =>
      have hl := Lc.begins_len h1
      rw [hlen.out] at hl
      simp only [List.length_cons, List.length_nil] at hl
      have hcs := cut_size t 3 (by omega)
      have hnx := Lib.hid (hn.out (t.extract 3 t.size) (o) (by rw [Lc.step_a h1, drop_list]))
      have hsz : (t.extract 3 t.size).size + (o).size ≤ s.size ∧ (t.extract 3 t.size).size < t.size := by constructor <;> omega
      obtain ⟨hsz1, hsz2⟩ := hsz
      replace hsz1 := Lib.hid hsz1
      replace hsz2 := Lib.hid hsz2
      replace h1 := Lib.hid h1
      clear hcs
      go_wp2_with fail
      go_round
      case rel => exact ⟨_, _, rfl, rfl, hsz1.out, hnx⟩
      case measure => exact hsz2.out
    replace h1 := Lib.hid h1
    go_wp2_with fail
    (with_reducible refine (c2.out t _ hts.out).mono ?_); rintro e w1 ⟨rfl, rfl⟩
    cases h2 : Lc.begins [46, 47] t.data.toList
    case true =>
      have hl := Lc.begins_len h2
      rw [hlen.out] at hl
      simp only [List.length_cons, List.length_nil] at hl
      have hcs := cut_size t 2 (by omega)
      have hnx := Lib.hid (hn.out (t.extract 2 t.size) (o) (by rw [Lc.step_b h1.out h2, drop_list]))
      have hsz : (t.extract 2 t.size).size + (o).size ≤ s.size ∧ (t.extract 2 t.size).size < t.size := by constructor <;> omega
      obtain ⟨hsz1, hsz2⟩ := hsz
      replace hsz1 := Lib.hid hsz1
      replace hsz2 := Lib.hid hsz2
      replace h2 := Lib.hid h2
      clear hcs
      go_wp2_with fail
      go_round
      case rel => exact ⟨_, _, rfl, rfl, hsz1.out, hnx⟩
      case measure => exact hsz2.out
    replace h2 := Lib.hid h2
    go_wp2_with fail
    (with_reducible refine (c3.out t _ hts.out).mono ?_); rintro e w1 ⟨rfl, rfl⟩
    cases h3 : Lc.begins [47, 46, 47] t.data.toList
    case true =>
      have hl := Lc.begins_len h3
      rw [hlen.out] at hl
      simp only [List.length_cons, List.length_nil] at hl
      have hcs := cut_size t 2 (by omega)
      have hnx := Lib.hid (hn.out (t.extract 2 t.size) (o) (by rw [Lc.step_c h1.out h2.out h3, drop_list]))
      have hsz : (t.extract 2 t.size).size + (o).size ≤ s.size ∧ (t.extract 2 t.size).size < t.size := by constructor <;> omega
      obtain ⟨hsz1, hsz2⟩ := hsz
      replace hsz1 := Lib.hid hsz1
      replace hsz2 := Lib.hid hsz2
      replace h3 := Lib.hid h3
      clear hcs
      go_wp2_with fail
      go_round
      case rel => exact ⟨_, _, rfl, rfl, hsz1.out, hnx⟩
      case measure => exact hsz2.out
    replace h3 := Lib.hid h3
    by_cases h4 : t.data.toList = [47, 46]
    case pos =>
      obtain ⟨z1, z2⟩ := is_lit h4
      have hl : t.size = 2 := by rw [← hlen.out, h4]; rfl
      have hnx := Lib.hid (hn.out (⟨#[47]⟩) (o) (by rw [Lc.step_d h4]))
      have hsz : (⟨#[47]⟩ : ByteArray).size + (o).size ≤ s.size ∧ (⟨#[47]⟩ : ByteArray).size < t.size := by have : (⟨#[47]⟩ : ByteArray).size = 1 := rfl; constructor <;> omega
      obtain ⟨hsz1, hsz2⟩ := hsz
      replace hsz1 := Lib.hid hsz1
      replace hsz2 := Lib.hid hsz2
      replace h4 := Lib.hid h4
      replace hl := Lib.hid hl
      go_wp2_with fail
      go_round
      case rel => exact ⟨_, _, rfl, rfl, hsz1.out, hnx⟩
      case measure => exact hsz2.out
    obtain ⟨z1h4, z2h4⟩ := no_lit h4
    replace h4 := Lib.hid h4
    go_wp2_with fail
    (with_reducible refine (c5.out t _ hts.out).mono ?_); rintro e w1 ⟨rfl, rfl⟩
    cases h5 : Lc.begins [47, 46, 46, 47] t.data.toList
    case true =>
      have hl := Lc.begins_len h5
      rw [hlen.out] at hl
      simp only [List.length_cons, List.length_nil] at hl
      have hcs := cut_size t 3 (by omega)
      have hus : (Lc.str (Lc.up o.data.toList)).size ≤ o.size := by rw [Lc.str_size, ← holen.out]; exact hup.out
      have hnx := Lib.hid (hn.out (t.extract 3 t.size) (Lc.str (Lc.up o.data.toList)) (by rw [Lc.step_e h1.out h2.out h3.out h4.out h5, drop_list, Lc.str_list]))
      have hsz : (t.extract 3 t.size).size + (Lc.str (Lc.up o.data.toList)).size ≤ s.size ∧ (t.extract 3 t.size).size < t.size := by constructor <;> omega
      obtain ⟨hsz1, hsz2⟩ := hsz
      replace hsz1 := Lib.hid hsz1
      replace hsz2 := Lib.hid hsz2
      replace h5 := Lib.hid h5
      clear hcs hus
      go_wp2_with fail
      (with_reducible refine (cu.out o _ hos.out).mono ?_); rintro e w1 ⟨rfl, rfl⟩
      go_wp2_with fail
      go_round
      case rel => exact ⟨_, _, rfl, rfl, hsz1.out, hnx⟩
      case measure => exact hsz2.out
    replace h5 := Lib.hid h5
    by_cases h6 : t.data.toList = [47, 46, 46]
    case pos =>
      obtain ⟨z1, z2⟩ := is_lit h6
      have hl : t.size = 3 := by rw [← hlen.out, h6]; rfl
      have hus : (Lc.str (Lc.up o.data.toList)).size ≤ o.size := by rw [Lc.str_size, ← holen.out]; exact hup.out
      have hnx := Lib.hid (hn.out (⟨#[47]⟩) (Lc.str (Lc.up o.data.toList)) (by rw [Lc.step_f h6, Lc.str_list]))
      have hsz : (⟨#[47]⟩ : ByteArray).size + (Lc.str (Lc.up o.data.toList)).size ≤ s.size ∧ (⟨#[47]⟩ : ByteArray).size < t.size := by have : (⟨#[47]⟩ : ByteArray).size = 1 := rfl; constructor <;> omega
      obtain ⟨hsz1, hsz2⟩ := hsz
      replace hsz1 := Lib.hid hsz1
      replace hsz2 := Lib.hid hsz2
      replace h6 := Lib.hid h6
      replace hl := Lib.hid hl
      clear hus
      go_wp2_with fail
      (with_reducible refine (cu.out o _ hos.out).mono ?_); rintro e w1 ⟨rfl, rfl⟩
      go_wp2_with fail
      go_round
      case rel => exact ⟨_, _, rfl, rfl, hsz1.out, hnx⟩
      case measure => exact hsz2.out
    obtain ⟨z1h6, z2h6⟩ := no_lit h6
    replace h6 := Lib.hid h6
    by_cases h7 : t.data.toList = [46]
    case pos =>
      obtain ⟨z1, z2⟩ := is_lit h7
      have hnx := Lib.hid (hn.out (⟨#[]⟩) (o) (by rw [Lc.step_g (.inl h7)]))
      have hsz : (⟨#[]⟩ : ByteArray).size + (o).size ≤ s.size ∧ (⟨#[]⟩ : ByteArray).size < t.size := by have : (⟨#[]⟩ : ByteArray).size = 0 := rfl; constructor <;> omega
      obtain ⟨hsz1, hsz2⟩ := hsz
      replace hsz1 := Lib.hid hsz1
      replace hsz2 := Lib.hid hsz2
      replace h7 := Lib.hid h7
      go_wp2_with fail
      go_round
      case rel => exact ⟨_, _, rfl, rfl, hsz1.out, hnx⟩
      case measure => exact hsz2.out
    obtain ⟨z1h7, z2h7⟩ := no_lit h7
    replace h7 := Lib.hid h7
    by_cases h8 : t.data.toList = [46, 46]
    case pos =>
      obtain ⟨z1, z2⟩ := is_lit h8
      have hnx := Lib.hid (hn.out (⟨#[]⟩) (o) (by rw [Lc.step_g (.inr h8)]))
      have hsz : (⟨#[]⟩ : ByteArray).size + (o).size ≤ s.size ∧ (⟨#[]⟩ : ByteArray).size < t.size := by have : (⟨#[]⟩ : ByteArray).size = 0 := rfl; constructor <;> omega
      obtain ⟨hsz1, hsz2⟩ := hsz
      replace hsz1 := Lib.hid hsz1
      replace hsz2 := Lib.hid hsz2
      replace h8 := Lib.hid h8
      go_wp2_with fail
      go_round
      case rel => exact ⟨_, _, rfl, rfl, hsz1.out, hnx⟩
      case measure => exact hsz2.out
    obtain ⟨z1h8, z2h8⟩ := no_lit h8
    replace h8 := Lib.hid h8
    have hcs := cut_size t 1 (by omega)
    have hcl : (t.extract 1 t.size).size ≤ maxLen := by unfold maxLen; omega
    replace hcl := Lib.hid hcl
    go_wp2_with fail
    (with_reducible refine (cf.out (t.extract 1 t.size) _ hcl.out).mono ?_); rintro e w1 ⟨rfl, rfl⟩
    have hk0 := Lc.cut_len (t.extract 1 t.size).data.toList (⟨#[47]⟩ : ByteArray).data.toList
    rw [list_len] at hk0
    have hst := Lc.step_h (o := o.data.toList) h1.out h2.out h3.out h4.out h5.out h6.out h7.out h8.out
    rw [← drop_list t 1] at hst
    rw [show ([47] : List UInt8) = (⟨#[47]⟩ : ByteArray).data.toList from rfl] at hst
    generalize (Lc.cut (t.extract 1 t.size).data.toList (⟨#[47]⟩ : ByteArray).data.toList).length = K at *
    have hK : 1 + K ≤ t.size := by omega
    have e1 : (t.extract 0 (1 + K)).size = 1 + K := by rw [ByteArray.size_extract]; omega
    have e2 := cut_size t (1 + K) hK
    have hnx := Lib.hid (hn.out (t.extract (1 + K) t.size) (o ++ t.extract 0 (1 + K)) (by rw [hst, drop_list, ByteArray.data_append, Array.toList_append, take_list]))
    have hsz : (t.extract (1 + K) t.size).size + (o ++ t.extract 0 (1 + K)).size ≤ s.size ∧ (t.extract (1 + K) t.size).size < t.size := by rw [ByteArray.size_append, e1]; constructor <;> omega
    obtain ⟨hsz1, hsz2⟩ := hsz
    replace hsz1 := Lib.hid hsz1
    replace hsz2 := Lib.hid hsz2
    have q1 : ¬ 9223372036854775807 < o.size + min (1 + K) t.size := by omega
    have q2 : (1 : Int) + (K : Int) ≤ (t.size : Int) := by omega
    clear hst e1 e2 hk0 hcs
    go_wp2_with fail
    go_round
    case rel => exact ⟨_, _, rfl, rfl, hsz1.out, hnx⟩
    case measure => exact hsz2.out
end Go.Proofs.Ytmfmgbjkbadndaa
