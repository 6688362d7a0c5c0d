/-
  The program's Dots of paths: pieces on a stack.
-/
import Derived.Test.YtmfmgbjkbadndaaProgParts
import Derived.Test.YtmfmgbjkbadndaaRefLoc3
import Derived.Laws.AppendOwn
import Derived.Deep.DeepCutAuto
import Derived.Lib.Join
namespace Go.Proofs.Ytmfmgbjkbadndaa
open Go.RowKit

set_option maxRecDepth 100000 in
set_option maxHeartbeats 3200000 in
theorem popped_any (ao : Option Addr) (n cap : Nat) (w : World) (hn : n ≤ cap) (hc : n ≤ 1000000) : Calls Try.prog 32 #[.slice ao n cap] w fun e w' => e = .returned (.slice ao (n - 1) cap) ∧ w = w' := by
  go_enter Try.func32, Try.ntmps32
  cases n with
  | zero =>
    go_wp2_with fail
    go_ret
    exact ⟨rfl, rfl⟩
  | succ k =>
    go_wp2_with fail
    go_ret
    exact ⟨rfl, rfl⟩

def strOf (l : List UInt8) : Value := .string (Lc.str l)
/-- A row of texts that the call owns. -/
def OwnsStrs (B : Nat) (v : Value) (P : List (List UInt8)) (w : World) : Prop := w.ownsRow B 9 1 v P.length (P.map strOf)
theorem infoStr : (Try.prog.info? 9).map (fun i => (i.zero, i.size, i.bytes)) = some (some (.string ByteArray.empty), 1, 16) := by kernel_rfl
theorem OwnsStrs.form {B : Nat} {v : Value} {P : List (List UInt8)} {w : World} (h : OwnsStrs B v P w) : ∃ ao cap, v = .slice ao P.length cap ∧ P.length ≤ cap := by
  obtain ⟨_, ⟨rfl, h0⟩ | ⟨g, cap, cur, rfl, _, _, hc, _⟩⟩ := h
  · exact ⟨none, 0, by rw [h0], by omega⟩
  · exact ⟨_, _, rfl, hc⟩
theorem OwnsStrs.pop {B : Nat} {ao : Option Addr} {n cap : Nat} {P : List (List UInt8)} {w : World} (h : OwnsStrs B (.slice ao n cap) P w) : OwnsStrs B (.slice ao (n - 1) cap) P.dropLast w := by
  obtain ⟨h1, h⟩ := h
  refine ⟨by simp, ?_⟩
  rw [List.length_dropLast]
  rcases h with ⟨e, h0⟩ | ⟨g, cap', cur, e, hb, hg, hc, hm, hs, ht⟩
  · injection e with e1 e2 e3
    subst e1 e2 e3
    exact .inl ⟨rfl, by omega⟩
  · injection e with e1 e2 e3
    subst e1 e2 e3
    refine .inr ⟨g, cap, cur, rfl, hb, hg, by omega, hm, hs, ?_⟩
    have hl : P.length ≤ cur.toList.length := by have : cur.toList.length = cur.size := Array.length_toList; omega
    rw [List.map_dropLast, ← ht, List.dropLast_eq_take, List.take_take, List.length_take, Nat.mul_one, Nat.mul_one, Nat.min_eq_left hl, Nat.min_eq_left (Nat.sub_le _ _)]
theorem OwnsStrs.cells {B : Nat} {g n cap : Nat} {P : List (List UInt8)} {w : World} (h : OwnsStrs B (.slice (some ⟨g, 0, none⟩) n cap) P w) : ∀ (j : Nat) x, (P.map Lc.str)[j]? = some x → w.cell? ⟨g, 0 + j, none⟩ = some (.string x) := by
  intro j x hj
  have := World.ownsRow.cells h (g := g) rfl j (.string x) (by
    rw [List.getElem?_map] at hj ⊢
    cases hp : P[j]? with
    | none => rw [hp] at hj; cases hj
    | some l => rw [hp] at hj; cases hj; rfl)
  have hadd : (⟨g, 0, none⟩ : Addr).add j = ⟨g, 0 + j, none⟩ := by
    rw [Nat.zero_add]
    unfold Addr.add
    split <;> simp_all
  rw [← hadd]
  exact this
theorem join_flat (P : List (List UInt8)) : Lib.join ((P.map Lc.str).map (·.data.toList)) [] = P.flatten := by
  rw [Lib.join, List.map_map, show (fun (x : ByteArray) => x.data.toList) ∘ Lc.str = id from funext Lc.str_list, List.map_id]
  induction P with
  | nil => rfl
  | cons p P ih =>
    cases P with
    | nil => simp [List.intercalate]
    | cons q P =>
      rw [List.flatten_cons, ← ih]
      simp [List.intercalate]
theorem pJoin_any (B : Nat) (v : Value) (P : List (List UInt8)) (w : World) (h : OwnsStrs B v P w) (hl : P.flatten.length ≤ 1000000) (hn : P.length ≤ 1000000) :
    Calls Try.prog 34 #[v, .string ⟨#[]⟩] w fun e w' => e = .returned (.string (Lc.str P.flatten)) ∧ Below w.heap.size w w' := by
  obtain ⟨ao, cap, rfl, hc⟩ := h.form
  rcases h.2 with ⟨e, h0⟩ | ⟨g, cap', cur, e, _⟩
  · injection e with e1 e2 e3
    subst e1
    have hP : P = [] := List.length_eq_zero_iff.1 h0
    subst hP
    refine (Try.strings_Join_none _ _ _ w).mono ?_
    rintro e w' ⟨rfl, hw⟩
    exact ⟨rfl, hw ▸ Below.refl _ _⟩
  · injection e with e1 e2 e3
    subst e1
    have hlt := (World.ownsRow.lt h g rfl).2
    have hm : (P.map Lc.str).length = P.length := List.length_map _
    have := Try.strings_Join g 0 cap (P.map Lc.str) ⟨#[]⟩ w h.cells hlt (by omega) (by omega) (by
      rw [show (⟨#[]⟩ : ByteArray).data.toList = [] from rfl, join_flat]; omega)
    rw [show (⟨#[]⟩ : ByteArray).data.toList = [] from rfl, join_flat, hm] at this
    exact this
theorem pHas_any (t p : ByteArray) (l : List UInt8) (w : World) (hp : p.data.toList = l) : Calls Try.prog 31 #[.string t, .string p] w fun e w' => e = .returned (.bool (Lc.begins l t.data.toList)) ∧ w' = w := by
  rw [← hp, ← Lc.begins_has]
  exact Try.strings_HasPrefix t p w

set_option maxRecDepth 100000 in
set_option maxHeartbeats 12800000 in
theorem pDots_at (s : ByteArray) (w : World) (hs : s.size ≤ 1000000) : Calls Try.prog 16 #[.string s] w fun e w' => e = .returned (.string (Lc.str (Lc.dots s.data.toList))) ∧ Below w.heap.size w w' := by
  obtain ⟨i0, hi, hz0, hz1, hz2⟩ := info_parts infoStr
  obtain ⟨Q, hQ⟩ : ∃ Q, Q = Lc.dots s.data.toList := ⟨_, rfl⟩
  rw [← hQ]
  replace hQ := Lib.hid hQ
  have c1 := Lib.hid (fun (t : ByteArray) W => pHas_any t ⟨#[46, 46, 47]⟩ [46, 46, 47] W rfl)
  have c2 := Lib.hid (fun (t : ByteArray) W => pHas_any t ⟨#[46, 47]⟩ [46, 47] W rfl)
  have c3 := Lib.hid (fun (t : ByteArray) W => pHas_any t ⟨#[47, 46, 47]⟩ [47, 46, 47] W rfl)
  have c5 := Lib.hid (fun (t : ByteArray) W => pHas_any t ⟨#[47, 46, 46, 47]⟩ [47, 46, 46, 47] W rfl)
  have cu := Lib.hid (fun (t : ByteArray) W (h : t.size ≤ 1000000) => pUpTo_any t W (by unfold maxLen; omega))
  go_enter Try.func16, Try.ntmps16
  go_wp2_with fail
  go_loopw [0, 3] (fun v0 v3 wr => ∃ (t : ByteArray) (P : List (List UInt8)), v0 = .string t ∧ Hid (OwnsStrs w.heap.size v3 P wr) ∧ Hid (Lc.Pcs P t.data.toList) ∧ t.size + P.flatten.length ≤ s.size ∧ Hid (Q = Lc.go t.data.toList.length t.data.toList P.flatten) ∧ Hid (Below w.heap.size w wr)) (fun v0 _ _ => strLen v0)
  case atStart => exact ⟨s, [], rfl, Lib.hid (World.ownsRow_nil _ _ _ _), Lib.hid (Lc.Pcs.none _), by simp, Lib.hid hQ.out, Lib.hid (Below.refl _ _)⟩
  case round =>
    obtain ⟨t, P, rfl, ho, hp, hz, hq, bw⟩ := hrel
    obtain ⟨ao, cap, rfl, hcap⟩ := ho.out.form
    have hP := hp.out.len
    have hPn : P.length ≤ 1000000 := by omega
    by_cases h0 : t.size = 0
    · obtain rfl : t = ByteArray.empty := ByteArray.size_eq_zero_iff.1 h0
      have he : (ByteArray.empty.toList != []) = false := by rw [ByteArray.toList_eq]; rfl
      have he3 : (ByteArray.empty.toList == []) = true := by rw [ByteArray.toList_eq]; rfl
      have he2 : ByteArray.empty.toList = [] := by rw [ByteArray.toList_eq]; rfl
      have hfin : Hid (Q = P.flatten) := Lib.hid hq.out
      have hj := Lib.hid (pJoin_any w.heap.size _ P wr ho.out (by omega) hPn)
      have hws := Lib.hid bw.out.size
      clear hz hP hPn hcap
      go_wp2_with fail
      (refine (hj.out).mono ?_); rintro e w1 ⟨rfl, b1⟩
      have b2 := Lib.hid (bw.out.trans (b1.mono hws.out))
      go_wp2_with fail
      go_ret
      exact ⟨by rw [hfin.out]; rfl, b2.out⟩
    have hne2 : (t.toList == []) = false := by
      rw [beq_eq_false_iff_ne]
      rw [ByteArray.toList_eq]
      exact lst_ne (by omega)
    have hne3 : ¬ t.toList = [] := by
      rw [ByteArray.toList_eq]
      exact lst_ne (by omega)
    have hne4 : (t.toList != []) = true := by rw [bne, hne2]; rfl
    have hn : Hid (∀ t' o', Lc.step t.data.toList P.flatten = (t', o') → Q = Lc.go t'.length t' o') := Lib.hid (fun t' o' h => by
      rw [hq.out, Lc.go_step (lst_ne (by omega)), h])
    have hlen := Lib.hid (list_len t)
    have hpop := Lib.hid (fun W => popped_any ao P.length cap W hcap hPn)
    have hflat : Hid (P.dropLast.flatten.length ≤ P.flatten.length) := Lib.hid (by rw [← hp.out.up]; exact Lc.up_len _)
    go_wp2_with fail
    (with_reducible refine (c1.out t _).mono ?_); rintro e w1 ⟨rfl, hw⟩; obtain rfl := hw.symm
    cases h1 : Lc.begins [46, 46, 47] t.data.toList
    case true =>
      have hl := Lc.begins_len h1
      rw [hlen.out] at hl
      simp only [List.length_cons, List.length_nil] at hl
      have hcs := cut_size t 3 (by omega)
      obtain ⟨r, hr⟩ := Lc.begins_iff.1 h1
      have hPe : P = [] := by
        have := hp.out
        rw [hr] at this
        exact this.first (by decide)
      have hpn : Hid (Lc.Pcs P (t.extract 3 t.size).data.toList) := Lib.hid (by rw [hPe]; exact Lc.Pcs.none _)
      have hnx : Hid (Q = Lc.go (t.extract 3 t.size).data.toList.length (t.extract 3 t.size).data.toList P.flatten) := Lib.hid (hn.out _ _ (by rw [Lc.step_a h1, drop_list]))
      have hsz : (t.extract 3 t.size).size + P.flatten.length ≤ s.size ∧ (t.extract 3 t.size).size < t.size := by constructor <;> omega
      obtain ⟨hsz1, hsz2⟩ := hsz
      replace hsz1 := Lib.hid hsz1
      replace hsz2 := Lib.hid hsz2
      replace hr := Lib.hid hr
      replace h1 := Lib.hid h1
      clear hcs hP hPe
      go_wp2_with fail
      go_round
      case rel => exact ⟨_, P, rfl, ho, hpn, hsz1.out, hnx, bw⟩
      case measure => exact hsz2.out
    replace h1 := Lib.hid h1
    go_wp2_with fail
    (with_reducible refine (c2.out t _).mono ?_); rintro e w1 ⟨rfl, hw⟩; obtain rfl := hw.symm
    cases h2 : Lc.begins [46, 47] t.data.toList
    case true =>
      have hl := Lc.begins_len h2
      rw [hlen.out] at hl
      simp only [List.length_cons, List.length_nil] at hl
      have hcs := cut_size t 2 (by omega)
      obtain ⟨r, hr⟩ := Lc.begins_iff.1 h2
      have hPe : P = [] := by
        have := hp.out
        rw [hr] at this
        exact this.first (by decide)
      have hpn : Hid (Lc.Pcs P (t.extract 2 t.size).data.toList) := Lib.hid (by rw [hPe]; exact Lc.Pcs.none _)
      have hnx : Hid (Q = Lc.go (t.extract 2 t.size).data.toList.length (t.extract 2 t.size).data.toList P.flatten) := Lib.hid (hn.out _ _ (by rw [Lc.step_b h1.out h2, drop_list]))
      have hsz : (t.extract 2 t.size).size + P.flatten.length ≤ s.size ∧ (t.extract 2 t.size).size < t.size := by constructor <;> omega
      obtain ⟨hsz1, hsz2⟩ := hsz
      replace hsz1 := Lib.hid hsz1
      replace hsz2 := Lib.hid hsz2
      replace hr := Lib.hid hr
      replace h2 := Lib.hid h2
      clear hcs hP hPe
      go_wp2_with fail
      go_round
      case rel => exact ⟨_, P, rfl, ho, hpn, hsz1.out, hnx, bw⟩
      case measure => exact hsz2.out
    replace h2 := Lib.hid h2
    go_wp2_with fail
    (with_reducible refine (c3.out t _).mono ?_); rintro e w1 ⟨rfl, hw⟩; obtain rfl := hw.symm
    cases h3 : Lc.begins [47, 46, 47] t.data.toList
    case true =>
      have hl := Lc.begins_len h3
      rw [hlen.out] at hl
      simp only [List.length_cons, List.length_nil] at hl
      have hcs := cut_size t 2 (by omega)
      obtain ⟨r, hr⟩ := Lc.begins_iff.1 h3
      have hpn : Hid (Lc.Pcs P (t.extract 2 t.size).data.toList) := Lib.hid (hp.out.keep (.inr ⟨r, by rw [drop_list, hr]; rfl⟩))
      have hnx : Hid (Q = Lc.go (t.extract 2 t.size).data.toList.length (t.extract 2 t.size).data.toList P.flatten) := Lib.hid (hn.out _ _ (by rw [Lc.step_c h1.out h2.out h3, drop_list]))
      have hsz : (t.extract 2 t.size).size + P.flatten.length ≤ s.size ∧ (t.extract 2 t.size).size < t.size := by constructor <;> omega
      obtain ⟨hsz1, hsz2⟩ := hsz
      replace hsz1 := Lib.hid hsz1
      replace hsz2 := Lib.hid hsz2
      replace hr := Lib.hid hr
      replace h3 := Lib.hid h3
      clear hcs hP
      go_wp2_with fail
      go_round
      case rel => exact ⟨_, P, rfl, ho, hpn, hsz1.out, hnx, bw⟩
      case measure => exact hsz2.out
    replace h3 := Lib.hid h3
    by_cases h4 : t.data.toList = [47, 46]
    case pos =>
      obtain ⟨z1, z2⟩ := is_lit h4
      have hl : t.size = 2 := by rw [← hlen.out, h4]; rfl
      have hpn : Hid (Lc.Pcs P (⟨#[47]⟩ : ByteArray).data.toList) := Lib.hid (hp.out.keep (.inr ⟨[], rfl⟩))
      have hnx : Hid (Q = Lc.go (⟨#[47]⟩ : ByteArray).data.toList.length (⟨#[47]⟩ : ByteArray).data.toList P.flatten) := Lib.hid (hn.out _ _ (by rw [Lc.step_d h4]))
      have hsz : (⟨#[47]⟩ : ByteArray).size + P.flatten.length ≤ s.size ∧ (⟨#[47]⟩ : ByteArray).size < t.size := by have : (⟨#[47]⟩ : ByteArray).size = 1 := rfl; constructor <;> omega
      obtain ⟨hsz1, hsz2⟩ := hsz
      replace hsz1 := Lib.hid hsz1
      replace hsz2 := Lib.hid hsz2
      replace h4 := Lib.hid h4
      replace hl := Lib.hid hl
      clear hP hne2 hne3 hne4
      go_wp2_with fail
      go_round
      case rel => exact ⟨_, P, rfl, ho, hpn, hsz1.out, hnx, bw⟩
      case measure => exact hsz2.out
    obtain ⟨z1h4, z2h4⟩ := no_lit h4
    replace h4 := Lib.hid h4
    go_wp2_with fail
    (with_reducible refine (c5.out t _).mono ?_); rintro e w1 ⟨rfl, hw⟩; obtain rfl := hw.symm
    cases h5 : Lc.begins [47, 46, 46, 47] t.data.toList
    case true =>
      have hl := Lc.begins_len h5
      rw [hlen.out] at hl
      simp only [List.length_cons, List.length_nil] at hl
      have hcs := cut_size t 3 (by omega)
      obtain ⟨r, hr⟩ := Lc.begins_iff.1 h5
      have hpn : Hid (Lc.Pcs P.dropLast (t.extract 3 t.size).data.toList) := Lib.hid (hp.out.pop (.inr ⟨r, by rw [drop_list, hr]; rfl⟩))
      have hnx : Hid (Q = Lc.go (t.extract 3 t.size).data.toList.length (t.extract 3 t.size).data.toList P.dropLast.flatten) := Lib.hid (hn.out _ _ (by rw [Lc.step_e h1.out h2.out h3.out h4.out h5, drop_list, hp.out.up]))
      have hfl := hflat.out
      have hsz : (t.extract 3 t.size).size + P.dropLast.flatten.length ≤ s.size ∧ (t.extract 3 t.size).size < t.size := by constructor <;> omega
      obtain ⟨hsz1, hsz2⟩ := hsz
      replace hsz1 := Lib.hid hsz1
      replace hsz2 := Lib.hid hsz2
      replace hr := Lib.hid hr
      replace h5 := Lib.hid h5
      clear hcs hP hfl
      have hov := Lib.hid ho.out.pop
      go_wp2_with fail
      (refine (hpop.out _).mono ?_); rintro e w1 ⟨rfl, rfl⟩
      go_wp2_with fail
      go_round
      case rel => exact ⟨_, P.dropLast, rfl, hov, hpn, hsz1.out, hnx, bw⟩
      case measure => exact hsz2.out
    replace h5 := Lib.hid h5
    by_cases h6 : t.data.toList = [47, 46, 46]
    case pos =>
      obtain ⟨z1, z2⟩ := is_lit h6
      have hl : t.size = 3 := by rw [← hlen.out, h6]; rfl
      have hpn : Hid (Lc.Pcs P.dropLast (⟨#[47]⟩ : ByteArray).data.toList) := Lib.hid (hp.out.pop (.inr ⟨[], rfl⟩))
      have hnx : Hid (Q = Lc.go (⟨#[47]⟩ : ByteArray).data.toList.length (⟨#[47]⟩ : ByteArray).data.toList P.dropLast.flatten) := Lib.hid (hn.out _ _ (by rw [Lc.step_f h6, hp.out.up]))
      have hfl := hflat.out
      have hsz : (⟨#[47]⟩ : ByteArray).size + P.dropLast.flatten.length ≤ s.size ∧ (⟨#[47]⟩ : ByteArray).size < t.size := by have : (⟨#[47]⟩ : ByteArray).size = 1 := rfl; constructor <;> omega
      obtain ⟨hsz1, hsz2⟩ := hsz
      replace hsz1 := Lib.hid hsz1
      replace hsz2 := Lib.hid hsz2
      replace h6 := Lib.hid h6
      replace hl := Lib.hid hl
      clear hP hne2 hne3 hne4 hfl
      have hov := Lib.hid ho.out.pop
      go_wp2_with fail
      (refine (hpop.out _).mono ?_); rintro e w1 ⟨rfl, rfl⟩
      go_wp2_with fail
      go_round
      case rel => exact ⟨_, P.dropLast, rfl, hov, hpn, hsz1.out, hnx, bw⟩
      case measure => exact hsz2.out
    obtain ⟨z1h6, z2h6⟩ := no_lit h6
    replace h6 := Lib.hid h6
    by_cases h7 : t.data.toList = [46]
    case pos =>
      obtain ⟨z1, z2⟩ := is_lit h7
      have hl : t.size = 1 := by rw [← hlen.out, h7]; rfl
      have hpn : Hid (Lc.Pcs P (⟨#[]⟩ : ByteArray).data.toList) := Lib.hid (hp.out.keep (.inl rfl))
      have hnx : Hid (Q = Lc.go (⟨#[]⟩ : ByteArray).data.toList.length (⟨#[]⟩ : ByteArray).data.toList P.flatten) := Lib.hid (hn.out _ _ (by rw [Lc.step_g (.inl h7)]))
      have hsz : (⟨#[]⟩ : ByteArray).size + P.flatten.length ≤ s.size ∧ (⟨#[]⟩ : ByteArray).size < t.size := by have : (⟨#[]⟩ : ByteArray).size = 0 := rfl; constructor <;> omega
      obtain ⟨hsz1, hsz2⟩ := hsz
      replace hsz1 := Lib.hid hsz1
      replace hsz2 := Lib.hid hsz2
      replace h7 := Lib.hid h7
      replace hl := Lib.hid hl
      clear hP hne2 hne3 hne4
      go_wp2_with fail
      go_round
      case rel => exact ⟨_, P, rfl, ho, hpn, hsz1.out, hnx, bw⟩
      case measure => exact hsz2.out
    obtain ⟨z1h7, z2h7⟩ := no_lit h7
    replace h7 := Lib.hid h7
    by_cases h8 : t.data.toList = [46, 46]
    case pos =>
      obtain ⟨z1, z2⟩ := is_lit h8
      have hl : t.size = 2 := by rw [← hlen.out, h8]; rfl
      have hpn : Hid (Lc.Pcs P (⟨#[]⟩ : ByteArray).data.toList) := Lib.hid (hp.out.keep (.inl rfl))
      have hnx : Hid (Q = Lc.go (⟨#[]⟩ : ByteArray).data.toList.length (⟨#[]⟩ : ByteArray).data.toList P.flatten) := Lib.hid (hn.out _ _ (by rw [Lc.step_g (.inr h8)]))
      have hsz : (⟨#[]⟩ : ByteArray).size + P.flatten.length ≤ s.size ∧ (⟨#[]⟩ : ByteArray).size < t.size := by have : (⟨#[]⟩ : ByteArray).size = 0 := rfl; constructor <;> omega
      obtain ⟨hsz1, hsz2⟩ := hsz
      replace hsz1 := Lib.hid hsz1
      replace hsz2 := Lib.hid hsz2
      replace h8 := Lib.hid h8
      replace hl := Lib.hid hl
      clear hP hne2 hne3 hne4
      go_wp2_with fail
      go_round
      case rel => exact ⟨_, P, rfl, ho, hpn, hsz1.out, hnx, bw⟩
      case measure => exact hsz2.out
    obtain ⟨z1h8, z2h8⟩ := no_lit h8
    replace h8 := Lib.hid h8
    have hcs := cut_size t 1 (by omega)
    have hcl : (t.extract 1 t.size).size ≤ 1000000 := by omega
    have hk0 := Lc.cut_len (t.extract 1 t.size).data.toList [47]
    rw [list_len] at hk0
    have hst := Lc.step_h (o := P.flatten) h1.out h2.out h3.out h4.out h5.out h6.out h7.out h8.out
    have hpush := hp.out.push (lst_ne (by omega))
    rw [← drop_list t 1] at hst hpush
    have hu := cu.out (t.extract 1 t.size) wr hcl
    obtain ⟨K, hK⟩ : ∃ K, K = (Lc.cut (t.extract 1 t.size).data.toList [47]).length := ⟨_, rfl⟩
    rw [← hK] at hst hpush hu hk0
    have hK1 : 1 + K ≤ t.size := by omega
    have e1 : (t.extract 0 (1 + K)).size = 1 + K := by rw [ByteArray.size_extract]; omega
    have e2 := cut_size t (1 + K) hK1
    have e3 : Hid (t.extract 0 (1 + K) = Lc.str (t.data.toList.take (1 + K))) := Lib.hid (Lc.str_of (take_list t (1 + K)))
    have hfl : (P ++ [t.data.toList.take (1 + K)]).flatten = P.flatten ++ t.data.toList.take (1 + K) := by simp
    have hfl2 : (P ++ [t.data.toList.take (1 + K)]).flatten.length = P.flatten.length + (1 + K) := by
      rw [hfl, List.length_append, ← take_list, list_len, e1]
    have hnx : Hid (Q = Lc.go (t.extract (1 + K) t.size).data.toList.length (t.extract (1 + K) t.size).data.toList (P ++ [t.data.toList.take (1 + K)]).flatten) := Lib.hid (hn.out _ _ (by rw [hst, drop_list, hfl]))
    have hpn : Hid (Lc.Pcs (P ++ [t.data.toList.take (1 + K)]) (t.extract (1 + K) t.size).data.toList) := Lib.hid (by rw [drop_list]; exact hpush)
    have hsz : (t.extract (1 + K) t.size).size + (P ++ [t.data.toList.take (1 + K)]).flatten.length ≤ s.size ∧ (t.extract (1 + K) t.size).size < t.size := by rw [hfl2]; constructor <;> omega
    obtain ⟨hsz1, hsz2⟩ := hsz
    replace hsz1 := Lib.hid hsz1
    replace hsz2 := Lib.hid hsz2
    have q0 : (1 : Int) ≤ (t.size : Int) := by omega
    have q2 : (1 : Int) + (K : Int) ≤ (t.size : Int) := by omega
    have hPc : P.length + 1 ≤ maxLen := by unfold maxLen; omega
    have hPb : (P.length + 1) * 16 ≤ 140737488355328 := by omega
    replace hK := Lib.hid hK
    replace hu := Lib.hid hu
    replace hbs := Lib.hid bw.out.size
    clear hst hpush e1 e2 hk0 hcs hfl hfl2 hP hne2 hne3 hne4
    go_wp2_with fail
    (refine (hu.out).mono ?_); rintro e w1 ⟨rfl, rfl⟩
    go_wp2_with (at_builtin; refine wpList_append_own _ rfl _ _ 37 rfl w.heap.size 9 i0 _ 1 16 Try.underlying37 hi hz0 hz1 hz2 rfl (by decide) _ _ _ rfl (World.ownsRow.alloc ho.out _) ⟨wr.heap.size, 0, none⟩ 1 1 [.string (t.extract 0 (1 + K))] rfl rfl (cell_one_new _ _ _) (fun u hu => by simp at hu; subst hu; rfl) hPc hPb (by have := bw.out.size; simp; omega) ?_)
    intro v5 w5 hown5 hg5 _
    have hga : wr.grownBy w5 _ := (World.grownBy_alloc wr _ _).trans hg5
    have b5 := Lib.hid (bw.out.trans ((Below.refl _ _).grown hga bw.out.size (fun j e => (World.ownsRow.lt ho.out j e).1)))
    have ho5 : Hid (OwnsStrs w.heap.size v5 (P ++ [t.data.toList.take (1 + K)]) w5) := Lib.hid (by
      unfold OwnsStrs
      rw [List.map_append, List.length_append]
      have e : [Value.string (t.extract 0 (1 + K))] = List.map strOf [t.data.toList.take (1 + K)] := by rw [e3.out]; rfl
      rw [← e]; exact hown5)
    clear hown5 hga hg5
    go_wp2_with fail
    go_round
    case rel => exact ⟨_, _, rfl, ho5, hpn, hsz1.out, hnx, b5⟩
    case measure => exact hsz2.out
end Go.Proofs.Ytmfmgbjkbadndaa
