/-
  What the document's own words of tokens come to: comment, shut, text, pi.
-/
import Derived.Test.YtegaidfmkfnbnaaGreatDoorQ03
import Derived.Test.YtegaidfmkfnbnaaGreatDoorP22
namespace Go.Proofs.YtegaidfmkfnbnaaGreatDoor
open Go.RowKit

namespace T
theorem cut_none {p l : List UInt8} (h : cutAt p l = none) : findI p l = -1 := findI_none h
theorem cut_one {c : UInt8} : ∀ l : List UInt8, (cutAt [c] l = none ∧ l.takeWhile (· ≠ c) = l ∧ l.dropWhile (· ≠ c) = [] ∧ ¬ c ∈ l) ∨ (∃ r, cutAt [c] l = some (l.takeWhile (· ≠ c), r) ∧ l.dropWhile (· ≠ c) = c :: r ∧ c ∈ l)
  | [] => .inl ⟨rfl, rfl, rfl, by simp⟩
  | b :: t => by
    by_cases h : b = c
    · subst h
      right
      refine ⟨t, ?_, by simp, by simp⟩
      unfold cutAt
      rw [if_pos (by simp [begins])]
      simp
    · have hb : begins [c] (b :: t) = false := by simp [begins, List.isPrefixOf, Ne.symm h]
      have hd : decide (b ≠ c) = true := by simpa using h
      unfold cutAt
      rw [if_neg (by rw [hb]; decide), List.takeWhile_cons, List.dropWhile_cons, if_pos hd, if_pos hd]
      rcases cut_one (c := c) t with ⟨h1, h2, h3, h4⟩ | ⟨r, h1, h2, h3⟩
      · left
        rw [h1]
        exact ⟨rfl, by rw [h2], h3, by simp [Ne.symm h, h4]⟩
      · right
        rw [h1]
        exact ⟨r, rfl, h2, by simp [h3]⟩
theorem findI_neg {p l : List UInt8} (h : cutAt p l = none) : ¬ (0 : Int) ≤ findI p l := by rw [findI_none h]; decide
theorem findI_pos {p l : List UInt8} {x : List UInt8 × List UInt8} (h : cutAt p l = some x) : (0 : Int) ≤ findI p l := by unfold findI; rw [h]; simp
end T
theorem name_none {s : ByteArray} (h : T.nameAt s.data.toList = none) : G.nmA s = ByteArray.empty ∧ G.nmB s = ByteArray.empty ∧ G.nmE s = 51 := by
  unfold T.nameAt at h
  split at h
  · rename_i h0; exact G.nm_none h0
  · cases h
theorem name_some {s : ByteArray} {n r : List UInt8} (h : T.nameAt s.data.toList = some (n, r)) : ∃ a b : ByteArray, G.nmA s = a ∧ G.nmB s = b ∧ G.nmE s = 0 ∧ a.data.toList = n ∧ b.data.toList = r ∧ b.size < s.size ∧ a.size ≤ s.size := by
  have hlt := T.nameAt_le h
  unfold T.nameAt at h
  split at h
  · cases h
  · rename_i h0
    obtain ⟨e1, e2, e3⟩ := G.nm_some (s := s) rfl h0
    cases h
    refine ⟨_, _, e1, e2, e3, by rw [take_list], by rw [drop_list], ?_, by simp; exact Nat.min_le_right _ _⟩
    have := hlt
    rw [← drop_list, list_len, list_len] at this
    exact this

set_option maxRecDepth 100000 in
set_option maxHeartbeats 1600000 in
theorem refComment_any (s : ByteArray) (w : World) (hs : s.size ≤ 1000000) :
    Calls Tryz.prog 70 #[.string s] w fun x w' => x = .returned (partVal (T.comment s.data.toList) (.slice none 0 0)) ∧ Below w.heap.size w w' := by
  go_enter Tryz.func70, Tryz.ntmps70
  have b0 := (Below.refl w.heap.size w).alloc (Nat.le_refl _) (.cells (partCells 0 ⟨#[]⟩ (.slice none 0 0) false ⟨#[]⟩ ⟨#[]⟩ 0) 70)
  have k0 := Cells.new w 70 (partCells 0 ⟨#[]⟩ (.slice none 0 0) false ⟨#[]⟩ ⟨#[]⟩ 0)
  go_wp2_with fail
  (with_reducible refine (refFind_any s ⟨#[45, 45]⟩ _ hs (by decide) (by decide)).mono ?_); rintro e w1 ⟨rfl, rfl⟩
  cases hc : T.cutAt [45, 45] s.data.toList with
  | none =>
    have hg : T.comment s.data.toList = .error 70 := by unfold T.comment; rw [hc]
    rw [T.findI_none hc]
    replace hg := Lib.hid hg
    clear hc
    go_wp2_with fail
    (with_reducible refine (refFailed_any 70 _).mono ?_); rintro e wF ⟨rfl, bF⟩
    have kF := k0.on bF
    have cF := b0.trans (bF.mono b0.size)
    obtain ⟨q0, q1, q2, q3, q4, q5, q6⟩ := part_open kF
    obtain ⟨f0, f1, f2, f3, f4, f5, f6⟩ := part_free kF
    replace kF := Lib.hid kF
    unfold partAgg partCells
    go_wp2_with fail
    exact part_end (rb := w.heap.size) rfl rfl (part_set kF.out) ⟨by rw [partVal_err _ hg.out]; rfl, part_below cF (Nat.le_refl _) _ _ _ _ _ _ _⟩
  | some x =>
    obtain ⟨a, r⟩ := x
    obtain ⟨ea, er, hle⟩ := cut_bytes hc
    have hdr : (s.extract a.length s.size).data.toList = [45, 45] ++ r := by
      rw [drop_list, T.cutAt_eq hc, List.append_assoc, List.drop_left]
    rw [T.findI_some hc]
    have hg1 : ∀ r2, r = 62 :: r2 → Hid (T.comment s.data.toList = .ok (⟨3, [], [], false, a⟩, r2)) := fun r2 h => Lib.hid (by unfold T.comment; rw [hc, h]; first | done | rfl)
    have hg2 : (∀ r2, r ≠ 62 :: r2) → Hid (T.comment s.data.toList = .error 70) := fun h => Lib.hid (by
      unfold T.comment; rw [hc]
      split
      · rename_i e; cases e; exact absurd rfl (h _)
      · rfl)
    have hbeg : T.begins [45, 45, 62] ([45, 45] ++ r) = true ↔ ∃ r2, r = 62 :: r2 := by
      rw [T.begins_iff]
      constructor
      · rintro ⟨t, ht⟩; exact ⟨t, by simpa using ht.symm⟩
      · rintro ⟨t, rfl⟩; exact ⟨t, rfl⟩
    have hsz : a.length + 2 ≤ s.size := hle
    have hd3 : ∀ r2, r = 62 :: r2 → Hid ((s.extract (a.length + 3) s.size).data.toList = r2) ∧ a.length + 3 ≤ s.size := fun r2 h => by
      have e3 := congrArg (List.drop 3) hdr
      have l3 := congrArg List.length hdr
      rw [h] at e3 l3
      rw [drop_list, List.drop_drop] at e3
      rw [list_len, ByteArray.size_extract] at l3
      simp only [List.length_append, List.length_cons, List.length_nil] at l3
      exact ⟨Lib.hid (by rw [drop_list, e3]; rfl), by omega⟩
    clear hc er
    generalize a.length = j at *
    replace ea := Lib.hid ea
    have hj0 : (0 : Int) ≤ (j : Int) := by omega
    have hj1 : (j : Int) ≤ (s.size : Int) := by omega
    have hu : (s.extract j s.size).size ≤ maxLen := by unfold maxLen; simp; omega
    replace hdr := Lib.hid hdr
    go_wp2_with fail
    (with_reducible refine (refBegins_any (s.extract j s.size) ⟨#[45, 45, 62]⟩ _ hu (by decide)).mono ?_); rintro e w2 ⟨rfl, rfl⟩
    rw [hdr.out]
    simp only []
    cases hb : T.begins [45, 45, 62] ([45, 45] ++ r) with
    | false =>
      have hg := hg2 (fun r2 h => by rw [hbeg.2 ⟨r2, h⟩] at hb; cases hb)
      clear hg1 hg2 hbeg hd3 hdr hb
      go_wp2_with fail
      (with_reducible refine (refFailed_any 70 _).mono ?_); rintro e wF ⟨rfl, bF⟩
      have kF := k0.on bF
      have cF := b0.trans (bF.mono b0.size)
      obtain ⟨q0, q1, q2, q3, q4, q5, q6⟩ := part_open kF
      obtain ⟨f0, f1, f2, f3, f4, f5, f6⟩ := part_free kF
      replace kF := Lib.hid kF
      unfold partAgg partCells
      go_wp2_with fail
      exact part_end (rb := w.heap.size) rfl rfl (part_set kF.out) ⟨by rw [partVal_err _ hg.out]; rfl, part_below cF (Nat.le_refl _) _ _ _ _ _ _ _⟩
    | true =>
      obtain ⟨r2, h2⟩ := hbeg.1 hb
      have hg := hg1 r2 h2
      obtain ⟨er, hj2⟩ := hd3 r2 h2
      clear hg1 hg2 hbeg hd3 hdr hb h2
      have hj3 : (j : Int) + 3 ≤ (s.size : Int) := by omega
      obtain ⟨q0, q1, q2, q3, q4, q5, q6⟩ := part_open k0
      obtain ⟨f0, f1, f2, f3, f4, f5, f6⟩ := part_free k0
      replace k0 := Lib.hid k0
      go_wp2_with fail
      go_region
      go_wp2_with fail
      exact part_end (rb := w.heap.size) rfl rfl (Cells.new w _ (partCells 3 ⟨#[]⟩ (.slice none 0 0) false (s.extract 0 j) (s.extract (j + 3) s.size) 0)) ⟨congrArg Ending.returned (partVal_ok _ hg.out rfl rfl rfl ea.out er.out), ((Below.refl _ _).alloc (Nat.le_refl _) _).drew⟩

set_option maxRecDepth 100000 in
set_option maxHeartbeats 1600000 in
theorem refShut_any (s : ByteArray) (w : World) (hs : s.size ≤ 1000000) :
    Calls Tryz.prog 74 #[.string s] w fun x w' => x = .returned (partVal (T.shut s.data.toList) (.slice none 0 0)) ∧ Below w.heap.size w w' := by
  go_enter Tryz.func74, Tryz.ntmps74
  have b0 := (Below.refl w.heap.size w).alloc (Nat.le_refl _) (.cells (partCells 0 ⟨#[]⟩ (.slice none 0 0) false ⟨#[]⟩ ⟨#[]⟩ 0) 70)
  have k0 := Cells.new w 70 (partCells 0 ⟨#[]⟩ (.slice none 0 0) false ⟨#[]⟩ ⟨#[]⟩ 0)
  go_wp2_with fail
  (with_reducible refine (refName_any s _ (by unfold maxLen; omega)).mono ?_); rintro e w1 ⟨rfl, b1⟩
  have k1 := k0.on b1
  have c1 := b0.trans (b1.mono b0.size)
  clear k0 b0 b1
  cases hn : T.nameAt s.data.toList with
  | none =>
    have hg := Lib.hid (show T.shut s.data.toList = .error 70 by unfold T.shut; rw [hn])
    obtain ⟨e1, e2, e3⟩ := name_none hn
    rw [e1, e2, e3]
    clear e1 e2 e3 hn
    go_wp2_with fail
    (with_reducible refine (refFailed_any 70 _).mono ?_); rintro e wF ⟨rfl, bF⟩
    have kF := k1.on bF
    have cF := c1.trans (bF.mono c1.size)
    obtain ⟨q0, q1, q2, q3, q4, q5, q6⟩ := part_open kF
    obtain ⟨f0, f1, f2, f3, f4, f5, f6⟩ := part_free kF
    replace kF := Lib.hid kF
    unfold partAgg partCells
    go_wp2_with fail
    exact part_end (rb := w.heap.size) rfl rfl (part_set kF.out) ⟨by rw [partVal_err _ hg.out]; rfl, part_below cF (Nat.le_refl _) _ _ _ _ _ _ _⟩
  | some x =>
    obtain ⟨n, r⟩ := x
    obtain ⟨a, b, e1, e2, e3, ea, eb, hlt, hle⟩ := name_some hn
    rw [e1, e2, e3]
    clear e1 e2 e3
    have hsk := Rt.skB_size b
    have hsl := Rt.skB_list b
    rw [eb] at hsl
    have hS : T.shut s.data.toList = match T.skip r with | 62 :: r => .ok (⟨1, n, [], false, []⟩, r) | _ => .error 70 := by unfold T.shut; rw [hn]; first | done | rfl
    generalize hu : Rt.skB b = u at *
    replace hu := Lib.hid hu
    replace ea := Lib.hid ea
    replace hsl := Lib.hid hsl
    replace hS := Lib.hid hS
    clear hn eb
    go_wp2_with fail
    (with_reducible refine (refSkip5_any b _ (by unfold maxLen; omega)).mono ?_); rintro e w2 ⟨rfl, rfl⟩
    rw [hu.out]
    go_wp2_with fail
    (with_reducible refine (refBegins_any u ⟨#[62]⟩ _ (by unfold maxLen; omega) (by decide)).mono ?_); rintro e w2 ⟨rfl, rfl⟩
    rw [hsl.out]
    simp only []
    cases hb : T.begins [62] (T.skip r) with
    | false =>
      have hg := Lib.hid (hS.out.trans (show _ = Except.error 70 by
        split
        · rename_i e; rw [e] at hb; cases hb
        · rfl))
      clear hS hb hsl
      go_wp2_with fail
      (with_reducible refine (refFailed_any 70 _).mono ?_); rintro e wF ⟨rfl, bF⟩
      have kF := k1.on bF
      have cF := c1.trans (bF.mono c1.size)
      obtain ⟨q0, q1, q2, q3, q4, q5, q6⟩ := part_open kF
      obtain ⟨f0, f1, f2, f3, f4, f5, f6⟩ := part_free kF
      replace kF := Lib.hid kF
      unfold partAgg partCells
      go_wp2_with fail
      exact part_end (rb := w.heap.size) rfl rfl (part_set kF.out) ⟨by rw [partVal_err _ hg.out]; rfl, part_below cF (Nat.le_refl _) _ _ _ _ _ _ _⟩
    | true =>
      obtain ⟨t, ht⟩ := T.begins_iff.1 hb
      have hg := hS.out
      rw [← ht] at hg
      replace hg := Lib.hid hg
      have hu1 : 1 ≤ u.size := by
        have := congrArg List.length hsl.out
        rw [list_len, ← ht] at this
        simp at this; omega
      have er := Lib.hid (show (u.extract 1 u.size).data.toList = t by rw [drop_list, hsl.out, ← ht]; rfl)
      clear hS hb hsl ht
      obtain ⟨q0, q1, q2, q3, q4, q5, q6⟩ := part_open k1
      obtain ⟨f0, f1, f2, f3, f4, f5, f6⟩ := part_free k1
      replace k1 := Lib.hid k1
      go_wp2_with fail
      exact part_end (rb := w.heap.size) rfl rfl (part_set k1.out) ⟨congrArg Ending.returned (partVal_ok _ hg.out rfl ea.out rfl rfl er.out), part_below c1 (Nat.le_refl _) _ _ _ _ _ _ _⟩

end Go.Proofs.YtegaidfmkfnbnaaGreatDoor
