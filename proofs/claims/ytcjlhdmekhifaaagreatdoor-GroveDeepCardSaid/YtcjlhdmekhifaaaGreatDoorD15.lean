/-
  What the program's words of code points come to: contracts of isWithin, Char, Start, Part.
  strings.ReplaceAll and strings.Contains of the library's own words, step by step: what stands at the head is replaced, or goes on; and plain lines as two replacings.
  The longest head of a text by two rules, and what a code point in place of a byte that is none looks like: in plain Lean.
-/
import Derived.Test.YtcjlhdmekhifaaaGreatDoorD12
import Derived.Lib.OthersKept
import Derived.Test.YtcjlhdmekhifaaaGreatDoorD01
import Derived.Lib.ReplaceLaws
import Derived.Lib.IndexMore
namespace Go.Proofs.YtcjlhdmekhifaaaGreatDoor
open Go.RowKit

set_option maxRecDepth 100000 in
set_option maxHeartbeats 800000 in
theorem isWithin_any (c : Int) (L : List (Int × Int)) (b n cap : Nat) (w : World) (hL : PairsAt b L w) (hn : L.length ≤ 1000) (hln : L.length = n) :
    Calls Tryz.prog 61 #[.int .i64 c, .slice (some ⟨b, 0, none⟩) n cap] w fun e w' => e = .returned (.bool (G.any c L)) ∧ Below w.heap.size w w' := by
  have hln := Lib.hid hln
  go_enter Tryz.func61, Tryz.ntmps61
  go_wp2_with fail
  go_loopw [9] (fun i wr => ∃ k : Nat, k ≤ n ∧ i = .int .i64 (k : Int) ∧ Hid (G.any c (L.take k) = false) ∧ Below w.heap.size w wr) (fun i _ => n - (intOf i).toNat)
  case atStart => exact ⟨0, Nat.zero_le _, rfl, Lib.hid rfl, Below.refl _ _⟩
  case round =>
    obtain ⟨k, hk, rfl, hall, bw⟩ := hrel
    by_cases hlt : k < n
    · obtain ⟨c0, c1⟩ := hL k (by rw [hln.out]; exact hlt)
      have d0 := (bw.cell (World.block_lt_of_cell? w _ c0)).trans c0
      have d1 := (bw.cell (World.block_lt_of_cell? w _ c1)).trans c1
      have hkl : k < L.length := by rw [hln.out]; exact hlt
      have hst := Lib.hid (G.any_take c L k hkl)
      have hat := Lib.hid (G.any_at c L k hkl)
      generalize L[k].1 = x at c0 d0 hst hat
      generalize L[k].2 = y at c1 d1 hst hat
      rw [Nat.mul_comm] at d0 d1
      clear c0 c1 hL
      by_cases hx : x ≤ c
      · by_cases hy : c ≤ y
        · have hr := Lib.hid (hat.out (by simp [G.inR, hx, hy]))
          go_wp2
          go_ret
          exact ⟨ret_bool hr.out.symm, bw.alloc bw.size _⟩
        · have hr := Lib.hid (show G.any c (L.take (k + 1)) = false by rw [hst.out, hall.out]; simp [G.inR, hx, hy])
          go_wp2
          go_roundw
          case rel => exact ⟨k + 1, by omega, by go_num, hr, bw.alloc bw.size _⟩
          case measure => simp [intOf]; omega
      · have hr := Lib.hid (show G.any c (L.take (k + 1)) = false by rw [hst.out, hall.out]; simp [G.inR, hx])
        go_wp2
        go_roundw
        case rel => exact ⟨k + 1, by omega, by go_num, hr, bw.alloc bw.size _⟩
        case measure => simp [intOf]; omega
    · have hfull : L.take k = L := List.take_of_length_le (by rw [hln.out]; omega)
      rw [hfull] at hall
      clear hfull
      go_wp2
      go_ret
      exact ⟨ret_bool hall.out.symm, bw⟩

set_option maxRecDepth 100000 in
set_option maxHeartbeats 1600000 in
theorem gChar_at (c : Int) (w : World) :
    Calls Tryz.prog 32 #[.int .i64 c] w fun e w' => e = .returned (.bool (G.char c)) ∧ Below w.heap.size w w' := by
  have hm : G.char c = G.any c [(9, 10), (13, 13), (32, 55295), (57344, 65533), (65536, 1114111)] := by simp [G.any, G.char, Bool.or_assoc]
  rw [hm]
  clear hm
  go_enter Tryz.func32, Tryz.ntmps32
  go_wp2_with fail
  (with_reducible refine (isWithin_any c [(9, 10), (13, 13), (32, 55295), (57344, 65533), (65536, 1114111)] w.heap.size 5 _ _ ?_ (by decide) rfl).mono ?_)
  · exact pairsAt_cells (heap_alloc_new w _)
  rintro e w1 ⟨rfl, b1⟩
  have b0 := (Below.refl w.heap.size w).alloc (Nat.le_refl _)
  go_wp2
  go_ret
  exact ⟨rfl, (b0 _).trans (b1.mono (b0 _).size)⟩

set_option maxRecDepth 100000 in
set_option maxHeartbeats 1600000 in
theorem gStart_at (c : Int) (w : World) :
    Calls Tryz.prog 124 #[.int .i64 c] w fun e w' => e = .returned (.bool (G.start c)) ∧ Below w.heap.size w w' := by
  have hm : G.start c = G.any c [(58, 58), (65, 90), (95, 95), (97, 122), (192, 214), (216, 246), (248, 767), (880, 893), (895, 8191), (8204, 8205), (8304, 8591), (11264, 12271), (12289, 55295), (63744, 64975), (65008, 65533), (65536, 983039)] := by simp [G.any, G.start, Bool.or_assoc]
  rw [hm]
  clear hm
  go_enter Tryz.func124, Tryz.ntmps124
  go_wp2_with fail
  (with_reducible refine (isWithin_any c [(58, 58), (65, 90), (95, 95), (97, 122), (192, 214), (216, 246), (248, 767), (880, 893), (895, 8191), (8204, 8205), (8304, 8591), (11264, 12271), (12289, 55295), (63744, 64975), (65008, 65533), (65536, 983039)] w.heap.size 16 _ _ ?_ (by decide) rfl).mono ?_)
  · exact pairsAt_cells (heap_alloc_new w _)
  rintro e w1 ⟨rfl, b1⟩
  have b0 := (Below.refl w.heap.size w).alloc (Nat.le_refl _)
  go_wp2
  go_ret
  exact ⟨rfl, (b0 _).trans (b1.mono (b0 _).size)⟩

set_option maxRecDepth 100000 in
set_option maxHeartbeats 1600000 in
theorem gPart_at (c : Int) (w : World) :
    Calls Tryz.prog 125 #[.int .i64 c] w fun e w' => e = .returned (.bool (G.part c)) ∧ Below w.heap.size w w' := by
  have hm : G.part c = (G.start c || G.any c [(45, 46), (48, 57), (183, 183), (768, 879), (8255, 8256)]) := by simp [G.any, G.part, Bool.or_assoc]
  rw [hm]
  clear hm
  go_enter Tryz.func125, Tryz.ntmps125
  go_wp2_with fail
  (with_reducible refine (gStart_at c _).mono ?_); rintro e w1 ⟨rfl, b1⟩
  cases hs : G.start c
  · have hs := Lib.hid hs
    go_wp2_with fail
    (with_reducible refine (isWithin_any c [(45, 46), (48, 57), (183, 183), (768, 879), (8255, 8256)] w1.heap.size 5 _ _ ?_ (by decide) rfl).mono ?_)
    · exact pairsAt_cells (heap_alloc_new w1 _)
    rintro e w2 ⟨rfl, b2⟩
    have b3 := b1.alloc b1.size
    go_wp2
    go_ret
    exact ⟨ret_bool (by rw [hs.out]; rfl), (b3 _).trans (b2.mono (b3 _).size)⟩
  · have hs := Lib.hid hs
    go_wp2
    go_ret
    exact ⟨ret_bool (by rw [hs.out]; rfl), b1⟩

end Go.Proofs.YtcjlhdmekhifaaaGreatDoor
namespace Go.Proofs.YtcjlhdmekhifaaaGreatDoor
namespace G
open Lib

theorem ra_def {old new : List UInt8} (hne : (old == new) = false) (s : List UInt8) : replaceAll s old new = replaceK old new (count s old) s := by
  unfold replaceAll replace
  rw [if_neg (by rw [hne]; exact Bool.false_ne_true)]
  unfold replaceNum
  rw [if_pos (by omega)]

theorem ra_nil {old new : List UInt8} (hne : (old == new) = false) (h1 : old ≠ []) : replaceAll [] old new = [] := by
  have hi : index [] old = -1 := by
    unfold index
    rw [if_neg (by simpa using h1)]
  rw [ra_def hne, count_miss hi, replaceK]

theorem ra_head {old new : List UInt8} (hne : (old == new) = false) (h1 : old ≠ []) (t : List UInt8) : replaceAll (old ++ t) old new = new ++ replaceAll t old new := by
  have hi : index (old ++ t) old = ((0 : Nat) : Int) := by
    obtain ⟨b, l, e⟩ : ∃ b l, old ++ t = b :: l := by
      cases old with
      | nil => exact absurd rfl h1
      | cons b l => exact ⟨b, l ++ t, rfl⟩
    rw [e]
    unfold index
    rw [if_pos (by rw [← e]; simp)]
    rfl
  rw [ra_def hne, ra_def hne, count_hit h1 hi, Nat.add_comm 1, replaceK_hit old new _ _ 0 hi]
  simp

theorem ra_past {old new : List UInt8} (hne : (old == new) = false) (h1 : old ≠ []) (b : UInt8) (t : List UInt8) (hp : old.isPrefixOf (b :: t) = false) : replaceAll (b :: t) old new = b :: replaceAll t old new := by
  have he : index (b :: t) old = if index t old == -1 then -1 else index t old + 1 := by
    conv => lhs; unfold index
    rw [if_neg (by rw [hp]; exact Bool.false_ne_true)]
  rw [ra_def hne, ra_def hne]
  by_cases hm : index t old = -1
  · rw [hm] at he
    rw [count_miss hm, count_miss (show index (b :: t) old = -1 by rw [he]; rfl)]
    rfl
  · have hge := index_ge t old
    obtain ⟨i, hi⟩ : ∃ i : Nat, index t old = i := ⟨(index t old).toNat, by omega⟩
    have hi2 : index (b :: t) old = ((i + 1 : Nat) : Int) := by
      rw [he, if_neg (by rw [beq_iff_eq]; exact hm), hi]
      rfl
    rw [count_hit h1 hi, count_hit h1 hi2, show i + 1 + old.length = (i + old.length) + 1 by omega, List.drop_succ_cons, Nat.add_comm 1, replaceK_hit old new _ _ i hi, replaceK_hit old new _ _ (i + 1) hi2,
      show i + 1 + old.length = (i + old.length) + 1 by omega, List.drop_succ_cons, List.take_succ_cons]
    rfl

/-- Pairs of 13 and 10 made 10. -/
def pairs (l : List UInt8) : List UInt8 := replaceAll l [13, 10] [10]

theorem pairs_cons (b : UInt8) (t : List UInt8) (h : ¬ (b = 13 ∧ t.head? = some 10)) : pairs (b :: t) = b :: pairs t := by
  unfold pairs
  refine ra_past (by decide) (by decide) b t ?_
  cases t with
  | nil => exact Bool.and_false _
  | cons c t =>
    simp only [List.isPrefixOf, Bool.and_true, Bool.and_eq_false_iff, beq_eq_false_iff_ne]
    by_cases hb : b = 13
    · right; intro hc; exact h ⟨hb, by rw [← hc]; rfl⟩
    · left; intro e; exact hb e.symm

theorem pairs_head (t : List UInt8) : pairs (13 :: 10 :: t) = 10 :: pairs t := ra_head (old := [13, 10]) (new := [10]) (by decide) (by decide) t

theorem ones_cons (b : UInt8) (t : List UInt8) (h : b ≠ 13) : replaceAll (b :: t) [13] [10] = b :: replaceAll t [13] [10] := by
  refine ra_past (by decide) (by decide) b t ?_
  simp only [List.isPrefixOf, Bool.and_true, beq_eq_false_iff_ne]
  exact fun e => h e.symm

theorem ones_head (t : List UInt8) : replaceAll (13 :: t) [13] [10] = 10 :: replaceAll t [13] [10] := ra_head (old := [13]) (new := [10]) (by decide) (by decide) t

theorem lines_replaced (l : List UInt8) : replaceAll (replaceAll l [13, 10] [10]) [13] [10] = lines l := by
  show replaceAll (pairs l) [13] [10] = lines l
  induction l using lines_induct with
  | nil =>
    show replaceAll (replaceAll [] [13, 10] [10]) [13] [10] = _
    rw [ra_nil (by decide) (by decide), ra_nil (by decide) (by decide)]; rfl
  | plain b t hb ih => rw [lines_cons b t hb, pairs_cons b t (fun e => hb e.1), ones_cons b _ hb, ih]
  | cr t ht ih => rw [lines_cr t ht, pairs_cons 13 t (fun e => ht e.2), ones_head, ih]
  | crlf t ih => rw [lines_crlf, pairs_head, ones_cons 10 _ (by decide), ih]

theorem pairs_length (l : List UInt8) : (replaceAll l [13, 10] [10]).length ≤ l.length := by
  show (pairs l).length ≤ l.length
  induction l using lines_induct with
  | nil =>
    show (replaceAll [] [13, 10] [10]).length ≤ _
    rw [ra_nil (by decide) (by decide)]; exact Nat.le_refl _
  | plain b t hb ih => rw [pairs_cons b t (fun e => hb e.1)]; simp; exact ih
  | cr t ht ih => rw [pairs_cons 13 t (fun e => ht e.2)]; simp; exact ih
  | crlf t ih => rw [pairs_head]; simp; omega

theorem contains_one (l : List UInt8) (c : UInt8) : contains l [c] = l.any (fun b => decide (b = c)) := by
  unfold contains
  induction l with
  | nil => rfl
  | cons b t ih =>
    unfold index
    rw [List.any_cons, ← ih]
    by_cases hb : b = c
    · subst hb
      rw [if_pos (by simp)]; simp
    · rw [if_neg (by simp; exact fun e => hb e.symm), decide_eq_false hb, Bool.false_or]
      have hge := index_ge t [c]
      by_cases hm : index t [c] = -1
      · rw [hm]; rfl
      · rw [if_neg (by rw [beq_iff_eq]; exact hm)]
        simp only [decide_eq_decide]; omega

theorem contains_all (l : List UInt8) : (!contains l [58]) = l.all (fun b => decide (b ≠ 58)) := by
  rw [contains_one, List.all_eq_not_any_not]
  congr 2
  funext b
  simp
end G
end Go.Proofs.YtcjlhdmekhifaaaGreatDoor
namespace Go.Proofs.YtcjlhdmekhifaaaGreatDoor
namespace G
open Lib

/-- the head: the first code point by one rule, those behind it by another. -/
def hd (p q : Int → Bool) (l : List UInt8) : Nat := if (first l).2 ≠ 0 ∧ p (first l).1 = true then (first l).2 + span q (l.drop (first l).2) else 0

theorem hd_name (l : List UInt8) : hd start part l = name l := rfl
theorem hd_span (p : Int → Bool) (l : List UInt8) : hd p p l = span p l := by
  unfold hd
  split
  · rename_i h; rw [span_step p l h.1 h.2]
  · rename_i h
    refine (span_stop p l ?_).symm
    by_cases h0 : (first l).2 = 0
    · exact .inl h0
    · right
      cases hp : p (first l).1 with
      | false => rfl
      | true => exact absurd ⟨h0, hp⟩ h
/-- how far a head is known: at pos 0 nothing yet. -/
def rest (p q : Int → Bool) (pos : Nat) (l : List UInt8) : Nat := if pos = 0 then hd p q l else span q l
theorem rest_stop (p q : Int → Bool) (pos : Nat) (l : List UInt8) (h0 : pos = 0 → (first l).2 = 0 ∨ p (first l).1 = false) (h1 : pos ≠ 0 → (first l).2 = 0 ∨ q (first l).1 = false) : rest p q pos l = 0 := by
  unfold rest
  split
  · rename_i h
    unfold hd
    rw [if_neg]
    rintro ⟨a, b⟩
    rcases h0 h with h | h
    · exact a h
    · rw [h] at b; cases b
  · rename_i h; exact span_stop q l (h1 h)
theorem rest_step (p q : Int → Bool) (pos : Nat) (l : List UInt8) (hf : (first l).2 ≠ 0) (h0 : pos = 0 → p (first l).1 = true) (h1 : pos ≠ 0 → q (first l).1 = true) :
    rest p q pos l = (first l).2 + rest p q (pos + (first l).2) (l.drop (first l).2) := by
  have e : rest p q (pos + (first l).2) (l.drop (first l).2) = span q (l.drop (first l).2) := by
    unfold rest; rw [if_neg (by omega)]
  rw [e]
  unfold rest
  split
  · rename_i h
    unfold hd
    rw [if_pos ⟨hf, h0 h⟩]
  · rename_i h; exact span_step q l hf (h1 h)

/-- A byte that is no code point looks like 65533, and is not told so. -/
theorem bad_iff (l : List UInt8) (hl : l ≠ []) (h : (decodeL l).1 = 65533) : (!hasPrefix l [239, 191, 189]) = decide ((decodeL l).2 = 1) := by
  have hN := decodeL_N l
  rw [Bool.eq_iff_iff, Bool.not_eq_true', decide_eq_true_eq]
  match l, hl with
  | [a], _ =>
    constructor
    · intro _
      have := decodeL_width [a]
      have h2 := decodeL_le [a] (by simp)
      simp at h2; omega
    · intro _; simp [hasPrefix, List.isPrefixOf]
  | [a, b], _ =>
    have ha := a.toNat_lt
    have hb := b.toNat_lt
    simp only [List.length_cons, List.length_nil, List.getD_cons_zero, List.getD_cons_succ, List.getD_nil] at hN
    constructor
    · intro _
      rw [hN] at h ⊢
      unfold decodeN at h ⊢
      split at h
      · simp at h; omega
      · rename_i h1
        rw [if_neg h1]
        split at h
        · rename_i h2
          rw [if_pos h2]
          split at h
          · simp at h; omega
          · rename_i h3; rw [if_neg h3]
        · rename_i h2
          rw [if_neg h2, if_neg (by omega), if_neg (by omega)]
    · intro _; simp [hasPrefix, List.isPrefixOf]
  | a :: b :: c :: t, _ =>
    have ha := a.toNat_lt
    have hb := b.toNat_lt
    have hc := c.toNat_lt
    have e0 : (a :: b :: c :: t).getD 0 0 = a := rfl
    have e1 : (a :: b :: c :: t).getD 1 0 = b := rfl
    have e2 : (a :: b :: c :: t).getD 2 0 = c := rfl
    have hd' := ((a :: b :: c :: t).getD 3 0).toNat_lt
    rw [e0, e1, e2] at hN
    generalize ((a :: b :: c :: t).getD 3 0).toNat = b3 at *
    have hlen : 3 ≤ (a :: b :: c :: t).length := by simp
    generalize (a :: b :: c :: t).length = n at *
    have hpre : hasPrefix (a :: b :: c :: t) [239, 191, 189] = decide (a.toNat = 239 ∧ b.toNat = 191 ∧ c.toNat = 189) := by
      rw [Bool.eq_iff_iff, decide_eq_true_eq]
      simp only [hasPrefix, List.isPrefixOf, Bool.and_true, Bool.and_eq_true, beq_iff_eq]
      constructor
      · rintro ⟨rfl, rfl, rfl⟩; exact ⟨rfl, rfl, rfl⟩
      · rintro ⟨x, y, z⟩; exact ⟨(UInt8.toNat_inj.1 x).symm, (UInt8.toNat_inj.1 y).symm, (UInt8.toNat_inj.1 z).symm⟩
    rw [hpre, decide_eq_false_iff_not]
    rw [hN] at h ⊢
    generalize a.toNat = x at *
    generalize b.toNat = y at *
    generalize c.toNat = z at *
    clear hpre hN e0 e1 e2
    unfold decodeN at h ⊢
    split at h
    · simp at h; omega
    · rename_i h1
      rw [if_neg h1]
      split at h
      · rename_i h2
        rw [if_pos h2]
        split at h
        · simp at h; omega
        · rename_i h3; rw [if_neg h3]; simp; omega
      · rename_i h2
        rw [if_neg h2]
        split at h
        · rename_i h3
          rw [if_pos h3]
          split at h
          · rename_i h4
            rw [if_pos h4]
            simp at h ⊢; omega
          · rename_i h4; rw [if_neg h4]; simp; omega
        · rename_i h3
          rw [if_neg h3]
          split at h
          · rename_i h4
            rw [if_pos h4]
            split at h
            · rename_i h5; simp at h; omega
            · rename_i h5; rw [if_neg h5]; simp; omega
          · rename_i h4; rw [if_neg h4]; simp; omega
end G
end Go.Proofs.YtcjlhdmekhifaaaGreatDoor
