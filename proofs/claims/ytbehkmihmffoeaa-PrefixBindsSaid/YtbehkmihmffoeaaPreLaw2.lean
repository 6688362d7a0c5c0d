/-
  The statements' walks: PrefixKeeps.
-/
import Derived.Test.YtbehkmihmffoeaaPreLaw
import Derived.Laws.AppendOwnNone
namespace Go.Proofs.Ytbehkmihmffoeaa
open Go.RowKit

theorem flat_len (l : List Pair) : (l.flatMap pairCells).length = l.length * 2 := by
  induction l with
  | nil => rfl
  | cons a l ih => rw [List.flatMap_cons, List.length_append, ih]; simp [pairCells]; omega

theorem pairs_cells {w : World} {ad : Addr} {l : List Pair} (h : PairsIn w (some ad) l) : ∀ j u, (l.flatMap pairCells)[j]? = some u → w.cell? (ad.add j) = some u := by
  intro j u hu
  have hj : j < (l.flatMap pairCells).length := (List.getElem?_eq_some_iff.1 hu).1
  rw [flat_len] at hj
  obtain ⟨b, off, e, c0, c1⟩ := h (j / 2) (by omega)
  cases e
  have a : (⟨b, off, none⟩ : Addr).add j = ⟨b, off + j, none⟩ := by unfold Addr.add; split <;> simp_all
  rw [a]
  have hm : j % 2 = 0 ∨ j % 2 = 1 := by omega
  rcases hm with hm | hm
  · have e2 : j = j / 2 * 2 + 0 := by omega
    rw [e2, cells_of_pairs l (j / 2) 0 (by omega) (by decide)] at hu
    have : u = .string l[j / 2].name := by simpa [pairCells] using hu.symm
    rw [this, ← c0]
    congr 2
    omega
  · have e2 : j = j / 2 * 2 + 1 := by omega
    rw [e2, cells_of_pairs l (j / 2) 1 (by omega) (by decide)] at hu
    have : u = .string l[j / 2].value := by simpa [pairCells] using hu.symm
    rw [this, ← c1]
    congr 2
    omega

theorem one_cells (l : List Pair) : ∀ u ∈ l.flatMap pairCells, u.oneCell' = true := by
  intro u hu
  obtain ⟨a, _, ha⟩ := List.mem_flatMap.1 hu
  simp [pairCells] at ha
  rcases ha with rfl | rfl <;> rfl

theorem pairsIn_nil (w : World) (ao : Option Addr) : PairsIn w ao [] := fun j hj => (by simp at hj)
theorem app_len {A B : List Pair} {n m : Nat} (h : A.length ≤ n) (h2 : B.length ≤ m) : (A ++ B).length ≤ n + m := by rw [List.length_append]; omega

namespace P
theorem re_more (scope more : List Pair) (s : ByteArray) (attr : Bool) {p n : ByteArray} (hs : split s = some (p, n)) :
    reA (scope ++ more.filter (fun x => decide (x.name ≠ p))) s attr = reA scope s attr ∧ reB (scope ++ more.filter (fun x => decide (x.name ≠ p))) s attr = reB scope s attr ∧ reE (scope ++ more.filter (fun x => decide (x.name ≠ p))) s attr = reE scope s attr := by
  unfold reA reB reE
  rw [resolve_more scope more s attr hs]
  exact ⟨rfl, rfl, rfl⟩
theorem filter_take (p : ByteArray) (l : List Pair) (k : Nat) (h : k < l.length) : (l.take (k + 1)).filter (fun x => decide (x.name ≠ p)) = (l.take k).filter (fun x => decide (x.name ≠ p)) ++ (if l[k].name = p then [] else [l[k]]) := by
  rw [List.take_succ_eq_append_getElem h, List.filter_append]
  congr 1
  by_cases e : l[k].name = p <;> simp [e]
end P

set_option maxRecDepth 100000 in
set_option maxHeartbeats 6400000 in
theorem keeps_any {ao bo : Option Addr} {ca cb n m : Nat} (l more : List Pair) (s : ByteArray) (attr : Bool) (w : World) (hl : PairsIn w ao l) (hn : l.length = n) (hnm : n ≤ maxLen) (hcap : ao = none → ca = 0 ∧ n = 0) (hm : PairsIn w bo more) (hmm : more.length = m) (hml : m ≤ maxLen) (hs : s.size ≤ maxLen) (hE : Env w) :
    Calls Try.prog 5 #[.slice ao n ca, .slice bo m cb, .string s, .bool attr] w fun e w' => e = .returned (.bool true) ∧ Below w.heap.size w w' := by
  have hsm : s.size ≤ 9223372036854775807 := hs
  have hnm2 : n ≤ 9223372036854775807 := hnm
  have hml2 : m ≤ 9223372036854775807 := hml
  obtain ⟨i0, hi, hz0, hz1, hz2⟩ := info_parts infoPair
  replace hn := Lib.hid hn
  replace hmm := Lib.hid hmm
  go_enter Try.func5, Try.ntmps5
  go_wp2_with fail
  (with_reducible refine (awake_any _ hE).mono ?_); rintro e w1 ⟨rfl, t1⟩
  by_cases hb1 : 100 < n
  · clear hl hm hcap
    go_wp2
    go_ret
    exact ⟨rfl, t1⟩
  by_cases hb2 : 100 < m
  · clear hl hm hcap
    go_wp2
    go_ret
    exact ⟨rfl, t1⟩
  by_cases hb3 : 300 < s.size
  · clear hl hm hcap
    go_wp2
    go_ret
    exact ⟨rfl, t1⟩
  have hsz : s.size ≤ 1000000 := by omega
  go_wp2_with fail
  (with_reducible refine (pSplit_any s _ hsz (hE.on t1)).mono ?_); rintro e w2 ⟨rfl, b2⟩
  have t2 := t1.trans (b2.mono t1.size)
  cases hsp : P.split s with
  | none =>
    obtain ⟨e1, e2, e3⟩ := P.sp_none hsp
    rw [e1, e2, e3]
    clear e1 e2 e3 hsp hl hm hcap
    go_wp2
    go_ret
    exact ⟨rfl, t2⟩
  | some x =>
    obtain ⟨p, q⟩ := x
    obtain ⟨e1, e2, e3⟩ := P.sp_some hsp
    have hmore := fun mr => P.re_more l mr s attr hsp
    rw [e1, e2, e3]
    clear e1 e2 e3 hsp
    have hmore := Lib.hid (hmore more)
    have l2 := hl.below t2
    have hfl : ∀ k, ((more.take k).filter (fun x => decide (x.name ≠ p))).length ≤ m := fun k => by
      have h1 := List.length_filter_le (fun x : Pair => decide (x.name ≠ p)) (more.take k)
      have h2 := hmm.out
      rw [List.length_take] at h1; omega
    replace hfl := Lib.hid hfl
    cases ao with
    | none =>
      obtain ⟨rfl, rfl⟩ := hcap rfl
      have hl0 : l = [] := List.eq_nil_of_length_eq_zero hn.out
      subst hl0
      clear l2 hcap hl
      go_wp2_with (at_builtin; refine wpList_append_own_none _ rfl _ _ 22 rfl w.heap.size 30 i0 2 Try.underlying22 hi (.slice none 0 0) 0 [] rfl (World.ownsRow_nil _ _ _ _) rfl ?_)
      go_wp2_with fail
      go_loopw [13, 14] (fun v i wr => ∃ k : Nat, k ≤ m ∧ i = .int .i64 (k : Int) ∧ OwnsPairs w.heap.size v (([] : List Pair) ++ (more.take k).filter (fun x => decide (x.name ≠ p))) wr ∧ Below w.heap.size w wr) (fun _ i _ => m - (intOf i).toNat)
      case atStart => exact ⟨0, Nat.zero_le _, rfl, by simpa using pairs_nil w.heap.size w2, t2⟩
      case round =>
        obtain ⟨k, hk, rfl, ho, bw⟩ := hrel
        by_cases hlt : k < m
        · obtain ⟨b, off, rfl, c0, c1⟩ := (hm.below bw) k (by rw [hmm.out]; exact hlt)
          have hft := P.filter_take p more k (by rw [hmm.out]; exact hlt)
          have hlk := hfl.out k
          generalize more[k]'(by rw [hmm.out]; exact hlt) = a at *
          obtain ⟨an, av⟩ := a
          dsimp only at *
          clear hm 
          by_cases hx : an = p
          · rw [if_pos hx, List.append_nil] at hft
            rw [← hft] at ho
            subst hx
            clear hft hmore
            go_wp2
            go_roundw
            case rel => exact ⟨k + 1, by omega, by go_num, ho, bw⟩
            case measure => simp [intOf] <;> omega
          · rw [if_neg hx] at hft
            have q1 := str_differ hx
            have hfth := Lib.hid hft
            generalize hG : (more.take k).filter (fun x => decide (x.name ≠ p)) = Gk at *
            have hGl : (([] : List Pair) ++ Gk).length ≤ 300 := Nat.le_trans (app_len (Nat.zero_le 0 : ([] : List Pair).length ≤ 0) hlk) (by omega)
            clear hft hx hmore hG
            go_wp2_with (at_builtin; refine wpList_append_own _ rfl _ _ 22 rfl w.heap.size 30 i0 _ 2 32 Try.underlying22 hi hz0 hz1 hz2 rfl (by decide) _ _ _ rfl (pairs_alloc ho _) ⟨wr.heap.size, 0, none⟩ 1 1 [.string an, .string av] rfl rfl (cells_two _ _ _ _) (fun u hu => by simp at hu; rcases hu with rfl | rfl <;> rfl) (by unfold maxLen; omega) (by omega) (by have := bw.size; simp; omega) ?_)
            intro v4 w4 hown4 hg4 _
            have hga : wr.grownBy w4 u13.ownBlock := (World.grownBy_alloc wr _ _).trans hg4
            have b4 : Below w.heap.size wr w4 := (Below.refl _ _).grown hga bw.size (fun j e => (World.ownsRow.lt ho j e).1)
            have o4 : OwnsPairs w.heap.size v4 (([] : List Pair) ++ (more.take (k + 1)).filter (fun x => decide (x.name ≠ p))) w4 := by rw [hfth.out, ← List.append_assoc]; unfold OwnsPairs; simpa [pairCells, List.flatMap_append, Nat.add_assoc] using hown4
            clear hown4 hg4 hga ho hfth
            go_wp2_with fail
            go_roundw
            case rel => exact ⟨k + 1, by omega, by go_num, o4, bw.trans b4⟩
            case measure => simp [intOf] <;> omega
        · have hfull : more.take k = more := List.take_of_length_le (by rw [hmm.out]; omega)
          rw [hfull] at ho
          have hlk := hfl.out m
          rw [List.take_of_length_le (by rw [hmm.out]; exact Nat.le_refl _)] at hlk
          clear hfull hm
          have hAl : (([] : List Pair) ++ more.filter (fun x => decide (x.name ≠ p))).length ≤ 1000 := Nat.le_trans (app_len (Nat.zero_le 0 : ([] : List Pair).length ≤ 0) hlk) (by omega)
          generalize hA : ([] : List Pair) ++ more.filter (fun x => decide (x.name ≠ p)) = A at *
          obtain ⟨a5, c5, rfl, p5⟩ := pairs_of_owns ho
          clear ho hlk
          generalize hAn : A.length = nn at *
          have hAn := Lib.hid hAn
          go_wp2_with fail
          (with_reducible refine (pResolve_any ([] : List Pair) s attr _ ((pairsIn_nil _ _)) hn.out (by omega) hsz (hE.on bw)).mono ?_); rintro e w6 ⟨rfl, b6⟩
          have t6 := bw.trans (b6.mono bw.size)
          go_wp2_with fail
          (with_reducible refine (pResolve_any A s attr _ (p5.below b6) hAn.out hAl hsz (hE.on t6)).mono ?_); rintro e w7 ⟨rfl, b7⟩
          have t7 := t6.trans (b7.mono t6.size)
          obtain ⟨r1, r2, r3⟩ := hmore.out
          rw [r1, r2, r3]
          clear r1 r2 r3 hmore p5
          generalize P.reA ([] : List Pair) s attr = y1
          generalize P.reB ([] : List Pair) s attr = y2
          generalize P.reE ([] : List Pair) s attr = y3
          go_wp2
          go_ret
          exact ⟨rfl, t7⟩
    | some ad =>
      have hcl := pairs_cells l2
      go_wp2_with (at_builtin; refine wpList_append_own _ rfl _ _ 22 rfl w.heap.size 30 i0 _ 2 32 Try.underlying22 hi hz0 hz1 hz2 rfl (by decide) (.slice none 0 0) 0 [] rfl (World.ownsRow_nil _ _ _ _) ad n ca (l.flatMap pairCells) rfl (by rw [flat_len, hn.out]) hcl (one_cells l) (by unfold maxLen; omega) (by omega) t2.size ?_)
      intro v3 w3 hown3 hg3 _
      have b3 : Below w.heap.size w2 w3 := (Below.refl _ _).grown hg3 t2.size (fun j e => by cases e)
      have o3 : OwnsPairs w.heap.size v3 l w3 := by unfold OwnsPairs; rw [hn.out]; simpa using hown3
      have t3 := t2.trans b3
      clear hown3 hg3 b3 hcl hcap l2
      go_wp2_with fail
      go_loopw [13, 14] (fun v i wr => ∃ k : Nat, k ≤ m ∧ i = .int .i64 (k : Int) ∧ OwnsPairs w.heap.size v (l ++ (more.take k).filter (fun x => decide (x.name ≠ p))) wr ∧ Below w.heap.size w wr) (fun _ i _ => m - (intOf i).toNat)
      case atStart => exact ⟨0, Nat.zero_le _, rfl, by simpa using o3, t3⟩
      case round =>
        obtain ⟨k, hk, rfl, ho, bw⟩ := hrel
        by_cases hlt : k < m
        · obtain ⟨b, off, rfl, c0, c1⟩ := (hm.below bw) k (by rw [hmm.out]; exact hlt)
          have hft := P.filter_take p more k (by rw [hmm.out]; exact hlt)
          have hlk := hfl.out k
          generalize more[k]'(by rw [hmm.out]; exact hlt) = a at *
          obtain ⟨an, av⟩ := a
          dsimp only at *
          clear hm hl
          by_cases hx : an = p
          · rw [if_pos hx, List.append_nil] at hft
            rw [← hft] at ho
            subst hx
            clear hft hmore
            go_wp2
            go_roundw
            case rel => exact ⟨k + 1, by omega, by go_num, ho, bw⟩
            case measure => simp [intOf] <;> omega
          · rw [if_neg hx] at hft
            have q1 := str_differ hx
            have hfth := Lib.hid hft
            generalize hG : (more.take k).filter (fun x => decide (x.name ≠ p)) = Gk at *
            have hGl : (l ++ Gk).length ≤ 300 := Nat.le_trans (app_len (Nat.le_of_eq hn.out) hlk) (by omega)
            clear hft hx hmore hG
            go_wp2_with (at_builtin; refine wpList_append_own _ rfl _ _ 22 rfl w.heap.size 30 i0 _ 2 32 Try.underlying22 hi hz0 hz1 hz2 rfl (by decide) _ _ _ rfl (pairs_alloc ho _) ⟨wr.heap.size, 0, none⟩ 1 1 [.string an, .string av] rfl rfl (cells_two _ _ _ _) (fun u hu => by simp at hu; rcases hu with rfl | rfl <;> rfl) (by unfold maxLen; omega) (by omega) (by have := bw.size; simp; omega) ?_)
            intro v4 w4 hown4 hg4 _
            have hga : wr.grownBy w4 u13.ownBlock := (World.grownBy_alloc wr _ _).trans hg4
            have b4 : Below w.heap.size wr w4 := (Below.refl _ _).grown hga bw.size (fun j e => (World.ownsRow.lt ho j e).1)
            have o4 : OwnsPairs w.heap.size v4 (l ++ (more.take (k + 1)).filter (fun x => decide (x.name ≠ p))) w4 := by rw [hfth.out, ← List.append_assoc]; unfold OwnsPairs; simpa [pairCells, List.flatMap_append, Nat.add_assoc] using hown4
            clear hown4 hg4 hga ho hfth
            go_wp2_with fail
            go_roundw
            case rel => exact ⟨k + 1, by omega, by go_num, o4, bw.trans b4⟩
            case measure => simp [intOf] <;> omega
        · have hfull : more.take k = more := List.take_of_length_le (by rw [hmm.out]; omega)
          rw [hfull] at ho
          have hlk := hfl.out m
          rw [List.take_of_length_le (by rw [hmm.out]; exact Nat.le_refl _)] at hlk
          clear hfull hm
          have hAl : (l ++ more.filter (fun x => decide (x.name ≠ p))).length ≤ 1000 := Nat.le_trans (app_len (Nat.le_of_eq hn.out) hlk) (by omega)
          generalize hA : l ++ more.filter (fun x => decide (x.name ≠ p)) = A at *
          obtain ⟨a5, c5, rfl, p5⟩ := pairs_of_owns ho
          clear ho hlk
          generalize hAn : A.length = nn at *
          have hAn := Lib.hid hAn
          go_wp2_with fail
          (with_reducible refine (pResolve_any l s attr _ (hl.below bw) hn.out (by omega) hsz (hE.on bw)).mono ?_); rintro e w6 ⟨rfl, b6⟩
          have t6 := bw.trans (b6.mono bw.size)
          clear hl
          go_wp2_with fail
          (with_reducible refine (pResolve_any A s attr _ (p5.below b6) hAn.out hAl hsz (hE.on t6)).mono ?_); rintro e w7 ⟨rfl, b7⟩
          have t7 := t6.trans (b7.mono t6.size)
          obtain ⟨r1, r2, r3⟩ := hmore.out
          rw [r1, r2, r3]
          clear r1 r2 r3 hmore p5
          generalize P.reA l s attr = y1
          generalize P.reB l s attr = y2
          generalize P.reE l s attr = y3
          go_wp2
          go_ret
          exact ⟨rfl, t7⟩
end Go.Proofs.Ytbehkmihmffoeaa
