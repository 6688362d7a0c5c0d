/-
  What the document's own words of prefixes come to: contract of Declare.
-/
import Derived.Test.YtcjlhdmekhifaaaGreatDoorD13
namespace Go.Proofs.YtcjlhdmekhifaaaGreatDoor
open Go.RowKit

namespace P
/-- Declare's answers. -/
def deA (l : List Pair) : List Pair := match declare l with | some x => x.1 | none => []
def deB (l : List Pair) : List Pair := match declare l with | some x => x.2 | none => []
def deE (l : List Pair) : Int := match declare l with | some _ => 0 | none => 80
theorem de_none {l : List Pair} (h : declare l = none) : deA l = [] ∧ deB l = [] ∧ deE l = 80 := by unfold deA deB deE; rw [h]; exact ⟨rfl, rfl, rfl⟩
theorem de_some {l a b : List Pair} (h : declare l = some (a, b)) : deA l = a ∧ deB l = b ∧ deE l = 0 := by unfold deA deB deE; rw [h]; exact ⟨rfl, rfl, rfl⟩

theorem decl_no {l sc re t : List Pair} {a : Pair} (h : declare l = declGo sc re (a :: t)) (hs : split a.name = none) : declare l = none := by
  rw [h]; unfold declGo; rw [hs]
theorem decl_rest {l sc re t : List Pair} {a : Pair} {p n : ByteArray} (h : declare l = declGo sc re (a :: t)) (hs : split a.name = some (p, n)) (hc : p ≠ xmlns ∧ (p ≠ ByteArray.empty ∨ n ≠ xmlns)) : declare l = declGo sc (re ++ [a]) t := by
  rw [h]; conv => lhs; unfold declGo
  rw [hs]; simp only; rw [if_pos hc]
theorem decl_bad {l sc re t : List Pair} {a : Pair} {p n : ByteArray} (h : declare l = declGo sc re (a :: t)) (hs : split a.name = some (p, n)) (hc : ¬ (p ≠ xmlns ∧ (p ≠ ByteArray.empty ∨ n ≠ xmlns))) (hb : bound (key p n) a.value = false) : declare l = none := by
  rw [h]; unfold declGo; rw [hs]; simp only; rw [if_neg hc, hb]; rfl
theorem decl_scope {l sc re t : List Pair} {a : Pair} {p n : ByteArray} (h : declare l = declGo sc re (a :: t)) (hs : split a.name = some (p, n)) (hc : ¬ (p ≠ xmlns ∧ (p ≠ ByteArray.empty ∨ n ≠ xmlns))) (hb : bound (key p n) a.value = true) :
    declare l = declGo (sc ++ [⟨key p n, a.value⟩]) re t := by
  rw [h]; conv => lhs; unfold declGo
  rw [hs]; simp only; rw [if_neg hc, hb]; rfl
end P

theorem Apart.symm {v u : Value} (h : Apart v u) : Apart u v := by
  rcases h with h | h | h
  · exact .inr (.inl h)
  · exact .inl h
  · exact .inr (.inr (Ne.symm h))

/-- Behind an append to the one row the other one stands, and they are apart. -/
theorem beside {B N : Nat} {v u v' : Value} {l : List Pair} {w w' : World} (h : OwnsPairs B u l w) (ha : Apart v u) (hg : w.grownBy w' v.ownBlock) (hat : v'.ownBlock = v.ownBlock ∨ v'.ownBlock = some N) (hN : w.heap.size ≤ N) :
    OwnsPairs B u l w' ∧ Apart v' u := by
  have hlt := fun j e => (World.ownsRow.lt h j e).2
  refine ⟨World.ownsRow.kept h hg ?_, ?_⟩
  · rcases ha with ha | ha | ha
    · rw [ha]
      cases hu : u.ownBlock with
      | none => exact .inl rfl
      | some g => exact .inr (by simp)
    · exact .inl ha
    · exact .inr (Ne.symm ha)
  · rcases hat with e | e
    · unfold Apart; rw [e]; exact ha
    · unfold Apart
      cases hu : u.ownBlock with
      | none => exact .inr (.inl rfl)
      | some g =>
        have := hlt g hu
        exact .inr (.inr (by rw [e]; simp; omega))

set_option maxRecDepth 100000 in
set_option maxHeartbeats 6400000 in
theorem refDeclare_any {ao : Option Addr} {cap n : Nat} (l : List Pair) (w : World) (hl : PairsIn w ao l) (hn : l.length = n) (hnl : n ≤ 1000000) (hz : ∀ a ∈ l, a.name.size ≤ maxLen) :
    Calls Tryz.prog 58 #[.slice ao n cap] w fun e w' => ∃ v1 v2, e = .returned (.tuple #[v1, v2, .int .i64 (P.deE l)]) ∧ OwnsPairs w.heap.size v1 (P.deA l) w' ∧ OwnsPairs w.heap.size v2 (P.deB l) w' ∧ Below w.heap.size w w' := by
  obtain ⟨i0, hi, hz0, hz1, hz2⟩ := info_parts infoPair
  have hn := Lib.hid hn
  go_enter Tryz.func58, Tryz.ntmps58
  go_wp2_with fail
  go_loopw [5, 6, 7, 8, 9, 10] (fun v5 v6 i _ _ _ wr => ∃ (k : Nat) (sc re : List Pair), k ≤ n ∧ i = .int .i64 (k : Int) ∧ OwnsPairs w.heap.size v5 sc wr ∧ OwnsPairs w.heap.size v6 re wr ∧ Apart v5 v6 ∧ Hid (P.declare l = P.declGo sc re (l.drop k)) ∧ sc.length + re.length ≤ k ∧ Below w.heap.size w wr) (fun _ _ i _ _ _ _ => n - (intOf i).toNat)
  case atStart => exact ⟨0, [], [], Nat.zero_le _, rfl, pairs_nil _ _, pairs_nil _ _, .inl rfl, Lib.hid rfl, by simp, Below.refl _ _⟩
  case round =>
    obtain ⟨k, sc, re, hk, rfl, o5, o6, hap, hD, hlen, bw⟩ := hrel
    by_cases hlt : k < n
    · obtain ⟨b, off, rfl, c0, c1⟩ := (hl.below bw) k (by rw [hn.out]; exact hlt)
      have hkl : k < l.length := by rw [hn.out]; exact hlt
      have hD1 := hD.out
      rw [List.drop_eq_getElem_cons hkl] at hD1
      have hza := hz l[k] (List.getElem_mem hkl)
      generalize l[k] = a at *
      obtain ⟨an, av⟩ := a
      dsimp only at *
      go_wp2_with fail
      (with_reducible refine (refSplit_any an _ hza).mono ?_); rintro e w1 ⟨rfl, b1⟩
      have t1 := bw.trans (b1.mono bw.size)
      have d0 := (b1.cell (World.block_lt_of_cell? wr _ c0)).trans c0
      have d1 := (b1.cell (World.block_lt_of_cell? wr _ c1)).trans c1
      have p5 := pairs_below o5 b1
      have p6 := pairs_below o6 b1
      cases hsp : P.split an with
      | none =>
        obtain ⟨e1, e2, e3⟩ := P.sp_none hsp
        obtain ⟨r1, r2, r3⟩ := P.de_none (P.decl_no hD1 hsp)
        rw [e1, e2, e3]
        clear e1 e2 e3 hD1 hD hl hz hsp
        replace r1 := Lib.hid r1
        replace r2 := Lib.hid r2
        replace r3 := Lib.hid r3
        go_wp2
        go_ret3
        exact ⟨_, _, by rw [r3.out]; rfl, by rw [r1.out]; exact pairs_nil _ _, by rw [r2.out]; exact pairs_nil _ _, t1⟩
      | some x =>
        obtain ⟨p, m⟩ := x
        obtain ⟨e1, e2, e3⟩ := P.sp_some hsp
        rw [e1, e2, e3]
        clear e1 e2 e3
        by_cases hc : p ≠ P.xmlns ∧ (p ≠ ByteArray.empty ∨ m ≠ P.xmlns)
        · have hr := Lib.hid (P.decl_rest hD1 hsp hc)
          have n1 : (p.toList == [120, 109, 108, 110, 115]) = false := str_ne (fun e => hc.1 (bytes_eq e))
          clear hD1 hD hsp hl hz
          by_cases he : p = ByteArray.empty
          · have n2 : p.toList.isEmpty = true := by rw [he]; exact pempty_is
            have n3 : (m.toList == [120, 109, 108, 110, 115]) = false := str_ne (fun e => (hc.2.resolve_left (fun c => c he)) (bytes_eq e))
            clear hc he
            go_wp2_with (at_builtin; refine wpList_append_own_at _ rfl _ _ 39 rfl w.heap.size 86 i0 _ 2 32 Tryz.underlying39 hi hz0 hz1 hz2 rfl (by decide) _ _ _ rfl (pairs_alloc p6 _) ⟨w1.heap.size, 0, none⟩ 1 1 [.string an, .string av] rfl rfl (cells_two _ _ _ _) (fun u hu => by simp at hu; rcases hu with rfl | rfl <;> rfl) (by unfold maxLen; omega) (by omega) (by have := t1.size; simp; omega) ?_)
            intro v6 w2 hown2 hg2 _ hat
            have hga : w1.grownBy w2 u6.ownBlock := (World.grownBy_alloc w1 _ _).trans hg2
            have b2 : Below w.heap.size w1 w2 := (Below.refl _ _).grown hga t1.size (fun j e => (World.ownsRow.lt p6 j e).1)
            obtain ⟨q5, ap2⟩ := beside p5 hap.symm hga hat (by simp)
            have q6 : OwnsPairs w.heap.size v6 (re ++ [⟨an, av⟩]) w2 := by unfold OwnsPairs; simpa [pairCells] using hown2
            clear hown2 hat hg2 hga p5 p6 o5 o6
            go_wp2_with fail
            go_roundw
            case rel => exact ⟨k + 1, sc, re ++ [⟨an, av⟩], by omega, by go_num, q5, q6, ap2.symm, hr, by simp; omega, t1.trans b2⟩
            case measure => simp [intOf] <;> omega
          · have n2 := empty_no he
            clear hc he
            go_wp2_with (at_builtin; refine wpList_append_own_at _ rfl _ _ 39 rfl w.heap.size 86 i0 _ 2 32 Tryz.underlying39 hi hz0 hz1 hz2 rfl (by decide) _ _ _ rfl (pairs_alloc p6 _) ⟨w1.heap.size, 0, none⟩ 1 1 [.string an, .string av] rfl rfl (cells_two _ _ _ _) (fun u hu => by simp at hu; rcases hu with rfl | rfl <;> rfl) (by unfold maxLen; omega) (by omega) (by have := t1.size; simp; omega) ?_)
            intro v6 w2 hown2 hg2 _ hat
            have hga : w1.grownBy w2 u6.ownBlock := (World.grownBy_alloc w1 _ _).trans hg2
            have b2 : Below w.heap.size w1 w2 := (Below.refl _ _).grown hga t1.size (fun j e => (World.ownsRow.lt p6 j e).1)
            obtain ⟨q5, ap2⟩ := beside p5 hap.symm hga hat (by simp)
            have q6 : OwnsPairs w.heap.size v6 (re ++ [⟨an, av⟩]) w2 := by unfold OwnsPairs; simpa [pairCells] using hown2
            clear hown2 hat hg2 hga p5 p6 o5 o6
            go_wp2_with fail
            go_roundw
            case rel => exact ⟨k + 1, sc, re ++ [⟨an, av⟩], by omega, by go_num, q5, q6, ap2.symm, hr, by simp; omega, t1.trans b2⟩
            case measure => simp [intOf] <;> omega
        · by_cases hx : p = P.xmlns
          · have n1 : (p.toList == [120, 109, 108, 110, 115]) = true := str_is (by rw [hx]; rfl)
            have n2 : p.toList.isEmpty = false := empty_no (by rw [hx]; decide)
            have hkey : P.key p m = m := by unfold P.key; rw [if_neg (by rw [hx]; decide)]
            clear hx
            go_wp2_with fail
            (with_reducible refine (refBound_any m av _).mono ?_); rintro e w2 ⟨rfl, rfl⟩
            cases hb : P.bound m av
            · obtain ⟨r1, r2, r3⟩ := P.de_none (P.decl_bad hD1 hsp hc (by rw [hkey]; exact hb))
              clear hD1 hD hl hz hsp hc hb
              replace r1 := Lib.hid r1
              replace r2 := Lib.hid r2
              replace r3 := Lib.hid r3
              go_wp2
              go_ret3
              exact ⟨_, _, by rw [r3.out]; rfl, by rw [r1.out]; exact pairs_nil _ _, by rw [r2.out]; exact pairs_nil _ _, t1⟩
            · have hr := P.decl_scope hD1 hsp hc (by rw [hkey]; exact hb)
              rw [hkey] at hr
              replace hr := Lib.hid hr
              clear hD1 hD hl hz hsp hc hb
              go_wp2_with (at_builtin; refine wpList_append_own_at _ rfl _ _ 39 rfl w.heap.size 86 i0 _ 2 32 Tryz.underlying39 hi hz0 hz1 hz2 rfl (by decide) _ _ _ rfl (pairs_alloc p5 _) ⟨w1.heap.size, 0, none⟩ 1 1 [.string m, .string av] rfl rfl (cells_two _ _ _ _) (fun u hu => by simp at hu; rcases hu with rfl | rfl <;> rfl) (by unfold maxLen; omega) (by omega) (by have := t1.size; simp; omega) ?_)
              intro v5 w2 hown2 hg2 _ hat
              have hga : w1.grownBy w2 u5.ownBlock := (World.grownBy_alloc w1 _ _).trans hg2
              have b2 : Below w.heap.size w1 w2 := (Below.refl _ _).grown hga t1.size (fun j e => (World.ownsRow.lt p5 j e).1)
              obtain ⟨q6, ap2⟩ := beside p6 hap hga hat (by simp)
              have q5 : OwnsPairs w.heap.size v5 (sc ++ [⟨m, av⟩]) w2 := by unfold OwnsPairs; simpa [pairCells] using hown2
              clear hown2 hat hg2 hga p5 p6 o5 o6
              go_wp2_with fail
              go_roundw
              case rel => exact ⟨k + 1, sc ++ [⟨m, av⟩], re, by omega, by go_num, q5, q6, ap2, hr, by simp; omega, t1.trans b2⟩
              case measure => simp [intOf] <;> omega
          · have hy : p = ByteArray.empty ∧ m = P.xmlns := by
              by_cases h1 : p = ByteArray.empty
              · by_cases h2 : m = P.xmlns
                · exact ⟨h1, h2⟩
                · exact absurd ⟨hx, .inr h2⟩ hc
              · exact absurd ⟨hx, .inl h1⟩ hc
            obtain ⟨hy1, hy2⟩ := hy
            have n1 : (p.toList == [120, 109, 108, 110, 115]) = false := str_ne (fun e => hx (bytes_eq e))
            have n2 : p.toList.isEmpty = true := by rw [hy1]; exact pempty_is
            have n3 : (m.toList == [120, 109, 108, 110, 115]) = true := str_is (by rw [hy2]; rfl)
            have hkey : P.key p m = ⟨#[]⟩ := by unfold P.key; rw [if_pos hy1]; rfl
            clear hx hy1 hy2
            go_wp2_with fail
            (with_reducible refine (refBound_any ⟨#[]⟩ av _).mono ?_); rintro e w2 ⟨rfl, rfl⟩
            cases hb : P.bound ⟨#[]⟩ av
            · obtain ⟨r1, r2, r3⟩ := P.de_none (P.decl_bad hD1 hsp hc (by rw [hkey]; exact hb))
              clear hD1 hD hl hz hsp hc hb
              replace r1 := Lib.hid r1
              replace r2 := Lib.hid r2
              replace r3 := Lib.hid r3
              go_wp2
              go_ret3
              exact ⟨_, _, by rw [r3.out]; rfl, by rw [r1.out]; exact pairs_nil _ _, by rw [r2.out]; exact pairs_nil _ _, t1⟩
            · have hr := P.decl_scope hD1 hsp hc (by rw [hkey]; exact hb)
              rw [hkey] at hr
              replace hr := Lib.hid hr
              clear hD1 hD hl hz hsp hc hb
              go_wp2_with (at_builtin; refine wpList_append_own_at _ rfl _ _ 39 rfl w.heap.size 86 i0 _ 2 32 Tryz.underlying39 hi hz0 hz1 hz2 rfl (by decide) _ _ _ rfl (pairs_alloc p5 _) ⟨w1.heap.size, 0, none⟩ 1 1 [.string ⟨#[]⟩, .string av] rfl rfl (cells_two _ _ _ _) (fun u hu => by simp at hu; rcases hu with rfl | rfl <;> rfl) (by unfold maxLen; omega) (by omega) (by have := t1.size; simp; omega) ?_)
              intro v5 w2 hown2 hg2 _ hat
              have hga : w1.grownBy w2 u5.ownBlock := (World.grownBy_alloc w1 _ _).trans hg2
              have b2 : Below w.heap.size w1 w2 := (Below.refl _ _).grown hga t1.size (fun j e => (World.ownsRow.lt p5 j e).1)
              obtain ⟨q6, ap2⟩ := beside p6 hap hga hat (by simp)
              have q5 : OwnsPairs w.heap.size v5 (sc ++ [⟨⟨#[]⟩, av⟩]) w2 := by unfold OwnsPairs; simpa [pairCells] using hown2
              clear hown2 hat hg2 hga p5 p6 o5 o6
              go_wp2_with fail
              go_roundw
              case rel => exact ⟨k + 1, sc ++ [⟨⟨#[]⟩, av⟩], re, by omega, by go_num, q5, q6, ap2, hr, by simp; omega, t1.trans b2⟩
              case measure => simp [intOf] <;> omega
    · have hnil : l.drop k = [] := List.drop_of_length_le (by rw [hn.out]; omega)
      have hD1 := hD.out
      rw [hnil] at hD1
      obtain ⟨r1, r2, r3⟩ := P.de_some (a := sc) (b := re) (hD1.trans rfl)
      clear hD1 hD hl hz hnil
      replace r1 := Lib.hid r1
      replace r2 := Lib.hid r2
      replace r3 := Lib.hid r3
      go_wp2
      go_ret3
      exact ⟨_, _, by rw [r3.out]; rfl, by rw [r1.out]; exact o5, by rw [r2.out]; exact o6, bw⟩
end Go.Proofs.YtcjlhdmekhifaaaGreatDoor
